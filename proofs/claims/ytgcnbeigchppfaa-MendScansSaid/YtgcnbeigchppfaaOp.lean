/- A head and a slice of bytes, as the statements' form reads them, opened. No condition. -/
import Derived.Test.YtgcnbeigchppfaaIa
import Derived.Test.YtgcnbeigchppfaaRows
import Derived.ProofKit
import Derived.OpenShut
import Derived.Deep.Slices
import Derived.Deep.Strs
namespace Go.Proofs.Ytgcnbeigchppfaa.Head
open Go.ChangeShapes Go.WideShapes Go.ChangeAt Go.RowKit Gen

set_option maxRecDepth 100000 in
theorem cells24 : Try.prog.cellsOf 38 = 8 := by kernel_rfl
set_option maxRecDepth 100000 in
theorem cells3 : Try.prog.cellsOf 3 = 1 := by kernel_rfl
set_option maxRecDepth 100000 in
theorem cells4 : Try.prog.cellsOf 4 = 1 := by kernel_rfl
set_option maxRecDepth 100000 in
theorem cells5 : Try.prog.cellsOf 5 = 1 := by kernel_rfl
set_option maxRecDepth 100000 in
theorem cells22 : Try.prog.cellsOf 36 = 1 := by kernel_rfl
set_option maxRecDepth 100000 in
theorem head_open {H : Type} {enc : TypeId × Value → H} {W : World} {b0 : Nat} {v : Value} {d : DataW H} {p : List MemPlace} (hv0 : Value.okWide Try.prog W .any b0 38 v) (h : DataW.Trod enc Try.prog W 0 (fun _ => true) true 38 v d p) :
    ∃ x : Hh, v = hv x ∧ x.lk < 4294967296 ∧ -9223372036854775808 ≤ x.sz := by
  obtain ⟨cs, rfl, hsz⟩ := okWide_struct Try.underlying38 hv0
  rw [cells24] at hsz
  obtain ⟨l⟩ := cs
  match l, hsz with
  | [c0, c1, c2, c3, c4, c5, c6, c7], _ =>
  obtain ⟨fuel, hf⟩ := h
  obtain ⟨xs, n, _, hx, hl, hlen, hfd⟩ := DataW.trod_struct Try.underlying38 hf
  have h0 := hfd 0 _ rfl
  have h1 := hfd 1 _ rfl
  have h2 := hfd 2 _ rfl
  have h3 := hfd 3 _ rfl
  have h4 := hfd 4 _ rfl
  have h5 := hfd 5 _ rfl
  have h6 := hfd 6 _ rfl
  have h7 := hfd 7 _ rfl
  match xs, hlen with
  | [y0, y1, y2, y3, y4, y5, y6, y7], _ =>
  simp [Value.cells, cells3, cells4, cells22] at h0 h1 h2 h3 h4 h5 h6 h7
  obtain ⟨k, e0, _, _⟩ := DataW.trod_int Try.underlying3 h0
  obtain ⟨ix, e1, _, _⟩ := DataW.trod_int Try.underlying3 h1
  obtain ⟨ln, e2, _, _⟩ := DataW.trod_int Try.underlying3 h2
  obtain ⟨st, e3, _, _⟩ := DataW.trod_int Try.underlying3 h3
  obtain ⟨bd, e4, _, _⟩ := DataW.trod_int Try.underlying3 h4
  obtain ⟨la, e5, _⟩ := DataW.trod_bool Try.underlying4 h5
  obtain ⟨lk, e6, _, w6⟩ := DataW.trod_int Try.underlying36 h6
  obtain ⟨sz, e7, _, w7⟩ := DataW.trod_int Try.underlying3 h7
  simp at e0 e1 e2 e3 e4 e5 e6 e7
  subst e0 e1 e2 e3 e4 e5 e6 e7
  have b6 := bounds_u32 w6
  have b7 := bounds_i64 w7
  obtain ⟨m, rfl⟩ := Int.eq_ofNat_of_zero_le (show 0 ≤ lk by omega)
  exact ⟨⟨k, ix, ln, st, bd, la, m, sz⟩, rfl, by show m < _; omega, b7.1⟩
set_option maxRecDepth 100000 in
theorem open_bytes {H : Type} {enc : TypeId × Value → H} {W : World} {spare : Nat → Bool} {held : Bool} {fuel : Nat} {a : Option Addr} {len cap : Nat} {x : DataW H × List MemPlace}
    (hf : DataW.trod enc Try.prog W 0 spare held fuel 22 [.slice a len cap] = some x) : ∃ L : List Nat, L.length = len ∧ Byts W a L ∧ len ≤ cap ∧ cap ≤ 9223372036854775807 ∧ (a = none → len = 0 ∧ cap = 0) := by
  rcases Deep.open_slice Try.underlying22 hf with ⟨hcs, _⟩ | ⟨a', l, c, m, n, D, Pl, hcs, _, hlc, hcm, hm, _, hel⟩
  · simp at hcs
    obtain ⟨rfl, rfl, rfl⟩ := hcs
    exact ⟨[], rfl, Byts.nil _ _, Nat.le_refl _, by decide, fun _ => ⟨rfl, rfl⟩⟩
  · simp at hcs
    obtain ⟨rfl, rfl, rfl⟩ := hcs
    have hmx : maxLen = 9223372036854775807 := rfl
    have hlm : len ≤ m := by rw [hm]; split <;> omega
    by_cases h0 : len = 0
    · subst h0
      exact ⟨[], rfl, Byts.nil _ _, hlc, by omega, fun e => by cases e⟩
    rw [cells5] at hel
    have each : ∀ i, i < len → ∃ y : Nat, W.cell? ((a'.add (i * 1)).add 0) = some (.int .u8 (y : Int)) ∧ y < 256 := by
      intro i hi
      obtain ⟨cs', h1, h2⟩ := hel i (by omega)
      obtain ⟨_, hl3, hcell⟩ := World.cells?_some h1
      obtain ⟨k0, e0, _, w0⟩ := DataW.trod_int Try.underlying5 h2
      subst e0
      have hb := bounds_u8 w0
      refine ⟨k0.toNat, ?_, by omega⟩
      rw [hcell 0 (by omega)]
      simp; omega
    obtain ⟨b, off, spot⟩ := a'
    obtain ⟨y, hy⟩ := Deep.choose_lt each
    have hspot : spot = none := by
      have := (hy 0 (by omega)).1
      simpa [Addr.add] using World.cell?_spot this
    subst hspot
    have ea : ∀ i, ((⟨b, off, none⟩ : Addr).add (i * 1)).add 0 = ⟨b, off + i, none⟩ := fun i => by rw [Addr.add_lit, Addr.add_lit]; simp
    refine ⟨(List.range len).map y, by simp, ⟨fun z hz => ?_, fun j z hj => ⟨b, off, rfl, ?_⟩⟩, hlc, by omega, fun e => by cases e⟩
    · obtain ⟨i, hi, rfl⟩ := List.mem_map.1 hz
      exact (hy i (List.mem_range.1 hi)).2
    · rw [List.getElem?_map] at hj
      by_cases hjl : j < len
      · rw [List.getElem?_range hjl] at hj
        cases hj
        have := (hy j hjl).1; rw [ea] at this; exact this
      · rw [List.getElem?_eq_none (by simpa using Nat.le_of_not_lt hjl)] at hj
        cases hj
end Go.Proofs.Ytgcnbeigchppfaa.Head
