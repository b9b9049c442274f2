/- Bytes, and questions, as the statements' form reads them, opened at every index. No condition. -/
import Derived.Test.YtmjjpmmbhlibmaaTakes
import Derived.Test.YtmjjpmmbhlibmaaRows
import Derived.ProofKit
import Derived.OpenShut
import Derived.Deep.Slices
import Derived.Deep.Strs
namespace Go.Proofs.Ytmjjpmmbhlibmaa.Fld
open Go.ChangeShapes Go.WideShapes Go.ChangeAt Go.RowKit Gen

theorem cells46 : Try.prog.cellsOf 46 = 3 := by kernel_rfl
theorem cells3t : Try.prog.cellsOf 3 = 1 := by kernel_rfl
theorem cells5t : Try.prog.cellsOf 5 = 1 := by kernel_rfl
theorem cells9t : Try.prog.cellsOf 9 = 1 := by kernel_rfl

theorem open_asks {H : Type} {enc : TypeId × Value → H} {W : World} {spare : Nat → Bool} {held : Bool} {fuel : Nat} {a : Option Addr} {len cap : Nat} {x : DataW H × List MemPlace}
    (hf : DataW.trod enc Try.prog W 0 spare held fuel 39 [.slice a len cap] = some x) : ∃ K N S, Asks W a len K N S ∧ len ≤ 9223372036854775807 := by
  rcases Deep.open_slice Try.underlying39 hf with ⟨hcs, _⟩ | ⟨a', l, c, m, n, D, Pl, hcs, _, hlc, hcm, hm, _, hel⟩
  · simp at hcs
    obtain ⟨rfl, rfl, rfl⟩ := hcs
    exact ⟨fun _ => 0, fun _ => 0, fun _ => ByteArray.empty, ⟨fun j hj => absurd hj (Nat.not_lt_zero _)⟩, by omega⟩
  · simp at hcs
    obtain ⟨rfl, rfl, rfl⟩ := hcs
    have hmx : maxLen = 9223372036854775807 := rfl
    have hlm : len ≤ m := by rw [hm]; split <;> omega
    by_cases h0 : len = 0
    · subst h0
      exact ⟨fun _ => 0, fun _ => 0, fun _ => ByteArray.empty, ⟨fun j hj => absurd hj (Nat.not_lt_zero _)⟩, by omega⟩
    rw [cells46] at hel
    have each : ∀ i, i < len → ∃ y : Int × Int × ByteArray, W.cell? ((a'.add (i * 3)).add 0) = some (.int .i64 y.1) ∧ W.cell? ((a'.add (i * 3)).add 1) = some (.int .i64 y.2.1) ∧ W.cell? ((a'.add (i * 3)).add 2) = some (.string y.2.2) := by
      intro i hi
      obtain ⟨cs', h1, h2⟩ := hel i (by omega)
      obtain ⟨_, hl3, hcell⟩ := World.cells?_some h1
      obtain ⟨y0, y1, y2, n', _, _, t0, t1, t2⟩ := Deep.trod_struct3 Try.underlying46 h2
      obtain ⟨k0, e0, _, w0⟩ := DataW.trod_int Try.underlying3 t0
      obtain ⟨k1, e1, _, w1⟩ := DataW.trod_int Try.underlying3 t1
      obtain ⟨s2, e2, _, w2⟩ := DataW.trod_string Try.underlying9 t2
      match cs', hl3, e0, e1, e2, hcell with
      | [c0, c1, c2], _, e0, e1, e2, hcell =>
        simp [cells3t, cells9t] at e0 e1 e2
        subst e0 e1 e2
        exact ⟨(k0, k1, s2), hcell 0 (by omega), hcell 1 (by omega), hcell 2 (by omega)⟩
    obtain ⟨b, off, spot⟩ := a'
    obtain ⟨y, hy⟩ := Deep.choose_lt each
    have hspot : spot = none := by
      have := (hy 0 (by omega)).1
      simpa [Addr.add] using World.cell?_spot this
    subst hspot
    have ea : ∀ i j, ((⟨b, off, none⟩ : Addr).add (i * 3)).add j = ⟨b, off + i * 3 + j, none⟩ := fun i j => by rw [Addr.add_lit, Addr.add_lit]
    refine ⟨fun i => (y i).1, fun i => (y i).2.1, fun i => (y i).2.2, ⟨fun j hj => ⟨b, off, rfl, ?_, ?_, ?_⟩⟩, by omega⟩
    · have := (hy j hj).1; rw [ea] at this; exact this
    · have := (hy j hj).2.1; rw [ea] at this; exact this
    · have := (hy j hj).2.2; rw [ea] at this; exact this

theorem open_src {H : Type} {enc : TypeId × Value → H} {W : World} {held : Bool} {fuel : Nat} {a : Option Addr} {len cap : Nat} {x : DataW H × List MemPlace}
    (hf : DataW.trod enc Try.prog W 0 (fun _ => true) held fuel 29 [.slice a len cap] = some x) : ∃ L : List Nat, L.length = len ∧ (len ≤ 500 → Src W a cap L) ∧ len ≤ 9223372036854775807 := by
  rcases Deep.open_slice Try.underlying29 hf with ⟨hcs, _⟩ | ⟨a', l, c, m, n, D, Pl, hcs, _, hlc, hcm, hm, _, hel⟩
  · simp at hcs
    obtain ⟨rfl, rfl, rfl⟩ := hcs
    exact ⟨[], rfl, fun _ => ⟨Byts.nil _ _, (fun ad e => by cases e), Nat.le_refl _, by decide, fun _ => rfl, by decide⟩, by omega⟩
  · simp at hcs
    obtain ⟨rfl, rfl, rfl⟩ := hcs
    have hmx : maxLen = 9223372036854775807 := rfl
    have hmc : m = cap := by rw [hm]; rfl
    subst hmc
    rw [cells5t] at hel
    have each : ∀ i, i < m → ∃ y : Nat, W.cell? (a'.add i) = some (.int .u8 (y : Int)) ∧ y < 256 := by
      intro i hi
      obtain ⟨cs', h1, h2⟩ := hel i hi
      obtain ⟨_, hl3, hcell⟩ := World.cells?_some h1
      obtain ⟨k0, e0, _, w0⟩ := DataW.trod_int Try.underlying5 h2
      subst e0
      have hb := bounds_u8 w0
      refine ⟨k0.toNat, ?_, by omega⟩
      have := hcell 0 (by omega)
      rw [Addr.add_add, Nat.mul_one, Nat.add_zero] at this
      rw [this]
      simp; omega
    obtain ⟨b, off, spot⟩ := a'
    obtain ⟨y, hy⟩ := Deep.choose_lt each
    have hspot : 0 < m → spot = none := fun h => by
      have := (hy 0 h).1
      simpa [Addr.add] using World.cell?_spot this
    refine ⟨(List.range len).map fun i => y i, by simp, fun h5 => ⟨⟨fun v hv => ?_, fun j v hj => ?_⟩, fun ad e h => ?_, by simp; omega, by omega, (fun e => by cases e), by simp; omega⟩, by omega⟩
    · obtain ⟨i, hi, rfl⟩ := List.mem_map.1 hv
      exact (hy i (by have := List.mem_range.1 hi; omega)).2
    · rw [List.getElem?_map] at hj
      cases hr : (List.range len)[j]? with
      | none => rw [hr] at hj; cases hj
      | some i =>
        rw [hr] at hj
        cases hj
        obtain ⟨hjl, he⟩ := List.getElem?_eq_some_iff.1 hr
        rw [List.getElem_range] at he
        subst he
        rw [List.length_range] at hjl
        have hm0 : 0 < m := by omega
        have := (hy j (by omega)).1
        rw [hspot hm0, Addr.add_lit] at this
        exact ⟨b, off, by rw [hspot hm0], this⟩
    · cases e
      exact ⟨b, off, by rw [hspot h]⟩
end Go.Proofs.Ytmjjpmmbhlibmaa.Fld
