/- A slice of calls of a maker, as the statements' form reads it, opened at every index. No condition. -/
import Derived.Test.YtmjjpmmbhlibmaaRef3
import Derived.Test.YtmjjpmmbhlibmaaRows
import Derived.ProofKit
import Derived.OpenShut
import Derived.Deep.Slices
import Derived.Deep.Strs
import Derived.Lib.SmallJoins
namespace Go.Proofs.Ytmjjpmmbhlibmaa.Fld
open Go.ChangeShapes Go.WideShapes Go.ChangeAt Go.RowKit

theorem cells36 : Try.prog.cellsOf 36 = 4 := by kernel_rfl
theorem cells3a : Try.prog.cellsOf 3 = 1 := by kernel_rfl
theorem cells34 : Try.prog.cellsOf 34 = 1 := by kernel_rfl
theorem cells9 : Try.prog.cellsOf 9 = 1 := by kernel_rfl

theorem open_acts {H : Type} {enc : TypeId × Value → H} {W : World} {spare : Nat → Bool} {held : Bool} {fuel : Nat} {a : Option Addr} {len cap : Nat} {x : DataW H × List MemPlace}
    (hf : DataW.trod enc Try.prog W 0 spare held fuel 22 [.slice a len cap] = some x) : ∃ K V N S, Acts W a len K V N S ∧ len ≤ 9223372036854775807 := by
  rcases Deep.open_slice Try.underlying22 hf with ⟨hcs, _⟩ | ⟨a', l, c, m, n, D, Pl, hcs, _, hlc, hcm, hm, _, hel⟩
  · simp at hcs
    obtain ⟨rfl, rfl, rfl⟩ := hcs
    exact ⟨fun _ => 0, fun _ => 0, fun _ => 0, fun _ => ByteArray.empty, ⟨fun j hj => absurd hj (Nat.not_lt_zero _), fun _ => by decide⟩, by omega⟩
  · simp at hcs
    obtain ⟨rfl, rfl, rfl⟩ := hcs
    have hmx : maxLen = 9223372036854775807 := rfl
    have hlm : len ≤ m := by rw [hm]; split <;> omega
    by_cases h0 : len = 0
    · subst h0
      exact ⟨fun _ => 0, fun _ => 0, fun _ => 0, fun _ => ByteArray.empty, ⟨fun j hj => absurd hj (Nat.not_lt_zero _), fun _ => by decide⟩, by omega⟩
    rw [cells36] at hel
    have each : ∀ i, i < len → ∃ y : Int × Nat × Int × ByteArray, W.cell? ((a'.add (i * 4)).add 0) = some (.int .i64 y.1) ∧ W.cell? ((a'.add (i * 4)).add 1) = some (.int .u64 (y.2.1 : Int)) ∧ W.cell? ((a'.add (i * 4)).add 2) = some (.int .i64 y.2.2.1) ∧
        W.cell? ((a'.add (i * 4)).add 3) = some (.string y.2.2.2) ∧ y.2.1 < 18446744073709551616 := by
      intro i hi
      obtain ⟨cs', h1, h2⟩ := hel i (by omega)
      obtain ⟨_, hl3, hcell⟩ := World.cells?_some h1
      obtain ⟨y0, y1, y2, y3, n', _, _, t0, t1, t2, t3⟩ := Joins.trod_struct4 Try.underlying36 h2
      obtain ⟨k0, e0, _, w0⟩ := DataW.trod_int Try.underlying3 t0
      obtain ⟨k1, e1, _, w1⟩ := DataW.trod_int Try.underlying34 t1
      obtain ⟨k2, e2, _, w2⟩ := DataW.trod_int Try.underlying3 t2
      obtain ⟨s3, e3, _, w3⟩ := DataW.trod_string Try.underlying9 t3
      match cs', hl3, e0, e1, e2, e3, hcell with
      | [c0, c1, c2, c3], _, e0, e1, e2, e3, hcell =>
        simp [cells3a, cells34, cells9] at e0 e1 e2 e3
        subst e0 e1 e2 e3
        have hb := bounds_u64 w1
        exact ⟨(k0, k1.toNat, k2, s3), hcell 0 (by omega), by rw [hcell 1 (by omega)]; simp; omega, hcell 2 (by omega), hcell 3 (by omega), by show k1.toNat < _; omega⟩
    obtain ⟨b, off, spot⟩ := a'
    obtain ⟨y, hy⟩ := Deep.choose_lt each
    have hspot : spot = none := by
      have := (hy 0 (by omega)).1
      simpa [Addr.add] using World.cell?_spot this
    subst hspot
    have ea : ∀ i j, ((⟨b, off, none⟩ : Addr).add (i * 4)).add j = ⟨b, off + i * 4 + j, none⟩ := fun i j => by rw [Addr.add_lit, Addr.add_lit]
    refine ⟨fun i => (y i).1, fun i => if i < len then (y i).2.1 else 0, fun i => (y i).2.2.1, fun i => (y i).2.2.2, ⟨fun j hj => ⟨b, off, rfl, ?_, ?_, ?_, ?_⟩, fun j => ?_⟩, by omega⟩
    · have := (hy j hj).1; rw [ea] at this; exact this
    · have := (hy j hj).2.1; rw [ea] at this; simp only [if_pos hj]; exact this
    · have := (hy j hj).2.2.1; rw [ea] at this; exact this
    · have := (hy j hj).2.2.2.1; rw [ea] at this; exact this
    · by_cases hj : j < len
      · simp only [if_pos hj]; exact (hy j hj).2.2.2.2
      · simp only [if_neg hj]; decide
end Go.Proofs.Ytmjjpmmbhlibmaa.Fld
