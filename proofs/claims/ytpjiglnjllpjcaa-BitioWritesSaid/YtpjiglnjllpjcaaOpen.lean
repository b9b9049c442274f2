/- A slice of calls of a writer, as the statements' form reads it, opened at every index. No condition. -/
import Derived.Test.YtpjiglnjllpjcaaFew
import Derived.Test.YtpjiglnjllpjcaaRows
import Derived.ProofKit
import Derived.OpenShut
import Derived.Deep.Slices
import Derived.Deep.Strs
namespace Go.Proofs.Ytpjiglnjllpjcaa.Bit
open Go.ChangeShapes Go.WideShapes Go.ChangeAt Go.RowKit

theorem cells34 : Try.prog.cellsOf 34 = 3 := by kernel_rfl
theorem cells3 : Try.prog.cellsOf 3 = 1 := by kernel_rfl
theorem cells27 : Try.prog.cellsOf 27 = 1 := by kernel_rfl

theorem wf_i64 {n : Int} (h : (Lit.int .i64 n).wf = true) : -9223372036854775808 ≤ n ∧ n ≤ 9223372036854775807 := bounds_i64 h
theorem wf_u64 {n : Int} (h : (Lit.int .u64 n).wf = true) : 0 ≤ n ∧ n < 18446744073709551616 := by have := bounds_u64 h; omega

theorem open_acts {H : Type} {enc : TypeId × Value → H} {W : World} {spare : Nat → Bool} {held : Bool} {fuel : Nat} {a : Option Addr} {len cap : Nat} {x : DataW H × List MemPlace}
    (hf : DataW.trod enc Try.prog W 0 spare held fuel 22 [.slice a len cap] = some x) : ∃ b off K V N, Acts W a len cap b off K V N := by
  rcases Deep.open_slice Try.underlying22 hf with ⟨hcs, _⟩ | ⟨a', l, c, m, n, D, Pl, hcs, _, hlc, hcm, hm, _, hel⟩
  · simp at hcs
    obtain ⟨rfl, rfl, rfl⟩ := hcs
    exact ⟨0, 0, fun _ => 0, fun _ => 0, fun _ => 0, by omega, by omega, by omega, by omega, by omega, by omega, by omega, by omega, by omega, by omega⟩
  · simp at hcs
    obtain ⟨rfl, rfl, rfl⟩ := hcs
    have hmx : maxLen = 9223372036854775807 := rfl
    have hlm : len ≤ m := by rw [hm]; split <;> omega
    by_cases h0 : len = 0
    · subst h0
      exact ⟨0, 0, fun _ => 0, fun _ => 0, fun _ => 0, by omega, by omega, by omega, by omega, by omega, by omega, by omega, by omega, by omega, by omega⟩
    rw [cells34] at hel
    have each : ∀ i, i < len → ∃ y : Int × Int × Int, W.cell? ((a'.add (i * 3)).add 0) = some (.int .i64 y.1) ∧ W.cell? ((a'.add (i * 3)).add 1) = some (.int .u64 y.2.1) ∧ W.cell? ((a'.add (i * 3)).add 2) = some (.int .i64 y.2.2) ∧
        (Lit.int .i64 y.1).wf = true ∧ (Lit.int .u64 y.2.1).wf = true ∧ (Lit.int .i64 y.2.2).wf = true := by
      intro i hi
      obtain ⟨cs', h1, h2⟩ := hel i (by omega)
      obtain ⟨_, hl3, hcell⟩ := World.cells?_some h1
      obtain ⟨y0, y1, y2, n', _, _, t0, t1, t2⟩ := Deep.trod_struct3 Try.underlying34 h2
      obtain ⟨k0, e0, _, w0⟩ := DataW.trod_int Try.underlying3 t0
      obtain ⟨k1, e1, _, w1⟩ := DataW.trod_int Try.underlying27 t1
      obtain ⟨k2, e2, _, w2⟩ := DataW.trod_int Try.underlying3 t2
      match cs', hl3, e0, e1, e2, hcell with
      | [c0, c1, c2], _, e0, e1, e2, hcell =>
        simp [cells3, cells27] at e0 e1 e2
        subst e0 e1 e2
        exact ⟨(k0, k1, k2), hcell 0 (by omega), hcell 1 (by omega), hcell 2 (by omega), w0, w1, w2⟩
    obtain ⟨b, off, spot⟩ := a'
    obtain ⟨y, hy⟩ := Deep.choose_lt each
    have hspot : spot = none := by
      have := (hy 0 (by omega)).1
      simpa [Addr.add] using World.cell?_spot this
    subst hspot
    have ea : ∀ i j, ((⟨b, off, none⟩ : Addr).add (i * 3)).add j = ⟨b, off + i * 3 + j, none⟩ := fun i j => by rw [Addr.add_lit, Addr.add_lit]
    refine ⟨b, off, fun i => (y i).1, fun i => (y i).2.1, fun i => (y i).2.2, fun _ => rfl, fun i hi => ?_, fun i hi => ?_, fun i hi => ?_, fun i hi => wf_i64 (hy i hi).2.2.2.1, fun i hi => wf_u64 (hy i hi).2.2.2.2.1, fun i hi => wf_i64 (hy i hi).2.2.2.2.2, fun _ => ?_, hlc, by omega⟩
    · have := (hy i hi).1; rw [ea] at this; exact this
    · have := (hy i hi).2.1; rw [ea] at this; exact this
    · have := (hy i hi).2.2.1; rw [ea] at this; exact this
    · have := (hy 0 (by omega)).1
      rw [ea] at this
      exact World.block_lt_of_cell? W _ this
end Go.Proofs.Ytpjiglnjllpjcaa.Bit
