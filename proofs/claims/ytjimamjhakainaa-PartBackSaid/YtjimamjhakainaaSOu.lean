/- A slice of numbers, and one of bytes, as the statements' form reads them, opened at every index. No condition. -/
import Derived.Test.YtjimamjhakainaaM04
import Derived.Test.YtjimamjhakainaaRows
import Derived.ProofKit
import Derived.OpenShut
import Derived.Deep.Slices
import Derived.Deep.Strs
namespace Go.Proofs.Ytjimamjhakainaa.Rice
open Go.ChangeShapes Go.WideShapes Go.ChangeAt Go.RowKit Bit

theorem cells22 : Try.prog.cellsOf 42 = 1 := by kernel_rfl
theorem wf_u64 {n : Int} (h : (Lit.int .u64 n).wf = true) : 0 ≤ n ∧ n < 18446744073709551616 := by have := bounds_u64 h; omega
theorem wf_i64 {n : Int} (h : (Lit.int .i64 n).wf = true) : -9223372036854775808 ≤ n ∧ n ≤ 9223372036854775807 := bounds_i64 h
theorem nat_u64 {n : Int} (h : (Lit.int .u64 n).wf = true) : ∃ k : Nat, n = k ∧ k < 18446744073709551616 := by have := wf_u64 h; exact ⟨n.toNat, by omega, by omega⟩

theorem open_us {H : Type} {enc : TypeId × Value → H} {W : World} {spare : Nat → Bool} {held : Bool} {fuel : Nat} {a : Option Addr} {len cap : Nat} {x : DataW H × List MemPlace}
    (hf : DataW.trod enc Try.prog W 0 spare held fuel 63 [.slice a len cap] = some x) : ∃ b off U, Us W a len b off U := by
  rcases Deep.open_slice Try.underlying63 hf with ⟨hcs, _⟩ | ⟨a', l, c, m, n, D, Pl, hcs, _, hlc, hcm, hm, _, hel⟩
  · simp at hcs
    obtain ⟨rfl, rfl, rfl⟩ := hcs
    exact ⟨0, 0, fun _ => 0, by omega, by omega, by omega, by omega, by omega⟩
  · simp at hcs
    obtain ⟨rfl, rfl, rfl⟩ := hcs
    have hmx : maxLen = 9223372036854775807 := rfl
    have hlm : len ≤ m := by rw [hm]; split <;> omega
    by_cases h0 : len = 0
    · subst h0
      exact ⟨0, 0, fun _ => 0, by omega, by omega, by omega, by omega, by omega⟩
    rw [cells22] at hel
    have each : ∀ i, i < len → ∃ y : Nat, W.cell? ((a'.add (i * 1)).add 0) = some (.int .u64 (y : Int)) ∧ y < 18446744073709551616 := by
      intro i hi
      obtain ⟨cs', h1, h2⟩ := hel i (by omega)
      obtain ⟨_, hl3, hcell⟩ := World.cells?_some h1
      obtain ⟨k0, e0, _, w0⟩ := DataW.trod_int Try.underlying42 h2
      subst e0
      have hb := wf_u64 w0
      refine ⟨k0.toNat, ?_, by omega⟩
      rw [hcell 0 (by omega)]
      simp; omega
    obtain ⟨b, off, spot⟩ := a'
    obtain ⟨y, hy⟩ := Deep.choose_lt each
    have hspot : spot = none := by
      have := (hy 0 (by omega)).1
      simpa [Addr.add] using World.cell?_spot this
    subst hspot
    have ea : ∀ i, ((⟨b, off, none⟩ : Addr).add (i * 1)).add 0 = ⟨b, off + i, none⟩ := fun i => by rw [Addr.add_lit, Addr.add_lit]; simp
    refine ⟨b, off, y, fun _ => rfl, fun i hi => ?_, fun i hi => (hy i hi).2, fun _ => ?_, by omega⟩
    · have := (hy i hi).1; rw [ea] at this; exact this
    · have := (hy 0 (by omega)).1
      rw [ea] at this
      exact World.block_lt_of_cell? W _ this
end Go.Proofs.Ytjimamjhakainaa.Rice
