/- A slice of whole numbers, as the statements' form reads it, opened at every index. No condition. -/
import Derived.Test.YtjimamjhakainaaSOu
import Derived.Test.YtjimamjhakainaaSRa
namespace Go.Proofs.Ytjimamjhakainaa.Runs
open Go.ChangeShapes Go.WideShapes Go.ChangeAt Go.RowKit Bit Rice

theorem cells3 : Try.prog.cellsOf 3 = 1 := by kernel_rfl
theorem open_is {H : Type} {enc : TypeId × Value → H} {W : World} {spare : Nat → Bool} {held : Bool} {fuel : Nat} {a : Option Addr} {len cap : Nat} {x : DataW H × List MemPlace}
    (hf : DataW.trod enc Try.prog W 0 spare held fuel 22 [.slice a len cap] = some x) : ∃ b off I, Is W a len cap b off I := by
  rcases Deep.open_slice Try.underlying22 hf with ⟨hcs, _⟩ | ⟨a', l, c, m, n, D, Pl, hcs, _, hlc, hcm, hm, _, hel⟩
  · simp at hcs
    obtain ⟨rfl, rfl, rfl⟩ := hcs
    exact ⟨0, 0, fun _ => 0, by omega, by omega, by omega, by omega, by omega, by omega⟩
  · simp at hcs
    obtain ⟨rfl, rfl, rfl⟩ := hcs
    have hmx : maxLen = 9223372036854775807 := rfl
    have hlm : len ≤ m := by rw [hm]; split <;> omega
    by_cases h0 : len = 0
    · subst h0
      exact ⟨0, 0, fun _ => 0, by omega, by omega, by omega, by omega, by omega, by omega⟩
    rw [cells3] at hel
    have each : ∀ i, i < len → ∃ y : Int, W.cell? ((a'.add (i * 1)).add 0) = some (.int .i64 y) ∧ (-9223372036854775808 ≤ y ∧ y ≤ 9223372036854775807) := by
      intro i hi
      obtain ⟨cs', h1, h2⟩ := hel i (by omega)
      obtain ⟨_, hl3, hcell⟩ := World.cells?_some h1
      obtain ⟨k0, e0, _, w0⟩ := DataW.trod_int Try.underlying3 h2
      subst e0
      have hb := wf_i64 w0
      refine ⟨k0, ?_, hb⟩
      rw [hcell 0 (by omega)]
      simp
    obtain ⟨b, off, spot⟩ := a'
    obtain ⟨y, hy⟩ := Deep.choose_lt each
    have hspot : spot = none := by
      have := (hy 0 (by omega)).1
      simpa [Addr.add] using World.cell?_spot this
    subst hspot
    have ea : ∀ i, ((⟨b, off, none⟩ : Addr).add (i * 1)).add 0 = ⟨b, off + i, none⟩ := fun i => by rw [Addr.add_lit, Addr.add_lit]; simp
    refine ⟨b, off, y, fun _ => rfl, fun i hi => ?_, fun i hi => (hy i hi).2, fun _ => ?_, by omega, by omega⟩
    · have := (hy i hi).1; rw [ea] at this; exact this
    · have := (hy 0 (by omega)).1
      rw [ea] at this
      exact World.block_lt_of_cell? W _ this
end Go.Proofs.Ytjimamjhakainaa.Runs
