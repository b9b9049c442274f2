/- A list of numbers as an argument. Condition: it can be read as data. -/
import Derived.Test.YtfidnklppbdebaaSm
import Derived.Deep.Matrix
import Derived.Deep.Strs
import Derived.OpenShut
import Derived.Test.YtfidnklppbdebaaOs
namespace Go.Proofs.Ytfidnklppbdebaa.Pcm
open Go.RowKit Gen Go.ChangeShapes Go.WideShapes Go.ChangeAt

theorem open_is {H : Type} {enc : TypeId × Value → H} {W : World} {spare : Nat → Bool} {held : Bool} {fuel : Nat} {a : Option Addr} {len cap : Nat} {x : DataW H × List MemPlace}
    (hf : DataW.trod enc Try.prog W 0 spare held fuel 42 [.slice a len cap] = some x) : ∃ b off I, Isb W a len b off I := by
  rcases Deep.open_slice Try.underlying42 hf with ⟨hcs, _⟩ | ⟨a', l, c, m, n, D, Pl, hcs, _, hlc, hcm, hm, _, hel⟩
  · simp at hcs
    obtain ⟨rfl, rfl, rfl⟩ := hcs
    exact ⟨0, 0, fun _ => 0, by omega, by omega, by omega, by omega⟩
  · simp at hcs
    obtain ⟨rfl, rfl, rfl⟩ := hcs
    have hmx : maxLen = 9223372036854775807 := rfl
    have hlm : len ≤ m := by rw [hm]; split <;> omega
    by_cases h0 : len = 0
    · subst h0
      exact ⟨0, 0, fun _ => 0, by omega, by omega, by omega, by omega⟩
    rw [cells3] at hel
    have each : ∀ i, i < len → ∃ y : Int, W.cell? ((a'.add (i * 1)).add 0) = some (.int .i64 y) := by
      intro i hi
      obtain ⟨cs', h1, h2⟩ := hel i (by omega)
      obtain ⟨_, hl3, hcell⟩ := World.cells?_some h1
      obtain ⟨k0, e0, _, w0⟩ := DataW.trod_int Try.underlying3 h2
      subst e0
      refine ⟨k0, ?_⟩
      rw [hcell 0 (by omega)]
      simp
    obtain ⟨b, off, spot⟩ := a'
    obtain ⟨y, hy⟩ := Deep.choose_lt each
    have hspot : spot = none := by
      have := hy 0 (by omega)
      simpa [Addr.add] using World.cell?_spot this
    subst hspot
    have ea : ∀ i, ((⟨b, off, none⟩ : Addr).add (i * 1)).add 0 = ⟨b, off + i, none⟩ := fun i => by rw [Addr.add_lit, Addr.add_lit]; simp
    refine ⟨b, off, y, fun _ => rfl, fun i hi => ?_, fun _ => ?_, by omega⟩
    · have := hy i hi; rw [ea] at this; exact this
    · have := hy 0 (by omega)
      rw [ea] at this
      exact World.block_lt_of_cell? W _ this
end Go.Proofs.Ytfidnklppbdebaa.Pcm
