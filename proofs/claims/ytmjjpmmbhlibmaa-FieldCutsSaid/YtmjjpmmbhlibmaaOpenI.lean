/- A slice of whole numbers, as the statements' form reads it, opened at every index. No condition. -/
import Derived.Test.YtmjjpmmbhlibmaaCut
import Derived.Test.YtmjjpmmbhlibmaaRows
import Derived.ProofKit
import Derived.OpenShut
import Derived.Deep.Slices
import Derived.Deep.Strs
namespace Go.Proofs.Ytmjjpmmbhlibmaa.Fld
open Go.ChangeShapes Go.WideShapes Go.ChangeAt Go.RowKit

theorem cells3 : Try.prog.cellsOf 3 = 1 := by kernel_rfl
theorem open_nums {H : Type} {enc : TypeId × Value → H} {W : World} {spare : Nat → Bool} {held : Bool} {fuel : Nat} {a : Option Addr} {len cap : Nat} {x : DataW H × List MemPlace}
    (hf : DataW.trod enc Try.prog W 0 spare held fuel 54 [.slice a len cap] = some x) : ∃ Z, Ints W a len Z := by
  rcases Deep.open_slice Try.underlying54 hf with ⟨hcs, _⟩ | ⟨a', l, c, m, n, D, Pl, hcs, _, hlc, hcm, hm, _, hel⟩
  · simp at hcs
    obtain ⟨rfl, rfl, rfl⟩ := hcs
    exact ⟨fun _ => 0, ⟨fun j hj => absurd hj (Nat.not_lt_zero _)⟩⟩
  · simp at hcs
    obtain ⟨rfl, rfl, rfl⟩ := hcs
    have hlm : len ≤ m := by rw [hm]; split <;> omega
    by_cases h0 : len = 0
    · subst h0
      exact ⟨fun _ => 0, ⟨fun j hj => absurd hj (Nat.not_lt_zero _)⟩⟩
    rw [cells3] at hel
    have each : ∀ i, i < len → ∃ y : Int, W.cell? ((a'.add (i * 1)).add 0) = some (.int .i64 y) := by
      intro i hi
      obtain ⟨cs', h1, h2⟩ := hel i (by omega)
      obtain ⟨_, hl3, hcell⟩ := World.cells?_some h1
      obtain ⟨k0, e0, _, w0⟩ := DataW.trod_int Try.underlying3 h2
      subst e0
      exact ⟨k0, hcell 0 (by omega)⟩
    obtain ⟨b, off, spot⟩ := a'
    obtain ⟨y, hy⟩ := Deep.choose_lt each
    have hspot : spot = none := by
      have := hy 0 (by omega)
      simpa [Addr.add] using World.cell?_spot this
    subst hspot
    have ea : ∀ i, ((⟨b, off, none⟩ : Addr).add (i * 1)).add 0 = ⟨b, off + i, none⟩ := fun i => by rw [Addr.add_lit, Addr.add_lit]; simp
    exact ⟨y, ⟨fun j hj => ⟨b, off, rfl, by have := hy j hj; rw [ea] at this; exact this⟩⟩⟩
end Go.Proofs.Ytmjjpmmbhlibmaa.Fld
