/- Blocks (a slice of slices of bytes), as the statements' form reads them, opened. No condition. -/
import Derived.Test.YthjjonbkfkpkmaaGreatDoorY46
import Derived.Test.YthjjonbkfkpkmaaGreatDoorY25
namespace Go.Proofs.YthjjonbkfkpkmaaGreatDoor.Fil
open Go.ChangeShapes Go.WideShapes Go.ChangeAt Go.RowKit Gen

set_option maxRecDepth 100000 in
theorem cells32 : Tryz.prog.cellsOf 32 = 1 := by kernel_rfl
set_option maxRecDepth 100000 in
theorem open_blocks {H : Type} {enc : TypeId × Value → H} {W : World} {spare : Nat → Bool} {held : Bool} {fuel : Nat} {a : Option Addr} {len cap : Nat} {x : DataW H × List MemPlace}
    (hf : DataW.trod enc Tryz.prog W 0 spare held fuel 27 [.slice a len cap] = some x) : ∃ b off L, Bb W a len b off L ∧ len ≤ 9223372036854775807 := by
  rcases Deep.open_slice Tryz.underlying27 hf with ⟨hcs, _⟩ | ⟨a', l, c, m, n, D, Pl, hcs, _, hlc, hcm, hm, _, hel⟩
  · simp at hcs
    obtain ⟨rfl, rfl, rfl⟩ := hcs
    exact ⟨0, 0, fun _ => [], ⟨by omega, by omega⟩, by omega⟩
  · simp at hcs
    obtain ⟨rfl, rfl, rfl⟩ := hcs
    have hmx : maxLen = 9223372036854775807 := rfl
    have hlm : len ≤ m := by rw [hm]; split <;> omega
    by_cases h0 : len = 0
    · subst h0
      exact ⟨0, 0, fun _ => [], ⟨by omega, by omega⟩, by omega⟩
    rw [cells32] at hel
    have each : ∀ i, i < len → ∃ y : Option Addr × Nat × List Nat, W.cell? ((a'.add (i * 1)).add 0) = some (.slice y.1 y.2.2.length y.2.1) ∧ Byts W y.1 y.2.2 ∧ y.2.2.length ≤ y.2.1 := by
      intro i hi
      obtain ⟨cs', h1, h2⟩ := hel i (by omega)
      obtain ⟨_, hl3, hcell⟩ := World.cells?_some h1
      have key : ∃ a2 l2 c2, cs' = [.slice a2 l2 c2] := by
        rcases Deep.open_slice Tryz.underlying32 h2 with ⟨hcs2, _⟩ | ⟨a2, l2, c2, _, _, _, _, hcs2, _⟩
        · exact ⟨none, 0, 0, hcs2⟩
        · exact ⟨some a2, l2, c2, hcs2⟩
      obtain ⟨a2, l2, c2, rfl⟩ := key
      obtain ⟨L2, hl2, hb2, hc2, _, _⟩ := Inf.open_bytes h2
      have hc0 := hcell 0 (by simp)
      refine ⟨(a2, c2, L2), ?_, hb2, ?_⟩
      · rw [hc0]; simp [hl2]
      · show L2.length ≤ c2; omega
    obtain ⟨b, off, spot⟩ := a'
    obtain ⟨y, hy⟩ := Deep.choose_lt each
    have hspot : spot = none := by
      have := (hy 0 (by omega)).1
      simpa [Addr.add] using World.cell?_spot this
    subst hspot
    have ea : ∀ i, ((⟨b, off, none⟩ : Addr).add (i * 1)).add 0 = ⟨b, off + i, none⟩ := fun i => by rw [Addr.add_lit, Addr.add_lit]; simp
    refine ⟨b, off, fun i => (y i).2.2, ⟨fun _ => rfl, fun i hi => ⟨(y i).1, (y i).2.1, ?_, (hy i hi).2.1, (hy i hi).2.2⟩⟩, by omega⟩
    have := (hy i hi).1; rw [ea] at this; exact this
end Go.Proofs.YthjjonbkfkpkmaaGreatDoor.Fil
