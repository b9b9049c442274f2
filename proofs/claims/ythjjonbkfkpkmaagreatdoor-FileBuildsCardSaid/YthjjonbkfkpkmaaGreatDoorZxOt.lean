/- A slice of tags, and a tag by value, as the statements' form reads them, opened. No condition. -/
import Derived.Test.YthjjonbkfkpkmaaGreatDoorZ20
import Derived.Test.YthjjonbkfkpkmaaGreatDoorRows
import Derived.ProofKit
import Derived.OpenShut
import Derived.Deep.Slices
import Derived.Deep.Strs
import Derived.Lib.SmallJoins
namespace Go.Proofs.YthjjonbkfkpkmaaGreatDoor.Tg
open Go.ChangeShapes Go.WideShapes Go.ChangeAt Go.RowKit

set_option maxRecDepth 100000 in
theorem cells_tag : Tryz.prog.cellsOf 65 = 2 := by kernel_rfl
set_option maxRecDepth 100000 in
theorem cells_str : Tryz.prog.cellsOf 9 = 1 := by kernel_rfl
set_option maxRecDepth 100000 in
theorem open_tags {H : Type} {enc : TypeId × Value → H} {W : World} {spare : Nat → Bool} {held : Bool} {fuel : Nat} {a : Option Addr} {len cap : Nat} {x : DataW H × List MemPlace}
    (hf : DataW.trod enc Tryz.prog W 0 spare held fuel 26 [.slice a len cap] = some x) : ∃ b off T, Tb W a len b off T ∧ len ≤ 9223372036854775807 ∧ len ≤ cap := by
  rcases Deep.open_slice Tryz.underlying26 hf with ⟨hcs, _⟩ | ⟨a', l, c, m, n, D, Pl, hcs, _, hlc, hcm, hm, _, hel⟩
  · simp at hcs
    obtain ⟨rfl, rfl, rfl⟩ := hcs
    exact ⟨0, 0, fun _ => ⟨ByteArray.empty, ByteArray.empty⟩, ⟨by omega, by omega, by omega, by omega⟩, by omega, by omega⟩
  · simp at hcs
    obtain ⟨rfl, rfl, rfl⟩ := hcs
    have hmx : maxLen = 9223372036854775807 := rfl
    have hlm : len ≤ m := by rw [hm]; split <;> omega
    by_cases h0 : len = 0
    · subst h0
      exact ⟨0, 0, fun _ => ⟨ByteArray.empty, ByteArray.empty⟩, ⟨by omega, by omega, by omega, by omega⟩, by omega, by omega⟩
    rw [cells_tag] at hel
    have each : ∀ i, i < len → ∃ y : ByteArray × ByteArray, W.cell? ((a'.add (i * 2)).add 0) = some (.string y.1) ∧ W.cell? ((a'.add (i * 2)).add 1) = some (.string y.2) := by
      intro i hi
      obtain ⟨cs', h1, h2⟩ := hel i (by omega)
      obtain ⟨_, hl3, hcell⟩ := World.cells?_some h1
      obtain ⟨y0, y1, n', _, _, t0, t1⟩ := trod_struct2 Tryz.underlying65 h2
      obtain ⟨s0, e0, _, w0⟩ := DataW.trod_string Tryz.underlying9 t0
      obtain ⟨s1, e1, _, w1⟩ := DataW.trod_string Tryz.underlying9 t1
      rw [cells_str] at e0 e1
      match cs', hl3, e0, e1, hcell with
      | [c0, c1], _, e0, e1, hcell =>
        simp at e0 e1
        subst e0 e1
        exact ⟨(s0, s1), hcell 0 (by omega), hcell 1 (by omega)⟩
    obtain ⟨b, off, spot⟩ := a'
    obtain ⟨y, hy⟩ := Deep.choose_lt each
    have hspot : spot = none := by
      have := (hy 0 (by omega)).1
      simpa [Addr.add] using World.cell?_spot this
    subst hspot
    have ea : ∀ i j, ((⟨b, off, none⟩ : Addr).add (i * 2)).add j = ⟨b, off + i * 2 + j, none⟩ := fun i j => by rw [Addr.add_lit, Addr.add_lit]
    refine ⟨b, off, fun i => ⟨(y i).1, (y i).2⟩, ⟨fun _ => rfl, fun i hi => ?_, fun i hi => ?_, fun _ => ?_⟩, by omega, by omega⟩
    · have := (hy i hi).1; rw [ea] at this; exact this
    · have := (hy i hi).2; rw [ea] at this; exact this
    · have := (hy 0 (by omega)).1
      rw [ea] at this
      exact World.block_lt_of_cell? W _ this
end Go.Proofs.YthjjonbkfkpkmaaGreatDoor.Tg
