/- farthest of pcm: the greatest distance of two lists. Conditions: both lie in memory, are as long as each other, and their numbers are of 24 bits. -/
import Derived.Test.YtkdpalmdcnpnoaaSb
namespace Go.Proofs.Ytkdpalmdcnpnoaa.Pcm
open Go.RowKit Gen

def dist (x y : Int) : Int := if x - y < 0 then y - x else x - y
/-- The greatest distance of the first. -/
def far (U V : Nat → Int) : Nat → Int
  | 0 => 0
  | k + 1 => if far U V k < dist (U k) (V k) then dist (U k) (V k) else far U V k
def Near (U : Nat → Int) (len : Nat) : Prop := ∀ j, j < len → -8388608 ≤ U j ∧ U j ≤ 8388608
set_option maxRecDepth 20000 in
theorem dist_b {x y : Int} (hx : -8388608 ≤ x ∧ x ≤ 8388608) (hy : -8388608 ≤ y ∧ y ≤ 8388608) : 0 ≤ dist x y ∧ dist x y ≤ 16777216 := by unfold dist; split <;> omega
set_option maxRecDepth 20000 in
theorem far_b {U V : Nat → Int} {len : Nat} (hU : Near U len) (hV : Near V len) : ∀ k, k ≤ len → 0 ≤ far U V k ∧ far U V k ≤ 16777216
  | 0, _ => ⟨Int.le_refl _, by show (0 : Int) ≤ _; omega⟩
  | k + 1, h => by
    have ih := far_b hU hV k (by omega)
    have hd := dist_b (hU k (by omega)) (hV k (by omega))
    show 0 ≤ (if far U V k < dist (U k) (V k) then dist (U k) (V k) else far U V k) ∧ (if far U V k < dist (U k) (V k) then dist (U k) (V k) else far U V k) ≤ 16777216
    split
    · exact hd
    · exact ih

end Go.Proofs.Ytkdpalmdcnpnoaa.Pcm
