/- together and Total of rice, and the document's Total: the same sum. Conditions: a list lies in memory as its numbers; the document's sum is below 2^62. -/
import Derived.Test.YtfpmdfbggifjiaaWt
namespace Go.Proofs.Ytfpmdfbggifjiaa.Rice
open Go.RowKit Bit

/-- What is told of the first numbers, added up, at most 2^62. -/
def tog (fn : Nat → Nat) (U : Nat → Nat) : Nat → Nat
  | 0 => 0
  | j + 1 => min (tog fn U j + min (fn (U j)) 4611686018427387904) 4611686018427387904
theorem tog_le (fn : Nat → Nat) (U : Nat → Nat) (j : Nat) : tog fn U j ≤ 4611686018427387904 := by
  cases j with
  | zero => exact Nat.zero_le _
  | succ j => exact Nat.min_le_right _ _

/-- What all numbers of a list cost. -/
def tot (U : Nat → Nat) (k : Int) : Nat → Nat
  | 0 => 0
  | j + 1 => tot U k j + cost (U j) k
theorem tot_le (U : Nat → Nat) (k : Int) : ∀ j, tot U k j ≤ 64 * j
  | 0 => Nat.le_refl _
  | j + 1 => by
    have := tot_le U k j
    have := cost_le (U j) k
    show _ + _ ≤ _
    omega
theorem tog_cost (U : Nat → Nat) (k : Int) : ∀ j, j ≤ 1048576 → tog (fun u => cost u k) U j = tot U k j
  | 0, _ => rfl
  | j + 1, h => by
    have h1 := tog_cost U k j (by omega)
    have h2 := tot_le U k j
    have h3 := cost_le (U j) k
    show min (tog (fun u => cost u k) U j + min (cost (U j) k) 4611686018427387904) 4611686018427387904 = tot U k j + cost (U j) k
    rw [h1]; omega

end Go.Proofs.Ytfpmdfbggifjiaa.Rice
