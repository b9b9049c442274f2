/- The document's Code: a list of bits of the call's own, the number's code. No condition. -/
import Derived.Test.YtfpmdfbggifjiaaWt
import Derived.Test.YtfpmdfbggifjiaaLb
namespace Go.Proofs.Ytfpmdfbggifjiaa.Rice
open Go.RowKit Bit

/-- A number's code, or nothing. -/
def codI (u : Nat) (k : Int) : Nat := if okK k ∧ coded u then cod u k.toNat else 0
def CodePost (w : World) (N L : Nat) (e : Ending) (w' : World) : Prop := ∃ lo lcap, e = .returned (.slice lo L lcap) ∧ Nw w w.heap.size lo lcap N L w'
theorem nw_none (w : World) : Nw w w.heap.size none 0 0 0 w := ⟨World.ownsRow_nil _ _ _ _, Below.refl _ _, fun g hg => by simp [blk] at hg⟩

theorem bitl_mod (u k : Nat) : bitl u k = bitl (u % 2 ^ k) k := by
  unfold bitl
  refine List.map_congr_left fun i hi => ?_
  have hi := List.mem_range.1 hi
  have e : bitOf u k i = bitOf (u % 2 ^ k) k i := by
    unfold bitOf
    have e1 : 2 ^ k = 2 ^ (k - 1 - i) * (2 * 2 ^ i) := by rw [← Nat.pow_succ', ← Nat.pow_add]; congr 1; omega
    rw [e1, Nat.mod_mul_right_div_self, Nat.mod_mod_of_dvd _ (Nat.dvd_mul_right 2 _)]
  rw [e]
theorem ones_next (j : Nat) : (2 ^ j - 1) * 2 ^ 1 + 1 = 2 ^ (j + 1) - 1 := by
  have := Nat.two_pow_pos j
  rw [Nat.pow_succ]; omega

theorem join_code (x r k : Nat) : x * 2 ^ (k + 1) + r = (x * 2 ^ 1 + 0) * 2 ^ k + r := by
  have e : 2 ^ (k + 1) = 2 ^ 1 * 2 ^ k := by rw [← Nat.pow_add, Nat.add_comm]
  rw [e, ← Nat.mul_assoc]; rfl

end Go.Proofs.Ytfpmdfbggifjiaa.Rice
