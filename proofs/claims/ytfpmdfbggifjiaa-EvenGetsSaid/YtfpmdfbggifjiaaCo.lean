/- What a number costs by a parameter, in the program and in the document: the same number, and nothing has turned. No condition. -/
import Derived.Test.YtfpmdfbggifjiaaPut
namespace Go.Proofs.Ytfpmdfbggifjiaa.Rice
open Go.RowKit Bit

/-- A parameter. -/
def okK (k : Int) : Prop := 0 ≤ k ∧ k ≤ 30
instance (k : Int) : Decidable (okK k) := by unfold okK; exact inferInstance
def coded (u : Nat) : Prop := u < 1099511627776
instance (u : Nat) : Decidable (coded u) := by unfold coded; exact inferInstance
/-- What a number costs. -/
def cost (u : Nat) (k : Int) : Nat := if okK k ∧ coded u then (if u / 2 ^ k.toNat < 24 then u / 2 ^ k.toNat + 1 + k.toNat else 64) else 0
theorem cost_le (u : Nat) (k : Int) : cost u k ≤ 64 := by
  unfold cost okK
  split
  · split <;> omega
  · omega
theorem cost_no {u : Nat} {k : Int} (h : ¬ (okK k ∧ coded u)) : cost u k = 0 := if_neg h

theorem coded_eq (u : Nat) : ((((u : Int) / 2 ^ 40) == 0) : Bool) = decide (coded u) := by
  unfold coded
  by_cases h : u < 1099511627776
  · rw [decide_eq_true h, beq_iff_eq]; omega
  · rw [decide_eq_false h, beq_eq_false_iff_ne]; omega
end Go.Proofs.Ytfpmdfbggifjiaa.Rice
