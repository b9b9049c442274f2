/- Whether two sounds are the same: the program's Same, the document's. Conditions: both lie in memory as their lists. -/
import Derived.Test.YtkdpalmdcnpnoaaEl
namespace Go.Proofs.Ytkdpalmdcnpnoaa.Pcm
open Go.RowKit Gen

def eqL (a b : Dat) (i : Nat) : Bool := eqI (a.X i) (b.X i) (a.ln i) (b.ln i)
def eqS (a b : Dat) : Bool := (a.n == b.n) && !anyB (fun i => !eqL a b i) a.n
set_option maxRecDepth 20000 in
theorem eqS_len {a b : Dat} (h : ¬ a.n = b.n) : eqS a b = false := by unfold eqS; rw [beq_eq_false_iff_ne.2 h]; rfl
set_option maxRecDepth 20000 in
theorem eqS_not {a b : Dat} {i : Nat} (hi : i < a.n) (h : eqL a b i = false) : eqS a b = false := by
  unfold eqS; rw [(any_iff (fun i => !eqL a b i) a.n).2 ⟨i, hi, by rw [h]; rfl⟩, Bool.not_true, Bool.and_false]
set_option maxRecDepth 20000 in
theorem eqS_all {a b : Dat} (hn : a.n = b.n) (h : ∀ i, i < a.n → eqL a b i = true) : eqS a b = true := by
  unfold eqS
  rw [hn, beq_self_eq_true]
  cases hu : anyB (fun i => !eqL a b i) b.n with
  | false => rfl
  | true =>
    obtain ⟨i, hi, hq⟩ := (any_iff _ _).1 hu
    rw [h i (by omega)] at hq; cases hq
/-- Are two sounds the same? -/
def same (a b : Dat) : Bool := decide (a.f = b.f) && eqS a b

end Go.Proofs.Ytkdpalmdcnpnoaa.Pcm
