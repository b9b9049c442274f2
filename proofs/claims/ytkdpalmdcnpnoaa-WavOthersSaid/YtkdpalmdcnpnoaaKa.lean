/- slices.Clone of a list. Condition: a list of at most 2^32 numbers. -/
import Derived.Test.YtkdpalmdcnpnoaaJg
import Derived.Laws.Cover3
namespace Go.Proofs.Ytkdpalmdcnpnoaa.Pcm
open Go.RowKit Gen

set_option maxRecDepth 20000 in
theorem eql_nil (a : Option Addr) (n c : Nat) : ∀ W, (binOp .eql 55 (.slice a n c) (.slice none 0 0)).run Try.prog W = .ok (.bool a.isNone) W := fun W => by simp [binOp, run_equal_slice_nil W 55 3 a n c Try.underlying55]
/-- What is answered with a list in new memory. -/
def NewPost (w : World) (n : Nat) (X : Nat → Int) (e : Ending) (w' : World) : Prop := ∃ lo lcap, e = .returned (.slice lo n lcap) ∧ NewIs w.heap.size w' lo n X ∧ Below w.heap.size w w'

end Go.Proofs.Ytkdpalmdcnpnoaa.Pcm
