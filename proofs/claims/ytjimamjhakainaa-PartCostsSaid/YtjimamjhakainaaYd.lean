/- The tally of a list (how many noughts, the greatest Zig, what all cost with each parameter), as a value, in memory; count. Conditions: those of the memory's own form alone. -/
import Derived.Test.YtjimamjhakainaaYc
import Derived.Deep.WholeRow
import Derived.Laws.Rows
import Derived.Great.BuildSlice
namespace Go.Proofs.Ytjimamjhakainaa.Part
open Go.RowKit Bit Rice Runs

def tc (z g : Nat) (R : Nat → Nat) (i : Nat) : Value := if i = 0 then .int .i64 (z : Int) else if i = 1 then .int .u64 (g : Int) else .int .i64 (R (i - 2) : Int)
def tal (z g : Nat) (R : Nat → Nat) : Array Value := (Array.range 33).map (tc z g R)
theorem tal_size (z g : Nat) (R : Nat → Nat) : (tal z g R).size = 33 := by simp [tal]
theorem tal_at (z g : Nat) (R : Nat → Nat) (i : Nat) (h : i < 33) : (tal z g R)[i]? = some (tc z g R i) := by simp [tal, h]
theorem tal_one (z g : Nat) (R : Nat → Nat) : (tal z g R).all (·.oneCell') = true := by
  rw [Array.all_eq_true_iff_forall_mem]
  intro v hv
  obtain ⟨i, hi⟩ := Array.getElem?_of_mem hv
  have hi2 : i < 33 := by rw [← tal_size z g R]; exact (Array.getElem?_eq_some_iff.1 hi).1
  rw [tal_at z g R i hi2] at hi
  cases hi
  unfold tc
  split
  · rfl
  · split <;> rfl
theorem tal_ext {cs : Array Value} {z g : Nat} {R : Nat → Nat} (h : cs.size = 33) (h2 : ∀ i, i < 33 → cs[i]? = some (tc z g R i)) : cs = tal z g R := by
  apply Array.ext_getElem?
  intro i
  by_cases hi : i < 33
  · rw [h2 i hi, tal_at z g R i hi]
  · rw [Array.getElem?_eq_none (by omega), Array.getElem?_eq_none (by rw [tal_size]; omega)]
theorem tc_congr {z g : Nat} {R R' : Nat → Nat} (h : ∀ k, k < 31 → R k = R' k) (i : Nat) (hi : i < 33) : tc z g R i = tc z g R' i := by
  unfold tc
  split
  · rfl
  · split
    · rfl
    · rw [h (i - 2) (by omega)]
theorem tal_congr {z g : Nat} {R R' : Nat → Nat} (h : ∀ k, k < 31 → R k = R' k) : tal z g R = tal z g R' :=
  tal_ext (tal_size _ _ _) fun i hi => by rw [tal_at z g R i hi, tc_congr h i hi]
theorem row_tal {w : World} {p z g : Nat} {R : Nat → Nat} (h : w.rowIs p 60 33 (tc z g R)) : w.heap[p]? = some (.cells (tal z g R) 60 (0, 0)) := by
  obtain ⟨cs, h1, h2, h3⟩ := h
  rw [h1, tal_ext h2 h3]
theorem tal_row {w : World} {p z g : Nat} {R : Nat → Nat} (h : w.heap[p]? = some (.cells (tal z g R) 60 (0, 0))) : w.rowIs p 60 33 (tc z g R) := ⟨_, h, tal_size _ _ _, fun i hi => tal_at z g R i hi⟩
theorem Try.zero60 : (Try.prog.info? 60).map (fun i => (i.zero, i.size)) = some (some (.agg (tal 0 0 fun _ => 0)), 33) := by kernel_rfl
theorem z60 (w : World) : (zeroValue 60).run Try.prog w = .ok (.agg (tal 0 0 fun _ => 0)) w := (zero_of_info Try.zero60).1 w
theorem s60 : (Try.prog.info? 60).map (·.size) = some 33 := (zero_of_info Try.zero60).2
theorem s60t (z g : Nat) (R : Nat → Nat) : (Try.prog.info? 60).map (·.size) = some (tal z g R).size := by rw [tal_size]; exact s60
theorem below_setRow {B : Nat} {w w' : World} (h : Below B w w') {g : Nat} (hg : B ≤ g) (cs : Array Value) : Below B w (w'.setRow g cs) :=
  ⟨h.os, h.tape, h.output, by rw [size_setRow]; exact h.size, fun k hk => (setRow_other w' g k cs (by omega)).trans (h.block k hk)⟩
def TalPost (w : World) (z g : Nat) (R : Nat → Nat) (e : Ending) (w' : World) : Prop := e = .returned (.agg (tal z g R)) ∧ Below w.heap.size w w'
