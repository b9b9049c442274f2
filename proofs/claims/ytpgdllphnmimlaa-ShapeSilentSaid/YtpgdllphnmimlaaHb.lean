/- Kinds, and their weights in the program. No condition but that there is such a kind. -/
import Derived.Test.YtpgdllphnmimlaaHa
import Derived.WalkMore
import Derived.Laws.ResultCell
namespace Go.Proofs.Ytpgdllphnmimlaa.Shape
open Go.RowKit Gen

/-- A kind's weights, and noughts behind them. -/
def wt : Nat → Nat → Int
  | 1, 0 => 15
  | 2, 0 => 24
  | 2, 1 => -9
  | 3, 0 => 30
  | 3, 1 => -21
  | 3, 2 => 5
  | _, _ => 0
def wts (k : Nat) : Array Value := #[.int .i64 (wt k 0), .int .i64 (wt k 1), .int .i64 (wt k 2)]
theorem iskind_any (x : Int) (w : World) : Calls Try.prog 21 #[.int .i64 x] w fun e w' => e = .returned (.bool (decide (0 ≤ x ∧ x < 4))) ∧ w = w' := by
  by_cases h0 : 0 ≤ x
  · by_cases h1 : x < 4
    · have e : decide (0 ≤ x ∧ x < 4) = true := decide_eq_true ⟨h0, h1⟩
      rw [e]
      clear e
      go_enter Try.func21, Try.ntmps21
      go_wp2_with fail
      go_ret
      exact ⟨rfl, rfl⟩
    · have e : decide (0 ≤ x ∧ x < 4) = false := decide_eq_false fun h => h1 h.2
      rw [e]
      clear e
      go_enter Try.func21, Try.ntmps21
      go_wp2_with fail
      go_ret
      exact ⟨rfl, rfl⟩
  · have e : decide (0 ≤ x ∧ x < 4) = false := decide_eq_false fun h => h0 h.1
    rw [e]
    clear e
    go_enter Try.func21, Try.ntmps21
    go_wp2_with fail
    go_ret
    exact ⟨rfl, rfl⟩

theorem Try.size45 : (Try.prog.info? 45).map (·.size) = some 3 := by kernel_rfl
theorem below_new (w : World) (o : Obj) : Below w.heap.size w (w.alloc o) := (Below.refl _ _).alloc (Nat.le_refl _) _
theorem weights_any (k : Nat) (hk : k ≤ 3) (ki : Int) (hki : ki = k) (w : World) : Calls Try.prog 22 #[.int .i64 ki] w fun e w' => e = .returned (.agg (wts k)) ∧ Below w.heap.size w w' := by
  obtain rfl | rfl | rfl | rfl : k = 0 ∨ k = 1 ∨ k = 2 ∨ k = 3 := by omega
  · subst hki
    change Calls Try.prog 22 #[.int .i64 0] w fun e w' => e = .returned (.agg #[.int .i64 0, .int .i64 0, .int .i64 0]) ∧ Below w.heap.size w w'
    go_enter Try.func22, Try.ntmps22
    go_wp2_with fail
    refine bodyPost_ret (results_cell_row (p := 2) (ty := 45) (by kernel_rfl) _ _ w.heap.size 45 _ (0, 0) _ rfl (heap_alloc_new _ _) Try.underlying45 rfl Try.size45) rfl ?_
    exact ⟨rfl, below_new _ _⟩
  · subst hki
    change Calls Try.prog 22 #[.int .i64 1] w fun e w' => e = .returned (.agg #[.int .i64 15, .int .i64 0, .int .i64 0]) ∧ Below w.heap.size w w'
    go_enter Try.func22, Try.ntmps22
    go_wp2_with fail
    refine bodyPost_ret (results_cell_row (p := 2) (ty := 45) (by kernel_rfl) _ _ w.heap.size 45 _ (0, 0) _ rfl (heap_alloc_new _ _) Try.underlying45 rfl Try.size45) rfl ?_
    exact ⟨rfl, below_new _ _⟩
  · subst hki
    change Calls Try.prog 22 #[.int .i64 2] w fun e w' => e = .returned (.agg #[.int .i64 24, .int .i64 (-9), .int .i64 0]) ∧ Below w.heap.size w w'
    go_enter Try.func22, Try.ntmps22
    go_wp2_with fail
    refine bodyPost_ret (results_cell_row (p := 2) (ty := 45) (by kernel_rfl) _ _ w.heap.size 45 _ (0, 0) _ rfl (heap_alloc_new _ _) Try.underlying45 rfl Try.size45) rfl ?_
    exact ⟨rfl, below_new _ _⟩
  · subst hki
    change Calls Try.prog 22 #[.int .i64 3] w fun e w' => e = .returned (.agg #[.int .i64 30, .int .i64 (-21), .int .i64 5]) ∧ Below w.heap.size w w'
    go_enter Try.func22, Try.ntmps22
    go_wp2_with fail
    refine bodyPost_ret (results_cell_row (p := 2) (ty := 45) (by kernel_rfl) _ _ w.heap.size 45 _ (0, 0) _ rfl (heap_alloc_new _ _) Try.underlying45 rfl Try.size45) rfl ?_
    exact ⟨rfl, below_new _ _⟩
end Go.Proofs.Ytpgdllphnmimlaa.Shape
