/- The statements' fixed calls of runs; RunsNil's walk. No condition. -/
import Derived.Test.YtjimamjhakainaaRe
namespace Go.Proofs.Ytjimamjhakainaa.Runs
open Go.RowKit Bit Rice

theorem is_three (w : World) (x y z : Int) (hx : -9223372036854775808 ≤ x ∧ x ≤ 9223372036854775807) (hy : -9223372036854775808 ≤ y ∧ y ≤ 9223372036854775807) (hz : -9223372036854775808 ≤ z ∧ z ≤ 9223372036854775807) (t : TypeId) : Is (w.alloc (.cells #[.int .i64 x, .int .i64 y, .int .i64 z] t)) (some ⟨w.heap.size, 0, none⟩) 3 3 w.heap.size 0 (fun i => if i = 0 then x else if i = 1 then y else z) :=
  ⟨fun _ => rfl, fun i hi => by
      rcases (by omega : i = 0 ∨ i = 1 ∨ i = 2) with rfl | rfl | rfl
      · simp
      · simp
      · simp, fun i hi => by
      rcases (by omega : i = 0 ∨ i = 1 ∨ i = 2) with rfl | rfl | rfl
      · exact hx
      · exact hy
      · exact hz, fun _ => by simp, Nat.le_refl _, by decide⟩

theorem ggamma_nil (w : World) : Calls Try.prog 129 #[.pointer none] w fun e w' => e = .returned (.tuple #[.int .u64 0, .int .i64 2]) ∧ w = w' := by
  go_enter Try.func129, Try.ntmps129
  go_wp2_with fail
  go_ret2
  exact ⟨rfl, rfl⟩
theorem rget_nil (n k : Int) (w : World) : Calls Try.prog 111 #[.pointer none, .int .i64 n, .int .i64 k] w fun e w' => e = .returned (.tuple #[.slice none 0 0, .int .i64 2]) ∧ w = w' := by
  go_enter Try.func111, Try.ntmps111
  go_wp2_with fail
  go_ret2
  exact ⟨rfl, rfl⟩
end Go.Proofs.Ytjimamjhakainaa.Runs
