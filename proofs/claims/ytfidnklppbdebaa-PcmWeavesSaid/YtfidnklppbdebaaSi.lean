/- The function that Silence hands on: a list of noughts. Condition: the captured number lies in memory and is from 0 to 2^20. -/
import Derived.Test.YtfidnklppbdebaaBu
namespace Go.Proofs.Ytfidnklppbdebaa.Pcm
open Go.RowKit Gen

theorem nought_any (w : World) (i : Int) (p : Addr) (n : Nat) (hn : n ≤ 1048576) (hc : w.cell? p = some (.int .i64 (n : Int))) :
    Calls Try.prog 44 (#[.int .i64 i] ++ #[.pointer (some p)]) w fun e w' => ∃ lo lcap, e = .returned (.slice lo n lcap) ∧ NewIs w.heap.size w' lo n (fun _ => 0) ∧ Below w.heap.size w w' := by
  obtain ⟨i0, hi, hz0, hz1, hz2⟩ := info_parts Try.info3
  have hmk : ∀ W : World, (Instr.makeSlice 42 (.int .i64 (n : Int)) (.int .i64 (n : Int))).run Try.prog W = .ok (.slice (some ⟨W.heap.size, 0, none⟩) n n) (W.alloc (.cells (madeCells #[.int .i64 0] n) 3)) := fun W => by
    have hm := run_make (P := Try.prog) W 42 3 i0 (.int .i64 0) Try.underlying42 hi hz0 .i64 .i64 (n : Int) (n : Int) (by omega) (by omega) (by rw [hz2]; omega) (by omega)
    rw [hz1, Int.toNat_natCast, Nat.mul_one] at hm
    exact hm
  have hnew : NewIs w.heap.size (w.alloc (.cells (madeCells #[.int .i64 0] n) 3)) (some ⟨w.heap.size, 0, none⟩) n (fun _ => 0) := by
    refine ⟨w.heap.size, 0, ⟨fun _ => rfl, fun j hj => ?_, fun _ => by simp, by omega⟩, fun _ => Nat.le_refl _⟩
    have := (fl_new w n (fun _ => 0)).c j hj
    rw [Nat.zero_add]
    simpa using this
  have HN := hid hnew
  have hb := below_new w (.cells (madeCells #[.int .i64 0] n) 3)
  have HB := hid hb
  clear hnew hb
  show Calls Try.prog 44 #[.int .i64 i, .pointer (some p)] w _
  go_enter Try.func44, Try.ntmps44
  go_wp2_with fail
  go_ret
  exact ⟨_, _, rfl, HN.out, HB.out⟩
end Go.Proofs.Ytfidnklppbdebaa.Pcm
