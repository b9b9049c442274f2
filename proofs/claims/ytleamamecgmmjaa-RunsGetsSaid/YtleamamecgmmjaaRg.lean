/- The statements' fixed calls of runs; RunsNil's walk. No condition. -/
import Derived.Test.YtleamamecgmmjaaRe
namespace Go.Proofs.Ytleamamecgmmjaa.Runs
open Go.RowKit Bit Rice

theorem is_three (w : World) (x y z : Int) (hx : -9223372036854775808 ≤ x ∧ x ≤ 9223372036854775807) (hy : -9223372036854775808 ≤ y ∧ y ≤ 9223372036854775807) (hz : -9223372036854775808 ≤ z ∧ z ≤ 9223372036854775807) (t : TypeId) : Is (w.alloc (.cells #[.int .i64 x, .int .i64 y, .int .i64 z] t)) (some ⟨w.heap.size, 0, none⟩) 3 3 w.heap.size 0 (fun i => if i = 0 then x else if i = 1 then y else z) :=
  ⟨fun _ => rfl, fun i hi => by
      rcases (by omega : i = 0 ∨ i = 1 ∨ i = 2) with rfl | rfl | rfl
      · simp
      · simp
      · simp, fun i hi => by
      rcases (by omega : i = 0 ∨ i = 1 ∨ i = 2) with rfl | rfl | rfl
      · exact hx
      · exact hy
      · exact hz, fun _ => by simp, Nat.le_refl _, by decide⟩

set_option maxHeartbeats 800000 in
set_option maxRecDepth 100000 in
theorem known_true (w : World) : Calls Try.prog 16 #[] w fun e w' => e = .returned (.bool true) ∧ Below w.heap.size w w' := by
  have hw0 := new_writer' w 26 _ (Nat.le_refl _)
  have hb0 : Below w.heap.size w (w.alloc (.cells #[.slice none 0 0, .int .u64 0, .int .i64 0] 26)) := (Below.refl _ _).alloc (Nat.le_refl _) _
  have hz0 : (w.alloc (.cells #[.slice none 0 0, .int .u64 0, .int .i64 0] 26)).heap.size = w.heap.size + 1 := by simp
  have HB0 := hid hb0
  have hp : w.heap.size ≤ w.heap.size := Nat.le_refl _
  have HGC := hid (gcost_any 8 8 rfl (by decide))
  have HG8 := hid (show gl 8 = 7 by decide)
  clear hb0
  go_enter Try.func16, Try.ntmps16
  go_wp2_with fail
  have hu := is_three (w.alloc (.cells #[.slice none 0 0, .int .u64 0, .int .i64 0] 26)) 0 0 5 (by decide) (by decide) (by decide) 3
  have hw1 := Wr.alloc hw0 (.cells #[.int .i64 0, .int .i64 0, .int .i64 5] 3)
  have hb1 := HB0.out.alloc HB0.out.size (.cells #[.int .i64 0, .int .i64 0, .int .i64 5] 3)
  rw [hz0] at hu
  clear hw0 HB0
  refine Calls.mono (rp_ok w.heap.size w.heap.size 0 _ 3 3 (w.heap.size + 1) 0 _ 0 (by decide) none 0 0 0 _ hw1 hu (fun _ => ⟨by omega, by simp [blk]⟩) (fun i hi => by
      rcases (by omega : i = 0 ∨ i = 1 ∨ i = 2) with rfl | rfl | rfl <;> decide) (by decide) (by decide)) ?_
  rintro e w1 ⟨rfl, ao1, cap1, h1, p1⟩
  have ec : cfin (fun i => if i = 0 then (0 : Int) else if i = 1 then 0 else 5) 0 (0, 0) 3 = (4094, 13) := by decide +kernel
  rw [ec] at h1
  have h5 : WrN w1 w.heap.size w.heap.size 0 ao1 cap1 4094 13 := h1
  have HB1 := hid (hb1.trans (pushed_below p1 hp (fun g hg => by simp [blk] at hg) hb1.size))
  clear p1 h1 hw1 hu hz0 hb1 ec
  go_wp2_with fail
  refine (len_any h5 (by decide)).mono ?_
  rintro e w6 ⟨rfl, nq, rfl⟩
  have h9 : WrN (w1.drewN nq) w.heap.size w.heap.size 0 ao1 cap1 4094 13 := h5.drewN nq
  have HB6 : Hid (Below w.heap.size w (w1.drewN nq)) := hid (HB1.out.trans ⟨rfl, rfl, rfl, Nat.le_refl _, fun _ _ => rfl⟩)
  clear h5 HB1
  generalize w1.drewN nq = w7 at *
  go_wp2_with fail
  refine (bytes_any h9 (by decide)).mono ?_
  rintro e w8 ⟨rfl, b8, r8⟩
  have hc := conv_row r8
  have es : strOfNums ((List.range ((13 + 7) / 8)).map fun i => (bts 4094 13 i : Int)) = ⟨#[127, 240]⟩ := by decide +kernel
  rw [es] at hc
  have hfin := HB6.out.trans (b8.mono HB6.out.size)
  clear r8 b8 h9 HB6 es
  go_wp2_with fail
  refine (HGC.out _).mono ?_
  rintro e w9 ⟨rfl, rfl⟩
  rw [HG8.out]
  go_wp2_with fail
  go_ret
  exact ⟨rfl, hfin⟩

theorem ggamma_nil (w : World) : Calls Try.prog 17 #[.pointer none] w fun e w' => e = .returned (.tuple #[.int .u64 0, .int .i64 2]) ∧ w = w' := by
  go_enter Try.func17, Try.ntmps17
  go_wp2_with fail
  go_ret2
  exact ⟨rfl, rfl⟩
theorem rget_nil (n k : Int) (w : World) : Calls Try.prog 28 #[.pointer none, .int .i64 n, .int .i64 k] w fun e w' => e = .returned (.tuple #[.slice none 0 0, .int .i64 2]) ∧ w = w' := by
  go_enter Try.func28, Try.ntmps28
  go_wp2_with fail
  go_ret2
  exact ⟨rfl, rfl⟩
theorem nil_walk (v : Int) (l : Value) (n k : Int) (w : World) : Calls Try.prog 9 #[.int .u64 v, l, .int .i64 n, .int .i64 k] w fun e w' => e = .returned (.bool true) ∧ Below w.heap.size w w' := by
  go_enter Try.func9, Try.ntmps9
  go_wp2_with fail
  refine (ggamma_nil w).mono ?_
  rintro e w' ⟨rfl, rfl⟩
  go_wp2_with fail
  refine (rget_nil n k w).mono ?_
  rintro e w' ⟨rfl, rfl⟩
  go_wp2_with fail
  refine (pgamma_nil v w).mono ?_
  rintro e w' ⟨rfl, rfl⟩
  go_wp2_with fail
  refine (rp_nil l k w).mono ?_
  rintro e w1 ⟨rfl, hb1⟩
  go_wp2_with fail
  refine (known_true _).mono ?_
  rintro e w5 ⟨rfl, hb5⟩
  have hfin := hb1.trans (hb5.mono hb1.size)
  clear hb5 hb1
  go_wp2_with fail
  go_ret
  exact ⟨rfl, hfin⟩
end Go.Proofs.Ytleamamecgmmjaa.Runs
