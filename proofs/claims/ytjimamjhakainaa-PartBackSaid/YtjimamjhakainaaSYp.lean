/- What must come of the fixed calls. No condition. -/
import Derived.Test.YtjimamjhakainaaM25
namespace Go.Proofs.Ytjimamjhakainaa.Part
open Go.RowKit Bit Rice Runs

def i9 (i : Nat) : Int := if i % 2 = 0 then 9 else -9
theorem is_nought4 (w : World) (t : TypeId) : Is (w.alloc (.cells #[.int .i64 0, .int .i64 0, .int .i64 0, .int .i64 0] t)) (some ⟨w.heap.size, 0, none⟩) 4 4 w.heap.size 0 (fun _ => 0) := by
  have hr : (w.alloc (.cells #[.int .i64 0, .int .i64 0, .int .i64 0, .int .i64 0] t)).rowIs w.heap.size t 4 (fun _ => .int .i64 0) := ⟨_, heap_alloc_new _ _, rfl, fun i hi => by rcases i with _ | _ | _ | _ | i <;> first | rfl | omega⟩
  exact ⟨fun _ => rfl, fun i hi => by rw [Nat.zero_add]; exact hr.cell hi, fun i _ => ⟨by decide, by decide⟩, fun _ => hr.lt, by decide, by decide⟩
theorem is_nine5 (w : World) (t : TypeId) : Is (w.alloc (.cells #[.int .i64 9, .int .i64 (-9), .int .i64 9, .int .i64 (-9), .int .i64 9] t)) (some ⟨w.heap.size, 0, none⟩) 5 5 w.heap.size 0 i9 := by
  have hr : (w.alloc (.cells #[.int .i64 9, .int .i64 (-9), .int .i64 9, .int .i64 (-9), .int .i64 9] t)).rowIs w.heap.size t 5 (fun i => .int .i64 (i9 i)) := ⟨_, heap_alloc_new _ _, rfl, fun i hi => by rcases i with _ | _ | _ | _ | _ | i <;> first | rfl | omega⟩
  exact ⟨fun _ => rfl, fun i hi => by rw [Nat.zero_add]; exact hr.cell hi, fun i _ => by unfold i9; split <;> decide, fun _ => hr.lt, by decide, by decide⟩
theorem pfs_known : pfs (fun _ => 0) 4 0 (app (0, 0) 0 3) (List.range (2 ^ 0)) = (31, 9) := by decide +kernel
theorem wyc_known : wyc i9 5 = (1, 3, 36) := by decide +kernel
set_option maxRecDepth 100000 in
theorem known_true (w : World) : Calls Try.prog 9 #[] w fun e w' => e = .returned (.bool true) ∧ Below w.heap.size w w' := by
  have hw0 := new_writer' w 44 _ (Nat.le_refl _)
  have hb0 : Below w.heap.size w (w.alloc (.cells #[.slice none 0 0, .int .u64 0, .int .i64 0] 44)) := (Below.refl _ _).alloc (Nat.le_refl _) _
  have hz0 : (w.alloc (.cells #[.slice none 0 0, .int .u64 0, .int .i64 0] 44)).heap.size = w.heap.size + 1 := by simp
  have HB0 := hid hb0
  have hp : w.heap.size ≤ w.heap.size := Nat.le_refl _
  clear hb0
  go_enter Try.func9, Try.ntmps9
  go_wp2_with fail
  have hu := is_nought4 (w.alloc (.cells #[.slice none 0 0, .int .u64 0, .int .i64 0] 44)) 3
  have hw1 := Wr.alloc hw0 (.cells #[.int .i64 0, .int .i64 0, .int .i64 0, .int .i64 0] 3)
  have hb1 := HB0.out.alloc HB0.out.size (.cells #[.int .i64 0, .int .i64 0, .int .i64 0, .int .i64 0] 3)
  rw [hz0] at hu
  clear hw0 HB0
  refine Calls.mono (pput_ok w.heap.size w.heap.size 0 _ 4 4 (w.heap.size + 1) 0 _ 0 (by decide) none 0 0 0 _ hw1 hu (fun _ => ⟨by omega, by simp [blk]⟩) (fun i hi => by decide) (by decide) (by decide)) ?_
  rintro e w1 ⟨rfl, ao1, cap1, h1, p1⟩
  rw [pfs_known] at h1
  have h5 : WrN w1 w.heap.size w.heap.size 0 ao1 cap1 31 9 := h1
  have HB1 := hid (hb1.trans (pushed_below p1 hp (fun g hg => by simp [blk] at hg) hb1.size))
  clear p1 h1 hw1 hu hz0 hb1
  go_wp2_with fail
  have hn5 := is_nine5 w1 3
  have hch := pchoose_any _ _ _ _ _ _ _ hn5
  rw [wyc_known] at hch
  refine hch.mono ?_
  rintro e w2 ⟨rfl, hb2⟩
  have hb2' : Below w1.heap.size w1 w2 := ((Below.refl w1.heap.size w1).alloc (Nat.le_refl _) _).trans (hb2.mono (by simp))
  have hb3 : Below w1.heap.size w1 (w2.alloc (.cells #[.int .i64 1, .int .i64 3] 25)) := hb2'.trans ((Below.refl w1.heap.size w2).alloc hb2'.size _)
  have hr3 : (w2.alloc (.cells #[.int .i64 1, .int .i64 3] 25)).rowIs w2.heap.size 25 2 (fun i => if i = 0 then .int .i64 1 else .int .i64 3) := ⟨_, heap_alloc_new _ _, rfl, fun i hi => by rcases i with _ | _ | i <;> first | rfl | omega⟩
  have h6 : WrN (w2.alloc (.cells #[.int .i64 1, .int .i64 3] 25)) w.heap.size w.heap.size 0 ao1 cap1 31 9 := h5.keep (fr_of_below hb3) (fun x => x) (fun _ _ x => x)
  have HB3 : RowKit.Hid (Below w.heap.size w (w2.alloc (.cells #[.int .i64 1, .int .i64 3] 25))) := hid (HB1.out.trans (hb3.mono HB1.out.size))
  have HR3 := hid hr3
  clear hb2 hb2' hb3 h5 hn5 hch hr3 HB1
  go_wp2_with fail
  refine (len_any h6 (by decide)).mono ?_
  rintro e w6 ⟨rfl, nq, rfl⟩
  have h9 := h6.drewN nq
  have HR6 : RowKit.Hid (((w2.alloc (.cells #[.int .i64 1, .int .i64 3] 25)).drewN nq).rowIs w2.heap.size 25 2 (fun i => if i = 0 then .int .i64 1 else .int .i64 3)) := HR3
  have HB6 : RowKit.Hid (Below w.heap.size w ((w2.alloc (.cells #[.int .i64 1, .int .i64 3] 25)).drewN nq)) := hid (HB3.out.trans ⟨rfl, rfl, rfl, Nat.le_refl _, fun _ _ => rfl⟩)
  clear h6 HB3 HR3
  generalize (w2.alloc (.cells #[.int .i64 1, .int .i64 3] 25)).drewN nq = w7 at *
  go_wp2_with fail
  refine (bytes_any h9 (by decide)).mono ?_
  rintro e w8 ⟨rfl, b8, r8⟩
  have hc := conv_row r8
  have es : strOfNums ((List.range ((9 + 7) / 8)).map fun i => (bts 31 9 i : Int)) = ⟨#[15, 128]⟩ := by decide +kernel
  rw [es] at hc
  have hr8 := HR6.out.of_block (b8.block _ HR6.out.lt)
  have y0 := hr8.cell (show 0 < 2 by decide)
  have y1 := hr8.cell (show 1 < 2 by decide)
  rw [if_pos rfl] at y0
  rw [if_neg (by decide)] at y1
  have hfin := HB6.out.trans (b8.mono HB6.out.size)
  clear r8 b8 h9 HB6 es HR6 hr8
  go_wp2_with fail
  go_ret
  exact ⟨rfl, hfin⟩
end Go.Proofs.Ytjimamjhakainaa.Part
