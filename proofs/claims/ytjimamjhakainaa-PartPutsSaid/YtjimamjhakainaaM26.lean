/- What must come of the fixed calls. No condition. -/
import Derived.Test.YtjimamjhakainaaM25
namespace Go.Proofs.Ytjimamjhakainaa.Part
open Go.RowKit Bit Rice Runs

def i9 (i : Nat) : Int := if i % 2 = 0 then 9 else -9
theorem is_nought4 (w : World) (t : TypeId) : Is (w.alloc (.cells #[.int .i64 0, .int .i64 0, .int .i64 0, .int .i64 0] t)) (some ⟨w.heap.size, 0, none⟩) 4 4 w.heap.size 0 (fun _ => 0) := by
  have hr : (w.alloc (.cells #[.int .i64 0, .int .i64 0, .int .i64 0, .int .i64 0] t)).rowIs w.heap.size t 4 (fun _ => .int .i64 0) := ⟨_, heap_alloc_new _ _, rfl, fun i hi => by rcases i with _ | _ | _ | _ | i <;> first | rfl | omega⟩
  exact ⟨fun _ => rfl, fun i hi => by rw [Nat.zero_add]; exact hr.cell hi, fun i _ => ⟨by decide, by decide⟩, fun _ => hr.lt, by decide, by decide⟩
theorem is_nine5 (w : World) (t : TypeId) : Is (w.alloc (.cells #[.int .i64 9, .int .i64 (-9), .int .i64 9, .int .i64 (-9), .int .i64 9] t)) (some ⟨w.heap.size, 0, none⟩) 5 5 w.heap.size 0 i9 := by
  have hr : (w.alloc (.cells #[.int .i64 9, .int .i64 (-9), .int .i64 9, .int .i64 (-9), .int .i64 9] t)).rowIs w.heap.size t 5 (fun i => .int .i64 (i9 i)) := ⟨_, heap_alloc_new _ _, rfl, fun i hi => by rcases i with _ | _ | _ | _ | _ | i <;> first | rfl | omega⟩
  exact ⟨fun _ => rfl, fun i hi => by rw [Nat.zero_add]; exact hr.cell hi, fun i _ => by unfold i9; split <;> decide, fun _ => hr.lt, by decide, by decide⟩
theorem pfs_known : pfs (fun _ => 0) 4 0 (app (0, 0) 0 3) (List.range (2 ^ 0)) = (31, 9) := by decide +kernel
theorem wyc_known : wyc i9 5 = (1, 3, 36) := by decide +kernel
set_option maxRecDepth 100000 in
theorem known_true (w : World) : Calls Try.prog 9 #[] w fun e w' => e = .returned (.bool true) ∧ Below w.heap.size w w' := by
  have hw0 := new_writer' w 44 _ (Nat.le_refl _)
  have hb0 : Below w.heap.size w (w.alloc (.cells #[.slice none 0 0, .int .u64 0, .int .i64 0] 44)) := (Below.refl _ _).alloc (Nat.le_refl _) _
  have hz0 : (w.alloc (.cells #[.slice none 0 0, .int .u64 0, .int .i64 0] 44)).heap.size = w.heap.size + 1 := by simp
  have HB0 := hid hb0
  have hp : w.heap.size ≤ w.heap.size := Nat.le_refl _
  clear hb0
  go_enter Try.func9, Try.ntmps9
  go_wp2_with fail
  have hu := is_nought4 (w.alloc (.cells #[.slice none 0 0, .int .u64 0, .int .i64 0] 44)) 3
  have hw1 := Wr.alloc hw0 (.cells #[.int .i64 0, .int .i64 0, .int .i64 0, .int .i64 0] 3)
  have hb1 := HB0.out.alloc HB0.out.size (.cells #[.int .i64 0, .int .i64 0, .int .i64 0, .int .i64 0] 3)
  rw [hz0] at hu
  clear hw0 HB0
  refine Calls.mono (pput_ok w.heap.size w.heap.size 0 _ 4 4 (w.heap.size + 1) 0 _ 0 (by decide) none 0 0 0 _ hw1 hu (fun _ => ⟨by omega, by simp [blk]⟩) (fun i hi => by decide) (by decide) (by decide)) ?_
  rintro e w1 ⟨rfl, ao1, cap1, h1, p1⟩
  rw [pfs_known] at h1
  have h5 : WrN w1 w.heap.size w.heap.size 0 ao1 cap1 31 9 := h1
  have HB1 := hid (hb1.trans (pushed_below p1 hp (fun g hg => by simp [blk] at hg) hb1.size))
  clear p1 h1 hw1 hu hz0 hb1
  go_wp2_with fail
  have hn5 := is_nine5 w1 3
  have hch := pchoose_any _ _ _ _ _ _ _ hn5
  rw [wyc_known] at hch
  refine hch.mono ?_
  rintro e w2 ⟨rfl, hb2⟩
  have hb2' : Below w1.heap.size w1 w2 := ((Below.refl w1.heap.size w1).alloc (Nat.le_refl _) _).trans (hb2.mono (by simp))
  have hb3 : Below w1.heap.size w1 (w2.alloc (.cells #[.int .i64 1, .int .i64 3] 25)) := hb2'.trans ((Below.refl w1.heap.size w2).alloc hb2'.size _)
  have hr3 : (w2.alloc (.cells #[.int .i64 1, .int .i64 3] 25)).rowIs w2.heap.size 25 2 (fun i => if i = 0 then .int .i64 1 else .int .i64 3) := ⟨_, heap_alloc_new _ _, rfl, fun i hi => by rcases i with _ | _ | i <;> first | rfl | omega⟩
  have h6 : WrN (w2.alloc (.cells #[.int .i64 1, .int .i64 3] 25)) w.heap.size w.heap.size 0 ao1 cap1 31 9 := h5.keep (fr_of_below hb3) (fun x => x) (fun _ _ x => x)
  have HB3 : RowKit.Hid (Below w.heap.size w (w2.alloc (.cells #[.int .i64 1, .int .i64 3] 25))) := hid (HB1.out.trans (hb3.mono HB1.out.size))
  have HR3 := hid hr3
  clear hb2 hb2' hb3 h5 hn5 hch hr3 HB1
  go_wp2_with fail
  refine (len_any h6 (by decide)).mono ?_
  rintro e w6 ⟨rfl, nq, rfl⟩
  have h9 := h6.drewN nq
  have HR6 : RowKit.Hid (((w2.alloc (.cells #[.int .i64 1, .int .i64 3] 25)).drewN nq).rowIs w2.heap.size 25 2 (fun i => if i = 0 then .int .i64 1 else .int .i64 3)) := HR3
  have HB6 : RowKit.Hid (Below w.heap.size w ((w2.alloc (.cells #[.int .i64 1, .int .i64 3] 25)).drewN nq)) := hid (HB3.out.trans ⟨rfl, rfl, rfl, Nat.le_refl _, fun _ _ => rfl⟩)
  clear h6 HB3 HR3
  generalize (w2.alloc (.cells #[.int .i64 1, .int .i64 3] 25)).drewN nq = w7 at *
  go_wp2_with fail
  refine (bytes_any h9 (by decide)).mono ?_
  rintro e w8 ⟨rfl, b8, r8⟩
  have hc := conv_row r8
  have es : strOfNums ((List.range ((9 + 7) / 8)).map fun i => (bts 31 9 i : Int)) = ⟨#[15, 128]⟩ := by decide +kernel
  rw [es] at hc
  have hr8 := HR6.out.of_block (b8.block _ HR6.out.lt)
  have y0 := hr8.cell (show 0 < 2 by decide)
  have y1 := hr8.cell (show 1 < 2 by decide)
  rw [if_pos rfl] at y0
  rw [if_neg (by decide)] at y1
  have hfin := HB6.out.trans (b8.mono HB6.out.size)
  clear r8 b8 h9 HB6 es HR6 hr8
  go_wp2_with fail
  go_ret
  exact ⟨rfl, hfin⟩
end Go.Proofs.Ytjimamjhakainaa.Part
/- PartNil's and PartBounds' walks. No condition. -/
namespace Go.Proofs.Ytjimamjhakainaa.Part
open Go.RowKit Bit Rice Runs

def NilPost (w : World) (e : Ending) (w' : World) : Prop := e = .returned (.tuple #[.slice none 0 0, .int .i64 0, .int .i64 2]) ∧ Below w.heap.size w w'
theorem pget_nil (n : Int) (w : World) : Calls Try.prog 28 #[.pointer none, .int .i64 n] w (NilPost w) := by
  have HB : RowKit.Hid (Below w.heap.size w ((((w.alloc (.cells #[.pointer none] 52)).alloc (.cells #[.slice none 0 0] 22)).alloc (.cells #[.int .i64 0] 3)).alloc (.cells #[.int .i64 2] 45))) := hid (((((Below.refl w.heap.size w).alloc (Nat.le_refl _) _).alloc (by simp) _).alloc (by simp; omega) _).alloc (by simp; omega) _)
  go_enter Try.func28, Try.ntmps28
  go_wp2_with fail
  refine bodyPost_ret (v := .tuple #[.slice none 0 0, .int .i64 0, .int .i64 2]) ?_ rfl ?_
  · simp only [results, show Try.f28.results = #[.cell 4 22, .cell 5 3, .cell 6 45] from by kernel_rfl]
    go_simp
  · exact ⟨rfl, HB.out⟩
theorem nil_walk (l : Option Addr) (len cap : Nat) (n p : Int) (w : World) : Calls Try.prog 8 #[.slice l len cap, .int .i64 n, .int .i64 p] w fun e w' => e = .returned (.bool true) ∧ Below w.heap.size w w' := by
  have hmk : ∀ w, (Instr.makeSlice 22 (.int .i64 65537) (.int .i64 65537)).run Try.prog w = .ok (.slice (some ⟨w.heap.size, 0, none⟩) 65537 65537) (w.alloc (.cells (madeCells #[.int .i64 0] 65537) 3)) := fun w =>
    run_make_row' (P := Try.prog) 22 3 (.int .i64 0) 8 Try.underlying22 Try.info3 rfl .i64 .i64 65537 (by omega) (by omega) w
  generalize madeCells #[Value.int IntKind.i64 0] 65537 = Z at hmk
  go_enter Try.func8, Try.ntmps8
  go_wp2_with fail
  refine Calls.mono (pget_nil n w) ?_
  rintro e w1 ⟨rfl, hb1⟩
  have hw0 := new_writer' w1 44 _ (Nat.le_refl _)
  have hb2 := (Below.refl w1.heap.size w1).alloc (Nat.le_refl _) (.cells #[.slice none 0 0, .int .u64 0, .int .i64 0] 44)
  obtain ⟨w2, hw2⟩ : ∃ w2, w1.alloc (.cells #[.slice none 0 0, .int .u64 0, .int .i64 0] 44) = w2 := ⟨_, rfl⟩
  rw [hw2] at hw0 hb2
  have HB := hid (hb1.trans (hb2.mono hb1.size))
  have HW := hid hw0
  clear hb1 hb2 hw0
  go_wp2_with fail
  clear hw2
  refine Calls.mono (pput_nil _ p w2) ?_
  rintro e w3 ⟨rfl, hb3⟩
  have hlt3 := hb3.size
  have HW3 : RowKit.Hid (WrN w3 w1.heap.size w1.heap.size 0 none 0 0 0) := hid (HW.out.keep (fr_of_below hb3) (fun x => x) (fun _ _ x => x))
  have HB3 := hid (HB.out.trans (hb3.mono HB.out.size))
  clear hb3 HW HB
  have hb4 := (Below.refl w3.heap.size w3).alloc (Nat.le_refl _) (.cells Z 3)
  go_wp2_with fail
  refine Calls.mono (pput_long ⟨w1.heap.size, 0, none⟩ (some ⟨w3.heap.size, 0, none⟩) 65537 65537 (by decide) p (w3.alloc (.cells Z 3))) ?_
  rintro e w5 ⟨rfl, hb5⟩
  have hb35 := hb4.trans (hb5.mono hb4.size)
  have h5 : WrN w5 w1.heap.size w1.heap.size 0 none 0 0 0 := HW3.out.keep (fr_of_below hb35) (fun x => x) (fun _ _ x => x)
  have HB5 := hid (HB3.out.trans (hb35.mono HB3.out.size))
  clear hb4 hb5 hb35 HW3 HB3 hmk
  go_wp2_with fail
  refine (len_any h5 (by decide)).mono ?_
  rintro e w6 ⟨rfl, nq, rfl⟩
  have HB6 : RowKit.Hid (Below w.heap.size w (w5.drewN nq)) := hid (HB5.out.trans ⟨rfl, rfl, rfl, Nat.le_refl _, fun _ _ => rfl⟩)
  clear h5 HB5
  generalize w5.drewN nq = w7 at *
  have HK := hid (known_true w7)
  go_wp2_with fail
  refine HK.out.mono ?_
  rintro e w8 ⟨rfl, hb8⟩
  have hfin := HB6.out.trans (hb8.mono HB6.out.size)
  clear hb8
  go_wp2_with fail
  go_ret
  exact ⟨rfl, hfin⟩

theorem bd_zero (n p : Nat) : bd n p 0 = 0 := by unfold bd; rw [Nat.zero_mul, Nat.zero_div]
theorem bd_last (n p i : Nat) (h : i + 1 = 2 ^ p) : bd n p (i + 1) = n := by unfold bd; rw [h, Nat.mul_comm, Nat.mul_div_cancel _ (Nat.two_pow_pos p)]
set_option maxRecDepth 100000 in
set_option maxHeartbeats 2000000 in
theorem bounds_walk (n p i : Int) (w : World) : Calls Try.prog 4 #[.int .i64 n, .int .i64 p, .int .i64 i] w fun e w' => e = .returned (.bool true) ∧ Below w.heap.size w w' := by
  have HK := hid fun w' => known_true w'
  by_cases h1 : n < 0
  · have HO := hid (bounds_out n p i (by omega) w)
    go_enter Try.func4, Try.ntmps4
    go_wp2_with fail
    refine HO.out.mono ?_
    rintro e w' ⟨rfl, rfl⟩
    go_wp2_with fail
    refine (HK.out w).mono ?_
    rintro e w' ⟨rfl, hb⟩
    go_wp2_with fail
    go_ret
    exact ⟨rfl, hb⟩
  by_cases h2 : 65536 < n
  · have HO := hid (bounds_out n p i (by omega) w)
    go_enter Try.func4, Try.ntmps4
    go_wp2_with fail
    refine HO.out.mono ?_
    rintro e w' ⟨rfl, rfl⟩
    go_wp2_with fail
    refine (HK.out w).mono ?_
    rintro e w' ⟨rfl, hb⟩
    go_wp2_with fail
    go_ret
    exact ⟨rfl, hb⟩
  by_cases h3 : p < 0
  · have HO := hid (bounds_out n p i (by omega) w)
    go_enter Try.func4, Try.ntmps4
    go_wp2_with fail
    refine HO.out.mono ?_
    rintro e w' ⟨rfl, rfl⟩
    go_wp2_with fail
    refine (HK.out w).mono ?_
    rintro e w' ⟨rfl, hb⟩
    go_wp2_with fail
    go_ret
    exact ⟨rfl, hb⟩
  by_cases h4 : 6 < p
  · have HO := hid (bounds_out n p i (by omega) w)
    go_enter Try.func4, Try.ntmps4
    go_wp2_with fail
    refine HO.out.mono ?_
    rintro e w' ⟨rfl, rfl⟩
    go_wp2_with fail
    refine (HK.out w).mono ?_
    rintro e w' ⟨rfl, hb⟩
    go_wp2_with fail
    go_ret
    exact ⟨rfl, hb⟩
  by_cases h5 : i < 0
  · have HO := hid (bounds_out n p i (by omega) w)
    go_enter Try.func4, Try.ntmps4
    go_wp2_with fail
    refine HO.out.mono ?_
    rintro e w' ⟨rfl, rfl⟩
    go_wp2_with fail
    refine (HK.out w).mono ?_
    rintro e w' ⟨rfl, hb⟩
    go_wp2_with fail
    go_ret
    exact ⟨rfl, hb⟩
  obtain ⟨n, rfl⟩ : ∃ k : Nat, n = (k : Int) := ⟨n.toNat, by omega⟩
  obtain ⟨p, rfl⟩ : ∃ k : Nat, p = (k : Int) := ⟨p.toNat, by omega⟩
  obtain ⟨i, rfl⟩ : ∃ k : Nat, i = (k : Int) := ⟨i.toNat, by omega⟩
  have hp6 : p ≤ 6 := by omega
  have hn : n ≤ 65536 := by omega
  obtain ⟨y, hy⟩ : ∃ y, 2 ^ p = y := ⟨_, rfl⟩
  have hy64 : y ≤ 64 := by rw [← hy]; exact Nat.pow_le_pow_right (n := 2) (by decide) hp6
  have hy1 : 1 ≤ y := by rw [← hy]; exact Nat.two_pow_pos p
  have hyi : (2 : Int) ^ p = (y : Int) := by rw [← hy]; push_cast; rfl
  have hw2 : wrap64 ((2 : Int) ^ p) = (y : Int) := by rw [hyi]; exact IntWalk.wrap64_in _ (by omega)
  have hp0 : (0 : Int) ≤ (p : Int) := by omega
  have HYI := hid hyi; have HY := hid hy
  clear hyi
  by_cases h6 : y ≤ i
  · have HO := hid (bounds_out n p i (by rw [Int.toNat_natCast, HYI.out]; omega) w)
    by_cases h64 : (64 : Int) ≤ (i : Int)
    · go_enter Try.func4, Try.ntmps4
      go_wp2_with fail
      refine HO.out.mono ?_
      rintro e w' ⟨rfl, rfl⟩
      go_wp2_with fail
      refine (HK.out w).mono ?_
      rintro e w' ⟨rfl, hb⟩
      go_wp2_with fail
      go_ret
      exact ⟨rfl, hb⟩
    · have h65 : (y : Int) ≤ (i : Int) := by omega
      clear hy
      go_enter Try.func4, Try.ntmps4
      go_wp2_with fail
      refine HO.out.mono ?_
      rintro e w' ⟨rfl, rfl⟩
      go_wp2_with fail
      refine (HK.out w).mono ?_
      rintro e w' ⟨rfl, hb⟩
      go_wp2_with fail
      go_ret
      exact ⟨rfl, hb⟩
  · have h65 : ¬ (y : Int) ≤ (i : Int) := by omega
    have h64 : ¬ (64 : Int) ≤ (i : Int) := by omega
    have hi : i < 2 ^ p := by omega
    have hm := bd_mono n p i
    have hz := bd_zero n p
    have hl := bd_last n p i
    have HB := hid (bounds_in n p i hn hp6 hi w)
    have HR := hid fun w' => rbounds_any n p i hn hp6 hi w'
    have HB2 := hid fun w' (h : i + 1 < 2 ^ p) => bounds_in n p (i + 1) hn hp6 h w'
    have HB3 := hid fun w' (h : ¬ i + 1 < 2 ^ p) => bounds_out n p ((i : Int) + 1) (by rw [Int.toNat_natCast, HYI.out]; omega) w'
    rw [HY.out] at HB2 HB3 hl
    have hmi : ¬ (bd n p (i + 1) : Int) < (bd n p i : Int) := by omega
    obtain ⟨f, hf⟩ : ∃ f, bd n p i = f := ⟨_, rfl⟩
    obtain ⟨t, ht⟩ : ∃ t, bd n p (i + 1) = t := ⟨_, rfl⟩
    have hz2 : i = 0 → f = 0 := fun e => by rw [← hf, e]; exact hz
    rw [hf, ht] at hmi HB HR
    rw [ht] at hl
    obtain ⟨t2, ht2⟩ : ∃ t2, bd n p (i + 1 + 1) = t2 := ⟨_, rfl⟩
    rw [ht, ht2] at HB2
    clear hy hm hz hf ht ht2 hi
    by_cases ei : i = 0
    · by_cases el : i + 1 = y
      · have e0 : ((i : Int) == 0) = true := by rw [ei]; rfl
        have ef : ((f : Int) != 0) = false := by rw [hz2 ei]; rfl
        have e1 : ((i : Int) == (y : Int) - 1) = true := by rw [beq_iff_eq]; omega
        have et : ((t : Int) != (n : Int)) = false := by rw [hl el]; exact bne_self_eq_false _
        have HN := hid fun w' => HB3.out w' (by omega)
        clear hz2 hl ei el
        go_enter Try.func4, Try.ntmps4
        go_wp2_with fail
        refine HB.out.mono ?_
        rintro e w1 ⟨rfl, nq, rfl⟩
        have hb1 : Below w.heap.size w (w.drewN nq) := ⟨rfl, rfl, rfl, Nat.le_refl _, fun _ _ => rfl⟩
        have HB1 := hid hb1
        clear hb1
        generalize w.drewN nq = w2 at *
        go_wp2_with fail
        refine (HR.out w2).mono ?_
        rintro e w3 ⟨rfl, nr, rfl⟩
        have HB4 : RowKit.Hid (Below w.heap.size w (w2.drewN nr)) := hid (HB1.out.trans ⟨rfl, rfl, rfl, Nat.le_refl _, fun _ _ => rfl⟩)
        generalize w2.drewN nr = w4 at *
        go_wp2_with fail
        refine (HN.out w4).mono ?_
        rintro e w5 ⟨rfl, rfl⟩
        go_wp2_with fail
        refine (HK.out w4).mono ?_
        rintro e w6 ⟨rfl, hb⟩
        have hfin := HB4.out.trans (hb.mono HB4.out.size)
        clear hb
        go_wp2_with fail
        go_ret
        exact ⟨rfl, hfin⟩
      · have e0 : ((i : Int) == 0) = true := by rw [ei]; rfl
        have ef : ((f : Int) != 0) = false := by rw [hz2 ei]; rfl
        have e1 : ((i : Int) == (y : Int) - 1) = false := beq_eq_false_iff_ne.2 (by omega)
        have HN := hid fun w' => HB2.out w' (by omega)
        clear hz2 hl ei el
        go_enter Try.func4, Try.ntmps4
        go_wp2_with fail
        refine HB.out.mono ?_
        rintro e w1 ⟨rfl, nq, rfl⟩
        have hb1 : Below w.heap.size w (w.drewN nq) := ⟨rfl, rfl, rfl, Nat.le_refl _, fun _ _ => rfl⟩
        have HB1 := hid hb1
        clear hb1
        generalize w.drewN nq = w2 at *
        go_wp2_with fail
        refine (HR.out w2).mono ?_
        rintro e w3 ⟨rfl, nr, rfl⟩
        have HB4 : RowKit.Hid (Below w.heap.size w (w2.drewN nr)) := hid (HB1.out.trans ⟨rfl, rfl, rfl, Nat.le_refl _, fun _ _ => rfl⟩)
        generalize w2.drewN nr = w4 at *
        go_wp2_with fail
        refine (HN.out w4).mono ?_
        rintro e w5 ⟨rfl, ns, rfl⟩
        have HB5 : RowKit.Hid (Below w.heap.size w (w4.drewN ns)) := hid (HB4.out.trans ⟨rfl, rfl, rfl, Nat.le_refl _, fun _ _ => rfl⟩)
        generalize w4.drewN ns = w6 at *
        go_wp2_with fail
        refine (HK.out w6).mono ?_
        rintro e w7 ⟨rfl, hb⟩
        have hfin := HB5.out.trans (hb.mono HB5.out.size)
        clear hb
        go_wp2_with fail
        go_ret
        exact ⟨rfl, hfin⟩
    · by_cases el : i + 1 = y
      · have e0 : ((i : Int) == 0) = false := beq_eq_false_iff_ne.2 (by omega)
        have e1 : ((i : Int) == (y : Int) - 1) = true := by rw [beq_iff_eq]; omega
        have et : ((t : Int) != (n : Int)) = false := by rw [hl el]; exact bne_self_eq_false _
        have HN := hid fun w' => HB3.out w' (by omega)
        clear hz2 hl ei el
        go_enter Try.func4, Try.ntmps4
        go_wp2_with fail
        refine HB.out.mono ?_
        rintro e w1 ⟨rfl, nq, rfl⟩
        have hb1 : Below w.heap.size w (w.drewN nq) := ⟨rfl, rfl, rfl, Nat.le_refl _, fun _ _ => rfl⟩
        have HB1 := hid hb1
        clear hb1
        generalize w.drewN nq = w2 at *
        go_wp2_with fail
        refine (HR.out w2).mono ?_
        rintro e w3 ⟨rfl, nr, rfl⟩
        have HB4 : RowKit.Hid (Below w.heap.size w (w2.drewN nr)) := hid (HB1.out.trans ⟨rfl, rfl, rfl, Nat.le_refl _, fun _ _ => rfl⟩)
        generalize w2.drewN nr = w4 at *
        go_wp2_with fail
        refine (HN.out w4).mono ?_
        rintro e w5 ⟨rfl, rfl⟩
        go_wp2_with fail
        refine (HK.out w4).mono ?_
        rintro e w6 ⟨rfl, hb⟩
        have hfin := HB4.out.trans (hb.mono HB4.out.size)
        clear hb
        go_wp2_with fail
        go_ret
        exact ⟨rfl, hfin⟩
      · have e0 : ((i : Int) == 0) = false := beq_eq_false_iff_ne.2 (by omega)
        have e1 : ((i : Int) == (y : Int) - 1) = false := beq_eq_false_iff_ne.2 (by omega)
        have HN := hid fun w' => HB2.out w' (by omega)
        clear hz2 hl ei el
        go_enter Try.func4, Try.ntmps4
        go_wp2_with fail
        refine HB.out.mono ?_
        rintro e w1 ⟨rfl, nq, rfl⟩
        have hb1 : Below w.heap.size w (w.drewN nq) := ⟨rfl, rfl, rfl, Nat.le_refl _, fun _ _ => rfl⟩
        have HB1 := hid hb1
        clear hb1
        generalize w.drewN nq = w2 at *
        go_wp2_with fail
        refine (HR.out w2).mono ?_
        rintro e w3 ⟨rfl, nr, rfl⟩
        have HB4 : RowKit.Hid (Below w.heap.size w (w2.drewN nr)) := hid (HB1.out.trans ⟨rfl, rfl, rfl, Nat.le_refl _, fun _ _ => rfl⟩)
        generalize w2.drewN nr = w4 at *
        go_wp2_with fail
        refine (HN.out w4).mono ?_
        rintro e w5 ⟨rfl, ns, rfl⟩
        have HB5 : RowKit.Hid (Below w.heap.size w (w4.drewN ns)) := hid (HB4.out.trans ⟨rfl, rfl, rfl, Nat.le_refl _, fun _ _ => rfl⟩)
        generalize w4.drewN ns = w6 at *
        go_wp2_with fail
        refine (HK.out w6).mono ?_
        rintro e w7 ⟨rfl, hb⟩
        have hfin := HB5.out.trans (hb.mono HB5.out.size)
        clear hb
        go_wp2_with fail
        go_ret
        exact ⟨rfl, hfin⟩
end Go.Proofs.Ytjimamjhakainaa.Part
