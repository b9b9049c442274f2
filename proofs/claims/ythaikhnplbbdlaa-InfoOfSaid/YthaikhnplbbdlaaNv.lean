/- InfoOf's walk: the info of any kind, format and settings. No condition. -/
import Derived.Test.YthaikhnplbbdlaaNu
import Derived.Test.YthaikhnplbbdlaaNq
namespace Go.Proofs.Ythaikhnplbbdlaa.Inf
open Go.RowKit Gen Fld Pcm
open Crc hiding hid

theorem of_right (k : Int) (f : Fmt) (c : Cf) (h : ofE k f c = 0) : Rt (ofR k f c) := by
  have e : ofR k f c = ofI k f c := if_pos h
  rw [e]
  unfold ofE at h
  by_cases h1 : k = 1 ∨ k = 2 ∨ k = 3
  · rw [if_neg (fun h => h h1)] at h
    by_cases h2 : f.right
    · rw [if_neg (fun h => h h2)] at h
      have h3 : Ok c := by
        unfold cE at h
        by_cases h4 : Ok c
        · exact h4
        · rw [if_neg h4] at h; cases h
      obtain ⟨o1, _, _, o4, _⟩ := h3
      refine ⟨h1, h2, o1, ?_⟩
      unfold Sh ofI
      simp only []
      split <;> omega
    · rw [if_pos h2] at h; cases h
  · rw [if_pos h1] at h; cases h
/-- The parameters' boxes. -/
structure Pb (w : World) (ch bits rate bk od wi sh ta re : Int) (wr : World) : Prop where
  f : wr.heap[w.heap.size]? = some (.cells (fvl ⟨ch, bits, rate⟩) 23 (0, 0))
  c : Cx wr (w.heap.size + 1) ⟨bk, od, wi, sh, ta, re⟩
  b : Below w.heap.size w wr
theorem Pb.start (w : World) (ch bits rate bk od wi sh ta re : Int) : Pb w ch bits rate bk od wi sh ta re ((w.alloc (.cells (fvl ⟨ch, bits, rate⟩) 23)).alloc (.cells (cvl ⟨bk, od, wi, sh, ta, re⟩) 42)) := by
  have h := Cx.new (w.alloc (.cells (fvl ⟨ch, bits, rate⟩) 23)) ⟨bk, od, wi, sh, ta, re⟩
  rw [show (w.alloc (.cells (fvl ⟨ch, bits, rate⟩) 23)).heap.size = w.heap.size + 1 from Deep.nblk_alloc _ _] at h
  exact ⟨(Deep.blk_alloc_lt _ _ _ (by rw [Deep.nblk_alloc]; omega)).trans (heap_alloc_new _ _), h, (below_new w _).alloc (below_new w _).size _⟩
theorem Pb.more {w wr w' : World} {ch bits rate bk od wi sh ta re : Int} (h : Pb w ch bits rate bk od wi sh ta re wr) (hb : Below wr.heap.size wr w') : Pb w ch bits rate bk od wi sh ta re w' :=
  ⟨(hb.block _ (World.block_lt_of_cell? _ _ (row_cell h.f 0 rfl))).trans h.f, h.c.below hb h.c.lt, h.b.trans (hb.mono h.b.size)⟩
set_option maxHeartbeats 4000000 in
theorem of_walk (k : Int) (f : Fmt) (c : Cf) (w : World) : Calls Try.prog 7 #[.int .i64 k, f.v, cv c] w fun e w' => e = .returned (.bool true) ∧ Below w.heap.size w w' := by
  have HK := hid known_true
  obtain ⟨ch, bits, rate⟩ := f
  obtain ⟨bk, od, wi, sh, ta, re⟩ := c
  have HP := hid (Pb.start w ch bits rate bk od wi sh ta re)
  have HOF := hid fun w => of_any k ch bits rate bk od wi sh ta re w
  have HOG := hid fun w => rof_any k ch bits rate bk od wi sh ta re w
  have HRT := hid (of_right k ⟨ch, bits, rate⟩ ⟨bk, od, wi, sh, ta, re⟩)
  have HCF := hid fun w => (show Calls Try.prog 21 #[.agg #[.int .i64 bk, .int .i64 od, .int .i64 wi, .int .i64 sh, .int .i64 ta, .int .i64 re]] w _ from sett_any ⟨bk, od, wi, sh, ta, re⟩ w)
  have HCG := hid fun w => (show Calls Try.prog 22 #[.agg #[.int .i64 bk, .int .i64 od, .int .i64 wi, .int .i64 sh, .int .i64 ta, .int .i64 re]] w _ from rsett_any ⟨bk, od, wi, sh, ta, re⟩ w)
  unfold InfP at HOF HOG
  change Calls Try.prog 7 #[.int .i64 k, .agg #[.int .i64 ch, .int .i64 bits, .int .i64 rate], .agg #[.int .i64 bk, .int .i64 od, .int .i64 wi, .int .i64 sh, .int .i64 ta, .int .i64 re]] w _
  generalize ofE k ⟨ch, bits, rate⟩ ⟨bk, od, wi, sh, ta, re⟩ = x at *
  generalize ofR k ⟨ch, bits, rate⟩ ⟨bk, od, wi, sh, ta, re⟩ = h at *
  generalize cE ⟨bk, od, wi, sh, ta, re⟩ = y at *
  rw [show iv h = .agg #[.int .i64 h.k, .int .i64 h.f.ch, .int .i64 h.f.bits, .int .i64 h.f.rate, .int .i64 h.bk, .int .i64 h.sh] from rfl] at HOF HOG
  have HRR := hid fun w => (show Calls Try.prog 11 #[.agg #[.int .i64 h.k, .int .i64 h.f.ch, .int .i64 h.f.bits, .int .i64 h.f.rate, .int .i64 h.bk, .int .i64 h.sh]] w _ from right_any h w)
  go_enter Try.func7, Try.ntmps7
  go_wp2_with fail
  change Calls _ _ _ ((w.alloc (.cells (fvl ⟨ch, bits, rate⟩) 23)).alloc (.cells (cvl ⟨bk, od, wi, sh, ta, re⟩) 42)) _
  generalize (w.alloc (.cells (fvl ⟨ch, bits, rate⟩) 23)).alloc (.cells (cvl ⟨bk, od, wi, sh, ta, re⟩) 42) = W at *
  refine (HOF.out _).mono ?_
  rintro e w1 ⟨rfl, hb1⟩
  have HP1 := hid (HP.out.more hb1)
  have hbn := below_new w1 (.cells #[.int .i64 h.k, .int .i64 h.f.ch, .int .i64 h.f.bits, .int .i64 h.f.rate, .int .i64 h.bk, .int .i64 h.sh] 25)
  have HX2 := hid (show Bx (w1.alloc (.cells #[.int .i64 h.k, .int .i64 h.f.ch, .int .i64 h.f.bits, .int .i64 h.f.rate, .int .i64 h.bk, .int .i64 h.sh] 25)) w1.heap.size h from Bx.new w1 h)
  have hp2 := HP1.out.more hbn
  have HP2 := hid hp2
  have f0 : (w1.alloc (.cells #[.int .i64 h.k, .int .i64 h.f.ch, .int .i64 h.f.bits, .int .i64 h.f.rate, .int .i64 h.bk, .int .i64 h.sh] 25)).cell? ⟨w.heap.size, 0, none⟩ = some (.int .i64 ch) := row_cell hp2.f 0 rfl
  have f1 : (w1.alloc (.cells #[.int .i64 h.k, .int .i64 h.f.ch, .int .i64 h.f.bits, .int .i64 h.f.rate, .int .i64 h.bk, .int .i64 h.sh] 25)).cell? ⟨w.heap.size, 1, none⟩ = some (.int .i64 bits) := row_cell hp2.f 1 rfl
  have f2 : (w1.alloc (.cells #[.int .i64 h.k, .int .i64 h.f.ch, .int .i64 h.f.bits, .int .i64 h.f.rate, .int .i64 h.bk, .int .i64 h.sh] 25)).cell? ⟨w.heap.size, 2, none⟩ = some (.int .i64 rate) := row_cell hp2.f 2 rfl
  have c0 := hp2.c.c0; have c1 := hp2.c.c1; have c2 := hp2.c.c2; have c3 := hp2.c.c3; have c4 := hp2.c.c4; have c5 := hp2.c.c5
  simp only [] at c0 c1 c2 c3 c4 c5
  clear hb1 hbn hp2 HP HP1
  go_wp2_with fail
  refine (HOG.out _).mono ?_
  rintro e w3 ⟨rfl, hb3⟩
  have HP3 := hid (HP2.out.more hb3)
  have HX3 := hid (HX2.out.below hb3 HX2.out.lt)
  have hbn := below_new w3 (.cells #[.int .i64 h.k, .int .i64 h.f.ch, .int .i64 h.f.bits, .int .i64 h.f.rate, .int .i64 h.bk, .int .i64 h.sh] 25)
  have HP4 := hid (HP3.out.more hbn)
  have HX4 := hid (HX3.out.below hbn HX3.out.lt)
  have HY4 := hid (show Bx (w3.alloc (.cells #[.int .i64 h.k, .int .i64 h.f.ch, .int .i64 h.f.bits, .int .i64 h.f.rate, .int .i64 h.bk, .int .i64 h.sh] 25)) w3.heap.size h from Bx.new w3 h)
  clear f0 f1 f2 c0 c1 c2 c3 c4 c5 hb3 hbn HP2 HX2 HP3 HX3
  go_wp2_with fail
  generalize w3.alloc (.cells #[.int .i64 h.k, .int .i64 h.f.ch, .int .i64 h.f.bits, .int .i64 h.f.rate, .int .i64 h.bk, .int .i64 h.sh] 25) = V at *
  have y0 := fun p : Kp V => (HX4.out.below (below_of_fr p.h) HX4.out.lt).c0
  have y1 := fun p : Kp V => (HX4.out.below (below_of_fr p.h) HX4.out.lt).c1
  have y2 := fun p : Kp V => (HX4.out.below (below_of_fr p.h) HX4.out.lt).c2
  have y3 := fun p : Kp V => (HX4.out.below (below_of_fr p.h) HX4.out.lt).c3
  have y4 := fun p : Kp V => (HX4.out.below (below_of_fr p.h) HX4.out.lt).c4
  have y5 := fun p : Kp V => (HX4.out.below (below_of_fr p.h) HX4.out.lt).c5
  have z0 := fun p : Kp V => (HY4.out.below (below_of_fr p.h) HY4.out.lt).c0
  have z1 := fun p : Kp V => (HY4.out.below (below_of_fr p.h) HY4.out.lt).c1
  have z2 := fun p : Kp V => (HY4.out.below (below_of_fr p.h) HY4.out.lt).c2
  have z3 := fun p : Kp V => (HY4.out.below (below_of_fr p.h) HY4.out.lt).c3
  have z4 := fun p : Kp V => (HY4.out.below (below_of_fr p.h) HY4.out.lt).c4
  have z5 := fun p : Kp V => (HY4.out.below (below_of_fr p.h) HY4.out.lt).c5
  have c0 : ∀ p : Kp V, p.w'.cell? ⟨w.heap.size + 1, 0, none⟩ = some (.int .i64 bk) := fun p => (HP4.out.c.below (below_of_fr p.h) HP4.out.c.lt).c0
  have c1 : ∀ p : Kp V, p.w'.cell? ⟨w.heap.size + 1, 1, none⟩ = some (.int .i64 od) := fun p => (HP4.out.c.below (below_of_fr p.h) HP4.out.c.lt).c1
  have c2 : ∀ p : Kp V, p.w'.cell? ⟨w.heap.size + 1, 2, none⟩ = some (.int .i64 wi) := fun p => (HP4.out.c.below (below_of_fr p.h) HP4.out.c.lt).c2
  have c3 : ∀ p : Kp V, p.w'.cell? ⟨w.heap.size + 1, 3, none⟩ = some (.int .i64 sh) := fun p => (HP4.out.c.below (below_of_fr p.h) HP4.out.c.lt).c3
  have c4 : ∀ p : Kp V, p.w'.cell? ⟨w.heap.size + 1, 4, none⟩ = some (.int .i64 ta) := fun p => (HP4.out.c.below (below_of_fr p.h) HP4.out.c.lt).c4
  have c5 : ∀ p : Kp V, p.w'.cell? ⟨w.heap.size + 1, 5, none⟩ = some (.int .i64 re) := fun p => (HP4.out.c.below (below_of_fr p.h) HP4.out.c.lt).c5
  have hyy : (y == y) = true := beq_self_eq_true y
  by_cases hx : x = 0
  · subst hx
    rw [decide_eq_true (HRT.out rfl)] at HRR
    refine wp_region_quiet_kp (by kernel_rfl) (by kernel_rfl) ?_
    repeat (first | go_big_quiet_step ((first | (go_at_call 21; with_reducible exact kp_below (HCF.out _)) | (go_at_call 22; with_reducible exact kp_below (HCG.out _)) | (go_at_call 11; with_reducible exact kp_below (HRR.out _)) | (go_at_call 13; with_reducible exact kp_below (HK.out _)))) | fail)
    refine wpQuiet_nil ?_
    intro _ hw'
    obtain ⟨⟨wq, hq⟩, hw''⟩ := hw'
    subst hw''
    have hfin := HP4.out.b.trans ((below_of_fr hq).mono HP4.out.b.size)
    clear hq y0 y1 y2 y3 y4 y5 z0 z1 z2 z3 z4 z5 c0 c1 c2 c3 c4 c5
    go_wp2_with fail
    go_ret
    exact ⟨rfl, hfin⟩
  · have hxx : (x == x) = true := beq_self_eq_true x
    have hne : (x != 0) = true := by rw [bne_iff_ne]; exact hx
    have hne2 : (x == 0) = false := by simpa using hx
    clear hx
    refine wp_region_quiet_kp (by kernel_rfl) (by kernel_rfl) ?_
    repeat (first | go_big_quiet_step ((first | (go_at_call 21; with_reducible exact kp_below (HCF.out _)) | (go_at_call 22; with_reducible exact kp_below (HCG.out _)) | (go_at_call 11; with_reducible exact kp_below (HRR.out _)) | (go_at_call 13; with_reducible exact kp_below (HK.out _)))) | fail)
    refine wpQuiet_nil ?_
    intro _ hw'
    obtain ⟨⟨wq, hq⟩, hw''⟩ := hw'
    subst hw''
    have hfin := HP4.out.b.trans ((below_of_fr hq).mono HP4.out.b.size)
    clear hq y0 y1 y2 y3 y4 y5 z0 z1 z2 z3 z4 z5 c0 c1 c2 c3 c4 c5
    go_wp2_with fail
    go_ret
    exact ⟨rfl, hfin⟩
end Go.Proofs.Ythaikhnplbbdlaa.Inf
