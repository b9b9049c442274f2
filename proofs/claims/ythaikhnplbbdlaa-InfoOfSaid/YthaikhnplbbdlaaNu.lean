/- Of, of the program. No condition. -/
import Derived.Test.YthaikhnplbbdlaaNt
namespace Go.Proofs.Ythaikhnplbbdlaa.Inf
open Go.RowKit Gen Fld Pcm
open Crc hiding hid

/-- What stands when the info is made. -/
structure Of (w : World) (c : Cf) (i : If) (wr : World) : Prop where
  z : Bx wr (w.heap.size + 1 + 1) iz
  x : Bx wr (w.heap.size + 1 + 1 + 1) i
  c : Cx wr (w.heap.size + 1) c
  b : Below w.heap.size w wr
theorem Of.start (w : World) (f : Fmt) (c : Cf) (i : If) : Of w c i ((((w.alloc (.cells (fvl f) 23)).alloc (.cells (cvl c) 42)).alloc (.cells (ivl iz) 25)).alloc (.cells (ivl i) 25)) := by
  have hz := of_cell w f c
  have hb := below_new (((w.alloc (.cells (fvl f) 23)).alloc (.cells (cvl c) 42)).alloc (.cells (ivl iz) 25)) (.cells (ivl i) 25)
  have hx := Bx.new (((w.alloc (.cells (fvl f) 23)).alloc (.cells (cvl c) 42)).alloc (.cells (ivl iz) 25)) i
  rw [show (((w.alloc (.cells (fvl f) 23)).alloc (.cells (cvl c) 42)).alloc (.cells (ivl iz) 25)).heap.size = w.heap.size + 1 + 1 + 1 from by rw [Deep.nblk_alloc, Deep.nblk_alloc, Deep.nblk_alloc]] at hx
  exact ⟨hz.below hb hz.lt, hx, (of_conf w f c _).below hb (of_conf w f c _).lt, (below3 w _ _ _).trans (hb.mono (below3 w _ _ _).size)⟩
theorem Of.more {w wr w' : World} {c : Cf} {i : If} (h : Of w c i wr) (hb : Below wr.heap.size wr w') : Of w c i w' :=
  ⟨h.z.below hb h.z.lt, h.x.below hb h.x.lt, h.c.below hb h.c.lt, h.b.trans (hb.mono h.b.size)⟩
set_option maxHeartbeats 4000000 in
theorem of_any (k ch bits rate bk od wi sh ta re : Int) (w : World) : Calls Try.prog 19 #[.int .i64 k, .agg #[.int .i64 ch, .int .i64 bits, .int .i64 rate], .agg #[.int .i64 bk, .int .i64 od, .int .i64 wi, .int .i64 sh, .int .i64 ta, .int .i64 re]] w (InfP w (ofR k ⟨ch, bits, rate⟩ ⟨bk, od, wi, sh, ta, re⟩) (ofE k ⟨ch, bits, rate⟩ ⟨bk, od, wi, sh, ta, re⟩)) := by
  have HFR := hid fun w => (show Calls Try.prog 28 #[.agg #[.int .i64 ch, .int .i64 bits, .int .i64 rate]] w _ from Pcm.right_any ⟨ch, bits, rate⟩ w)
  have HCF := hid fun w => (show Calls Try.prog 21 #[.agg #[.int .i64 bk, .int .i64 od, .int .i64 wi, .int .i64 sh, .int .i64 ta, .int .i64 re]] w _ from sett_any ⟨bk, od, wi, sh, ta, re⟩ w)
  have HO := hid fun i => Of.start w ⟨ch, bits, rate⟩ ⟨bk, od, wi, sh, ta, re⟩ i
  have HOE := hid (show ofE k ⟨ch, bits, rate⟩ ⟨bk, od, wi, sh, ta, re⟩ = if ¬ (k = 1 ∨ k = 2 ∨ k = 3) then 31 else if ¬ (⟨ch, bits, rate⟩ : Fmt).right then 20 else cE ⟨bk, od, wi, sh, ta, re⟩ from rfl)
  have HOR := hid (show ofR k ⟨ch, bits, rate⟩ ⟨bk, od, wi, sh, ta, re⟩ = if ofE k ⟨ch, bits, rate⟩ ⟨bk, od, wi, sh, ta, re⟩ = 0 then ofI k ⟨ch, bits, rate⟩ ⟨bk, od, wi, sh, ta, re⟩ else iz from rfl)
  unfold InfP
  by_cases h1 : k = 1 ∨ k = 2 ∨ k = 3
  · by_cases h2 : (⟨ch, bits, rate⟩ : Fmt).right
    · have HE := hid (HOE.out.trans ((if_neg (fun h => h h1)).trans (if_neg (fun h => h h2))))
      rw [decide_eq_true h2] at HFR
      clear h2
      rcases ce_two ⟨bk, od, wi, sh, ta, re⟩ with h3 | h3
      · have HEE := hid (HE.out.trans h3)
        have HR := hid (HOR.out.trans (if_pos HEE.out))
        rw [h3] at HCF
        clear h3 HE
        have HE := HEE
        rcases h1 with rfl | rfl | rfl
        · go_enter Try.func19, Try.ntmps19
          go_wp2_with fail
          change Calls _ _ _ ((((w.alloc (.cells (fvl ⟨ch, bits, rate⟩) 23)).alloc (.cells (cvl ⟨bk, od, wi, sh, ta, re⟩) 42)).alloc (.cells (ivl iz) 25)).alloc (.cells (ivl ⟨1, ⟨ch, bits, rate⟩, bk, sh⟩) 25)) _
          have HO := hid (HO.out ⟨1, ⟨ch, bits, rate⟩, bk, sh⟩)
          generalize (((w.alloc (.cells (fvl ⟨ch, bits, rate⟩) 23)).alloc (.cells (cvl ⟨bk, od, wi, sh, ta, re⟩) 42)).alloc (.cells (ivl iz) 25)).alloc (.cells (ivl ⟨1, ⟨ch, bits, rate⟩, bk, sh⟩) 25) = W at *
          refine (HFR.out _).mono ?_
          rintro e w1 ⟨rfl, hb1⟩
          have HO := hid (HO.out.more hb1)
          clear hb1
          have c := HO.out.c
          have c0 := c.c0; have c1 := c.c1; have c2 := c.c2; have c3 := c.c3; have c4 := c.c4; have c5 := c.c5
          simp only [] at c0 c1 c2 c3 c4 c5
          clear c
          go_wp2_with fail
          refine (HCF.out _).mono ?_
          rintro e w2 ⟨rfl, hb2⟩
          have HO := hid (HO.out.more hb2)
          clear hb2 c0 c1 c2 c3 c4 c5
          go_wp2_with (first
            | (refine wpList_load_row rfl 25 _ rfl (w.heap.size + 1 + 1 + 1) rfl 25 (ivl ⟨1, ⟨ch, bits, rate⟩, bk, sh⟩) (0, 0) _ HO.out.x.row Try.underlying25 rfl (ivl_size _) ?_)
            | (refine wpList_store_row rfl 25 _ _ rfl (w.heap.size + 1 + 1) (ivl ⟨1, ⟨ch, bits, rate⟩, bk, sh⟩) rfl rfl 25 (ivl iz) HO.out.z.row (ivl_size _) rfl (ivl_one _) ?_))
          refine bodyPost_ret (res_ct (p := 6) (u := 7) (ty := 25) (by kernel_rfl) _ _ (w.heap.size + 1 + 1) 25 (ivl ⟨1, ⟨ch, bits, rate⟩, bk, sh⟩) (0, 0) _ rfl (setRow_heap _ _ _ _ _ _ HO.out.z.row) Try.underlying25 rfl (ivl_size _) rfl) rfl ?_
          refine ⟨?_, fr_rowBelow HO.out.b (by omega)⟩
          rw [HE.out, HR.out]
          rfl
        · go_enter Try.func19, Try.ntmps19
          go_wp2_with fail
          change Calls _ _ _ ((((w.alloc (.cells (fvl ⟨ch, bits, rate⟩) 23)).alloc (.cells (cvl ⟨bk, od, wi, sh, ta, re⟩) 42)).alloc (.cells (ivl iz) 25)).alloc (.cells (ivl ⟨2, ⟨ch, bits, rate⟩, bk, sh⟩) 25)) _
          have HO := hid (HO.out ⟨2, ⟨ch, bits, rate⟩, bk, sh⟩)
          generalize (((w.alloc (.cells (fvl ⟨ch, bits, rate⟩) 23)).alloc (.cells (cvl ⟨bk, od, wi, sh, ta, re⟩) 42)).alloc (.cells (ivl iz) 25)).alloc (.cells (ivl ⟨2, ⟨ch, bits, rate⟩, bk, sh⟩) 25) = W at *
          refine (HFR.out _).mono ?_
          rintro e w1 ⟨rfl, hb1⟩
          have HO := hid (HO.out.more hb1)
          clear hb1
          have c := HO.out.c
          have c0 := c.c0; have c1 := c.c1; have c2 := c.c2; have c3 := c.c3; have c4 := c.c4; have c5 := c.c5
          simp only [] at c0 c1 c2 c3 c4 c5
          clear c
          go_wp2_with fail
          refine (HCF.out _).mono ?_
          rintro e w2 ⟨rfl, hb2⟩
          have HO := hid (HO.out.more hb2)
          clear hb2 c0 c1 c2 c3 c4 c5
          go_wp2_with (first
            | (refine wpList_load_row rfl 25 _ rfl (w.heap.size + 1 + 1 + 1) rfl 25 (ivl ⟨2, ⟨ch, bits, rate⟩, bk, sh⟩) (0, 0) _ HO.out.x.row Try.underlying25 rfl (ivl_size _) ?_)
            | (refine wpList_store_row rfl 25 _ _ rfl (w.heap.size + 1 + 1) (ivl ⟨2, ⟨ch, bits, rate⟩, bk, sh⟩) rfl rfl 25 (ivl iz) HO.out.z.row (ivl_size _) rfl (ivl_one _) ?_))
          refine bodyPost_ret (res_ct (p := 6) (u := 7) (ty := 25) (by kernel_rfl) _ _ (w.heap.size + 1 + 1) 25 (ivl ⟨2, ⟨ch, bits, rate⟩, bk, sh⟩) (0, 0) _ rfl (setRow_heap _ _ _ _ _ _ HO.out.z.row) Try.underlying25 rfl (ivl_size _) rfl) rfl ?_
          refine ⟨?_, fr_rowBelow HO.out.b (by omega)⟩
          rw [HE.out, HR.out]
          rfl
        · go_enter Try.func19, Try.ntmps19
          go_wp2_with fail
          change Calls _ _ _ ((((w.alloc (.cells (fvl ⟨ch, bits, rate⟩) 23)).alloc (.cells (cvl ⟨bk, od, wi, sh, ta, re⟩) 42)).alloc (.cells (ivl iz) 25)).alloc (.cells (ivl ⟨3, ⟨ch, bits, rate⟩, bk, 0⟩) 25)) _
          have HO := hid (HO.out ⟨3, ⟨ch, bits, rate⟩, bk, 0⟩)
          generalize (((w.alloc (.cells (fvl ⟨ch, bits, rate⟩) 23)).alloc (.cells (cvl ⟨bk, od, wi, sh, ta, re⟩) 42)).alloc (.cells (ivl iz) 25)).alloc (.cells (ivl ⟨3, ⟨ch, bits, rate⟩, bk, 0⟩) 25) = W at *
          refine (HFR.out _).mono ?_
          rintro e w1 ⟨rfl, hb1⟩
          have HO := hid (HO.out.more hb1)
          clear hb1
          have c := HO.out.c
          have c0 := c.c0; have c1 := c.c1; have c2 := c.c2; have c3 := c.c3; have c4 := c.c4; have c5 := c.c5
          simp only [] at c0 c1 c2 c3 c4 c5
          clear c
          go_wp2_with fail
          refine (HCF.out _).mono ?_
          rintro e w2 ⟨rfl, hb2⟩
          have HO := hid (HO.out.more hb2)
          clear hb2 c0 c1 c2 c3 c4 c5
          go_wp2_with (first
            | (refine wpList_load_row rfl 25 _ rfl (w.heap.size + 1 + 1 + 1) rfl 25 (ivl ⟨3, ⟨ch, bits, rate⟩, bk, 0⟩) (0, 0) _ HO.out.x.row Try.underlying25 rfl (ivl_size _) ?_)
            | (refine wpList_store_row rfl 25 _ _ rfl (w.heap.size + 1 + 1) (ivl ⟨3, ⟨ch, bits, rate⟩, bk, 0⟩) rfl rfl 25 (ivl iz) HO.out.z.row (ivl_size _) rfl (ivl_one _) ?_))
          refine bodyPost_ret (res_ct (p := 6) (u := 7) (ty := 25) (by kernel_rfl) _ _ (w.heap.size + 1 + 1) 25 (ivl ⟨3, ⟨ch, bits, rate⟩, bk, 0⟩) (0, 0) _ rfl (setRow_heap _ _ _ _ _ _ HO.out.z.row) Try.underlying25 rfl (ivl_size _) rfl) rfl ?_
          refine ⟨?_, fr_rowBelow HO.out.b (by omega)⟩
          rw [HE.out, HR.out]
          rfl
      · have HEE := hid (HE.out.trans h3)
        have HR := hid (HOR.out.trans (if_neg (by rw [HEE.out]; decide)))
        rw [h3] at HCF
        clear h3 HE
        have HE := HEE
        rcases h1 with rfl | rfl | rfl
        · go_enter Try.func19, Try.ntmps19
          go_wp2_with fail
          change Calls _ _ _ ((((w.alloc (.cells (fvl ⟨ch, bits, rate⟩) 23)).alloc (.cells (cvl ⟨bk, od, wi, sh, ta, re⟩) 42)).alloc (.cells (ivl iz) 25)).alloc (.cells (ivl ⟨1, ⟨ch, bits, rate⟩, bk, sh⟩) 25)) _
          have HO := hid (HO.out ⟨1, ⟨ch, bits, rate⟩, bk, sh⟩)
          generalize (((w.alloc (.cells (fvl ⟨ch, bits, rate⟩) 23)).alloc (.cells (cvl ⟨bk, od, wi, sh, ta, re⟩) 42)).alloc (.cells (ivl iz) 25)).alloc (.cells (ivl ⟨1, ⟨ch, bits, rate⟩, bk, sh⟩) 25) = W at *
          refine (HFR.out _).mono ?_
          rintro e w1 ⟨rfl, hb1⟩
          have HO := hid (HO.out.more hb1)
          clear hb1
          have c := HO.out.c
          have c0 := c.c0; have c1 := c.c1; have c2 := c.c2; have c3 := c.c3; have c4 := c.c4; have c5 := c.c5
          simp only [] at c0 c1 c2 c3 c4 c5
          clear c
          go_wp2_with fail
          refine (HCF.out _).mono ?_
          rintro e w2 ⟨rfl, hb2⟩
          have HO := hid (HO.out.more hb2)
          clear hb2 c0 c1 c2 c3 c4 c5
          go_wp2_with (refine wpList_store_row rfl 25 _ _ rfl (w.heap.size + 1 + 1) (ivl iz) rfl rfl 25 (ivl iz) HO.out.z.row (ivl_size _) rfl (ivl_one _) ?_)
          refine bodyPost_ret (res_ct (p := 6) (u := 7) (ty := 25) (by kernel_rfl) _ _ (w.heap.size + 1 + 1) 25 (ivl iz) (0, 0) _ rfl (setRow_heap _ _ _ _ _ _ HO.out.z.row) Try.underlying25 rfl (ivl_size _) rfl) rfl ?_
          refine ⟨?_, fr_rowBelow HO.out.b (by omega)⟩
          rw [HE.out, HR.out]
          rfl
        · go_enter Try.func19, Try.ntmps19
          go_wp2_with fail
          change Calls _ _ _ ((((w.alloc (.cells (fvl ⟨ch, bits, rate⟩) 23)).alloc (.cells (cvl ⟨bk, od, wi, sh, ta, re⟩) 42)).alloc (.cells (ivl iz) 25)).alloc (.cells (ivl ⟨2, ⟨ch, bits, rate⟩, bk, sh⟩) 25)) _
          have HO := hid (HO.out ⟨2, ⟨ch, bits, rate⟩, bk, sh⟩)
          generalize (((w.alloc (.cells (fvl ⟨ch, bits, rate⟩) 23)).alloc (.cells (cvl ⟨bk, od, wi, sh, ta, re⟩) 42)).alloc (.cells (ivl iz) 25)).alloc (.cells (ivl ⟨2, ⟨ch, bits, rate⟩, bk, sh⟩) 25) = W at *
          refine (HFR.out _).mono ?_
          rintro e w1 ⟨rfl, hb1⟩
          have HO := hid (HO.out.more hb1)
          clear hb1
          have c := HO.out.c
          have c0 := c.c0; have c1 := c.c1; have c2 := c.c2; have c3 := c.c3; have c4 := c.c4; have c5 := c.c5
          simp only [] at c0 c1 c2 c3 c4 c5
          clear c
          go_wp2_with fail
          refine (HCF.out _).mono ?_
          rintro e w2 ⟨rfl, hb2⟩
          have HO := hid (HO.out.more hb2)
          clear hb2 c0 c1 c2 c3 c4 c5
          go_wp2_with (refine wpList_store_row rfl 25 _ _ rfl (w.heap.size + 1 + 1) (ivl iz) rfl rfl 25 (ivl iz) HO.out.z.row (ivl_size _) rfl (ivl_one _) ?_)
          refine bodyPost_ret (res_ct (p := 6) (u := 7) (ty := 25) (by kernel_rfl) _ _ (w.heap.size + 1 + 1) 25 (ivl iz) (0, 0) _ rfl (setRow_heap _ _ _ _ _ _ HO.out.z.row) Try.underlying25 rfl (ivl_size _) rfl) rfl ?_
          refine ⟨?_, fr_rowBelow HO.out.b (by omega)⟩
          rw [HE.out, HR.out]
          rfl
        · go_enter Try.func19, Try.ntmps19
          go_wp2_with fail
          change Calls _ _ _ ((((w.alloc (.cells (fvl ⟨ch, bits, rate⟩) 23)).alloc (.cells (cvl ⟨bk, od, wi, sh, ta, re⟩) 42)).alloc (.cells (ivl iz) 25)).alloc (.cells (ivl ⟨3, ⟨ch, bits, rate⟩, bk, 0⟩) 25)) _
          have HO := hid (HO.out ⟨3, ⟨ch, bits, rate⟩, bk, 0⟩)
          generalize (((w.alloc (.cells (fvl ⟨ch, bits, rate⟩) 23)).alloc (.cells (cvl ⟨bk, od, wi, sh, ta, re⟩) 42)).alloc (.cells (ivl iz) 25)).alloc (.cells (ivl ⟨3, ⟨ch, bits, rate⟩, bk, 0⟩) 25) = W at *
          refine (HFR.out _).mono ?_
          rintro e w1 ⟨rfl, hb1⟩
          have HO := hid (HO.out.more hb1)
          clear hb1
          have c := HO.out.c
          have c0 := c.c0; have c1 := c.c1; have c2 := c.c2; have c3 := c.c3; have c4 := c.c4; have c5 := c.c5
          simp only [] at c0 c1 c2 c3 c4 c5
          clear c
          go_wp2_with fail
          refine (HCF.out _).mono ?_
          rintro e w2 ⟨rfl, hb2⟩
          have HO := hid (HO.out.more hb2)
          clear hb2 c0 c1 c2 c3 c4 c5
          go_wp2_with (refine wpList_store_row rfl 25 _ _ rfl (w.heap.size + 1 + 1) (ivl iz) rfl rfl 25 (ivl iz) HO.out.z.row (ivl_size _) rfl (ivl_one _) ?_)
          refine bodyPost_ret (res_ct (p := 6) (u := 7) (ty := 25) (by kernel_rfl) _ _ (w.heap.size + 1 + 1) 25 (ivl iz) (0, 0) _ rfl (setRow_heap _ _ _ _ _ _ HO.out.z.row) Try.underlying25 rfl (ivl_size _) rfl) rfl ?_
          refine ⟨?_, fr_rowBelow HO.out.b (by omega)⟩
          rw [HE.out, HR.out]
          rfl
    · have HE := hid (HOE.out.trans ((if_neg (fun h => h h1)).trans (if_pos h2)))
      have HR := hid (HOR.out.trans (if_neg (by rw [HE.out]; decide)))
      rw [decide_eq_false h2] at HFR
      clear h2
      rcases h1 with rfl | rfl | rfl
      · go_enter Try.func19, Try.ntmps19
        go_wp2_with fail
        change Calls _ _ _ ((((w.alloc (.cells (fvl ⟨ch, bits, rate⟩) 23)).alloc (.cells (cvl ⟨bk, od, wi, sh, ta, re⟩) 42)).alloc (.cells (ivl iz) 25)).alloc (.cells (ivl ⟨1, ⟨ch, bits, rate⟩, bk, sh⟩) 25)) _
        have HO := hid (HO.out ⟨1, ⟨ch, bits, rate⟩, bk, sh⟩)
        generalize (((w.alloc (.cells (fvl ⟨ch, bits, rate⟩) 23)).alloc (.cells (cvl ⟨bk, od, wi, sh, ta, re⟩) 42)).alloc (.cells (ivl iz) 25)).alloc (.cells (ivl ⟨1, ⟨ch, bits, rate⟩, bk, sh⟩) 25) = W at *
        refine (HFR.out _).mono ?_
        rintro e w1 ⟨rfl, hb1⟩
        have HO := hid (HO.out.more hb1)
        clear hb1
        go_wp2_with (refine wpList_store_row rfl 25 _ _ rfl (w.heap.size + 1 + 1) (ivl iz) rfl rfl 25 (ivl iz) HO.out.z.row (ivl_size _) rfl (ivl_one _) ?_)
        refine bodyPost_ret (res_ct (p := 6) (u := 7) (ty := 25) (by kernel_rfl) _ _ (w.heap.size + 1 + 1) 25 (ivl iz) (0, 0) _ rfl (setRow_heap _ _ _ _ _ _ HO.out.z.row) Try.underlying25 rfl (ivl_size _) rfl) rfl ?_
        refine ⟨?_, fr_rowBelow HO.out.b (by omega)⟩
        rw [HE.out, HR.out]
        rfl
      · go_enter Try.func19, Try.ntmps19
        go_wp2_with fail
        change Calls _ _ _ ((((w.alloc (.cells (fvl ⟨ch, bits, rate⟩) 23)).alloc (.cells (cvl ⟨bk, od, wi, sh, ta, re⟩) 42)).alloc (.cells (ivl iz) 25)).alloc (.cells (ivl ⟨2, ⟨ch, bits, rate⟩, bk, sh⟩) 25)) _
        have HO := hid (HO.out ⟨2, ⟨ch, bits, rate⟩, bk, sh⟩)
        generalize (((w.alloc (.cells (fvl ⟨ch, bits, rate⟩) 23)).alloc (.cells (cvl ⟨bk, od, wi, sh, ta, re⟩) 42)).alloc (.cells (ivl iz) 25)).alloc (.cells (ivl ⟨2, ⟨ch, bits, rate⟩, bk, sh⟩) 25) = W at *
        refine (HFR.out _).mono ?_
        rintro e w1 ⟨rfl, hb1⟩
        have HO := hid (HO.out.more hb1)
        clear hb1
        go_wp2_with (refine wpList_store_row rfl 25 _ _ rfl (w.heap.size + 1 + 1) (ivl iz) rfl rfl 25 (ivl iz) HO.out.z.row (ivl_size _) rfl (ivl_one _) ?_)
        refine bodyPost_ret (res_ct (p := 6) (u := 7) (ty := 25) (by kernel_rfl) _ _ (w.heap.size + 1 + 1) 25 (ivl iz) (0, 0) _ rfl (setRow_heap _ _ _ _ _ _ HO.out.z.row) Try.underlying25 rfl (ivl_size _) rfl) rfl ?_
        refine ⟨?_, fr_rowBelow HO.out.b (by omega)⟩
        rw [HE.out, HR.out]
        rfl
      · go_enter Try.func19, Try.ntmps19
        go_wp2_with fail
        change Calls _ _ _ ((((w.alloc (.cells (fvl ⟨ch, bits, rate⟩) 23)).alloc (.cells (cvl ⟨bk, od, wi, sh, ta, re⟩) 42)).alloc (.cells (ivl iz) 25)).alloc (.cells (ivl ⟨3, ⟨ch, bits, rate⟩, bk, 0⟩) 25)) _
        have HO := hid (HO.out ⟨3, ⟨ch, bits, rate⟩, bk, 0⟩)
        generalize (((w.alloc (.cells (fvl ⟨ch, bits, rate⟩) 23)).alloc (.cells (cvl ⟨bk, od, wi, sh, ta, re⟩) 42)).alloc (.cells (ivl iz) 25)).alloc (.cells (ivl ⟨3, ⟨ch, bits, rate⟩, bk, 0⟩) 25) = W at *
        refine (HFR.out _).mono ?_
        rintro e w1 ⟨rfl, hb1⟩
        have HO := hid (HO.out.more hb1)
        clear hb1
        go_wp2_with (refine wpList_store_row rfl 25 _ _ rfl (w.heap.size + 1 + 1) (ivl iz) rfl rfl 25 (ivl iz) HO.out.z.row (ivl_size _) rfl (ivl_one _) ?_)
        refine bodyPost_ret (res_ct (p := 6) (u := 7) (ty := 25) (by kernel_rfl) _ _ (w.heap.size + 1 + 1) 25 (ivl iz) (0, 0) _ rfl (setRow_heap _ _ _ _ _ _ HO.out.z.row) Try.underlying25 rfl (ivl_size _) rfl) rfl ?_
        refine ⟨?_, fr_rowBelow HO.out.b (by omega)⟩
        rw [HE.out, HR.out]
        rfl
  · have HE := hid (HOE.out.trans (if_pos h1))
    have HR := hid (HOR.out.trans (if_neg (by rw [HE.out]; decide)))
    have k1 : (k == 1) = false := by simp only [beq_eq_false_iff_ne]; omega
    have k2 : (k == 2) = false := by simp only [beq_eq_false_iff_ne]; omega
    have k3 : (k == 3) = false := by simp only [beq_eq_false_iff_ne]; omega
    clear h1
    have HO := hid (HO.out ⟨k, ⟨ch, bits, rate⟩, bk, sh⟩)
    go_enter Try.func19, Try.ntmps19
    go_wp2_with (refine wpList_store_row rfl 25 _ _ rfl (w.heap.size + 1 + 1) (ivl iz) rfl rfl 25 (ivl iz) HO.out.z.row (ivl_size _) rfl (ivl_one _) ?_)
    refine bodyPost_ret (res_ct (p := 6) (u := 7) (ty := 25) (by kernel_rfl) _ _ (w.heap.size + 1 + 1) 25 (ivl iz) (0, 0) _ rfl (setRow_heap _ _ _ _ _ _ HO.out.z.row) Try.underlying25 rfl (ivl_size _) rfl) rfl ?_
    refine ⟨?_, fr_rowBelow HO.out.b (by omega)⟩
    rw [HE.out, HR.out]
    rfl
end Go.Proofs.Ythaikhnplbbdlaa.Inf
