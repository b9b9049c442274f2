/- Of, of the program and of the document. No condition. -/
import Derived.Test.YthaikhnplbbdlaaNh
import Derived.Test.YthaikhnplbbdlaaNc
namespace Go.Proofs.Ythaikhnplbbdlaa.Inf
open Go.RowKit Gen Fld Pcm
open Crc hiding hid

/-- The info of a kind, a format and settings. -/
def ofI (k : Int) (f : Fmt) (c : Cf) : If := ⟨k, f, c.bk, if k = 3 then 0 else c.sh⟩
def ofE (k : Int) (f : Fmt) (c : Cf) : Int := if ¬ (k = 1 ∨ k = 2 ∨ k = 3) then 31 else if ¬ f.right then 20 else cE c
def ofR (k : Int) (f : Fmt) (c : Cf) : If := if ofE k f c = 0 then ofI k f c else iz
theorem ce_two (c : Cf) : cE c = 0 ∨ cE c = 23 := by unfold cE; split <;> simp
def fvl (f : Fmt) : Array Value := #[.int .i64 f.ch, .int .i64 f.bits, .int .i64 f.rate]
/-- The result's cell, behind the boxes of the parameters. -/
theorem of_cell (w : World) (f : Fmt) (c : Cf) : Bx (((w.alloc (.cells (fvl f) 23)).alloc (.cells (cvl c) 42)).alloc (.cells (ivl iz) 25)) (w.heap.size + 1 + 1) iz := by
  have := Bx.new ((w.alloc (.cells (fvl f) 23)).alloc (.cells (cvl c) 42)) iz
  rw [show ((w.alloc (.cells (fvl f) 23)).alloc (.cells (cvl c) 42)).heap.size = w.heap.size + 1 + 1 from by rw [Deep.nblk_alloc, Deep.nblk_alloc]] at this
  exact this
theorem of_conf (w : World) (f : Fmt) (c : Cf) (o : Obj) : Cx (((w.alloc (.cells (fvl f) 23)).alloc (.cells (cvl c) 42)).alloc o) (w.heap.size + 1) c := by
  have h := Cx.new (w.alloc (.cells (fvl f) 23)) c
  rw [show (w.alloc (.cells (fvl f) 23)).heap.size = w.heap.size + 1 from Deep.nblk_alloc _ _] at h
  exact h.below (below_new _ _) (by rw [Deep.nblk_alloc, Deep.nblk_alloc]; omega)
theorem of_form (w : World) (f : Fmt) (o o2 : Obj) : (((w.alloc (.cells (fvl f) 23)).alloc o).alloc o2).heap[w.heap.size]? = some (.cells (fvl f) 23 (0, 0)) :=
  (Deep.blk_alloc_lt _ _ _ (by rw [Deep.nblk_alloc, Deep.nblk_alloc]; omega)).trans ((Deep.blk_alloc_lt _ _ _ (by rw [Deep.nblk_alloc]; omega)).trans (heap_alloc_new _ _))
theorem below3 (w : World) (o1 o2 o3 : Obj) : Below w.heap.size w (((w.alloc o1).alloc o2).alloc o3) := ((below_new w _).alloc (below_new w _).size _).alloc ((below_new w _).alloc (below_new w _).size _).size _
set_option maxHeartbeats 4000000 in
theorem rof_any (k ch bits rate bk od wi sh ta re : Int) (w : World) : Calls Try.prog 20 #[.int .i64 k, .agg #[.int .i64 ch, .int .i64 bits, .int .i64 rate], .agg #[.int .i64 bk, .int .i64 od, .int .i64 wi, .int .i64 sh, .int .i64 ta, .int .i64 re]] w (InfP w (ofR k ⟨ch, bits, rate⟩ ⟨bk, od, wi, sh, ta, re⟩) (ofE k ⟨ch, bits, rate⟩ ⟨bk, od, wi, sh, ta, re⟩)) := by
  have HF := hid (of_form w ⟨ch, bits, rate⟩ (.cells (cvl ⟨bk, od, wi, sh, ta, re⟩) 42) (.cells (ivl iz) 25))
  have HFR := hid fun w => (show Calls Try.prog 31 #[.agg #[.int .i64 ch, .int .i64 bits, .int .i64 rate]] w _ from Pcm.rright_any ⟨ch, bits, rate⟩ w)
  have HCF := hid fun w => (show Calls Try.prog 22 #[.agg #[.int .i64 bk, .int .i64 od, .int .i64 wi, .int .i64 sh, .int .i64 ta, .int .i64 re]] w _ from rsett_any ⟨bk, od, wi, sh, ta, re⟩ w)
  have HZ := hid (of_cell w ⟨ch, bits, rate⟩ ⟨bk, od, wi, sh, ta, re⟩)
  have HC := hid (of_conf w ⟨ch, bits, rate⟩ ⟨bk, od, wi, sh, ta, re⟩ (.cells (ivl iz) 25))
  have HB := hid (below3 w (.cells (fvl ⟨ch, bits, rate⟩) 23) (.cells (cvl ⟨bk, od, wi, sh, ta, re⟩) 42) (.cells (ivl iz) 25))
  have HOE := hid (show ofE k ⟨ch, bits, rate⟩ ⟨bk, od, wi, sh, ta, re⟩ = if ¬ (k = 1 ∨ k = 2 ∨ k = 3) then 31 else if ¬ (⟨ch, bits, rate⟩ : Fmt).right then 20 else cE ⟨bk, od, wi, sh, ta, re⟩ from rfl)
  have HOR := hid (show ofR k ⟨ch, bits, rate⟩ ⟨bk, od, wi, sh, ta, re⟩ = if ofE k ⟨ch, bits, rate⟩ ⟨bk, od, wi, sh, ta, re⟩ = 0 then ofI k ⟨ch, bits, rate⟩ ⟨bk, od, wi, sh, ta, re⟩ else iz from rfl)
  unfold InfP
  by_cases h1 : k = 1 ∨ k = 2 ∨ k = 3
  · by_cases h2 : (⟨ch, bits, rate⟩ : Fmt).right
    · have HE := hid (HOE.out.trans ((if_neg (fun h => h h1)).trans (if_neg (fun h => h h2))))
      rw [decide_eq_true h2] at HFR
      have HN := hid (show ∀ r s v : World, Below r.heap.size r s → Below s.heap.size s v → Below r.heap.size r v from fun r s v h g => h.trans (g.mono h.size))
      clear h2
      rcases ce_two ⟨bk, od, wi, sh, ta, re⟩ with h3 | h3
      · have HEE := hid (HE.out.trans h3)
        have HR := hid (HOR.out.trans (if_pos HEE.out))
        rw [h3] at HCF
        clear h3 HE
        have HE := HEE
        rcases h1 with rfl | rfl | rfl
        · go_enter Try.func20, Try.ntmps20
          go_wp2_with fail
          change Calls _ _ _ (((w.alloc (.cells (fvl ⟨ch, bits, rate⟩) 23)).alloc (.cells (cvl ⟨bk, od, wi, sh, ta, re⟩) 42)).alloc (.cells (ivl iz) 25)) _
          generalize ((w.alloc (.cells (fvl ⟨ch, bits, rate⟩) 23)).alloc (.cells (cvl ⟨bk, od, wi, sh, ta, re⟩) 42)).alloc (.cells (ivl iz) 25) = W at *
          refine (HFR.out _).mono ?_
          rintro e w1 ⟨rfl, hb1⟩
          have hc := HC.out.below hb1 HC.out.lt
          have c0 := hc.c0; have c1 := hc.c1; have c2 := hc.c2; have c3 := hc.c3; have c4 := hc.c4; have c5 := hc.c5
          simp only [] at c0 c1 c2 c3 c4 c5
          go_wp2_with fail
          refine (HCF.out _).mono ?_
          rintro e w2 ⟨rfl, hb2⟩
          have hb := HN.out _ _ _ hb1 hb2
          clear c0 c1 c2 c3 c4 c5 hc
          have hc := HC.out.below hb HC.out.lt
          have c0 := hc.c0; have c3 := hc.c3
          simp only [] at c0 c3
          have hf := (hb.block _ (World.block_lt_of_cell? _ _ (row_cell HF.out 0 rfl))).trans HF.out
          have f0 : w2.cell? ⟨w.heap.size, 0, none⟩ = some (.int .i64 ch) := row_cell hf 0 rfl
          have f1 : w2.cell? ⟨w.heap.size, 1, none⟩ = some (.int .i64 bits) := row_cell hf 1 rfl
          have f2 : w2.cell? ⟨w.heap.size, 2, none⟩ = some (.int .i64 rate) := row_cell hf 2 rfl
          have HZO := hid fun o => (HZ.out.below hb HZ.out.lt).below (below_new w2 o) (HZ.out.below hb HZ.out.lt).lt
          have HBO := hid fun o => (HB.out.trans (hb.mono HB.out.size)).trans ((below_new w2 o).mono (HB.out.trans (hb.mono HB.out.size)).size)
          clear hb1 hb2 hb hc hf
          go_wp2_with (refine wpList_store_row rfl 25 _ _ rfl (w.heap.size + 1 + 1) (ivl ⟨1, ⟨ch, bits, rate⟩, bk, sh⟩) rfl rfl 25 (ivl iz) (HZO.out _).row (ivl_size _) rfl (ivl_one _) ?_)
          refine bodyPost_ret (res_ct (p := 6) (u := 7) (ty := 25) (by kernel_rfl) _ _ (w.heap.size + 1 + 1) 25 (ivl ⟨1, ⟨ch, bits, rate⟩, bk, sh⟩) (0, 0) _ rfl (setRow_heap _ _ _ _ _ _ (HZO.out _).row) Try.underlying25 rfl (ivl_size _) rfl) rfl ?_
          refine ⟨?_, fr_rowBelow (HBO.out _) (by omega)⟩
          rw [HE.out, HR.out]
          rfl
        · go_enter Try.func20, Try.ntmps20
          go_wp2_with fail
          change Calls _ _ _ (((w.alloc (.cells (fvl ⟨ch, bits, rate⟩) 23)).alloc (.cells (cvl ⟨bk, od, wi, sh, ta, re⟩) 42)).alloc (.cells (ivl iz) 25)) _
          generalize ((w.alloc (.cells (fvl ⟨ch, bits, rate⟩) 23)).alloc (.cells (cvl ⟨bk, od, wi, sh, ta, re⟩) 42)).alloc (.cells (ivl iz) 25) = W at *
          refine (HFR.out _).mono ?_
          rintro e w1 ⟨rfl, hb1⟩
          have hc := HC.out.below hb1 HC.out.lt
          have c0 := hc.c0; have c1 := hc.c1; have c2 := hc.c2; have c3 := hc.c3; have c4 := hc.c4; have c5 := hc.c5
          simp only [] at c0 c1 c2 c3 c4 c5
          go_wp2_with fail
          refine (HCF.out _).mono ?_
          rintro e w2 ⟨rfl, hb2⟩
          have hb := HN.out _ _ _ hb1 hb2
          clear c0 c1 c2 c3 c4 c5 hc
          have hc := HC.out.below hb HC.out.lt
          have c0 := hc.c0; have c3 := hc.c3
          simp only [] at c0 c3
          have hf := (hb.block _ (World.block_lt_of_cell? _ _ (row_cell HF.out 0 rfl))).trans HF.out
          have f0 : w2.cell? ⟨w.heap.size, 0, none⟩ = some (.int .i64 ch) := row_cell hf 0 rfl
          have f1 : w2.cell? ⟨w.heap.size, 1, none⟩ = some (.int .i64 bits) := row_cell hf 1 rfl
          have f2 : w2.cell? ⟨w.heap.size, 2, none⟩ = some (.int .i64 rate) := row_cell hf 2 rfl
          have HZO := hid fun o => (HZ.out.below hb HZ.out.lt).below (below_new w2 o) (HZ.out.below hb HZ.out.lt).lt
          have HBO := hid fun o => (HB.out.trans (hb.mono HB.out.size)).trans ((below_new w2 o).mono (HB.out.trans (hb.mono HB.out.size)).size)
          clear hb1 hb2 hb hc hf
          go_wp2_with (refine wpList_store_row rfl 25 _ _ rfl (w.heap.size + 1 + 1) (ivl ⟨2, ⟨ch, bits, rate⟩, bk, sh⟩) rfl rfl 25 (ivl iz) (HZO.out _).row (ivl_size _) rfl (ivl_one _) ?_)
          refine bodyPost_ret (res_ct (p := 6) (u := 7) (ty := 25) (by kernel_rfl) _ _ (w.heap.size + 1 + 1) 25 (ivl ⟨2, ⟨ch, bits, rate⟩, bk, sh⟩) (0, 0) _ rfl (setRow_heap _ _ _ _ _ _ (HZO.out _).row) Try.underlying25 rfl (ivl_size _) rfl) rfl ?_
          refine ⟨?_, fr_rowBelow (HBO.out _) (by omega)⟩
          rw [HE.out, HR.out]
          rfl
        · go_enter Try.func20, Try.ntmps20
          go_wp2_with fail
          change Calls _ _ _ (((w.alloc (.cells (fvl ⟨ch, bits, rate⟩) 23)).alloc (.cells (cvl ⟨bk, od, wi, sh, ta, re⟩) 42)).alloc (.cells (ivl iz) 25)) _
          generalize ((w.alloc (.cells (fvl ⟨ch, bits, rate⟩) 23)).alloc (.cells (cvl ⟨bk, od, wi, sh, ta, re⟩) 42)).alloc (.cells (ivl iz) 25) = W at *
          refine (HFR.out _).mono ?_
          rintro e w1 ⟨rfl, hb1⟩
          have hc := HC.out.below hb1 HC.out.lt
          have c0 := hc.c0; have c1 := hc.c1; have c2 := hc.c2; have c3 := hc.c3; have c4 := hc.c4; have c5 := hc.c5
          simp only [] at c0 c1 c2 c3 c4 c5
          go_wp2_with fail
          refine (HCF.out _).mono ?_
          rintro e w2 ⟨rfl, hb2⟩
          have hb := HN.out _ _ _ hb1 hb2
          clear c0 c1 c2 c3 c4 c5 hc
          have hc := HC.out.below hb HC.out.lt
          have c0 := hc.c0; have c3 := hc.c3
          simp only [] at c0 c3
          have hf := (hb.block _ (World.block_lt_of_cell? _ _ (row_cell HF.out 0 rfl))).trans HF.out
          have f0 : w2.cell? ⟨w.heap.size, 0, none⟩ = some (.int .i64 ch) := row_cell hf 0 rfl
          have f1 : w2.cell? ⟨w.heap.size, 1, none⟩ = some (.int .i64 bits) := row_cell hf 1 rfl
          have f2 : w2.cell? ⟨w.heap.size, 2, none⟩ = some (.int .i64 rate) := row_cell hf 2 rfl
          have HZO := hid fun o => (HZ.out.below hb HZ.out.lt).below (below_new w2 o) (HZ.out.below hb HZ.out.lt).lt
          have HBO := hid fun o => (HB.out.trans (hb.mono HB.out.size)).trans ((below_new w2 o).mono (HB.out.trans (hb.mono HB.out.size)).size)
          clear hb1 hb2 hb hc hf
          go_wp2_with (refine wpList_store_row rfl 25 _ _ rfl (w.heap.size + 1 + 1) (ivl ⟨3, ⟨ch, bits, rate⟩, bk, 0⟩) rfl rfl 25 (ivl iz) (HZO.out _).row (ivl_size _) rfl (ivl_one _) ?_)
          refine bodyPost_ret (res_ct (p := 6) (u := 7) (ty := 25) (by kernel_rfl) _ _ (w.heap.size + 1 + 1) 25 (ivl ⟨3, ⟨ch, bits, rate⟩, bk, 0⟩) (0, 0) _ rfl (setRow_heap _ _ _ _ _ _ (HZO.out _).row) Try.underlying25 rfl (ivl_size _) rfl) rfl ?_
          refine ⟨?_, fr_rowBelow (HBO.out _) (by omega)⟩
          rw [HE.out, HR.out]
          rfl
      · have HEE := hid (HE.out.trans h3)
        have HR := hid (HOR.out.trans (if_neg (by rw [HEE.out]; decide)))
        rw [h3] at HCF
        clear h3 HE
        have HE := HEE
        rcases h1 with rfl | rfl | rfl
        all_goals
          go_enter Try.func20, Try.ntmps20
          go_wp2_with fail
          change Calls _ _ _ (((w.alloc (.cells (fvl ⟨ch, bits, rate⟩) 23)).alloc (.cells (cvl ⟨bk, od, wi, sh, ta, re⟩) 42)).alloc (.cells (ivl iz) 25)) _
          generalize ((w.alloc (.cells (fvl ⟨ch, bits, rate⟩) 23)).alloc (.cells (cvl ⟨bk, od, wi, sh, ta, re⟩) 42)).alloc (.cells (ivl iz) 25) = W at *
          refine (HFR.out _).mono ?_
          rintro e w1 ⟨rfl, hb1⟩
          have hc := HC.out.below hb1 HC.out.lt
          have c0 := hc.c0; have c1 := hc.c1; have c2 := hc.c2; have c3 := hc.c3; have c4 := hc.c4; have c5 := hc.c5
          simp only [] at c0 c1 c2 c3 c4 c5
          go_wp2_with fail
          refine (HCF.out _).mono ?_
          rintro e w2 ⟨rfl, hb2⟩
          have hb := HN.out _ _ _ hb1 hb2
          have HZ2 := hid (HZ.out.below hb HZ.out.lt)
          have HB2 := hid (HB.out.trans (hb.mono HB.out.size))
          clear c0 c1 c2 c3 c4 c5 hc hb1 hb2 hb
          go_wp2_with (refine wpList_store_row rfl 25 _ _ rfl (w.heap.size + 1 + 1) (ivl iz) rfl rfl 25 (ivl iz) HZ2.out.row (ivl_size _) rfl (ivl_one _) ?_)
          refine bodyPost_ret (res_ct (p := 6) (u := 7) (ty := 25) (by kernel_rfl) _ _ (w.heap.size + 1 + 1) 25 (ivl iz) (0, 0) _ rfl (setRow_heap _ _ _ _ _ _ HZ2.out.row) Try.underlying25 rfl (ivl_size _) rfl) rfl ?_
          refine ⟨?_, fr_rowBelow HB2.out (by omega)⟩
          rw [HE.out, HR.out]
          rfl
    · have HE := hid (HOE.out.trans ((if_neg (fun h => h h1)).trans (if_pos h2)))
      have HR := hid (HOR.out.trans (if_neg (by rw [HE.out]; decide)))
      rw [decide_eq_false h2] at HFR
      clear h2
      rcases h1 with rfl | rfl | rfl
      all_goals
        go_enter Try.func20, Try.ntmps20
        go_wp2_with fail
        change Calls _ _ _ (((w.alloc (.cells (fvl ⟨ch, bits, rate⟩) 23)).alloc (.cells (cvl ⟨bk, od, wi, sh, ta, re⟩) 42)).alloc (.cells (ivl iz) 25)) _
        generalize ((w.alloc (.cells (fvl ⟨ch, bits, rate⟩) 23)).alloc (.cells (cvl ⟨bk, od, wi, sh, ta, re⟩) 42)).alloc (.cells (ivl iz) 25) = W at *
        refine (HFR.out _).mono ?_
        rintro e w1 ⟨rfl, hb1⟩
        have HZ2 := hid (HZ.out.below hb1 HZ.out.lt)
        have HB2 := hid (HB.out.trans (hb1.mono HB.out.size))
        clear hb1
        go_wp2_with (refine wpList_store_row rfl 25 _ _ rfl (w.heap.size + 1 + 1) (ivl iz) rfl rfl 25 (ivl iz) HZ2.out.row (ivl_size _) rfl (ivl_one _) ?_)
        refine bodyPost_ret (res_ct (p := 6) (u := 7) (ty := 25) (by kernel_rfl) _ _ (w.heap.size + 1 + 1) 25 (ivl iz) (0, 0) _ rfl (setRow_heap _ _ _ _ _ _ HZ2.out.row) Try.underlying25 rfl (ivl_size _) rfl) rfl ?_
        refine ⟨?_, fr_rowBelow HB2.out (by omega)⟩
        rw [HE.out, HR.out]
        rfl
  · have HE := hid (HOE.out.trans (if_pos h1))
    have HR := hid (HOR.out.trans (if_neg (by rw [HE.out]; decide)))
    by_cases h2 : k < 1
    · clear h1
      go_enter Try.func20, Try.ntmps20
      go_wp2_with (refine wpList_store_row rfl 25 _ _ rfl (w.heap.size + 1 + 1) (ivl iz) rfl rfl 25 (ivl iz) HZ.out.row (ivl_size _) rfl (ivl_one _) ?_)
      refine bodyPost_ret (res_ct (p := 6) (u := 7) (ty := 25) (by kernel_rfl) _ _ (w.heap.size + 1 + 1) 25 (ivl iz) (0, 0) _ rfl (setRow_heap _ _ _ _ _ _ HZ.out.row) Try.underlying25 rfl (ivl_size _) rfl) rfl ?_
      refine ⟨?_, fr_rowBelow HB.out (by omega)⟩
      rw [HE.out, HR.out]
      rfl
    · have h3 : 3 < k := by omega
      clear h1
      go_enter Try.func20, Try.ntmps20
      go_wp2_with (refine wpList_store_row rfl 25 _ _ rfl (w.heap.size + 1 + 1) (ivl iz) rfl rfl 25 (ivl iz) HZ.out.row (ivl_size _) rfl (ivl_one _) ?_)
      refine bodyPost_ret (res_ct (p := 6) (u := 7) (ty := 25) (by kernel_rfl) _ _ (w.heap.size + 1 + 1) 25 (ivl iz) (0, 0) _ rfl (setRow_heap _ _ _ _ _ _ HZ.out.row) Try.underlying25 rfl (ivl_size _) rfl) rfl ?_
      refine ⟨?_, fr_rowBelow HB.out (by omega)⟩
      rw [HE.out, HR.out]
      rfl
end Go.Proofs.Ythaikhnplbbdlaa.Inf
