/- Parse of the document: a file is taken apart, or refused. Conditions: at most 2^30 bytes, which lie in old memory. -/
import Derived.Test.YthjjonbkfkpkmaaGreatDoorY41
namespace Go.Proofs.YthjjonbkfkpkmaaGreatDoor.Fil
open Go.RowKit Gen
open Tl (il il_app rise TRt Tx)
attribute [local go_sem] Oper.semAt_some

theorem fr_two {B : Nat} {w w1 w2 : World} (h1 : Below B w w1) (h2 : Below B w w2) (hs : w1.heap.size ≤ w2.heap.size) : Fr (fun q => B ≤ q) w1 w2 :=
  ⟨h2.os.trans h1.os.symm, h2.tape.trans h1.tape.symm, h2.output.trans h1.output.symm, hs, fun k _ hk => (h2.block k (by omega)).trans (h1.block k (by omega)).symm⟩
set_option maxHeartbeats 8000000 in
set_option maxRecDepth 100000 in
theorem rparse_any {w : World} {ba : Option Addr} {b : List Nat} {bn bc : Nat} (hb : Byts w ba b) (hbn : b.length = bn) (hbc : bn ≤ bc) (hm : bn ≤ 1073741824) (hcm : bc ≤ 9223372036854775807) :
    Calls Tryz.prog 13 #[.slice ba bn bc] w (ParseP w b 102) := by
  have hbw := Inf.below_new w (.cells #[.int .i64 0, .int .i64 0, .int .i64 0, .int .i64 0, .int .i64 0, .int .i64 0, .slice none 0 0, .slice none 0 0, .int .i64 0, .int .u32 0, .slice none 0 0] 50)
  have HZ := hid (heap_alloc_new w (.cells #[.int .i64 0, .int .i64 0, .int .i64 0, .int .i64 0, .int .i64 0, .int .i64 0, .slice none 0 0, .slice none 0 0, .int .i64 0, .int .u32 0, .slice none 0 0] 50))
  have HBY := hid (hb.keep hbw)
  have HB0 := hid hbw
  have HBYW := hid hb
  have HIG := hid (show Calls Tryz.prog 38 #[.slice ba bn bc] (w.alloc (.cells #[.int .i64 0, .int .i64 0, .int .i64 0, .int .i64 0, .int .i64 0, .int .i64 0, .slice none 0 0, .slice none 0 0, .int .i64 0, .int .u32 0, .slice none 0 0] 50)) (Inf.InfP (w.alloc (.cells #[.int .i64 0, .int .i64 0, .int .i64 0, .int .i64 0, .int .i64 0, .int .i64 0, .slice none 0 0, .slice none 0 0, .int .i64 0, .int .u32 0, .slice none 0 0] 50)) (Inf.getI b) (Inf.getE b)) from Inf.rget_any (cap := bc) hbn HBY.out hbc (by omega))
  have HBN := hid (And.intro hbn (And.intro hbc (And.intro hm hcm)))
  clear hb hbw hbn
  obtain ⟨E, hE⟩ : ∃ E, pfE b = E := ⟨_, rfl⟩
  unfold ParseP
  rw [hE]
  have HE := hid hE
  have HIL := hid fun h => info_len (b := b) h
  clear hE
  obtain ⟨i, hi⟩ : ∃ i, Inf.getI b = i := ⟨_, rfl⟩
  obtain ⟨ie, hie⟩ : ∃ ie, Inf.getE b = ie := ⟨_, rfl⟩
  rw [hi] at HIG ⊢
  rw [hie] at HIG HIL
  have HI := hid hi
  have HIE := hid hie
  clear hi hie
  go_enter Tryz.func13, Tryz.ntmps13
  go_wp2_with fail
  refine HIG.out.mono ?_
  rintro e w1 ⟨rfl, hb1⟩
  rw [show Inf.iv i = .agg (Inf.ivl i) from rfl]
  have HZ1 := hid ((hb1.block w.heap.size (World.block_lt_of_cell? _ _ (Inf.row_cell HZ.out 0 rfl))).trans HZ.out)
  have HBY1 := hid (HBY.out.keep hb1)
  have HB1 := hid (HB0.out.trans (hb1.mono HB0.out.size))
  have HGI := hid (show w.heap.size < w1.heap.size from World.block_lt_of_cell? _ _ (Inf.row_cell HZ1.out 0 rfl))
  have HAN := hid (heap_alloc_new w1 (.cells #[.int .i64 0, .int .i64 0, .int .i64 0, .int .i64 0, .int .i64 0, .int .i64 0] 25))
  have hb2 : Below w1.heap.size w1 ((w1.alloc (.cells #[.int .i64 0, .int .i64 0, .int .i64 0, .int .i64 0, .int .i64 0, .int .i64 0] 25)).setRow w1.heap.size (Inf.ivl i)) := Inf.fr_rowBelow (Inf.below_new w1 _) (Nat.le_refl _)
  have HX2 := hid (show Inf.Bx ((w1.alloc (.cells #[.int .i64 0, .int .i64 0, .int .i64 0, .int .i64 0, .int .i64 0, .int .i64 0] 25)).setRow w1.heap.size (Inf.ivl i)) w1.heap.size i from ⟨setRow_heap _ _ _ _ _ _ HAN.out⟩)
  have HZ2 := hid ((hb2.block w.heap.size (World.block_lt_of_cell? _ _ (Inf.row_cell HZ1.out 0 rfl))).trans HZ1.out)
  have HBY2 := hid (HBY1.out.keep hb2)
  have HB2 := hid (HB1.out.trans (hb2.mono HB1.out.size))
  clear hb1 hb2 HZ HZ1 HBY HBY1 HB0 HB1 HIG
  by_cases hie : ie = 0
  rotate_left 1
  · have hX : E = ie := by rw [← HE.out]; unfold pfE; rw [HIE.out, if_pos hie]
    have hie' : (ie != 0) = true := bne_iff_ne.2 hie
    go_wp2_with (first
      | (refine wpList_store_row rfl 25 _ _ rfl w1.heap.size (Inf.ivl i) rfl rfl 25 #[.int .i64 0, .int .i64 0, .int .i64 0, .int .i64 0, .int .i64 0, .int .i64 0] HAN.out (Inf.ivl_size i) rfl (by simp [Inf.ivl, Value.oneCell']) ?_)
      | (refine wpList_store_row rfl 50 _ _ rfl w.heap.size #[.int .i64 0, .int .i64 0, .int .i64 0, .int .i64 0, .int .i64 0, .int .i64 0, .slice none 0 0, .slice none 0 0, .int .i64 0, .int .u32 0, .slice none 0 0] rfl rfl 50 #[.int .i64 0, .int .i64 0, .int .i64 0, .int .i64 0, .int .i64 0, .int .i64 0, .slice none 0 0, .slice none 0 0, .int .i64 0, .int .u32 0, .slice none 0 0] HZ2.out size50 rfl (by simp [Value.oneCell']) ?_))
    refine bodyPost_ret (Head.res_ct (p := 2) (u := 3) (ty := 50) (by kernel_rfl) _ _ w.heap.size 50 #[.int .i64 0, .int .i64 0, .int .i64 0, .int .i64 0, .int .i64 0, .int .i64 0, .slice none 0 0, .slice none 0 0, .int .i64 0, .int .u32 0, .slice none 0 0] (0, 0) _ rfl (setRow_heap _ _ _ _ _ _ HZ2.out) Tryz.underlying50 rfl size50 rfl) rfl ?_
    exact ⟨Inf.fr_rowBelow HB2.out (Nat.le_refl _), .inl ⟨by rw [hX]; exact hie, by rw [hX]; rfl⟩⟩
  subst hie
  have HE1 := hid (show E = if Tg.gF (b.drop 19) ≠ 0 then Tg.gF (b.drop 19) else if (psR b).2 ≠ 0 then (psR b).2 else tlE (psR b).1 (b.drop (psR b).1.at_) from by rw [← HE.out]; unfold pfE; rw [HIE.out, if_neg (fun h => h rfl)])
  have h19 : 19 ≤ bn := by rw [← HBN.out.1]; exact HIL.out rfl
  obtain ⟨bq, bo, rfl⟩ : ∃ bq bo, ba = some ⟨bq, bo, none⟩ := by
    obtain ⟨q, off, e, _⟩ := HBY2.out.at_ 0 _ (List.getElem?_eq_getElem (by rw [HBN.out.1]; omega))
    exact ⟨q, off, e⟩
  have HBL := hid (show ∀ q, blk (some (⟨bq, bo, none⟩ : Addr)) = some q → q < w.heap.size from fun q hq => by
    obtain ⟨q', off', e', hc'⟩ := HBYW.out.at_ 0 _ (List.getElem?_eq_getElem (by rw [HBN.out.1]; omega))
    cases e'
    have e2 : bq = q := by simpa [blk] using hq
    exact e2 ▸ World.block_lt_of_cell? _ _ hc')
  have hdl : (b.drop 19).length = bn - 19 := by rw [List.length_drop, HBN.out.1]
  have h19i : (19 : Int) ≤ (bn : Int) := by omega
  have h19c : 19 ≤ bc := by omega
  by_cases hcap : bc = 19
  · -- nothing behind the info
    have hbn19 : bn = 19 := by omega
    subst hcap
    subst hbn19
    have hd0 : b.drop 19 = [] := List.eq_nil_of_length_eq_zero (by rw [hdl])
    have hX : E = Tg.gF (b.drop 19) := by rw [HE1.out, if_pos (by rw [hd0]; exact gF_nil)]
    rw [hd0] at hX
    have HTG := hid fun (a : Option Addr) => Tg.rget_any (w := ((w1.alloc (.cells #[.int .i64 0, .int .i64 0, .int .i64 0, .int .i64 0, .int .i64 0, .int .i64 0] 25)).setRow w1.heap.size (Inf.ivl i))) (a := a) (b := []) (len := 0) (cap := 0) rfl (Byts.nil _ _) (fun _ => rfl) (Nat.le_refl _) (by omega) (Nat.zero_le _)
    go_wp2_with (refine wpList_store_row rfl 25 _ _ rfl w1.heap.size (Inf.ivl i) rfl rfl 25 #[.int .i64 0, .int .i64 0, .int .i64 0, .int .i64 0, .int .i64 0, .int .i64 0] HAN.out (Inf.ivl_size i) rfl (by simp [Inf.ivl, Value.oneCell']) ?_)
    refine (HTG.out _).mono ?_
    rintro e w3 ⟨at3, ct3, rfl, ho3, hb3⟩
    have HZ3 := hid ((hb3.block w.heap.size (World.block_lt_of_cell? _ _ (Inf.row_cell HZ2.out 0 rfl))).trans HZ2.out)
    have HB3 := hid (HB2.out.trans (hb3.mono HB2.out.size))
    have hg' : (Tg.gF [] != 0) = true := bne_iff_ne.2 gF_nil
    have hgx := gF_nil
    rw [← hX] at hg' hgx ⊢
    clear hb3 ho3
    go_wp2_with (refine wpList_store_row rfl 50 _ _ rfl w.heap.size #[.int .i64 0, .int .i64 0, .int .i64 0, .int .i64 0, .int .i64 0, .int .i64 0, .slice none 0 0, .slice none 0 0, .int .i64 0, .int .u32 0, .slice none 0 0] rfl rfl 50 #[.int .i64 0, .int .i64 0, .int .i64 0, .int .i64 0, .int .i64 0, .int .i64 0, .slice none 0 0, .slice none 0 0, .int .i64 0, .int .u32 0, .slice none 0 0] HZ3.out size50 rfl (by simp [Value.oneCell']) ?_)
    refine bodyPost_ret (Head.res_ct (p := 2) (u := 3) (ty := 50) (by kernel_rfl) _ _ w.heap.size 50 #[.int .i64 0, .int .i64 0, .int .i64 0, .int .i64 0, .int .i64 0, .int .i64 0, .slice none 0 0, .slice none 0 0, .int .i64 0, .int .u32 0, .slice none 0 0] (0, 0) _ rfl (setRow_heap _ _ _ _ _ _ HZ3.out) Tryz.underlying50 rfl size50 rfl) rfl ?_
    exact ⟨Inf.fr_rowBelow HB3.out (Nat.le_refl _), .inl ⟨hgx, by rw [hX]; rfl⟩⟩
  have hne : ¬ bc = 19 := hcap
  have HTG := hid (show Calls Tryz.prog 39 #[.slice (some ⟨bq, bo + 19, none⟩) (bn - 19) (bc - 19)] ((w1.alloc (.cells #[.int .i64 0, .int .i64 0, .int .i64 0, .int .i64 0, .int .i64 0, .int .i64 0] 25)).setRow w1.heap.size (Inf.ivl i)) (Tg.GetP ((w1.alloc (.cells #[.int .i64 0, .int .i64 0, .int .i64 0, .int .i64 0, .int .i64 0, .int .i64 0] 25)).setRow w1.heap.size (Inf.ivl i)) (b.drop 19)) from Tg.rget_any (w := ((w1.alloc (.cells #[.int .i64 0, .int .i64 0, .int .i64 0, .int .i64 0, .int .i64 0, .int .i64 0] 25)).setRow w1.heap.size (Inf.ivl i))) (a := some ⟨bq, bo + 19, none⟩) (b := b.drop 19) (len := bn - 19) (cap := bc - 19) hdl (HBY2.out.drop 19) (fun e => by cases e) (by omega) (by omega) (by omega))
  have HGP := hid (gP_le (b.drop 19))
  obtain ⟨gf, hgf⟩ : ∃ gf, Tg.gF (b.drop 19) = gf := ⟨_, rfl⟩
  obtain ⟨gp, hgp⟩ : ∃ gp, Tg.gP (b.drop 19) = gp := ⟨_, rfl⟩
  rw [hgp, hdl] at HGP
  rw [hgf] at HE1
  unfold Tg.GetP at HTG
  rw [hgf, hgp] at HTG
  have HGQ := hid hgp
  clear hgf hgp hdl hcap
  go_wp2_with (refine wpList_store_row rfl 25 _ _ rfl w1.heap.size (Inf.ivl i) rfl rfl 25 #[.int .i64 0, .int .i64 0, .int .i64 0, .int .i64 0, .int .i64 0, .int .i64 0] HAN.out (Inf.ivl_size i) rfl (by simp [Inf.ivl, Value.oneCell']) ?_)
  refine HTG.out.mono ?_
  rintro e w3 ⟨at3, ct3, rfl, ho3, hb3⟩
  have HZ3 := hid ((hb3.block w.heap.size (World.block_lt_of_cell? _ _ (Inf.row_cell HZ2.out 0 rfl))).trans HZ2.out)
  have HX3 := hid (HX2.out.below hb3 HX2.out.lt)
  have HBY3 := hid (HBY2.out.keep hb3)
  have HB3 := hid (HB2.out.trans (hb3.mono HB2.out.size))
  have HO3 := hid (show Tg.Ow w3 (w.heap.size + 1) at3 ct3 (Tg.gL (b.drop 19)) from own_mono (base' := w.heap.size + 1) ho3 (show w.heap.size + 1 ≤ ((w1.alloc (.cells #[.int .i64 0, .int .i64 0, .int .i64 0, .int .i64 0, .int .i64 0, .int .i64 0] 25)).setRow w1.heap.size (Inf.ivl i)).heap.size from Nat.succ_le_of_lt (World.block_lt_of_cell? _ _ (Inf.row_cell HZ2.out 0 rfl))))
  have HGY := hid (show w1.heap.size < w3.heap.size from HX3.out.lt)
  have HTL3 := hid (show ∀ q, blk at3 = some q → q < w3.heap.size from fun q hq => (ho3.lt q (by rw [ownBlock_slice]; exact hq)).2)
  clear hb3 ho3 HTG HZ2 HX2 HBY2 HB2
  by_cases hgf0 : gf = 0
  rotate_left 1
  · have hX : E = gf := HE1.out.trans (if_pos hgf0)
    have hg' : (gf != 0) = true := bne_iff_ne.2 hgf0
    go_wp2_with (refine wpList_store_row rfl 50 _ _ rfl w.heap.size #[.int .i64 0, .int .i64 0, .int .i64 0, .int .i64 0, .int .i64 0, .int .i64 0, .slice none 0 0, .slice none 0 0, .int .i64 0, .int .u32 0, .slice none 0 0] rfl rfl 50 #[.int .i64 0, .int .i64 0, .int .i64 0, .int .i64 0, .int .i64 0, .int .i64 0, .slice none 0 0, .slice none 0 0, .int .i64 0, .int .u32 0, .slice none 0 0] HZ3.out size50 rfl (by simp [Value.oneCell']) ?_)
    refine bodyPost_ret (Head.res_ct (p := 2) (u := 3) (ty := 50) (by kernel_rfl) _ _ w.heap.size 50 #[.int .i64 0, .int .i64 0, .int .i64 0, .int .i64 0, .int .i64 0, .int .i64 0, .slice none 0 0, .slice none 0 0, .int .i64 0, .int .u32 0, .slice none 0 0] (0, 0) _ rfl (setRow_heap _ _ _ _ _ _ HZ3.out) Tryz.underlying50 rfl size50 rfl) rfl ?_
    exact ⟨Inf.fr_rowBelow HB3.out (Nat.le_refl _), .inl ⟨by rw [hX]; exact hgf0, by rw [hX]; rfl⟩⟩
  subst hgf0
  have HE2 := hid (HE1.out.trans (if_neg (fun h => h rfl)))
  have x0 := HX3.out.c0
  have x1 := HX3.out.c1
  have x2 := HX3.out.c2
  have x3 := HX3.out.c3
  have x4 := HX3.out.c4
  have x5 := HX3.out.c5
  have hgpl : gp ≤ bn - 19 := HGP.out
  have hu : wrap64 (19 + (gp : Int)) = 19 + (gp : Int) := IntWalk.wrap64_in _ (by omega)
  have hbn30 : bn ≤ 1073741824 := HBN.out.2.2.1
  clear HE1
  go_wp2_with fail
  have HNN := hid (heap_alloc_new w3 (.cells #[.int .i64 i.k, .int .i64 i.f.ch, .int .i64 i.f.bits, .int .i64 i.f.rate, .int .i64 i.bk, .int .i64 i.sh, .slice at3 (Tg.gL (b.drop 19)).length ct3, .slice none 0 0, .int .i64 0, .int .u32 0, .slice none 0 0] 50))
  have hbw4 := Inf.below_new w3 (.cells #[.int .i64 i.k, .int .i64 i.f.ch, .int .i64 i.f.bits, .int .i64 i.f.rate, .int .i64 i.bk, .int .i64 i.sh, .slice at3 (Tg.gL (b.drop 19)).length ct3, .slice none 0 0, .int .i64 0, .int .u32 0, .slice none 0 0] 50)
  have HE0 := hid (show (ps0 b).at_ = 19 + gp from by show 19 + Tg.gP (b.drop 19) = _; rw [HGQ.out])
  have HRJ0 := hid (show RJ w w1.heap.size w3.heap.size i b (some ⟨bq, bo, none⟩) at3 (Tg.gL (b.drop 19)).length ct3 (Tg.gL (b.drop 19)) (ps0 b) none 0 none 0 [] (w3.alloc (.cells #[.int .i64 i.k, .int .i64 i.f.ch, .int .i64 i.f.bits, .int .i64 i.f.rate, .int .i64 i.bk, .int .i64 i.sh, .slice at3 (Tg.gL (b.drop 19)).length ct3, .slice none 0 0, .int .i64 0, .int .u32 0, .slice none 0 0] 50)) from
    ⟨HX3.out.below hbw4 HX3.out.lt, HNN.out, (hbw4.block _ (World.block_lt_of_cell? _ _ (Inf.row_cell HZ3.out 0 rfl))).trans HZ3.out, HO3.out.keep hbw4, HTL3.out, World.ownsRow_nil _ _ _ _, World.ownsRow_nil _ _ _ _, Xs.nil _ _, (fun j x h => by simp at h), (fun q h => by cases h), HB3.out.trans (hbw4.mono HB3.out.size), ⟨HGI.out, HGY.out⟩, HBL.out, ⟨rfl, (by rw [HE0.out, HBN.out.1]; omega), Nat.zero_le _, Int.le_refl _, Int.le_refl _⟩⟩)
  have HPR := hid (show prun i b (bn - (ps0 b).at_ + 1) (ps0 b) = psR b from by
    unfold psR
    rw [HI.out, HBN.out.1]
    exact prun_fuel i b _ _ _ (by rw [HBN.out.1]; omega) (by rw [HBN.out.1]; omega))
  clear x0 x1 x2 x3 x4 x5 hu hbw4 HZ3 HX3 HBY3 HB3 HO3 HNN HAN HGI HGY HTL3 HGQ HGP hgpl hne h19i h19c
  generalize (w3.alloc (.cells #[.int .i64 i.k, .int .i64 i.f.ch, .int .i64 i.f.bits, .int .i64 i.f.rate, .int .i64 i.bk, .int .i64 i.sh, .slice at3 (Tg.gL (b.drop 19)).length ct3, .slice none 0 0, .int .i64 0, .int .u32 0, .slice none 0 0] 50)) = w4 at *
  generalize w1.heap.size = gi at *
  generalize w3.heap.size = gy at *
  go_loopg [10, 11, 12, 13, 14] (bn - (ps0 b).at_) (fun gh va vc vs vp vk wr => ∃ (s : Ns) (ap : Option Addr) (cp : Nat) (ab : Option Addr) (cb : Nat) (X : List Bv), gh = bn - s.at_ ∧ va = .int .i64 (s.at_ : Int) ∧ vc = .int .i64 s.c ∧ vs = .bool s.sh ∧ vp = .slice ap s.n cp ∧ vk = .int .i64 (s.n : Int) ∧ RJ w gi gy i b (some ⟨bq, bo, none⟩) at3 (Tg.gL (b.drop 19)).length ct3 (Tg.gL (b.drop 19)) s ap cp ab cb X wr ∧ prun i b (bn - s.at_ + 1) s = psR b)
  case atStart => exact ⟨ps0 b, none, 0, none, 0, [], rfl, (by rw [HE0.out, show ((19 + gp : Nat) : Int) = 19 + (gp : Int) by omega]), rfl, rfl, rfl, rfl, HRJ0.out, HPR.out⟩
  case round =>
    clear HRJ0 HPR HE0
    obtain ⟨s, ap, cp, ab, cb, X, hgh, rfl, rfl, rfl, rfl, rfl, hrj, hrun⟩ := hrel
    have HG := hid hgh
    have HRJ := hid hrj
    have HRN := hid hrun
    clear hgh hrj hrun
    have hat := HRJ.out.ok.at_
    rw [HBN.out.1] at hat
    have hle := HRJ.out.ok.le
    have hkle : (s.n : Int) ≤ (bn : Int) := by omega
    have hnb : s.n ≤ 1073741824 := by omega
    clear hle
    by_cases hend : s.at_ = bn
    · have hge : (bn : Int) ≤ (s.at_ : Int) := by omega
      have hR : psR b = (s, 10) := by rw [← HRN.out]; exact prun_end (by rw [HBN.out.1]; omega)
      have hX : E = 10 := by rw [HE2.out, hR]; rfl
      clear hR
      go_wp2_with (refine wpList_store_row rfl 50 _ _ rfl w.heap.size #[.int .i64 0, .int .i64 0, .int .i64 0, .int .i64 0, .int .i64 0, .int .i64 0, .slice none 0 0, .slice none 0 0, .int .i64 0, .int .u32 0, .slice none 0 0] rfl rfl 50 #[.int .i64 0, .int .i64 0, .int .i64 0, .int .i64 0, .int .i64 0, .int .i64 0, .slice none 0 0, .slice none 0 0, .int .i64 0, .int .u32 0, .slice none 0 0] HRJ.out.rz size50 rfl (by simp [Value.oneCell']) ?_)
      refine bodyPost_ret (Head.res_ct (p := 2) (u := 3) (ty := 50) (by kernel_rfl) _ _ w.heap.size 50 #[.int .i64 0, .int .i64 0, .int .i64 0, .int .i64 0, .int .i64 0, .int .i64 0, .slice none 0 0, .slice none 0 0, .int .i64 0, .int .u32 0, .slice none 0 0] (0, 0) _ rfl (setRow_heap _ _ _ _ _ _ HRJ.out.rz) Tryz.underlying50 rfl size50 rfl) rfl ?_
      exact ⟨Inf.fr_rowBelow HRJ.out.bel (Nat.le_refl _), .inl ⟨by rw [hX]; decide, by subst hX; rfl⟩⟩
    have hlt : s.at_ < bn := by omega
    obtain ⟨x, hx⟩ : ∃ x, b[s.at_]? = some x := ⟨_, List.getElem?_eq_getElem (by rw [HBN.out.1]; exact hlt)⟩
    have HGD := hid (show b.getD s.at_ 0 = x from by rw [List.getD_eq_getElem?_getD, hx]; rfl)
    have HBYR := hid (HBYW.out.stay (below_fr HRJ.out.bel) (fun q off e => by cases e; have := HBL.out bq rfl; omega))
    obtain ⟨q', off', e', hcw⟩ := HBYR.out.at_ s.at_ x hx
    cases e'
    have hlti : (s.at_ : Int) < (bn : Int) := by omega
    have hnge : ¬ (bn : Int) ≤ (s.at_ : Int) := by omega
    have hdl : (b.drop s.at_).length = bn - s.at_ := by rw [List.length_drop, HBN.out.1]
    have hbc : bn ≤ bc := HBN.out.2.1
    have hatc : s.at_ ≤ bc := by omega
    have hati : (s.at_ : Int) ≤ (bn : Int) := by omega
    have hnec : ¬ bc = s.at_ := by omega
    clear hx
    by_cases h69 : x = 69
    · subst h69
      have hR : psR b = (s, 0) := by rw [← HRN.out]; exact prun_tail (by rw [HBN.out.1]; exact hlt) HGD.out
      have HE3 := hid (show E = tlE s (b.drop s.at_) from by rw [HE2.out, hR]; rfl)
      have HPS := hid hR
      have h69i : (((69 : Nat) : Int) != 69) = false := by decide
      obtain ⟨r, hr⟩ : ∃ r, r = b.drop s.at_ := ⟨_, rfl⟩
      rw [← hr] at HE3 hdl
      have HTG := hid (Tl.trget_any (a := some ⟨bq, bo + s.at_, none⟩) (cap := bc - s.at_) hdl (hr ▸ HBYR.out.drop s.at_) (by omega) (by omega))
      have HR := hid hr
      have HDL := hid hdl
      clear hR hr hdl HRN HE2
      go_wp2_with fail
      refine HTG.out.mono ?_
      rintro e w5 ⟨hb5, hres⟩
      have HRJ5 := hid (HRJ.out.more hb5)
      have HB5 := hid (HRJ.out.bel.trans (hb5.mono HRJ.out.bel.size))
      have HAN := hid (heap_alloc_new w5 (.cells #[.int .i64 0, .int .u32 0, .slice none 0 0] 43))
      have HWR5 := hid (Nat.le_trans HRJ.out.gyl hb5.size)
      clear hb5 HTG hcw
      rcases hres with ⟨hE1, rfl⟩ | ⟨hE0, ax, cx, rfl, hnt, hnc, hcm, hnn, hnw⟩
      · have hX : E = Tl.tgE r := by rw [HE3.out]; unfold tlE; rw [if_pos hE1]
        rw [← hX] at hE1 ⊢
        have hb6 : Below w5.heap.size w5 ((w5.alloc (.cells #[.int .i64 0, .int .u32 0, .slice none 0 0] 43)).setRow w5.heap.size #[.int .i64 0, .int .u32 0, .slice none 0 0]) := Inf.fr_rowBelow (Inf.below_new w5 _) (Nat.le_refl _)
        have HRJ6 := hid (HRJ5.out.more hb6)
        have hE' : (E != 0) = true := bne_iff_ne.2 hE1
        clear hb6 HRJ5
        go_wp2_with (first
          | (refine wpList_store_row rfl 43 _ _ rfl w5.heap.size #[.int .i64 0, .int .u32 0, .slice none 0 0] rfl rfl 43 #[.int .i64 0, .int .u32 0, .slice none 0 0] HAN.out Tl.Tryz.size43 rfl (by simp [Value.oneCell']) ?_)
          | (refine wpList_store_row rfl 50 _ _ rfl w.heap.size #[.int .i64 0, .int .i64 0, .int .i64 0, .int .i64 0, .int .i64 0, .int .i64 0, .slice none 0 0, .slice none 0 0, .int .i64 0, .int .u32 0, .slice none 0 0] rfl rfl 50 #[.int .i64 0, .int .i64 0, .int .i64 0, .int .i64 0, .int .i64 0, .int .i64 0, .slice none 0 0, .slice none 0 0, .int .i64 0, .int .u32 0, .slice none 0 0] HRJ6.out.rz size50 rfl (by simp [Value.oneCell']) ?_))
        refine bodyPost_ret (Head.res_ct (p := 2) (u := 3) (ty := 50) (by kernel_rfl) _ _ w.heap.size 50 #[.int .i64 0, .int .i64 0, .int .i64 0, .int .i64 0, .int .i64 0, .int .i64 0, .slice none 0 0, .slice none 0 0, .int .i64 0, .int .u32 0, .slice none 0 0] (0, 0) _ rfl (setRow_heap _ _ _ _ _ _ HRJ6.out.rz) Tryz.underlying50 rfl size50 rfl) rfl ?_
        exact ⟨Inf.fr_rowBelow HRJ6.out.bel (Nat.le_refl _), .inl ⟨hE1, by rw [hX]; rfl⟩⟩
      have HNP := hid (tge_np hE0)
      have hE1 : E = if 18 + 5 * Tl.np r < r.length then 62 else if (Inf.at_ r 2 4 : Int) ≠ s.c then 61 else if Tl.plc r (Tl.np r) ≠ s.P then 60 else 0 := by rw [HE3.out]; unfold tlE; rw [if_neg (fun h => h hE0)]
      have HPL0 := hid (Tl.plc_len r (Tl.np r))
      rw [HDL.out] at hE1
      have HNT := hid hnt
      have HNC := hid (And.intro hnc (And.intro hnn hcm))
      have HE4 := hid hE1
      have HNW := hid (show ∀ q off, ax = some ⟨q, off, none⟩ → gy < q from fun q off e => Nat.lt_of_lt_of_le HRJ.out.gyl (hnw q off e))
      clear hE0 hE1 hnt hnc hcm hnn hnw HE3
      obtain ⟨pls, hpls⟩ : ∃ pls, Tl.plc r (Tl.np r) = pls := ⟨_, rfl⟩
      rw [hpls] at HNT HPL0 HE4
      obtain ⟨m, hmm⟩ : ∃ m, Tl.np r = m := ⟨_, rfl⟩
      obtain ⟨n1, hn1⟩ : ∃ n1, Inf.at_ r 2 4 = n1 := ⟨_, rfl⟩
      obtain ⟨n2, hn2⟩ : ∃ n2, Inf.at_ r 6 4 = n2 := ⟨_, rfl⟩
      rw [hmm] at HPL0 HNC HE4 HNP hpls ⊢
      rw [hn1] at HE4 ⊢
      rw [hn2]
      obtain ⟨M, hM⟩ : ∃ M, 18 + 5 * m = M := ⟨_, rfl⟩
      rw [hM] at HE4 ⊢
      have hwr5 := wr_5 (a := s.at_) (m := m) (M := M) (by omega) HNP.out hM
      have HEQ := hid (And.intro hmm (And.intro hn1 (And.intro hn2 hpls)))
      have HMM := hid hM
      clear hpls hmm hn1 hn2 hM
      have hb6 : Below w5.heap.size w5 ((w5.alloc (.cells #[.int .i64 0, .int .u32 0, .slice none 0 0] 43)).setRow w5.heap.size #[.int .i64 (n1 : Int), .int .u32 (n2 : Int), .slice ax m cx]) := Inf.fr_rowBelow (Inf.below_new w5 _) (Nat.le_refl _)
      have HRJ6 := hid (HRJ5.out.more hb6)
      have HX6 := hid (setRow_heap (w5.alloc (.cells #[.int .i64 0, .int .u32 0, .slice none 0 0] 43)) w5.heap.size #[.int .i64 0, .int .u32 0, .slice none 0 0] #[.int .i64 (n1 : Int), .int .u32 (n2 : Int), .slice ax m cx] 43 (0, 0) HAN.out)
      have HNT6 := hid (HNT.out.keep hb6)
      clear hb6 HRJ5 HNT
      by_cases hmo : M < bn - s.at_
      · have hX : E = 62 := HE4.out.trans (if_pos hmo)
        have hcm : (s.at_ : Int) + (M : Int) < (bn : Int) := by omega
        clear HE4 hmo
        go_wp2_with (first
          | (refine wpList_store_row rfl 43 _ _ rfl w5.heap.size #[.int .i64 (n1 : Int), .int .u32 (n2 : Int), .slice ax m cx] rfl rfl 43 #[.int .i64 0, .int .u32 0, .slice none 0 0] HAN.out Tl.Tryz.size43 rfl (by simp [Value.oneCell']) ?_)
          | (refine wpList_store_row rfl 50 _ _ rfl w.heap.size #[.int .i64 0, .int .i64 0, .int .i64 0, .int .i64 0, .int .i64 0, .int .i64 0, .slice none 0 0, .slice none 0 0, .int .i64 0, .int .u32 0, .slice none 0 0] rfl rfl 50 #[.int .i64 0, .int .i64 0, .int .i64 0, .int .i64 0, .int .i64 0, .int .i64 0, .slice none 0 0, .slice none 0 0, .int .i64 0, .int .u32 0, .slice none 0 0] HRJ6.out.rz size50 rfl (by simp [Value.oneCell']) ?_))
        refine bodyPost_ret (Head.res_ct (p := 2) (u := 3) (ty := 50) (by kernel_rfl) _ _ w.heap.size 50 #[.int .i64 0, .int .i64 0, .int .i64 0, .int .i64 0, .int .i64 0, .int .i64 0, .slice none 0 0, .slice none 0 0, .int .i64 0, .int .u32 0, .slice none 0 0] (0, 0) _ rfl (setRow_heap _ _ _ _ _ _ HRJ6.out.rz) Tryz.underlying50 rfl size50 rfl) rfl ?_
        exact ⟨Inf.fr_rowBelow HRJ6.out.bel (Nat.le_refl _), .inl ⟨by rw [hX]; decide, by rw [hX]; rfl⟩⟩
      have hcm : ¬ (s.at_ : Int) + (M : Int) < (bn : Int) := by omega
      have HE5 := hid (HE4.out.trans (if_neg hmo))
      have k0 := Inf.row_cell HX6.out 0 rfl
      clear HE4 hmo
      by_cases hcc : (n1 : Int) = s.c
      rotate_left 1
      · have hX : E = 61 := HE5.out.trans (if_pos hcc)
        have hcb : ((n1 : Int) != s.c) = true := bne_iff_ne.2 hcc
        clear HE5
        go_wp2_with (first
          | (refine wpList_store_row rfl 43 _ _ rfl w5.heap.size #[.int .i64 (n1 : Int), .int .u32 (n2 : Int), .slice ax m cx] rfl rfl 43 #[.int .i64 0, .int .u32 0, .slice none 0 0] HAN.out Tl.Tryz.size43 rfl (by simp [Value.oneCell']) ?_)
          | (refine wpList_store_row rfl 50 _ _ rfl w.heap.size #[.int .i64 0, .int .i64 0, .int .i64 0, .int .i64 0, .int .i64 0, .int .i64 0, .slice none 0 0, .slice none 0 0, .int .i64 0, .int .u32 0, .slice none 0 0] rfl rfl 50 #[.int .i64 0, .int .i64 0, .int .i64 0, .int .i64 0, .int .i64 0, .int .i64 0, .slice none 0 0, .slice none 0 0, .int .i64 0, .int .u32 0, .slice none 0 0] HRJ6.out.rz size50 rfl (by simp [Value.oneCell']) ?_))
        refine bodyPost_ret (Head.res_ct (p := 2) (u := 3) (ty := 50) (by kernel_rfl) _ _ w.heap.size 50 #[.int .i64 0, .int .i64 0, .int .i64 0, .int .i64 0, .int .i64 0, .int .i64 0, .slice none 0 0, .slice none 0 0, .int .i64 0, .int .u32 0, .slice none 0 0] (0, 0) _ rfl (setRow_heap _ _ _ _ _ _ HRJ6.out.rz) Tryz.underlying50 rfl size50 rfl) rfl ?_
        exact ⟨Inf.fr_rowBelow HRJ6.out.bel (Nat.le_refl _), .inl ⟨by rw [hX]; decide, by rw [hX]; rfl⟩⟩
      have hcb : ((n1 : Int) != s.c) = false := by rw [hcc]; exact bne_self_eq_false _
      have HE6 := hid (HE5.out.trans (if_neg (fun h => h hcc)))
      have HCC := hid hcc
      have k2 := Inf.row_cell HX6.out 2 rfl
      clear HE5 hcc
      go_wp2_with (refine wpList_store_row rfl 43 _ _ rfl w5.heap.size #[.int .i64 (n1 : Int), .int .u32 (n2 : Int), .slice ax m cx] rfl rfl 43 #[.int .i64 0, .int .u32 0, .slice none 0 0] HAN.out Tl.Tryz.size43 rfl (by simp [Value.oneCell']) ?_)
      have HIA := hid (Tl.ints_any (cap := cx) (cap' := cp) HPL0.out HRJ6.out.ok.n HNT6.out (nts_ints HRJ6.out.po) (by have := HNP.out; omega) (by omega))
      have HGY5 := hid HWR5.out
      generalize (w5.alloc (.cells #[.int .i64 0, .int .u32 0, .slice none 0 0] 43)).setRow w5.heap.size #[.int .i64 (n1 : Int), .int .u32 (n2 : Int), .slice ax m cx] = w6 at *
      refine HIA.out.mono ?_
      rintro e w7 ⟨rfl, hf7⟩
      have hb7 : Below w6.heap.size w6 w7 := ⟨hf7.os, hf7.tape, hf7.output, hf7.size, fun k hk => hf7.block k hk (fun h => h)⟩
      have HRJ7 := hid (HRJ6.out.more hb7)
      have HX7 := hid ((hb7.block _ (World.block_lt_of_cell? _ _ (Inf.row_cell HX6.out 0 rfl))).trans HX6.out)
      have HNT7 := hid (HNT6.out.keep hb7)
      clear hb7 hf7 HIA HRJ6 HX6 HNT6 k0 k2 HAN
      by_cases hpp : pls = s.P
      rotate_left 1
      · have hX : E = 60 := HE6.out.trans (if_pos hpp)
        rw [decide_eq_false hpp]
        clear HE6
        go_wp2_with (refine wpList_store_row rfl 50 _ _ rfl w.heap.size #[.int .i64 0, .int .i64 0, .int .i64 0, .int .i64 0, .int .i64 0, .int .i64 0, .slice none 0 0, .slice none 0 0, .int .i64 0, .int .u32 0, .slice none 0 0] rfl rfl 50 #[.int .i64 0, .int .i64 0, .int .i64 0, .int .i64 0, .int .i64 0, .int .i64 0, .slice none 0 0, .slice none 0 0, .int .i64 0, .int .u32 0, .slice none 0 0] HRJ7.out.rz size50 rfl (by simp [Value.oneCell']) ?_)
        refine bodyPost_ret (Head.res_ct (p := 2) (u := 3) (ty := 50) (by kernel_rfl) _ _ w.heap.size 50 #[.int .i64 0, .int .i64 0, .int .i64 0, .int .i64 0, .int .i64 0, .int .i64 0, .slice none 0 0, .slice none 0 0, .int .i64 0, .int .u32 0, .slice none 0 0] (0, 0) _ rfl (setRow_heap _ _ _ _ _ _ HRJ7.out.rz) Tryz.underlying50 rfl size50 rfl) rfl ?_
        exact ⟨Inf.fr_rowBelow HRJ7.out.bel (Nat.le_refl _), .inl ⟨by rw [hX]; decide, by rw [hX]; rfl⟩⟩
      have hX : E = 0 := HE6.out.trans (if_neg (fun h => h hpp))
      rw [decide_eq_true hpp]
      have HPP := hid hpp
      have HX0 := hid hX
      clear hpp hX HE6
      obtain ⟨hob9, hfr9⟩ := HRJ7.out.rk.tail n1 n2 ax m cx
      have hrz9 := (hfr9.block w.heap.size (World.block_lt_of_cell? _ _ (Inf.row_cell HRJ7.out.rz 0 rfl)) (fun e => by have h1 := HRJ7.out.gw; omega)).trans HRJ7.out.rz
      have hth := HRJ7.out.rk.there #[.int .i64 (n1 : Int), .int .u32 (n2 : Int), .slice ax m cx] rfl
      obtain ⟨w8, hw8⟩ : ∃ w8, w7.setCells gy 8 #[.int .i64 (n1 : Int), .int .u32 (n2 : Int), .slice ax m cx].toList = w8 := ⟨_, rfl⟩
      rw [hw8] at hob9 hfr9 hrz9
      have HOB9 := hid hob9
      have HFR9 := hid hfr9
      have HRZ9 := hid hrz9
      have HW8 := hid hw8
      have k0 : w7.cell? ⟨w5.heap.size, 0, none⟩ = some (.int .i64 (n1 : Int)) := Inf.row_cell HX7.out 0 rfl
      have k1 : w7.cell? ⟨w5.heap.size, 1, none⟩ = some (.int .u32 (n2 : Int)) := Inf.row_cell HX7.out 1 rfl
      have k2 : w7.cell? ⟨w5.heap.size, 2, none⟩ = some (.slice ax m cx) := Inf.row_cell HX7.out 2 rfl
      have z0 : w8.cell? ⟨gy, 0, none⟩ = some (.int .i64 i.k) := Inf.row_cell HOB9.out 0 rfl
      have z1 : w8.cell? ⟨gy, 1, none⟩ = some (.int .i64 i.f.ch) := Inf.row_cell HOB9.out 1 rfl
      have z2 : w8.cell? ⟨gy, 2, none⟩ = some (.int .i64 i.f.bits) := Inf.row_cell HOB9.out 2 rfl
      have z3 : w8.cell? ⟨gy, 3, none⟩ = some (.int .i64 i.f.rate) := Inf.row_cell HOB9.out 3 rfl
      have z4 : w8.cell? ⟨gy, 4, none⟩ = some (.int .i64 i.bk) := Inf.row_cell HOB9.out 4 rfl
      have z5 : w8.cell? ⟨gy, 5, none⟩ = some (.int .i64 i.sh) := Inf.row_cell HOB9.out 5 rfl
      have z6 : w8.cell? ⟨gy, 6, none⟩ = some (.slice at3 (Tg.gL (b.drop 19)).length ct3) := Inf.row_cell HOB9.out 6 rfl
      have z7 : w8.cell? ⟨gy, 7, none⟩ = some (.slice ab s.n cb) := Inf.row_cell HOB9.out 7 rfl
      have z8 : w8.cell? ⟨gy, 8, none⟩ = some (.int .i64 (n1 : Int)) := Inf.row_cell HOB9.out 8 rfl
      have z9 : w8.cell? ⟨gy, 9, none⟩ = some (.int .u32 (n2 : Int)) := Inf.row_cell HOB9.out 9 rfl
      have z10 : w8.cell? ⟨gy, 10, none⟩ = some (.slice ax m cx) := Inf.row_cell HOB9.out 10 rfl
      clear hob9 hfr9 hrz9 hw8 hcb hcm hwr5 hlti hnge hatc hati hnec hkle h69i
      go_wp2_with (first
        | (refine wpList_store_mid rfl 43 _ _ rfl gy 8 #[.int .i64 (n1 : Int), .int .u32 (n2 : Int), .slice ax m cx] rfl rfl hth Tl.Tryz.size43 (by simp [Value.oneCell']) ?_; rw [HW8.out])
        | (refine wpList_store_row rfl 50 _ _ rfl w.heap.size (fcl i at3 (Tg.gL (b.drop 19)).length ct3 ab s.n cb n1 n2 ax m cx) rfl rfl 50 #[.int .i64 0, .int .i64 0, .int .i64 0, .int .i64 0, .int .i64 0, .int .i64 0, .slice none 0 0, .slice none 0 0, .int .i64 0, .int .u32 0, .slice none 0 0] HRZ9.out size50 rfl (by simp [Value.oneCell']) ?_))
      refine bodyPost_ret (Head.res_ct (p := 2) (u := 3) (ty := 50) (by kernel_rfl) _ _ w.heap.size 50 (fcl i at3 (Tg.gL (b.drop 19)).length ct3 ab s.n cb n1 n2 ax m cx) (0, 0) _ rfl (setRow_heap _ _ _ _ _ _ HRZ9.out) Tryz.underlying50 rfl size50 rfl) rfl ?_
      have hfx := (HFR9.out.mono (Y := fun q => q = gy ∨ q = w.heap.size) (fun _ _ h => .inl h)).trans ((Inf.fr_setRow w8 w.heap.size (fcl i at3 (Tg.gL (b.drop 19)).length ct3 ab s.n cb n1 n2 ax m cx)).mono (Y := fun q => q = gy ∨ q = w.heap.size) (fun _ _ h => .inr h))
      have hgw := HRJ7.out.gw
      have hzz : m = s.n := by rw [← HPL0.out, HPP.out]; exact HRJ7.out.ok.n
      refine ⟨Inf.fr_rowBelow (HRJ7.out.bel.trans ⟨HFR9.out.os, HFR9.out.tape, HFR9.out.output, HFR9.out.size, fun q hq => HFR9.out.block q (Nat.lt_of_lt_of_le hq HRJ7.out.bel.size) (fun e => by omega)⟩) (Nat.le_refl _), .inr ⟨HX0.out, at3, ct3, ab, cb, X, ax, cx, ?_, ?_⟩⟩
      · rw [HPS.out, ← HR.out, HEQ.out.2.2.1, ← HCC.out, ← hzz]
        rfl
      · refine ⟨?_, ?_, ?_, ?_, ?_, ?_⟩
        all_goals (try rw [HPS.out])
        · exact own_mono (ownsRow_block HRJ7.out.tg fun q hq => hfx.block q (HRJ7.out.rk.tgq q hq).2 (fun e => by have h1 := HRJ7.out.tl q hq; have h2 := (HRJ7.out.rk.tgq q hq).1; omega)) (by omega)
        · exact own_mono (ownsRow_block HRJ7.out.bo fun q hq => hfx.block q (HRJ7.out.rk.abq q hq).2 (fun e => by have h1 := (HRJ7.out.rk.abq q hq).1; omega)) (by omega)
        · exact HRJ7.out.xs.stay hfx (fun j y hj q hq e => by have h1 := HRJ7.out.bl q (HRJ7.out.far j y hj q hq); omega)
        · rw [← HPP.out]
          exact HNT7.out.stay hfx (fun q off e h => by have h1 := HNW.out q off e; omega)
        · rw [← hzz]; exact HNC.out.1
        · exact HRJ7.out.ok
    · have hx69 : ((x : Int) != 69) = true := by rw [bne_iff_ne]; omega
      have hst := prun_step (i := i) (b := b) (f := bn - s.at_) (s := s) (by rw [HBN.out.1]; exact hlt) (by rw [HGD.out]; exact h69)
      rw [HRN.out] at hst
      obtain ⟨r, hr⟩ : ∃ r, r = b.drop s.at_ := ⟨_, rfl⟩
      rw [← hr] at hst hdl
      have HOP := hid (hdl ▸ Head.ropenq_any (a := some ⟨bq, bo + s.at_, none⟩) (l := r) (cap := bc - s.at_) (hr ▸ HBYR.out.drop s.at_) (by omega) (by omega) : Calls Tryz.prog 31 #[.slice (some ⟨bq, bo + s.at_, none⟩) (bn - s.at_) (bc - s.at_)] wr (Head.ROpenQ wr (some ⟨bq, bo + s.at_, none⟩) (Head.opH r) (Head.opP r) (Head.opS r) (Head.opE r)))
      have HR := hid hr
      have HST := hid hst
      have HZ := hid (show rbE i s r = if Head.opE r ≠ 0 then Head.opE r else nxt i (Head.opH r) s.n s.sh from rfl)
      have HOK := hid (fun e => op_ok (l := r) e)
      obtain ⟨eo, heo⟩ : ∃ eo, Head.opE r = eo := ⟨_, rfl⟩
      obtain ⟨pl, hpl⟩ : ∃ pl, Head.opP r = pl := ⟨_, rfl⟩
      obtain ⟨sm, hsm⟩ : ∃ sm, Head.opS r = sm := ⟨_, rfl⟩
      obtain ⟨hd, hhd⟩ : ∃ hd, Head.opH r = hd := ⟨_, rfl⟩
      obtain ⟨z, hz⟩ : ∃ z, Head.szn r = z := ⟨_, rfl⟩
      rw [heo, hpl, hsm, hhd] at HOP
      rw [heo, hhd] at HZ
      rw [heo, hhd, hz, hdl] at HOK
      have HEO := hid heo
      have HPL := hid hpl
      have HSM := hid hsm
      have HHD := hid hhd
      have HSZ := hid hz
      clear hr hst heo hpl hsm hhd hz hdl HRN
      go_wp2_with fail
      refine HOP.out.mono ?_
      rintro e w5 ⟨pp, pc, rfl, hby5, hb5, hq5⟩
      rw [show Head.hv hd = .agg (Head.hvl hd) from rfl]
      have HAN := hid (heap_alloc_new w5 (.cells #[.int .i64 0, .int .i64 0, .int .i64 0, .int .i64 0, .int .i64 0, .bool false, .int .u32 0, .int .i64 0] 61))
      have hb6 : Below w5.heap.size w5 ((w5.alloc (.cells #[.int .i64 0, .int .i64 0, .int .i64 0, .int .i64 0, .int .i64 0, .bool false, .int .u32 0, .int .i64 0] 61)).setRow w5.heap.size (Head.hvl hd)) := Head.fr_rowBelow (Head.below_new w5 _) (Nat.le_refl _)
      have HX6 := hid (show Head.Bx ((w5.alloc (.cells #[.int .i64 0, .int .i64 0, .int .i64 0, .int .i64 0, .int .i64 0, .bool false, .int .u32 0, .int .i64 0] 61)).setRow w5.heap.size (Head.hvl hd)) w5.heap.size hd from ⟨setRow_heap _ _ _ _ _ _ HAN.out⟩)
      have HRJ6 := hid ((HRJ.out.more hb5).more hb6)
      have HBP6 := hid (hby5.keep hb6)
      have HQ := hid hq5
      have HS5 := hid (And.intro hb5.size hb6.size)
      clear hb5 hb6 hby5 hq5 HOP hcw
      by_cases hE : eo = 0
      rotate_left 1
      · have hz1 : rbE i s r = eo := HZ.out.trans (if_pos hE)
        have hR : psR b = (s, eo) := by rw [HST.out, hz1, if_pos hE]
        have hX : E = eo := by rw [HE2.out, hR]; exact if_pos hE
        have hE' : (eo != 0) = true := bne_iff_ne.2 hE
        clear hz1 hR HST HZ HOK
        go_wp2_with (first
          | (refine wpList_store_row rfl 61 _ _ rfl w5.heap.size (Head.hvl hd) rfl rfl 61 #[.int .i64 0, .int .i64 0, .int .i64 0, .int .i64 0, .int .i64 0, .bool false, .int .u32 0, .int .i64 0] HAN.out (Head.hvl_size hd) rfl (by simp [Head.hvl, Value.oneCell']) ?_)
          | (refine wpList_store_row rfl 50 _ _ rfl w.heap.size #[.int .i64 0, .int .i64 0, .int .i64 0, .int .i64 0, .int .i64 0, .int .i64 0, .slice none 0 0, .slice none 0 0, .int .i64 0, .int .u32 0, .slice none 0 0] rfl rfl 50 #[.int .i64 0, .int .i64 0, .int .i64 0, .int .i64 0, .int .i64 0, .int .i64 0, .slice none 0 0, .slice none 0 0, .int .i64 0, .int .u32 0, .slice none 0 0] HRJ6.out.rz size50 rfl (by simp [Value.oneCell']) ?_))
        refine bodyPost_ret (Head.res_ct (p := 2) (u := 3) (ty := 50) (by kernel_rfl) _ _ w.heap.size 50 #[.int .i64 0, .int .i64 0, .int .i64 0, .int .i64 0, .int .i64 0, .int .i64 0, .slice none 0 0, .slice none 0 0, .int .i64 0, .int .u32 0, .slice none 0 0] (0, 0) _ rfl (setRow_heap _ _ _ _ _ _ HRJ6.out.rz) Tryz.underlying50 rfl size50 rfl) rfl ?_
        exact ⟨Inf.fr_rowBelow HRJ6.out.bel (Nat.le_refl _), .inl ⟨by rw [hX]; exact hE, by rw [hX]; rfl⟩⟩
      subst hE
      have HZ1 := hid (HZ.out.trans (if_neg (fun h => h rfl)))
      obtain ⟨hrt, hsz, hlez, hzl⟩ := HOK.out rfl
      have HRT := hid (And.intro hrt.1.2.2.1 hrt.1.2.2.2.1)
      have HLEZ := hid (And.intro hlez hzl)
      have HSZH := hid hsz
      have x0 := HRJ6.out.bx.c0
      have x1 := HRJ6.out.bx.c1
      have x2 := HRJ6.out.bx.c2
      have x3 := HRJ6.out.bx.c3
      have x4 := HRJ6.out.bx.c4
      have x5 := HRJ6.out.bx.c5
      have c0 := HX6.out.c0
      have c1 := HX6.out.c1
      have c2 := HX6.out.c2
      have c3 := HX6.out.c3
      have c4 := HX6.out.c4
      have c5 := HX6.out.c5
      have c6 := HX6.out.c6
      have c7 := HX6.out.c7
      have HNX := hid fun w' => rnext_any i hd (s.n : Int) s.sh w'
      obtain ⟨nz, hnz⟩ : ∃ nz, nxt i hd (s.n : Int) s.sh = nz := ⟨_, rfl⟩
      rw [hnz] at HZ1 HNX
      clear hrt hsz hlez hzl hnz HOK HZ
      go_wp2_with (refine wpList_store_row rfl 61 _ _ rfl w5.heap.size (Head.hvl hd) rfl rfl 61 #[.int .i64 0, .int .i64 0, .int .i64 0, .int .i64 0, .int .i64 0, .bool false, .int .u32 0, .int .i64 0] HAN.out (Head.hvl_size hd) rfl (by simp [Head.hvl, Value.oneCell']) ?_)
      refine (HNX.out _).mono ?_
      rintro e w7 ⟨rfl, hb7⟩
      have HRJ7 := hid (HRJ6.out.more hb7)
      have HX7 := hid (HX6.out.below hb7 HX6.out.lt)
      have HBP7 := hid (HBP6.out.keep hb7)
      have HS7 := hid (Nat.le_trans HS5.out.2 hb7.size)
      have HXL := hid (Nat.lt_of_lt_of_le HX6.out.lt hb7.size)
      clear hb7 x0 x1 x2 x3 x4 x5 c0 c1 c2 c3 c4 c5 c6 c7 HNX HRJ6 HX6 HBP6 HAN
      by_cases hN : nz = 0
      rotate_left 1
      · have hR : psR b = (s, nz) := by rw [HST.out, HZ1.out, if_pos hN]
        have hX : E = nz := by rw [HE2.out, hR]; exact if_pos hN
        have hN' : (nz != 0) = true := bne_iff_ne.2 hN
        clear hR HST HZ1
        go_wp2_with (refine wpList_store_row rfl 50 _ _ rfl w.heap.size #[.int .i64 0, .int .i64 0, .int .i64 0, .int .i64 0, .int .i64 0, .int .i64 0, .slice none 0 0, .slice none 0 0, .int .i64 0, .int .u32 0, .slice none 0 0] rfl rfl 50 #[.int .i64 0, .int .i64 0, .int .i64 0, .int .i64 0, .int .i64 0, .int .i64 0, .slice none 0 0, .slice none 0 0, .int .i64 0, .int .u32 0, .slice none 0 0] HRJ7.out.rz size50 rfl (by simp [Value.oneCell']) ?_)
        refine bodyPost_ret (Head.res_ct (p := 2) (u := 3) (ty := 50) (by kernel_rfl) _ _ w.heap.size 50 #[.int .i64 0, .int .i64 0, .int .i64 0, .int .i64 0, .int .i64 0, .int .i64 0, .slice none 0 0, .slice none 0 0, .int .i64 0, .int .u32 0, .slice none 0 0] (0, 0) _ rfl (setRow_heap _ _ _ _ _ _ HRJ7.out.rz) Tryz.underlying50 rfl size50 rfl) rfl ?_
        exact ⟨Inf.fr_rowBelow HRJ7.out.bel (Nat.le_refl _), .inl ⟨by rw [hX]; exact hN, by rw [hX]; rfl⟩⟩
      subst hN
      have HRN2 := hid (show prun i b (bn - s.at_) (s.next i r) = psR b from by rw [HST.out, HZ1.out, if_neg (fun h => h rfl)])
      have c0 := HX7.out.c0
      have c1 := HX7.out.c1
      have c2 := HX7.out.c2
      have c3 := HX7.out.c3
      have c4 := HX7.out.c4
      have c5 := HX7.out.c5
      have c6 := HX7.out.c6
      have c7 := HX7.out.c7
      have y7 := Inf.row_cell HRJ7.out.ob 7 rfl
      have y7f := Inf.row_frozen HRJ7.out.ob 7
      obtain ⟨i102, hi102, hz0, hz1, hz2⟩ := info_parts info102
      have hbo := HRJ7.out.bo
      have hgyl := HRJ7.out.gyl
      have HRK7 := hid HRJ7.out.rk
      have HOK7 := hid HRJ7.out.ok
      have HW57 := hid (Nat.lt_of_lt_of_le HRJ.out.gyl HS5.out.1)
      have HABL := hid (show ∀ q, blk ab = some q → q < wr.heap.size from fun q hq => (HRJ.out.rk.abq q hq).2)
      have HAPL := hid (show ∀ q, blk ap = some q → q < wr.heap.size from fun q hq => (HRJ.out.rk.apq q hq).2)
      clear HST HZ1
      go_wp2_with (at_builtin; go_must (refine wpList_append_lies _ rfl (.tmp 94) (.tmp 100) 48 rfl (gy + 1) 102 i102 _ 11 96 Tryz.underlying48 hi102 hz0 hz1 hz2 rfl (by decide) (.slice ab s.n cb) s.n (bls X) rfl (hbo.alloc _) ⟨w7.heap.size, 0, none⟩ 1 _ (bvl ⟨hd, pp, pl.length, pc, sm, s.at_⟩) rfl rfl (cells_new1 _ _ _) (bvl_one _) (by decide) (by unfold maxLen; omega) (by omega) (by show gy + 1 ≤ (w7.heap.push _).size; rw [Array.size_push]; omega) (w7.heap.size + 1) (Array.size_push _) ?_))
      intro gg cap9 w9 how9 hg9 hat9 hlt9
      rw [ownBlock_slice] at hg9 hat9
      obtain ⟨hrk9, hfr9, hc7, hf7, hfw9⟩ := HRK7.out.block (x := ⟨hd, pp, pl.length, pc, sm, s.at_⟩) how9 hg9 hat9
      have HRK9 := hid hrk9
      have HFR9 := hid hfr9
      have hz9 : (w9.setCell ⟨gy, 7, none⟩ (.slice (some ⟨gg, 0, none⟩) (s.n + 1) cap9)).heap.size = w9.heap.size := by simp [World.setCell]
      have HX10 := hid (show Head.Bx (w9.setCell ⟨gy, 7, none⟩ (.slice (some ⟨gg, 0, none⟩) (s.n + 1) cap9)) w5.heap.size hd from ⟨(hfr9.block _ HXL.out (fun e => by
        rcases e with e | e
        · have := HW57.out; omega
        · have h1 := HABL.out _ e; have h2 := HS5.out.1; omega)).trans HX7.out.row⟩)
      have HSZ10 := hid (Nat.le_trans HXL.out hfr9.size)
      obtain ⟨i3, hi3, hy0, hy1, hy2⟩ := info_parts info3
      have hpo := hrk9.po
      have hgl9 := hrk9.gyl
      rw [hz9] at hgl9
      clear hrk9 hfr9 how9 hg9 hat9 hlt9 hbo y7 y7f c0 c1 c2 c3 c4 c5 c6 c7 hi102 hz0 hz1 hz2 hfw9
      go_wp2_with (at_builtin; go_must (refine wpList_append_one rfl (.tmp 103) (.tmp 105) 41 rfl (gy + 1) 3 i3 (.int .i64 0) 8 Tryz.underlying41 hi3 hy0 hy1 hy2 rfl ap s.n cp (il s.P) rfl (hpo.alloc _) ⟨w9.heap.size, 0, none⟩ 1 (.int .i64 (s.at_ : Int)) rfl (hz9 ▸ cell_newp _ _) rfl (by unfold maxLen; omega) (by omega) (by show gy + 1 ≤ ((w9.setCell ⟨gy, 7, none⟩ (.slice (some ⟨gg, 0, none⟩) (s.n + 1) cap9)).heap.push _).size; rw [Array.size_push, hz9]; omega) ?_))
      intro gg2 cap11 w11 how11 hk11
      obtain ⟨hrk11, hfr11⟩ := HRK9.out.place how11 hk11
      have HRK11 := hid hrk11
      have HX11 := hid (show Head.Bx w11 w5.heap.size hd from ⟨(hfr11.block _ HX10.out.lt (fun e => by have h1 := HAPL.out _ e; have h2 := HS5.out.1; omega)).trans HX10.out.row⟩)
      have HW11 := hid (Nat.le_trans HSZ10.out hfr11.size)
      have HSZ11 := hid hfr11.size
      have x4 := HRK11.out.bx.c4
      have c2 := HX11.out.c2
      have c7 := HX11.out.c7
      rw [HSZH.out] at c7
      have ha30 : s.at_ ≤ 1073741824 := Nat.le_trans hat hm
      have hz30 : z ≤ 1073741824 := Nat.le_trans HLEZ.out.2 (by decide)
      have hw1 := wr_1 HOK7.out.c hnb HRT.out.1 HRT.out.2
      have hw2 := wr_2 (a := s.at_) ha30
      have hw3 := wr_3 (a := s.at_) (z := z) ha30 hz30
      have hw4 := wr_4 (a := s.n) hnb
      clear hrk11 hfr11 how11 hk11 hc7 hf7 hi3 hy0 hy1 hy2 hpo hz9 HRK9 HX10 HX7 HRK7
      have HNM := hid (And.intro hat (And.intro hnb hlt))
      clear ha30 hz30 hlti hnge hatc hati hnec hkle hx69 hend h69 hbc hat hnb hlt hgl9 hgyl h19
      go_wp2_with fail
      have HW1 := hid hw1
      have HW3 := hid hw3
      have HW4 := hid hw4
      clear hw1 hw2 hw3 hw4 x4 c2 c7
      obtain ⟨hat, hnb, hlt⟩ := HNM.out
      have hna : ((s.next i r).at_ : Int) = (s.at_ : Int) + 36 + (z : Int) := by
        show ((s.at_ + (36 + Head.szn r) : Nat) : Int) = _
        rw [HSZ.out]
        omega
      have hok := HOK7.out.next (i := i) (show Head.opE (b.drop s.at_) = 0 from by rw [← HR.out]; exact HEO.out)
      rw [← HR.out] at hok
      have hol := hok.at_
      rw [HBN.out.1] at hol
      have hnn : (s.next i r).at_ = s.at_ + (36 + z) := by show s.at_ + (36 + Head.szn r) = _; rw [HSZ.out]
      have hfx := fr_two HRJ.out.bel HRK11.out.bel (by have h1 := HW11.out; have h2 := HS5.out.1; omega)
      have hfp := fr_two HRJ7.out.bel HRK11.out.bel (by have h1 := HFR9.out.size; have h2 := HSZ11.out; omega)
      have hpay : Byts w11 pp pl := HBP7.out.stay hfp (fun q off e => by
        have h1 := HQ.out q (by rw [e]; rfl)
        have h2 := HBL.out q h1
        omega)
      have hprun : prun i b (bn - (s.next i r).at_ + 1) (s.next i r) = psR b := by
        rw [← HRN2.out]
        exact prun_fuel i b _ _ _ (by rw [HBN.out.1]; omega) (by rw [HBN.out.1]; omega)
      have hxs : Xs w11 b (s.next i r).P (X ++ [⟨hd, pp, pl.length, pc, sm, s.at_⟩]) := (HRJ.out.xs.stay hfx (fun j y hj q hq => by
        have h1 := HRJ.out.far j y hj q hq
        have h2 := HBL.out q h1
        omega)).snoc (at_ := s.at_) ⟨by rw [← HR.out]; exact HHD.out.symm, by rw [← HR.out, HPL.out], by rw [← HR.out, HPL.out]; exact hpay, by rw [← HR.out]; exact HSM.out.symm, rfl⟩
      have hfar : ∀ (j : Nat) (y : Bv), (X ++ [⟨hd, pp, pl.length, pc, sm, s.at_⟩])[j]? = some y → ∀ q, blk y.a = some q → blk (some (⟨bq, bo, none⟩ : Addr)) = some q := fun j y hj q hq => by
        by_cases hjl : j < X.length
        · rw [List.getElem?_append_left hjl] at hj
          exact HRJ.out.far j y hj q hq
        · have hjl2 : j = X.length := by
            have := (List.getElem?_eq_some_iff.1 hj).1
            rw [List.length_append] at this
            simp at this
            omega
          subst hjl2
          simp at hj
          subst hj
          exact HQ.out q hq
      have HRJ11 := hid (show RJ w gi gy i b (some ⟨bq, bo, none⟩) at3 (Tg.gL (b.drop 19)).length ct3 (Tg.gL (b.drop 19)) (s.next i r) (some ⟨gg2, 0, none⟩) cap11 (some ⟨gg, 0, none⟩) cap9 (X ++ [⟨hd, pp, pl.length, pc, sm, s.at_⟩]) w11 from
        ⟨HRK11.out.bx, HRK11.out.ob, HRK11.out.rz, HRK11.out.tg, HRK11.out.tl, HRK11.out.po, HRK11.out.bo, hxs, hfar, HRK11.out.d, HRK11.out.bel, HRK11.out.gw, HBL.out, hok⟩)
      go_roundg (bn - (s.next i r).at_)
      case measure => rw [HG.out]; omega
      case rel => exact ⟨(s.next i r), some ⟨gg2, 0, none⟩, cap11, some ⟨gg, 0, none⟩, cap9, X ++ [⟨hd, pp, pl.length, pc, sm, s.at_⟩], rfl, (by rw [hna, HW3.out]), (by show _ = Value.int .i64 (s.c + (Head.opH r).ln); rw [HHD.out, HW1.out]), (by show _ = Value.bool (decide ((Head.opH r).ln < i.bk)); rw [HHD.out]), rfl, (by show _ = Value.int .i64 ((s.n + 1 : Nat) : Int); rw [HW4.out]; rfl), HRJ11.out, hprun⟩
end Go.Proofs.YthjjonbkfkpkmaaGreatDoor.Fil
