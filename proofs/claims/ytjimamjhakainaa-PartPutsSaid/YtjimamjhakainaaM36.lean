/- A list's code in the document: the bits that the program writes. Conditions: the list is coded, the order one of its own. -/
import Derived.Test.YtjimamjhakainaaSYt
import Derived.Test.YtjimamjhakainaaM25
import Derived.Test.YtjimamjhakainaaM26
import Derived.Test.YtjimamjhakainaaM30
namespace Go.Proofs.Ytjimamjhakainaa.Part
open Go.RowKit Bit Rice Runs

set_option maxRecDepth 100000 in
set_option maxHeartbeats 4000000 in
theorem whole_any (w : World) (a : Option Addr) (len cap b off : Nat) (I : Nat → Int) (h : Is w a len cap b off I) (hlen : len ≤ 65536) (hz : allZ I len) (p : Nat) (hp : ord len p) :
    Calls Try.prog 24 #[.slice a len cap, .int .i64 (p : Int)] w (CodePost w (pfs I len p (app (0, 0) p 3) (List.range (2 ^ p))).1 (pfs I len p (app (0, 0) p 3) (List.range (2 ^ p))).2) := by
  obtain ⟨i0, hi, hz0, hz1, hz2⟩ := info_parts Try.info3
  have hp6 : p ≤ 6 := by
    have := hp.2
    unfold fin at this
    omega
  have H := hid h
  have hlt := h.lt
  have HLT := hid hlt
  have HZ := hid hz
  have hlc := h.hl
  obtain ⟨y, hy⟩ : ∃ y, 2 ^ p = y := ⟨_, rfl⟩
  have hy64 : y ≤ 64 := by rw [← hy]; exact Nat.pow_le_pow_right (n := 2) (by decide) hp6
  have HPW := hid fun w' => power_p p y hp6 hy w'
  have HBD := hid fun i w' (hi : i < y) => rbounds_any len p i hlen hp6 (by rw [hy]; exact hi) w'
  have HISP := hid fun i (w' : World) (hi : i < y) (his : Is w' a len cap b off I) => is_part his p i (by rw [hy]; exact hi)
  have HZP := hid fun i (hi : i < y) => allZ_part hz p i (by rw [hy]; exact hi)
  have HPL := hid fun j (hj : j ≤ y) => pfs_le hz hlen p (List.range j) (app (0, 0) p 3) (fun i hi => by have := List.mem_range.1 hi; omega)
  have HBM := hid fun i => bd_mono len p i
  have HBL := hid fun i (hi : i ≤ y) => bd_le len p i (by rw [hy]; exact hi)
  have HN := hid (show ∀ j, pfs I len p (app (0, 0) p 3) (List.range (j + 1)) = pcode (pI I len p j) (pn len p j) (pfs I len p (app (0, 0) p 3) (List.range j)) from fun j => by rw [List.range_succ]; exact pfs_app _ _ _ _ _ _)
  have hpu : IntKind.u64.wrap (p : Int) = (p : Int) := by rw [IntKind.wrap_u64]; omega
  have hp3 : p < 2 ^ 3 := by omega
  have HB3 : RowKit.Hid (Calls Try.prog 40 #[.int .u64 (p : Int), .int .i64 3] w (CodePost w p 3)) := hid (bits_code (p : Int) p 3 rfl (by decide) hp3 w)
  rw [hy]
  clear h hlt hz hp hy hp3
  go_enter Try.func24, Try.ntmps24
  go_wp2_with fail
  refine HB3.out.mono ?_
  rintro e w1 ⟨lo1, lcap1, rfl, hn1⟩
  have HN1 := hid hn1
  have h00 : pfs I len p (app (0, 0) p 3) (List.range 0) = (p, 3) := by
    show app (0, 0) p 3 = _
    unfold app
    simp
  have H00 := hid h00
  clear hn1 h00
  go_wp2_with fail
  go_loopg [5, 6] y (fun g v i wr => ∃ (j : Nat) (lo : Option Addr) (lcap : Nat), j ≤ y ∧ g = y - j ∧ i = .int .i64 j ∧ v = .slice lo (pfs I len p (app (0, 0) p 3) (List.range j)).2 lcap ∧ Nw w w.heap.size lo lcap (pfs I len p (app (0, 0) p 3) (List.range j)).1 (pfs I len p (app (0, 0) p 3) (List.range j)).2 wr)
  case atStart => exact ⟨0, lo1, lcap1, Nat.zero_le _, rfl, rfl, by rw [H00.out], by rw [H00.out]; exact HN1.out⟩
  case round =>
    obtain ⟨j, lo, lcap, hj, hg, rfl, rfl, hn⟩ := hrel
    have HG := hid hg
    have hple := HPL.out j hj
    have hap2 : (app (0, 0) p 3).2 = 3 := rfl
    rw [hap2, List.length_range] at hple
    have HNN := hid hn
    clear hg hn
    by_cases hlt : j < y
    · have hlt2 : (j : Int) < (y : Int) := by omega
      have hb := HNN.out.below
      have his := H.out.below hb HLT.out
      have HNJ := hid (HN.out j)
      have hisd := fun (nq : Nat) => HISP.out j (wr.drewN nq) hlt (his.fr (X := fun _ => False) ((Fr.refl _ wr).drewN nq) (fun _ h => h))
      have HISD := hid hisd
      have hzp := HZP.out j hlt
      have hbm := HBM.out j
      have hbl := HBL.out (j + 1) (by omega)
      have hpnl : pn len p j ≤ 65536 := by unfold pn; omega
      have hwk := wy_ok (pI I len p j) (pn len p j) (gr_cd hzp)
      have hcat := cat_pcw _ hwk (pI I len p j) (pn len p j) (by omega) hzp
      have hlo := pcw_le _ (pI I len p j) (pn len p j) (0, 0) hwk
      have HRC := hid fun (nq : Nat) => rcode_in (wr.drewN nq) _ _ _ _ _ _ (hisd nq) hpnl hzp
      have HBJ := hid (HBD.out j wr hlt)
      obtain ⟨c, hc⟩ : ∃ c, pcw (wy (pI I len p j) (pn len p j)) (pI I len p j) (pn len p j) (0, 0) = c := ⟨_, rfl⟩
      obtain ⟨r, hr⟩ : ∃ r, pfs I len p (app (0, 0) p 3) (List.range j) = r := ⟨_, rfl⟩
      have hcr : pcode (pI I len p j) (pn len p j) r = app r c.1 c.2 := by rw [← hc]; exact hcat.1 r
      have hcl : c.1 < 2 ^ c.2 := by rw [← hc]; exact hcat.2
      rw [hr, hcr] at HNJ
      rw [hr] at hple
      rw [hr] at HNN
      rw [hc] at HRC hlo
      have h0 : ((0, 0) : Nat × Nat).2 = 0 := rfl
      rw [h0] at hlo
      have HCL := hid hcl
      have hpe : pn len p j = bd len p (j + 1) - bd len p j := rfl
      rw [hpe] at HRC
      unfold ptA at HRC
      rw [hr]
      have HNN2 := hid fun (nq : Nat) => HNN.out.below' (w2 := wr.drewN nq) ⟨rfl, rfl, rfl, Nat.le_refl _, fun _ _ => rfl⟩
      clear his hisd hzp hwk hcat hc hr hcr hcl hpe h0 hb
      generalize bd len p j = f at *
      generalize bd len p (j + 1) = t at *
      by_cases e : cap = f
      · rw [if_pos e] at HRC
        subst e
        rw [Nat.sub_self] at HRC
        go_wp2_with fail
        refine (HPW.out wr).mono ?_
        rintro e w' ⟨rfl, rfl⟩
        go_wp2_with fail
        refine HBJ.out.mono ?_
        rintro e w2 ⟨rfl, nq, rfl⟩
        go_wp2_with fail
        refine (HRC.out nq).mono ?_
        rintro e w3 ⟨lo3, lcap3, rfl, hn3⟩
        have hn4 := (HNN2.out nq).below' hn3.below
        have hsz : w.heap.size ≤ w3.heap.size := hn4.below.size
        go_wp2_with (at_builtin; go_must (refine wpList_append_list _ rfl (.tmp 26) (.tmp 31) 22 rfl w.heap.size 3 i0 (.int .i64 0) 8 Try.underlying22 hi hz0 hz1 hz2 rfl lo r.2 lcap (bitl r.1 r.2) rfl hn4.lst lo3 c.2 lcap3 (bitl c.1 c.2) rfl (bitl_len _ _) hn3.lst.none' hn3.lst.cells (bitl_one _ _) (by unfold maxLen; omega) (by omega) hsz ?_))
        intro lo5 lcap5 w5 hown5 hg5 hat5
        have hn5 := (HNN2.out nq).app hn3.below HCL.out hown5 hg5 hat5
        have hst : Value.slice lo5 (r.2 + c.2) lcap5 = .slice lo5 (pfs I len p (app (0, 0) p 3) (List.range (j + 1))).2 lcap5 ∧ Nw w w.heap.size lo5 lcap5 (pfs I len p (app (0, 0) p 3) (List.range (j + 1))).1 (pfs I len p (app (0, 0) p 3) (List.range (j + 1))).2 w5 := by
          rw [HNJ.out]; exact ⟨rfl, hn5⟩
        have HST := hid hst
        clear hown5 hg5 hat5 hn5 hn4 hn3 hst hsz
        go_wp2_with fail
        go_roundg (y - (j + 1))
        case measure => rw [HG.out]; omega
        case rel => exact ⟨j + 1, lo5, lcap5, by omega, rfl, by go_num, HST.out.1, HST.out.2⟩
      · rw [if_neg e] at HRC
        go_wp2_with fail
        refine (HPW.out wr).mono ?_
        rintro e w' ⟨rfl, rfl⟩
        go_wp2_with fail
        refine HBJ.out.mono ?_
        rintro e w2 ⟨rfl, nq, rfl⟩
        go_wp2_with fail
        refine (HRC.out nq).mono ?_
        rintro e w3 ⟨lo3, lcap3, rfl, hn3⟩
        have hn4 := (HNN2.out nq).below' hn3.below
        have hsz : w.heap.size ≤ w3.heap.size := hn4.below.size
        go_wp2_with (at_builtin; go_must (refine wpList_append_list _ rfl (.tmp 26) (.tmp 31) 22 rfl w.heap.size 3 i0 (.int .i64 0) 8 Try.underlying22 hi hz0 hz1 hz2 rfl lo r.2 lcap (bitl r.1 r.2) rfl hn4.lst lo3 c.2 lcap3 (bitl c.1 c.2) rfl (bitl_len _ _) hn3.lst.none' hn3.lst.cells (bitl_one _ _) (by unfold maxLen; omega) (by omega) hsz ?_))
        intro lo5 lcap5 w5 hown5 hg5 hat5
        have hn5 := (HNN2.out nq).app hn3.below HCL.out hown5 hg5 hat5
        have hst : Value.slice lo5 (r.2 + c.2) lcap5 = .slice lo5 (pfs I len p (app (0, 0) p 3) (List.range (j + 1))).2 lcap5 ∧ Nw w w.heap.size lo5 lcap5 (pfs I len p (app (0, 0) p 3) (List.range (j + 1))).1 (pfs I len p (app (0, 0) p 3) (List.range (j + 1))).2 w5 := by
          rw [HNJ.out]; exact ⟨rfl, hn5⟩
        have HST := hid hst
        clear hown5 hg5 hat5 hn5 hn4 hn3 hst hsz
        go_wp2_with fail
        go_roundg (y - (j + 1))
        case measure => rw [HG.out]; omega
        case rel => exact ⟨j + 1, lo5, lcap5, by omega, rfl, by go_num, HST.out.1, HST.out.2⟩
    · have hge : ¬ (j : Int) < (y : Int) := by omega
      obtain rfl : y = j := by omega
      have hfin : CodePost w (pfs I len p (app (0, 0) p 3) (List.range y)).1 (pfs I len p (app (0, 0) p 3) (List.range y)).2 (.returned (.slice lo (pfs I len p (app (0, 0) p 3) (List.range y)).2 lcap)) wr := ⟨lo, lcap, rfl, HNN.out⟩
      have HFIN := hid hfin
      clear hfin
      generalize pfs I len p (app (0, 0) p 3) (List.range y) = r at *
      go_wp2_with fail
      refine (HPW.out wr).mono ?_
      rintro e w' ⟨rfl, rfl⟩
      go_wp2_with fail
      go_ret
      exact HFIN.out
end Go.Proofs.Ytjimamjhakainaa.Part
/- PartPuts' walk. No condition but the memory's own form. -/
namespace Go.Proofs.Ytjimamjhakainaa.Part
open Go.RowKit Bit Rice Runs

theorem pdknown {w wr : World} {v : Value} {y c : Nat × Nat} (h : Dw w wr v y c) : Calls Try.prog 9 #[] wr fun e w' => e = .returned (.bool true) ∧ Dw w w' v y c := by
  refine (known_true wr).mono ?_
  rintro e w' ⟨rfl, hb⟩
  exact ⟨rfl, h.upto hb⟩
theorem pst_below {W w wr : World} {B p : Nat} {ao : Option Addr} {L : Nat} {r : Nat × Nat} (hW : Below w.heap.size w W) (hp : w.heap.size ≤ p) (hr : ∀ g, blk ao = some g → w.heap.size ≤ g) (h : Pst W B p 0 ao L r wr) : Below w.heap.size w wr := by
  obtain ⟨ao', cap', _, hq⟩ := h
  exact hW.trans (pushed_below hq hp hr hW.size)
set_option maxRecDepth 100000 in
set_option maxHeartbeats 8000000 in
theorem puts_walk (w : World) (a : Option Addr) (len cap b off : Nat) (I : Nat → Int) (h : Is w a len cap b off I) (p : Int) :
    Calls Try.prog 6 #[.slice a len cap, .int .i64 p] w fun e w' => e = .returned (.bool true) ∧ Below w.heap.size w w' := by
  have HK := hid fun w' => known_true w'
  have H := hid h
  have hltb := h.lt
  have HLT := hid hltb
  clear hltb h
  by_cases h60 : 60 < len
  · have h6 : (60 : Int) < (len : Int) := by omega
    go_enter Try.func6, Try.ntmps6
    go_wp2_with fail
    refine (HK.out w).mono ?_
    rintro e w' ⟨rfl, hb⟩
    go_wp2_with fail
    go_ret
    exact ⟨rfl, hb⟩
  · have h6 : ¬ (60 : Int) < (len : Int) := by omega
    have hw0 := new_writer' w 44 _ (Nat.le_refl _)
    obtain ⟨W, hW⟩ : ∃ W, w.alloc (.cells #[.slice none 0 0, .int .u64 0, .int .i64 0] 44) = W := ⟨_, rfl⟩
    have hb0 : Below w.heap.size w W := by rw [← hW]; exact (Below.refl _ _).alloc (Nat.le_refl _) _
    rw [hW] at hw0
    have HW0 := hid hw0
    have HB0 := hid hb0
    have hisW := H.out.below hb0 HLT.out
    have HISW := hid hisW
    have hsep : 0 < len → b ≠ w.heap.size ∧ blk (none : Option Addr) ≠ some b := fun hl => ⟨by have := HLT.out hl; omega, by simp [blk]⟩
    have HSEP := hid hsep
    clear hw0 hb0 hisW hsep
    by_cases hz : allZ I len
    · by_cases ho : ord len p
      · obtain ⟨k, rfl⟩ : ∃ k : Nat, p = (k : Int) := ⟨p.toNat, by have := ho.1; omega⟩
        have hk6 : k ≤ 6 := by have := ho.2; unfold fin at this; omega
        have HPT := hid (pput_ok w.heap.size w.heap.size 0 a len cap b off I k ho none 0 0 0 W HW0.out HISW.out HSEP.out hz (by omega) (by decide))
        have hple := pfs_le hz (by omega) k (List.range (2 ^ k)) (app (0, 0) k 3) (fun i hi => List.mem_range.1 hi)
        rw [List.length_range] at hple
        have h64 : 2 ^ k ≤ 64 := Nat.pow_le_pow_right (n := 2) (by decide) hk6
        have hap : (app (0, 0) k 3).2 = 3 := rfl
        rw [hap] at hple
        have HWH := hid fun w' (his : Is w' a len cap b off I) => whole_any w' a len cap b off I his (by omega) hz k ho
        have HO := hid fun w' => rorder_any len (by omega) (k : Int) w'
        have HZ := hid hz; have HORD := hid ho
        clear hz ho
        generalize pfs I len k (app (0, 0) k 3) (List.range (2 ^ k)) = r at *
        generalize 2 ^ k = y at *
        go_enter Try.func6, Try.ntmps6
        go_wp2_with fail
        clear hW
        refine Calls.mono HPT.out ?_
        rintro e w1 ⟨rfl, hp1⟩
        have HB1 := hid (pst_below HB0.out (Nat.le_refl _) (fun g hg => by simp [blk] at hg) hp1)
        obtain ⟨ao1, cap1, hw1, hpu1⟩ := hp1
        have HW1 := hid hw1
        have his1 := H.out.below HB1.out HLT.out
        have HMAY := hid (rmay_any w1 a len cap b off I his1)
        have HWH1 := hid (HWH.out w1 his1)
        clear hw1 hpu1 his1
        go_wp2_with fail
        refine HMAY.out.mono ?_
        rintro e w' ⟨c, rfl, rfl, hc⟩
        obtain rfl : c = true := hc.2 ⟨by omega, HZ.out⟩
        clear hc
        go_wp2_with fail
        refine (HO.out w1).mono ?_
        rintro e w' ⟨rfl, rfl⟩
        rw [decide_eq_true HORD.out]
        go_wp2_with fail
        refine HWH1.out.mono ?_
        rintro e w2 ⟨lo, lcap, rfl, hnw⟩
        have hlst : Lst w2 w.heap.size lo lcap r.1 r.2 := Runs.Lst.base_le hnw.lst HB1.out.size
        have hs : Dw w w2 (.slice lo r.2 lcap) r r := ⟨ao1, cap1, lo, lcap, rfl, WrN.upto HW1.out hnw.below, hlst, HB1.out.trans (hnw.below.mono HB1.out.size)⟩
        clear hnw hlst
        go_wp2_with fail
        have hs6 := hs.drew
        clear hs
        go_region_with (first
          | (go_at_call 22; (with_reducible refine (dlen ‹Dw w _ _ _ _› (by first | omega | (simp only []; omega))).mono ?_); rintro e w5 ⟨rfl, hs5⟩)
          | (go_at_call 25; (with_reducible refine (dbytes ‹Dw w _ _ _ _› (by first | omega | (simp only []; omega))).mono ?_); rintro e w9 ⟨rfl, hs9, hr9, hb9⟩; have hc9 := hr9.conv)
          | (go_at_call 26; (with_reducible refine (dbytes_l ‹Dw w _ _ _ _› (by first | omega | (simp only []; omega))).mono ?_); rintro e w8 ⟨g8, rfl, hs8, hr8, hb8⟩; have hc8 := hr8.conv; have hc7 := (hr9.upto hb8).conv)
          | (go_at_call 9; (with_reducible refine (pdknown ‹Dw w _ _ _ _›).mono ?_); rintro e w2 ⟨rfl, hs2⟩))
        all_goals
          have hfin := hs2.below
          clear hc9 hc8 hc7 hr9 hr8 hb9 hb8 hs9 hs8 hs6 hs5 hs2
          go_wp2_with fail
          go_ret
          exact ⟨rfl, hfin⟩
      · have HPT := hid (pput_arg ⟨w.heap.size, 0, none⟩ a len cap b off I W HISW.out (by omega) hz p ho)
        have HO := hid fun w' => rorder_any len (by omega) p w'
        have HZ := hid hz; have HORD := hid ho
        clear hz ho
        go_enter Try.func6, Try.ntmps6
        go_wp2_with fail
        clear hW
        refine HPT.out.mono ?_
        rintro e w1 ⟨rfl, hb1⟩
        have HB1 := hid (HB0.out.trans (hb1.mono HB0.out.size))
        have hw1 : WrN w1 w.heap.size w.heap.size 0 none 0 0 0 := WrN.upto HW0.out hb1
        have HMAY := hid (rmay_any w1 a len cap b off I (H.out.below HB1.out HLT.out))
        clear hb1
        go_wp2_with fail
        refine HMAY.out.mono ?_
        rintro e w' ⟨c, rfl, rfl, hc⟩
        obtain rfl : c = true := hc.2 ⟨by omega, HZ.out⟩
        clear hc
        go_wp2_with fail
        refine (HO.out w1).mono ?_
        rintro e w' ⟨rfl, rfl⟩
        rw [decide_eq_false HORD.out]
        go_wp2_with fail
        refine (len_any hw1 (by decide)).mono ?_
        rintro e w2 ⟨rfl, nq, rfl⟩
        have HB2 : RowKit.Hid (Below w.heap.size w (w1.drewN nq)) := hid (HB1.out.trans ⟨rfl, rfl, rfl, Nat.le_refl _, fun _ _ => rfl⟩)
        clear hw1 HB1
        generalize w1.drewN nq = w2 at *
        go_wp2_with fail
        refine (HK.out _).mono ?_
        rintro e w6 ⟨rfl, hb6⟩
        have hfin := HB2.out.trans (hb6.mono HB2.out.size)
        clear hb6
        go_wp2_with fail
        go_ret
        exact ⟨rfl, hfin⟩
    · have HPT := hid (pput_range ⟨w.heap.size, 0, none⟩ a len cap b off I W HISW.out (by omega) hz p)
      have HZ := hid hz
      clear hz
      go_enter Try.func6, Try.ntmps6
      go_wp2_with fail
      clear hW
      refine HPT.out.mono ?_
      rintro e w1 ⟨rfl, hb1⟩
      have HB1 := hid (HB0.out.trans (hb1.mono HB0.out.size))
      have hw1 : WrN w1 w.heap.size w.heap.size 0 none 0 0 0 := WrN.upto HW0.out hb1
      have HMAY := hid (rmay_any w1 a len cap b off I (H.out.below HB1.out HLT.out))
      clear hb1
      go_wp2_with fail
      refine HMAY.out.mono ?_
      rintro e w' ⟨c, rfl, rfl, hc⟩
      obtain rfl : c = false := by
        cases c
        · rfl
        · exact absurd (hc.1 rfl).2 HZ.out
      clear hc
      go_wp2_with fail
      refine (len_any hw1 (by decide)).mono ?_
      rintro e w2 ⟨rfl, nq, rfl⟩
      have HB2 : RowKit.Hid (Below w.heap.size w (w1.drewN nq)) := hid (HB1.out.trans ⟨rfl, rfl, rfl, Nat.le_refl _, fun _ _ => rfl⟩)
      clear hw1 HB1
      generalize w1.drewN nq = w2 at *
      go_wp2_with fail
      refine (HK.out _).mono ?_
      rintro e w6 ⟨rfl, hb6⟩
      have hfin := HB2.out.trans (hb6.mono HB2.out.size)
      clear hb6
      go_wp2_with fail
      go_ret
      exact ⟨rfl, hfin⟩
end Go.Proofs.Ytjimamjhakainaa.Part
