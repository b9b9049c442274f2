/- The document's choice of a part's way: the same as the program's. Conditions: the list is coded. -/
import Derived.Test.YtjimamjhakainaaM22
namespace Go.Proofs.Ytjimamjhakainaa.Part
open Go.RowKit Bit Rice Runs

def mw (I : Nat → Int) (j : Nat) : Nat := Lib.bitLen (gr I j)
theorem mw_step (I : Nat → Int) (j : Nat) (h : gr I j < 18446744073709551616) (h2 : zg (I j) < 18446744073709551616) : mw I (j + 1) = max (mw I j) (Lib.bitLen (zg (I j))) := bl_max h h2
theorem below_fr {B : Nat} {X : Nat → Prop} {w w2 wt : World} (h : Below B w w2) (hB : B ≤ w.heap.size) (hf : Fr X w2 wt) (hX : ∀ k, k < B → ¬ X k) : Below B w wt :=
  ⟨hf.os.trans h.os, hf.tape.trans h.tape, hf.output.trans h.output, Nat.le_trans h.size hf.size, fun k hk => (hf.block k (by have := h.size; omega) (hX k hk)).trans (h.block k hk)⟩
set_option maxRecDepth 100000 in
set_option maxHeartbeats 4000000 in
theorem rchoose_any (w : World) (a : Option Addr) (len cap b off : Nat) (I : Nat → Int) (h : Is w a len cap b off I) (hlen : len ≤ 65536) (hz : allZ I len) :
    Calls Try.prog 12 #[.slice a len cap] w (WayPost w (wy I len)) := by
  have hgr : gr I len < 1099511627776 := gr_lt I _ (by decide) len fun j hj => hz j hj
  have hb0 := (Below.refl w.heap.size w).alloc (Nat.le_refl _) (.cells #[.int .i64 0, .int .i64 0] 29)
  have his := h.below hb0 h.lt
  have hr : (w.alloc (.cells #[.int .i64 0, .int .i64 0] 29)).rowIs w.heap.size 29 2 (fun _ => .int .i64 0) := ⟨_, heap_alloc_new _ _, rfl, fun i hi => by rcases i with _ | _ | i <;> first | rfl | omega⟩
  obtain ⟨W, hW⟩ : ∃ W, w.alloc (.cells #[.int .i64 0, .int .i64 0] 29) = W := ⟨_, rfl⟩
  rw [hW] at hb0 his hr
  have hWs : W.heap.size = w.heap.size + 1 := by rw [← hW]; simp
  have H := hid his; have HB0 := hid hb0; have HR := hid hr; have HWS := hid hWs; have HGR := hid hgr; have HIB := hid h.ib
  have HN := hid (none_any W a len cap b off I his)
  have hnl := nz_le I len
  clear h his hb0 hr hWs hz
  go_enter Try.func12, Try.ntmps12
  go_wp2_with fail
  refine HN.out.mono ?_
  rintro e w' ⟨rfl, rfl⟩
  have c0 := HR.out.cell (show 0 < 2 by decide)
  have c1 := HR.out.cell (show 1 < 2 by decide)
  have f0 := HR.out.frozen 0
  have f1 := HR.out.frozen 1
  by_cases e : nz I len = len
  · have HE : RowKit.Hid (wy I len = (0, 0, 6)) := hid (if_pos e)
    rw [e]
    have hts := two_set W w.heap.size (.int .i64 0) (.int .i64 0) ⟨_, c0⟩ ⟨_, c1⟩
    obtain ⟨q0, q1⟩ := hts
    clear e hgr
    go_wp2_with fail
    refine bodyPost_ret (v := .tuple #[.agg #[.int .i64 0, .int .i64 0], .int .i64 6]) ?_ rfl ?_
    · rw [results_cell_tmp (p := 2) (u := 3) (ty := 29) (by kernel_rfl)]
      go_simp
    · exact ⟨by rw [HE.out]; rfl, (HB0.out.setCell (p := ⟨w.heap.size, 0, none⟩) (show w.heap.size ≤ w.heap.size by omega) _).setCell (p := ⟨w.heap.size, 1, none⟩) (show w.heap.size ≤ w.heap.size by omega) _⟩
  · have hne : ((nz I len : Int) == (len : Int)) = false := beq_eq_false_iff_ne.2 (by omega)
    have HE0 := hid e
    clear e hgr c0 c1 f0 f1
    have HZ := hid (rzigs_any W a len cap b off I H.out (by omega))
    go_wp2_with fail
    refine HZ.out.mono ?_
    rintro e w1 ⟨lo, lcap, zb, rfl, hus, hzb, hb1⟩
    have HUS := hid hus
    have HB1 := hid hb1
    have h64 := gr_64 I len fun i hi => HIB.out i hi
    have H64 := hid h64
    clear hus hb1 h64
    go_wp2_with fail
    go_loopg [5, 6] len (fun g v i wr => ∃ j : Nat, j ≤ len ∧ g = len - j ∧ v = .int .i64 (mw I j : Int) ∧ i = .int .i64 j ∧ w1 = wr)
    case atStart => exact ⟨0, Nat.zero_le _, rfl, rfl, rfl, rfl⟩
    case round =>
      obtain ⟨j, hj, hg, rfl, rfl, rfl⟩ := hrel
      have HG := hid hg
      clear hg
      by_cases hlt : j < len
      · have hlt2 : (j : Int) < (len : Int) := by omega
        obtain rfl := HUS.out.addr (by omega)
        have ck := HUS.out.c j hlt
        rw [Nat.zero_add] at ck
        have hgj : gr I j < 18446744073709551616 := gr_64 I j fun i hi => HIB.out i (by omega)
        have hzj := zg_lt (HIB.out j hlt)
        have HM := hid (mw_step I j hgj hzj)
        have HWD : RowKit.Hid (Calls Try.prog 37 #[.int .u64 (zs I j : Int)] w1 fun e w' => e = .returned (.int .i64 (Lib.bitLen (zg (I j)) : Int)) ∧ w1 = w') := hid (rwidth_any (zg (I j)) hzj w1)
        clear hgj hzj
        generalize mw I j = x at *
        generalize Lib.bitLen (zg (I j)) = y at *
        go_wp2_with fail
        refine HWD.out.mono ?_
        rintro e w' ⟨rfl, rfl⟩
        by_cases hxy : x < y
        · have hxy2 : (x : Int) < (y : Int) := by omega
          go_wp2_with fail
          refine HWD.out.mono ?_
          rintro e w' ⟨rfl, rfl⟩
          go_wp2_with fail
          go_roundg (len - (j + 1))
          case measure => rw [HG.out]; omega
          case rel => exact ⟨j + 1, by omega, rfl, by rw [HM.out, Nat.max_eq_right (by omega)], by go_num, rfl⟩
        · have hxy2 : ¬ (x : Int) < (y : Int) := by omega
          go_wp2_with fail
          go_roundg (len - (j + 1))
          case measure => rw [HG.out]; omega
          case rel => exact ⟨j + 1, by omega, rfl, by rw [HM.out, Nat.max_eq_left (by omega)], by go_num, rfl⟩
      · have hge : ¬ (j : Int) < (len : Int) := by omega
        obtain rfl : len = j := by omega
        have hbst := rbest_any w1 lo len lcap zb 0 (zs I) HUS.out (by omega) (Lib.bitLen (gr I len) : Nat)
        rw [kr_most I len H64.out] at hbst
        have HBST : RowKit.Hid (Calls Try.prog 38 #[.slice lo len lcap, .int .i64 (mw I len : Int)] w1 fun e w' => e = .returned (.tuple #[.int .i64 (kr I len : Int), .int .i64 (tt I len (kr I len) : Int)]) ∧ w1 = w') := hid hbst
        clear hbst
        go_wp2_with fail
        refine HBST.out.mono ?_
        rintro e w' ⟨rfl, rfl⟩
        obtain ⟨q, hq⟩ : ∃ q, kr I len = q := ⟨_, rfl⟩
        obtain ⟨t, ht⟩ : ∃ t, tt I len q = t := ⟨_, rfl⟩
        have htl : t ≤ 64 * len := by rw [← ht]; exact tt_le _ _ _
        have hwy : wy I len = (if 12 + rw_ I len * len < (if len ≤ 2 * nz I len ∧ 11 + cstI I (rbs I len 30 : Nat) len < 6 + t then (2, rbs I len 30, 11 + cstI I (rbs I len 30 : Nat) len) else (1, q, 6 + t) : Nat × Nat × Nat).2.2 then (3, rw_ I len, 12 + rw_ I len * len) else (if len ≤ 2 * nz I len ∧ 11 + cstI I (rbs I len 30 : Nat) len < 6 + t then (2, rbs I len 30, 11 + cstI I (rbs I len 30 : Nat) len) else (1, q, 6 + t))) := by
          unfold wy
          rw [if_neg HE0.out, ← ht, ← hq]
        have hcl : cstI I (rbs I len 30 : Nat) len ≤ 127 * len + 63 := by
          unfold cstI
          split
          · exact cst_le I _ len
          · exact Nat.zero_le _
        have hrl := rw_le I len HGR.out
        rw [hq, ht]
        obtain ⟨w2, hw2⟩ : ∃ w2, w1.alloc (.cells #[.int .i64 1, .int .i64 (q : Int)] 29) = w2 := ⟨_, rfl⟩
        have hb2 : Below w1.heap.size w1 w2 := by rw [← hw2]; exact (Below.refl w1.heap.size w1).alloc (Nat.le_refl _) _
        have hs2 : w2.heap.size = w1.heap.size + 1 := by rw [← hw2]; simp
        have hr2 : w2.rowIs w1.heap.size 29 2 (fun i => if i = 0 then .int .i64 1 else .int .i64 (q : Int)) := by
          rw [← hw2]; exact ⟨_, heap_alloc_new _ _, rfl, fun i hi => by rcases i with _ | _ | i <;> first | rfl | omega⟩
        have hWw2 : Below W.heap.size W w2 := HB1.out.trans (hb2.mono HB1.out.size)
        have HIS2 := hid (H.out.below hWw2 H.out.lt)
        have HN2 := hid (none_any w2 a len cap b off I HIS2.out)
        have HRB := hid (rrbest_any w2 a len cap b off I HIS2.out (by omega))
        have HR2 := hid hr2; have HS2 := hid hs2; have HW2 := hid hWw2; have HWY := hid hwy
        have H1S := hid HB1.out.size
        obtain ⟨m, hm⟩ : ∃ m, rw_ I len * len = m := ⟨_, rfl⟩
        have hml : m ≤ 41 * 65536 := by rw [← hm]; exact Nat.mul_le_mul hrl hlen
        have hmi : (rw_ I len : Int) * (len : Int) = (m : Int) := by rw [← hm]; push_cast; rfl
        rw [hm] at HWY
        have HRWL := hid hrl
        clear hb2 hs2 hr2 hWw2 hwy hm hq ht hrl
        generalize cstI I (rbs I len 30 : Nat) len = c2 at *
        generalize rbs I len 30 = k2 at *
        go_wp2_with fail
        refine HN2.out.mono ?_
        rintro e w' ⟨rfl, rfl⟩
        by_cases h2n : len ≤ 2 * nz I len
        · have h2i : (len : Int) ≤ 2 * (nz I len : Int) := by omega
          go_wp2_with fail
          refine HRB.out.mono ?_
          rintro e w3 ⟨rfl, hf3⟩
          have hr3 : w3.rowIs w1.heap.size 29 2 (fun i => if i = 0 then .int .i64 1 else .int .i64 (q : Int)) := HR2.out.of_block (hf3.block _ (by have := HS2.out; omega) (fun h => h))
          have y0 := hr3.cell (show 0 < 2 by decide)
          have y1 := hr3.cell (show 1 < 2 by decide)
          have v0 := hr3.frozen 0
          have v1 := hr3.frozen 1
          rw [if_pos rfl] at y0
          rw [if_neg (by decide)] at y1
          by_cases hbt : 11 + c2 < 6 + t
          · have hbi : 11 + (c2 : Int) < 6 + (t : Int) := by omega
            have hcc : (if len ≤ 2 * nz I len ∧ 11 + c2 < 6 + t then (2, k2, 11 + c2) else (1, q, 6 + t) : Nat × Nat × Nat) = (2, k2, 11 + c2) := if_pos ⟨h2n, hbt⟩
            have ht2 := two_set w3 w1.heap.size (.int .i64 2) (.int .i64 (k2 : Int)) ⟨_, y0⟩ ⟨_, y1⟩
            obtain ⟨x0, x1⟩ := ht2
            have e0 : ((w3.setCell ⟨w1.heap.size, 0, none⟩ (.int .i64 2)).setCell ⟨w1.heap.size, 1, none⟩ (.int .i64 (k2 : Int))).frozen? ⟨w1.heap.size, 0, none⟩ = false := by rw [frozen_setCell, frozen_setCell]; exact v0
            have e1 : ((w3.setCell ⟨w1.heap.size, 0, none⟩ (.int .i64 2)).setCell ⟨w1.heap.size, 1, none⟩ (.int .i64 (k2 : Int))).frozen? ⟨w1.heap.size, 1, none⟩ = false := by rw [frozen_setCell, frozen_setCell]; exact v1
            have h4a : Fr (fun g => g = w1.heap.size) w2 w3 := hf3.mono fun _ _ h => h.elim
            have h4b : Fr (fun g => g = w1.heap.size) w2 ((w3.setCell ⟨w1.heap.size, 0, none⟩ (.int .i64 2)).setCell ⟨w1.heap.size, 1, none⟩ (.int .i64 (k2 : Int))) := (h4a.setCell (p := ⟨w1.heap.size, 0, none⟩) rfl _).setCell (p := ⟨w1.heap.size, 1, none⟩) rfl _
            obtain ⟨w4, hw4⟩ : ∃ w4, (w3.setCell ⟨w1.heap.size, 0, none⟩ (.int .i64 2)).setCell ⟨w1.heap.size, 1, none⟩ (.int .i64 (k2 : Int)) = w4 := ⟨_, rfl⟩
            rw [hw4] at x0 x1 e0 e1 h4b
            clear hbt
            have hfr : Fr (fun g => g = w1.heap.size) w2 w4 := h4b
            have hxw : ¬ (fun g => g = w1.heap.size) w.heap.size := (show ¬ w.heap.size = w1.heap.size from by have := HWS.out; have := H1S.out; omega)
            have HRA := hid (rraw_any w4 a len cap b off I (HIS2.out.fr hfr (fun hl (hx : b = w1.heap.size) => by have := H.out.lt hl; have := H1S.out; omega)))
            have HBEL : RowKit.Hid (Below w.heap.size w w4) := hid (below_fr (HB0.out.trans (HW2.out.mono HB0.out.size)) (Nat.le_refl _) hfr (fun k hk (hx : k = w1.heap.size) => by have := HWS.out; have := H1S.out; omega))
            have z0 : w4.cell? ⟨w.heap.size, 0, none⟩ = some (.int .i64 0) := (hfr.cell (p := ⟨w.heap.size, 0, none⟩) (by show w.heap.size < _; have := HWS.out; have := HW2.out.size; omega) hxw).trans ((World.cell?_of_block (a := ⟨w.heap.size, 0, none⟩) (HW2.out.block w.heap.size (by rw [HWS.out]; omega))).trans (HR.out.cell (show 0 < 2 by decide)))
            have z1 : w4.cell? ⟨w.heap.size, 1, none⟩ = some (.int .i64 0) := (hfr.cell (p := ⟨w.heap.size, 1, none⟩) (by show w.heap.size < _; have := HWS.out; have := HW2.out.size; omega) hxw).trans ((World.cell?_of_block (a := ⟨w.heap.size, 1, none⟩) (HW2.out.block w.heap.size (by rw [HWS.out]; omega))).trans (HR.out.cell (show 1 < 2 by decide)))
            have g0 : w4.frozen? ⟨w.heap.size, 0, none⟩ = false := (hfr.frozen (p := ⟨w.heap.size, 0, none⟩) (by show w.heap.size < _; have := HWS.out; have := HW2.out.size; omega) hxw).trans ((World.frozen?_of_block (a := ⟨w.heap.size, 0, none⟩) (HW2.out.block w.heap.size (by rw [HWS.out]; omega))).trans (HR.out.frozen 0))
            have g1 : w4.frozen? ⟨w.heap.size, 1, none⟩ = false := (hfr.frozen (p := ⟨w.heap.size, 1, none⟩) (by show w.heap.size < _; have := HWS.out; have := HW2.out.size; omega) hxw).trans ((World.frozen?_of_block (a := ⟨w.heap.size, 1, none⟩) (HW2.out.block w.heap.size (by rw [HWS.out]; omega))).trans (HR.out.frozen 1))
            rw [hcc] at HWY
            have HHW := hid HWY.out
            clear hfr hxw hcc
            go_wp2_with fail
            refine HRA.out.mono ?_
            rintro e w9 ⟨rfl, rfl⟩
            by_cases h3 : 12 + m < 11 + c2
            · have h3i : 12 + (m : Int) < 11 + (c2 : Int) := by omega
              have hE : wy I len = (3, rw_ I len, 12 + m) := by rw [HHW.out]; exact if_pos h3
              have HE := hid hE
              have hts := two_set w4 w.heap.size (.int .i64 3) (.int .i64 ((rw_ I len : Nat) : Int)) ⟨_, z0⟩ ⟨_, z1⟩
              obtain ⟨q0, q1⟩ := hts
              clear hE h3
              go_wp2_with fail
              refine bodyPost_ret (v := .tuple #[.agg #[.int .i64 3, .int .i64 ((rw_ I len : Nat) : Int)], .int .i64 (12 + (m : Int))]) ?_ rfl ?_
              · rw [results_cell_tmp (p := 2) (u := 3) (ty := 29) (by kernel_rfl)]
                go_simp
              · exact ⟨by rw [HE.out]; rfl, (HBEL.out.setCell (p := ⟨w.heap.size, 0, none⟩) (show w.heap.size ≤ w.heap.size by omega) _).setCell (p := ⟨w.heap.size, 1, none⟩) (show w.heap.size ≤ w.heap.size by omega) _⟩
            · have h3i : ¬ 12 + (m : Int) < 11 + (c2 : Int) := by omega
              have hE : wy I len = (2, k2, 11 + c2) := by rw [HHW.out]; exact if_neg h3
              have HE := hid hE
              have hts := two_set w4 w.heap.size (.int .i64 2) (.int .i64 ((k2 : Nat) : Int)) ⟨_, z0⟩ ⟨_, z1⟩
              obtain ⟨q0, q1⟩ := hts
              clear hE h3
              go_wp2_with fail
              refine bodyPost_ret (v := .tuple #[.agg #[.int .i64 2, .int .i64 ((k2 : Nat) : Int)], .int .i64 (11 + (c2 : Int))]) ?_ rfl ?_
              · rw [results_cell_tmp (p := 2) (u := 3) (ty := 29) (by kernel_rfl)]
                go_simp
              · exact ⟨by rw [HE.out]; rfl, (HBEL.out.setCell (p := ⟨w.heap.size, 0, none⟩) (show w.heap.size ≤ w.heap.size by omega) _).setCell (p := ⟨w.heap.size, 1, none⟩) (show w.heap.size ≤ w.heap.size by omega) _⟩
          · have hbi : ¬ 11 + (c2 : Int) < 6 + (t : Int) := by omega
            have hcc : (if len ≤ 2 * nz I len ∧ 11 + c2 < 6 + t then (2, k2, 11 + c2) else (1, q, 6 + t) : Nat × Nat × Nat) = (1, q, 6 + t) := if_neg (fun h => hbt h.2)
            clear hbt
            have hfr : Fr (fun _ => False) w2 w3 := hf3
            have hxw : ¬ (fun _ => False) w.heap.size := (fun h => h)
            have HRA := hid (rraw_any w3 a len cap b off I (HIS2.out.fr hfr (fun _ h => h)))
            have HBEL : RowKit.Hid (Below w.heap.size w w3) := hid (below_fr (HB0.out.trans (HW2.out.mono HB0.out.size)) (Nat.le_refl _) hfr (fun _ _ h => h))
            have z0 : w3.cell? ⟨w.heap.size, 0, none⟩ = some (.int .i64 0) := (hfr.cell (p := ⟨w.heap.size, 0, none⟩) (by show w.heap.size < _; have := HWS.out; have := HW2.out.size; omega) hxw).trans ((World.cell?_of_block (a := ⟨w.heap.size, 0, none⟩) (HW2.out.block w.heap.size (by rw [HWS.out]; omega))).trans (HR.out.cell (show 0 < 2 by decide)))
            have z1 : w3.cell? ⟨w.heap.size, 1, none⟩ = some (.int .i64 0) := (hfr.cell (p := ⟨w.heap.size, 1, none⟩) (by show w.heap.size < _; have := HWS.out; have := HW2.out.size; omega) hxw).trans ((World.cell?_of_block (a := ⟨w.heap.size, 1, none⟩) (HW2.out.block w.heap.size (by rw [HWS.out]; omega))).trans (HR.out.cell (show 1 < 2 by decide)))
            have g0 : w3.frozen? ⟨w.heap.size, 0, none⟩ = false := (hfr.frozen (p := ⟨w.heap.size, 0, none⟩) (by show w.heap.size < _; have := HWS.out; have := HW2.out.size; omega) hxw).trans ((World.frozen?_of_block (a := ⟨w.heap.size, 0, none⟩) (HW2.out.block w.heap.size (by rw [HWS.out]; omega))).trans (HR.out.frozen 0))
            have g1 : w3.frozen? ⟨w.heap.size, 1, none⟩ = false := (hfr.frozen (p := ⟨w.heap.size, 1, none⟩) (by show w.heap.size < _; have := HWS.out; have := HW2.out.size; omega) hxw).trans ((World.frozen?_of_block (a := ⟨w.heap.size, 1, none⟩) (HW2.out.block w.heap.size (by rw [HWS.out]; omega))).trans (HR.out.frozen 1))
            rw [hcc] at HWY
            have HHW := hid HWY.out
            clear hfr hxw hcc
            go_wp2_with fail
            refine HRA.out.mono ?_
            rintro e w9 ⟨rfl, rfl⟩
            by_cases h3 : 12 + m < 6 + t
            · have h3i : 12 + (m : Int) < 6 + (t : Int) := by omega
              have hE : wy I len = (3, rw_ I len, 12 + m) := by rw [HHW.out]; exact if_pos h3
              have HE := hid hE
              have hts := two_set w3 w.heap.size (.int .i64 3) (.int .i64 ((rw_ I len : Nat) : Int)) ⟨_, z0⟩ ⟨_, z1⟩
              obtain ⟨q0, q1⟩ := hts
              clear hE h3
              go_wp2_with fail
              refine bodyPost_ret (v := .tuple #[.agg #[.int .i64 3, .int .i64 ((rw_ I len : Nat) : Int)], .int .i64 (12 + (m : Int))]) ?_ rfl ?_
              · rw [results_cell_tmp (p := 2) (u := 3) (ty := 29) (by kernel_rfl)]
                go_simp
              · exact ⟨by rw [HE.out]; rfl, (HBEL.out.setCell (p := ⟨w.heap.size, 0, none⟩) (show w.heap.size ≤ w.heap.size by omega) _).setCell (p := ⟨w.heap.size, 1, none⟩) (show w.heap.size ≤ w.heap.size by omega) _⟩
            · have h3i : ¬ 12 + (m : Int) < 6 + (t : Int) := by omega
              have hE : wy I len = (1, q, 6 + t) := by rw [HHW.out]; exact if_neg h3
              have HE := hid hE
              have hts := two_set w3 w.heap.size (.int .i64 1) (.int .i64 ((q : Nat) : Int)) ⟨_, z0⟩ ⟨_, z1⟩
              obtain ⟨q0, q1⟩ := hts
              clear hE h3
              go_wp2_with fail
              refine bodyPost_ret (v := .tuple #[.agg #[.int .i64 1, .int .i64 ((q : Nat) : Int)], .int .i64 (6 + (t : Int))]) ?_ rfl ?_
              · rw [results_cell_tmp (p := 2) (u := 3) (ty := 29) (by kernel_rfl)]
                go_simp
              · exact ⟨by rw [HE.out]; rfl, (HBEL.out.setCell (p := ⟨w.heap.size, 0, none⟩) (show w.heap.size ≤ w.heap.size by omega) _).setCell (p := ⟨w.heap.size, 1, none⟩) (show w.heap.size ≤ w.heap.size by omega) _⟩
        · have h2i : ¬ (len : Int) ≤ 2 * (nz I len : Int) := by omega
          have y0 := HR2.out.cell (show 0 < 2 by decide)
          have y1 := HR2.out.cell (show 1 < 2 by decide)
          rw [if_pos rfl] at y0
          rw [if_neg (by decide)] at y1
          have hcc : (if len ≤ 2 * nz I len ∧ 11 + c2 < 6 + t then (2, k2, 11 + c2) else (1, q, 6 + t) : Nat × Nat × Nat) = (1, q, 6 + t) := if_neg (fun h => h2n h.1)
          have hfr : Fr (fun _ => False) w2 w2 := Fr.refl _ _
          have hxw : ¬ (fun _ => False) w.heap.size := (fun h => h)
          have HRA := hid (rraw_any w2 a len cap b off I (HIS2.out.fr hfr (fun _ h => h)))
          have HBEL : RowKit.Hid (Below w.heap.size w w2) := hid (below_fr (HB0.out.trans (HW2.out.mono HB0.out.size)) (Nat.le_refl _) hfr (fun _ _ h => h))
          have z0 : w2.cell? ⟨w.heap.size, 0, none⟩ = some (.int .i64 0) := (hfr.cell (p := ⟨w.heap.size, 0, none⟩) (by show w.heap.size < _; have := HWS.out; have := HW2.out.size; omega) hxw).trans ((World.cell?_of_block (a := ⟨w.heap.size, 0, none⟩) (HW2.out.block w.heap.size (by rw [HWS.out]; omega))).trans (HR.out.cell (show 0 < 2 by decide)))
          have z1 : w2.cell? ⟨w.heap.size, 1, none⟩ = some (.int .i64 0) := (hfr.cell (p := ⟨w.heap.size, 1, none⟩) (by show w.heap.size < _; have := HWS.out; have := HW2.out.size; omega) hxw).trans ((World.cell?_of_block (a := ⟨w.heap.size, 1, none⟩) (HW2.out.block w.heap.size (by rw [HWS.out]; omega))).trans (HR.out.cell (show 1 < 2 by decide)))
          have g0 : w2.frozen? ⟨w.heap.size, 0, none⟩ = false := (hfr.frozen (p := ⟨w.heap.size, 0, none⟩) (by show w.heap.size < _; have := HWS.out; have := HW2.out.size; omega) hxw).trans ((World.frozen?_of_block (a := ⟨w.heap.size, 0, none⟩) (HW2.out.block w.heap.size (by rw [HWS.out]; omega))).trans (HR.out.frozen 0))
          have g1 : w2.frozen? ⟨w.heap.size, 1, none⟩ = false := (hfr.frozen (p := ⟨w.heap.size, 1, none⟩) (by show w.heap.size < _; have := HWS.out; have := HW2.out.size; omega) hxw).trans ((World.frozen?_of_block (a := ⟨w.heap.size, 1, none⟩) (HW2.out.block w.heap.size (by rw [HWS.out]; omega))).trans (HR.out.frozen 1))
          rw [hcc] at HWY
          have HHW := hid HWY.out
          clear hfr hxw hcc
          go_wp2_with fail
          refine HRA.out.mono ?_
          rintro e w9 ⟨rfl, rfl⟩
          by_cases h3 : 12 + m < 6 + t
          · have h3i : 12 + (m : Int) < 6 + (t : Int) := by omega
            have hE : wy I len = (3, rw_ I len, 12 + m) := by rw [HHW.out]; exact if_pos h3
            have HE := hid hE
            have hts := two_set w2 w.heap.size (.int .i64 3) (.int .i64 ((rw_ I len : Nat) : Int)) ⟨_, z0⟩ ⟨_, z1⟩
            obtain ⟨q0, q1⟩ := hts
            clear hE h3
            go_wp2_with fail
            refine bodyPost_ret (v := .tuple #[.agg #[.int .i64 3, .int .i64 ((rw_ I len : Nat) : Int)], .int .i64 (12 + (m : Int))]) ?_ rfl ?_
            · rw [results_cell_tmp (p := 2) (u := 3) (ty := 29) (by kernel_rfl)]
              go_simp
            · exact ⟨by rw [HE.out]; rfl, (HBEL.out.setCell (p := ⟨w.heap.size, 0, none⟩) (show w.heap.size ≤ w.heap.size by omega) _).setCell (p := ⟨w.heap.size, 1, none⟩) (show w.heap.size ≤ w.heap.size by omega) _⟩
          · have h3i : ¬ 12 + (m : Int) < 6 + (t : Int) := by omega
            have hE : wy I len = (1, q, 6 + t) := by rw [HHW.out]; exact if_neg h3
            have HE := hid hE
            have hts := two_set w2 w.heap.size (.int .i64 1) (.int .i64 ((q : Nat) : Int)) ⟨_, z0⟩ ⟨_, z1⟩
            obtain ⟨q0, q1⟩ := hts
            clear hE h3
            go_wp2_with fail
            refine bodyPost_ret (v := .tuple #[.agg #[.int .i64 1, .int .i64 ((q : Nat) : Int)], .int .i64 (6 + (t : Int))]) ?_ rfl ?_
            · rw [results_cell_tmp (p := 2) (u := 3) (ty := 29) (by kernel_rfl)]
              go_simp
            · exact ⟨by rw [HE.out]; rfl, (HBEL.out.setCell (p := ⟨w.heap.size, 0, none⟩) (show w.heap.size ≤ w.heap.size by omega) _).setCell (p := ⟨w.heap.size, 1, none⟩) (show w.heap.size ≤ w.heap.size by omega) _⟩
end Go.Proofs.Ytjimamjhakainaa.Part
