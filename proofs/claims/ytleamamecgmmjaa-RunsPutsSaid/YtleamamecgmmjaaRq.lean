/- The document's Code of runs. Conditions: the parameter is one; the list is coded; at most 2^20 numbers. -/
import Derived.Test.YtleamamecgmmjaaRm
import Derived.Test.YtleamamecgmmjaaRj
namespace Go.Proofs.Ytleamamecgmmjaa.Runs
open Go.RowKit Bit Rice

theorem rgammaI (xi : Int) (v : Nat) (hxi : xi = v) (h : hg v) (w : World) : Calls Try.prog 11 #[.int .u64 xi] w (CodePost w v (gl v)) := by
  subst hxi
  have := rgamma_any v (by unfold hg at h; omega) w
  rw [gv_ok h] at this
  exact this
theorem rcodeI (ui : Int) (u k : Nat) (hui : ui = u) (hk : k ≤ 30) (hu : coded u) (w : World) : Calls Try.prog 53 #[.int .u64 ui, .int .i64 (k : Int)] w (CodePost w (cod u k) (cost u k)) := by
  subst hui
  have := code_any u k w
  rw [show codI u k = cod u k from if_pos ⟨⟨by omega, by omega⟩, hu⟩] at this
  exact this
/-- The codes so far, as the document's loop has them. -/
def cst2 (I : Nat → Int) (k len j : Nat) : Nat × Nat := if j = len then cfin I k (0, 0) len else cgd I k (0, 0) j
theorem cst2_le (I : Nat → Int) (k len j : Nat) : (cst2 I k len j).2 ≤ 127 * len + 63 ∨ (cst2 I k len j).2 ≤ 127 * j := by
  unfold cst2
  split
  · have := cfin_le I k (0, 0) len; simp only at this; left; omega
  · have := cgd_le I k (0, 0) j; simp only at this; right; omega

set_option maxHeartbeats 3200000 in
set_option maxRecDepth 100000 in
theorem rrcode_any (w : World) (a : Option Addr) (len cap b off : Nat) (I : Nat → Int) (h : Is w a len cap b off I) (hlen : len ≤ 1048576) (k : Nat) (hk : k ≤ 30) (hz : allZ I len) :
    Calls Try.prog 26 #[.slice a len cap, .int .i64 (k : Int)] w (CodePost w (cfin I k (0, 0) len).1 (cfin I k (0, 0) len).2) := by
  obtain ⟨i0, hi, hz0, hz1, hz2⟩ := info_parts Try.info3
  have H := hid h
  have HZZ := hid hz
  have hn0 := nw_none w
  have h00 : cst2 I k len 0 = (0, 0) := by
    unfold cst2
    split
    · rename_i e; subst e; rfl
    · rfl
  have HS := hid h00
  clear h hz h00
  go_enter Try.func26, Try.ntmps26
  go_wp2_with fail
  go_loopg [5, 6, 7] len (fun g v n i wr => ∃ (j : Nat) (lo : Option Addr) (lcap : Nat), j ≤ len ∧ g = len - j ∧ v = .slice lo (cst2 I k len j).2 lcap ∧ n = .int .i64 (rn I j : Int) ∧ i = .int .i64 j ∧ Nw w w.heap.size lo lcap (cst2 I k len j).1 (cst2 I k len j).2 wr)
  case atStart => exact ⟨0, none, 0, Nat.zero_le _, rfl, by rw [HS.out], rfl, rfl, by rw [HS.out]; exact hn0⟩
  case round =>
    obtain ⟨j, lo, lcap, hj, hg, rfl, rfl, rfl, hn⟩ := hrel
    have HG := hid hg
    have hrl := rn_le I j
    clear hg hn0
    by_cases hlt : j < len
    · have hlt2 : (j : Int) < (len : Int) := by omega
      have e2 : cst2 I k len j = cgd I k (0, 0) j := if_neg (by omega)
      rw [e2] at hn ⊢
      have hcl := cgd_le I k (0, 0) j
      simp only [Nat.zero_add] at hcl
      have ck := (H.out.below hn.below H.out.lt).c j hlt
      by_cases h0 : I j = 0
      · rw [h0] at ck
        have hr1 : rn I (j + 1) = rn I j + 1 := if_pos h0
        have hc1 : cgd I k (0, 0) (j + 1) = cgd I k (0, 0) j := if_pos h0
        obtain rfl := H.out.addr (by omega)
        by_cases hlast : j + 1 = len
        · have g2 : ((j : Int) == (len : Int) - 1) = true := beq_iff_eq.2 (by omega)
          have e3 : cst2 I k len (j + 1) = gam (cgd I k (0, 0) j) (rn I j + 1 + 1) := by
            unfold cst2 cfin
            rw [if_pos hlast, ← hlast, hr1, hc1, if_pos (by omega)]
          have hgv : hg (rn I j + 1 + 1) := ⟨by omega, by omega⟩
          have HE := hid e3
          have HR := hid hr1
          have HLA := hid hlast
          have hj1 : j + 1 ≤ len := by omega
          clear hlast
          have HGM := hid fun xi (hx : xi = ((rn I j + 1 + 1 : Nat) : Int)) w => rgammaI xi (rn I j + 1 + 1) hx hgv w
          have hgl := gl_le (rn I j + 1 + 1)
          have HVL := hid (gl_ok hgv).2.2.2.1
          have hgam : gam (cgd I k (0, 0) j) (rn I j + 1 + 1) = ((cgd I k (0, 0) j).1 * 2 ^ gl (rn I j + 1 + 1) + (rn I j + 1 + 1), (cgd I k (0, 0) j).2 + gl (rn I j + 1 + 1)) := rfl
          rw [hgam] at HE
          clear e3 hr1 hc1 e2 h0 hgv hgam
          generalize gl (rn I j + 1 + 1) = gj at *
          generalize cgd I k (0, 0) j = r at *
          generalize rn I j = nj at *
          have hnb : nj ≤ 1048576 := by omega
          go_wp2_with fail
          refine Calls.mono (HGM.out _ ?hx wr) ?_
          case hx => first | omega | (simp only [IntKind.wrap_u64]; omega)
          rintro e w2 ⟨lo2, lcap2, rfl, hn2⟩
          have hn3 := hn.below' hn2.below
          have hsz : w.heap.size ≤ w2.heap.size := hn3.below.size
          go_wp2_with (at_builtin; go_must (refine wpList_append_list _ rfl (.tmp 26) (.tmp 30) 29 rfl w.heap.size 3 i0 (.int .i64 0) 8 Try.underlying29 hi hz0 hz1 hz2 rfl lo r.2 lcap (bitl r.1 r.2) rfl hn3.lst lo2 gj lcap2 (bitl (nj + 1 + 1) gj) rfl (bitl_len _ gj) hn2.lst.none' hn2.lst.cells (bitl_one _ gj) (by unfold maxLen; omega) (by omega) hsz ?_))
          intro lo4 lcap4 w4 hown4 hg4 hat4
          have hn4 := hn.app hn2.below HVL.out hown4 hg4 hat4
          have hst : Value.slice lo4 (r.2 + gj) lcap4 = .slice lo4 (cst2 I k len (j + 1)).2 lcap4 ∧ Nw w w.heap.size lo4 lcap4 (cst2 I k len (j + 1)).1 (cst2 I k len (j + 1)).2 w4 := by
            rw [HE.out]; exact ⟨rfl, hn4⟩
          have HST := hid hst
          clear hown4 hg4 hat4 hn hn3 hn2 hsz hst hn4 ck
          go_wp2_with fail
          go_roundg (len - (j + 1))
          case measure => rw [HG.out]; omega
          case rel => exact ⟨j + 1, lo4, lcap4, by omega, rfl, HST.out.1, by rw [HR.out]; go_num, by go_num, HST.out.2⟩
        · have g1 : ¬ (j : Int) = (len : Int) - 1 := by omega
          have g2 : ((j : Int) == (len : Int) - 1) = false := beq_eq_false_iff_ne.2 g1
          have e3 : cst2 I k len (j + 1) = cgd I k (0, 0) j := by
            unfold cst2
            rw [if_neg hlast, hc1]
          have HE := hid e3
          have HR := hid hr1
          clear e3 hr1 hc1 e2 h0 g1
          generalize cgd I k (0, 0) j = r at *
          generalize rn I j = nj at *
          go_wp2_with fail
          go_roundg (len - (j + 1))
          case measure => rw [HG.out]; omega
          case rel => exact ⟨j + 1, lo, lcap, by omega, rfl, by rw [HE.out], by rw [HR.out]; go_num, by go_num, by rw [HE.out]; exact hn⟩
      · have e0 : ((I j) == 0) = false := beq_eq_false_iff_ne.2 h0
        have hr1 : rn I (j + 1) = 0 := if_neg h0
        have hc1 : cgd I k (0, 0) (j + 1) = app (gam (cgd I k (0, 0) j) (rn I j + 1)) (cod (zg (I j) - 1) k) (cost (zg (I j) - 1) k) := if_neg h0
        have e3 : cst2 I k len (j + 1) = cgd I k (0, 0) (j + 1) := by
          unfold cst2 cfin
          split
          · rename_i e; rw [← e, hr1, if_neg (Nat.lt_irrefl _)]
          · rfl
        rw [hc1] at e3
        have hgv : hg (rn I j + 1) := ⟨by omega, by omega⟩
        have hcz : coded (zg (I j) - 1) := by have := HZZ.out j hlt; unfold coded at *; omega
        have hzp := zg_pos h0
        have hzl := zg_lt (H.out.ib j hlt)
        have HZ := hid fun w => rzig_any (I j) (H.out.ib j hlt) w
        have HGM := hid fun xi (hx : xi = ((rn I j + 1 : Nat) : Int)) w => rgammaI xi (rn I j + 1) hx hgv w
        have HCD := hid fun ui (hx : ui = ((zg (I j) - 1 : Nat) : Int)) w => rcodeI ui (zg (I j) - 1) k hx hk hcz w
        have hgl := gl_le (rn I j + 1)
        have hcs := cost_le (zg (I j) - 1) (k : Int)
        have HVL := hid (gl_ok hgv).2.2.2.1
        have HVC := hid (cod_lt hk hcz)
        have HCK := hid fun w' (hb : Below w.heap.size w w') => (H.out.below hb H.out.lt).c j hlt
        have hgam : app (gam (cgd I k (0, 0) j) (rn I j + 1)) (cod (zg (I j) - 1) k) (cost (zg (I j) - 1) k) = (((cgd I k (0, 0) j).1 * 2 ^ gl (rn I j + 1) + (rn I j + 1)) * 2 ^ cost (zg (I j) - 1) k + cod (zg (I j) - 1) k, (cgd I k (0, 0) j).2 + gl (rn I j + 1) + cost (zg (I j) - 1) k) := rfl
        rw [hgam] at e3
        have HE := hid e3
        have HR := hid hr1
        obtain rfl := H.out.addr (by omega)
        clear e3 hr1 hc1 e2 h0 hgv hgam hcz
        generalize cost (zg (I j) - 1) (k : Int) = cj at *
        generalize cod (zg (I j) - 1) k = dj at *
        generalize gl (rn I j + 1) = gj at *
        generalize cgd I k (0, 0) j = r at *
        generalize rn I j = nj at *
        generalize zg (I j) = zj at *
        generalize I j = ij at *
        have hnb : nj ≤ 1048576 := by omega
        go_wp2_with fail
        have hnd := hn.below' (w2 := wr.drew) ⟨rfl, rfl, rfl, Nat.le_refl _, fun _ _ => rfl⟩
        have ckd := HCK.out _ hnd.below
        go_region_law (first
          | (go_simp; go_at_call 11; (with_reducible refine (HGM.out _ (by first | omega | (simp only [IntKind.wrap_u64]; omega)) _).mono ?_); rintro e w5 ⟨lo2, lcap2, rfl, hn2⟩; have hn5 := hnd.below' hn2.below; have ck5 := HCK.out _ hn5.below; have hsz5 : w.heap.size ≤ w5.heap.size := hn5.below.size; dsimp only)
          | (refine step_append_list (by rfl) (.tmp 32) (.tmp 36) 29 (by rfl) w.heap.size 3 i0 (.int .i64 0) 8 Try.underlying29 hi hz0 hz1 hz2 rfl lo r.2 lcap (bitl r.1 r.2) (by rfl) hn5.lst lo2 gj lcap2 (bitl (nj + 1) gj) (by rfl) (bitl_len _ gj) hn2.lst.none' hn2.lst.cells (bitl_one _ gj) (by unfold maxLen; omega) (by omega) hsz5 ?_
             intro lo6 lcap6 w6 hown6 hg6
             have hb6 : Below w.heap.size w w6 := hn5.below.grown hg6 hsz5 hn.new
             have ck6 := HCK.out _ hb6
             have hsz6 : w.heap.size ≤ w6.heap.size := hb6.size)
          | (go_simp; go_at_call 48; (with_reducible refine (HZ.out _).mono ?_); rintro e w7 ⟨rfl, rfl⟩; dsimp only)
          | (go_simp; go_at_call 53; (with_reducible refine (HCD.out _ (by first | omega | (simp only [IntKind.wrap_u64]; omega)) _).mono ?_); rintro e w8 ⟨lo8, lcap8, rfl, hn8⟩; have hown8 := Lst.upto (show Lst w6 w.heap.size lo6 lcap6 (r.1 * 2 ^ gj + (nj + 1)) (r.2 + gj) from by unfold Lst; rw [bitl_app r.1 r.2 _ gj HVL.out]; exact hown6) hn8.below; have hb8 := hb6.trans (hn8.below.mono hsz6); have hsz8 : w.heap.size ≤ w8.heap.size := hb8.size; dsimp only)
          | (refine step_append_list (by rfl) (.tmp 37) (.tmp 45) 29 (by rfl) w.heap.size 3 i0 (.int .i64 0) 8 Try.underlying29 hi hz0 hz1 hz2 rfl lo6 (r.2 + gj) lcap6 (bitl (r.1 * 2 ^ gj + (nj + 1)) (r.2 + gj)) (by rfl) hown8 lo8 cj lcap8 (bitl dj cj) (by rfl) (bitl_len _ cj) hn8.lst.none' hn8.lst.cells (bitl_one _ cj) (by unfold maxLen; omega) (by omega) hsz8 ?_
             intro lo9 lcap9 w9 hown9 hg9))
        all_goals
          have hb9 : Below w.heap.size w w9 := hb8.grown hg9 hsz8 (fun g hg => (Lst.lt hown8 g hg).1)
          have hst : Value.slice lo9 (r.2 + gj + cj) lcap9 = .slice lo9 (cst2 I k len (j + 1)).2 lcap9 ∧ Nw w w.heap.size lo9 lcap9 (cst2 I k len (j + 1)).1 (cst2 I k len (j + 1)).2 w9 := by
            rw [HE.out]
            refine ⟨rfl, Nw.of_own ?_ hb9⟩
            rw [bitl_app _ _ dj cj HVC.out]
            exact hown9
          have HST := hid hst
          clear hown9 hg9 hown8 hb9 hb8 hb6 hown6 hg6 hn8 hn5 hn2 hnd hn hst ck5 ck6 ckd ck
          go_wp2_with fail
          go_roundg (len - (j + 1))
          case measure => rw [HG.out]; omega
          case rel => exact ⟨j + 1, lo9, lcap9, by omega, rfl, HST.out.1, by rw [HR.out]; rfl, by go_num, HST.out.2⟩
    · have hge : ¬ (j : Int) < (len : Int) := by omega
      obtain rfl : j = len := by omega
      have e2 : cst2 I k j j = cfin I k (0, 0) j := if_pos rfl
      rw [e2] at hn ⊢
      have hfin : CodePost w (cfin I k (0, 0) j).1 (cfin I k (0, 0) j).2 (.returned (.slice lo (cfin I k (0, 0) j).2 lcap)) wr := ⟨lo, lcap, rfl, hn⟩
      clear hn e2
      generalize cfin I k (0, 0) j = r at *
      go_wp2_with fail
      go_ret
      exact hfin
end Go.Proofs.Ytleamamecgmmjaa.Runs
