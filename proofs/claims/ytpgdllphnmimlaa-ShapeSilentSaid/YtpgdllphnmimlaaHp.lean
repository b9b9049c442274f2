/- ShapeTargets' walk. Conditions: both lists lie in memory. -/
import Derived.Test.YtpgdllphnmimlaaHo
namespace Go.Proofs.Ytpgdllphnmimlaa.Shape
open Go.RowKit Gen

theorem tt_near {k : Nat} (hk : k ≤ 3) (X Y : Nat → Int) (j : Nat) : -536870912 ≤ tt k X Y j - ld (X j) ∧ tt k X Y j - ld (X j) ≤ 536870912 := by
  have := ps_low (wt_low k hk) (ml_low k X Y j) 3 (by decide)
  have e : tt k X Y j = ld (X j) - ps (wt k) (mL (mlist k X Y j)) 3 / 16 := rfl
  rw [e]
  generalize ps (wt k) (mL (mlist k X Y j)) 3 = p at *
  generalize ld (X j) = x at *
  omega
theorem bel_of_fr {w w' : World} (hf : Fr (fun _ => False) w w') : Below w.heap.size w w' := ⟨hf.os, hf.tape, hf.output, hf.size, fun k hk => hf.block k hk fun x => x⟩
set_option maxHeartbeats 3200000 in
theorem targets_walk (w : World) (x : Int) (a a' : Option Addr) (n n' cap cap' b off b' off' : Nat) (X Y : Nat → Int) (h : Isb w a n b off X) (h' : Isb w a' n' b' off' Y) :
    Calls Try.prog 5 #[.int .i64 x, .slice a n cap, .slice a' n' cap'] w fun e w' => e = .returned (.bool true) ∧ Below w.heap.size w w' := by
  have H := hid h
  have H' := hid h'
  clear h h'
  by_cases h1 : 200 < n
  · have h1' : (200 : Int) < (n : Int) := by omega
    go_enter Try.func5, Try.ntmps5
    go_wp2_with fail
    refine (known_true _).mono ?_
    rintro e w' ⟨rfl, hfin⟩
    go_wp2_with fail
    go_ret
    exact ⟨rfl, hfin⟩
  have h1' : ¬ (200 : Int) < (n : Int) := by omega
  by_cases h2 : 200 < n'
  · have h2' : (200 : Int) < (n' : Int) := by omega
    go_enter Try.func5, Try.ntmps5
    go_wp2_with fail
    refine (known_true _).mono ?_
    rintro e w' ⟨rfl, hfin⟩
    go_wp2_with fail
    go_ret
    exact ⟨rfl, hfin⟩
  have h2' : ¬ (200 : Int) < (n' : Int) := by omega
  by_cases hx : 0 ≤ x ∧ x < 4
  · obtain ⟨k, rfl⟩ := Int.eq_ofNat_of_zero_le hx.1
    have hk : k ≤ 3 := by omega
    have HK := hid hk
    have g0 : ¬ (k : Int) < 0 := by omega
    have g1 : ¬ 3 < (k : Int) := by omega
    clear hx hk
    by_cases hnn : n = n'
    · subst hnn
      go_enter Try.func5, Try.ntmps5
      go_wp2_with fail
      refine (targets_any w k HK.out a a' n cap cap' b off b' off' X Y H.out H'.out (by omega)).mono ?_
      rintro e w1 ⟨lo, lcap, g, rfl, hi1, hg1, hb1⟩
      have HI1 := hid hi1
      have HB1 := hid hb1
      have HX1 := hid (H.out.below hb1 H.out.lt)
      have HY1 := hid (H'.out.below hb1 H'.out.lt)
      clear hi1 hg1 hb1
      go_wp2_with fail
      refine (rtargets_any w1 k HK.out a a' n cap cap' b off b' off' X Y HX1.out HY1.out (by omega)).mono ?_
      rintro e w2 ⟨lo2, lcap2, g2, rfl, hi2, hg2, hb2⟩
      have HI2 := hid hi2
      have HI12 := hid (HI1.out.below hb2 HI1.out.lt)
      have HB2 := hid (HB1.out.trans (hb2.mono HB1.out.size))
      have HX2 := hid (HX1.out.below hb2 HX1.out.lt)
      clear hi2 hg2 hb2
      go_wp2_with fail
      refine (ints_gen w2 lo lo2 n n lcap lcap2 g 0 g2 0 _ _ HI12.out HI2.out).mono ?_
      rintro e w3 ⟨rfl, hf3⟩
      rw [eqI_all (fun j _ => rfl)]
      have HB3 := hid (HB2.out.trans ((bel_of_fr hf3).mono HB2.out.size))
      have HI3 := hid (HI12.out.fr hf3)
      have HX3 := hid (HX2.out.fr hf3)
      clear hf3
      go_wp2_with fail
      go_loopg [9] n (fun gh i wr => ∃ (j : Nat), j ≤ n ∧ gh = n - j ∧ i = .int .i64 j ∧ Fr (fun _ => False) w3 wr)
      case atStart => exact ⟨0, Nat.zero_le _, rfl, rfl, Fr.refl _ _⟩
      case round =>
        obtain ⟨j, hj, hg, rfl, hf⟩ := hrel
        have HG := hid hg
        clear hg
        by_cases hlt : j < n
        · have hlt2 : (j : Int) < (n : Int) := by omega
          obtain rfl := HX3.out.addr (by omega)
          obtain rfl := HI3.out.addr (by omega)
          have ct := (HI3.out.fr hf).c j hlt
          have cx := (HX3.out.fr hf).c j hlt
          rw [Nat.zero_add] at ct
          have hnear := tt_near HK.out X Y j
          have hin := tt_in HK.out X Y j
          have hld := ld_in (X j)
          have HLO := hid fun w => loud_any (X j) w
          generalize tt k X Y j = T at *
          generalize ld (X j) = xl at *
          generalize X j = x at *
          have hT1 : ¬ 536870912 < T - xl := by omega
          have hT2 : ¬ T - xl < -536870912 := by omega
          go_wp2_with fail
          go_quiet (first | (go_at_call 20; refine Calls.quiet_of_same ((HLO.out _).mono fun e w' h => ⟨h.1, h.2.symm⟩)))
          have hf2 : Fr (fun _ => False) w3 (wr.drewN nq) := ⟨hf.os, hf.tape, hf.output, hf.size, hf.block⟩
          clear ct cx hf
          go_wp2_with fail
          go_roundg (n - (j + 1))
          case measure => rw [HG.out]; omega
          case rel => exact ⟨j + 1, by omega, rfl, by go_num, hf2⟩
        · have hge : ¬ (j : Int) < (n : Int) := by omega
          have HBF := hid (HB3.out.trans ((bel_of_fr hf).mono HB3.out.size))
          clear hf
          go_wp2_with fail
          refine (known_true _).mono ?_
          rintro e w' ⟨rfl, hfin⟩
          have HF := hid (HBF.out.trans (hfin.mono HBF.out.size))
          clear hfin
          go_wp2_with fail
          go_ret
          exact ⟨rfl, HF.out⟩
    · have hne : ((n : Int) != (n' : Int)) = true := bne_iff_ne.2 (by omega)
      have HNN := hid hnn
      clear hnn
      go_enter Try.func5, Try.ntmps5
      go_wp2_with fail
      refine (targets_len w k HK.out a a' n n' cap cap' HNN.out).mono ?_
      rintro e w1 ⟨rfl, hb1⟩
      have HB1 := hid hb1
      clear hb1
      go_wp2_with fail
      refine (known_true _).mono ?_
      rintro e w' ⟨rfl, hfin⟩
      have HF := hid (HB1.out.trans (hfin.mono HB1.out.size))
      clear hfin
      go_wp2_with fail
      go_ret
      exact ⟨rfl, HF.out⟩
  · have HX := hid hx
    by_cases g0 : x < 0
    · clear hx
      go_enter Try.func5, Try.ntmps5
      go_wp2_with fail
      refine (targets_bad w x HX.out _ _).mono ?_
      rintro e w1 ⟨rfl, hb1⟩
      have HB1 := hid hb1
      clear hb1
      go_wp2_with fail
      refine (known_true _).mono ?_
      rintro e w' ⟨rfl, hfin⟩
      have HF := hid (HB1.out.trans (hfin.mono HB1.out.size))
      clear hfin
      go_wp2_with fail
      go_ret
      exact ⟨rfl, HF.out⟩
    · have g1 : 3 < x := by omega
      clear hx
      go_enter Try.func5, Try.ntmps5
      go_wp2_with fail
      refine (targets_bad w x HX.out _ _).mono ?_
      rintro e w1 ⟨rfl, hb1⟩
      have HB1 := hid hb1
      clear hb1
      go_wp2_with fail
      refine (known_true _).mono ?_
      rintro e w' ⟨rfl, hfin⟩
      have HF := hid (HB1.out.trans (hfin.mono HB1.out.size))
      clear hfin
      go_wp2_with fail
      go_ret
      exact ⟨rfl, HF.out⟩
end Go.Proofs.Ytpgdllphnmimlaa.Shape
