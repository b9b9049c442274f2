/- ShapeWeights' walk. No condition. -/
import Derived.Test.YtpgdllphnmimlaaHh
namespace Go.Proofs.Ytpgdllphnmimlaa.Shape
open Go.RowKit Gen

set_option maxHeartbeats 1600000 in
theorem weights_walk (w : World) (x : Int) : Calls Try.prog 3 #[.int .i64 x] w fun e w' => e = .returned (.bool true) ∧ Below w.heap.size w w' := by
  by_cases hx : 0 ≤ x ∧ x < 4
  · obtain ⟨k, rfl⟩ := Int.eq_ofNat_of_zero_le hx.1
    have hk : k ≤ 3 := by omega
    have g0 : ¬ (k : Int) < 0 := by omega
    have g1 : ¬ 3 < (k : Int) := by omega
    have HK := hid hk
    clear hx hk
    go_enter Try.func3, Try.ntmps3
    go_wp2_with fail
    refine (new_any k HK.out w).mono ?_
    rintro e w1 ⟨q, rfl, hs1, hq, hb1⟩
    have H1 := hid hs1
    have HB1 := hid hb1
    clear hs1 hb1 hq
    go_wp2_with fail
    refine (kind_any H1.out).mono ?_
    rintro e w2 ⟨rfl, rfl⟩
    go_wp2_with fail
    refine (weights_in k HK.out _).mono ?_
    rintro e w2 ⟨a, g, rfl, hi, hg, hb2⟩
    have HI := hid hi
    have HB2 := hid (HB1.out.trans (hb2.mono HB1.out.size))
    clear hi hg hb2
    go_wp2_with fail
    refine (rweights_in k HK.out _).mono ?_
    rintro e w3 ⟨a', g', rfl, hi', hg', hb3⟩
    have HI' := hid hi'
    have HI2 := hid (HI.out.below hb3 HI.out.lt)
    have HB3 := hid (HB2.out.trans (hb3.mono HB2.out.size))
    clear hi' hg' hb3
    go_wp2_with fail
    refine (ints_gen _ _ _ _ _ _ _ _ _ _ _ _ _ HI2.out HI'.out).mono ?_
    rintro e w4 ⟨rfl, hf4⟩
    rw [eqI_all (fun j _ => rfl)]
    have HB4 := hid (HB3.out.trans ((Below.mk hf4.os hf4.tape hf4.output hf4.size fun k hk => hf4.block k hk fun x => x : Below w3.heap.size w3 w4).mono HB3.out.size))
    clear hf4
    go_wp2_with fail
    refine (known_true _).mono ?_
    rintro e w' ⟨rfl, hfin⟩
    have HF := hid (HB4.out.trans (hfin.mono HB4.out.size))
    clear hfin
    go_wp2_with fail
    go_ret
    exact ⟨rfl, HF.out⟩
  · have HX := hid hx
    by_cases g0 : x < 0
    · clear hx
      go_enter Try.func3, Try.ntmps3
      go_wp2_with fail
      refine (new_bad x HX.out w).mono ?_
      rintro e w1 ⟨rfl, rfl⟩
      go_wp2_with fail
      refine (weights_out x HX.out _).mono ?_
      rintro e w1 ⟨rfl, rfl⟩
      go_wp2_with fail
      refine (known_true _).mono ?_
      rintro e w' ⟨rfl, hfin⟩
      go_wp2_with fail
      go_ret
      exact ⟨rfl, hfin⟩
    · have g1 : 3 < x := by omega
      clear hx
      go_enter Try.func3, Try.ntmps3
      go_wp2_with fail
      refine (new_bad x HX.out w).mono ?_
      rintro e w1 ⟨rfl, rfl⟩
      go_wp2_with fail
      refine (weights_out x HX.out _).mono ?_
      rintro e w1 ⟨rfl, rfl⟩
      go_wp2_with fail
      refine (known_true _).mono ?_
      rintro e w' ⟨rfl, hfin⟩
      go_wp2_with fail
      go_ret
      exact ⟨rfl, hfin⟩
end Go.Proofs.Ytpgdllphnmimlaa.Shape
