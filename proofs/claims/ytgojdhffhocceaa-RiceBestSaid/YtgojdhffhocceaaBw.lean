/- RiceBest's walk: the best parameter and the guess are as the document says; no other one costs less. Conditions: those of the memory's own form alone. -/
import Derived.Test.YtgojdhffhocceaaGu
namespace Go.Proofs.Ytgojdhffhocceaa.Rice
open Go.RowKit Bit

set_option maxHeartbeats 1600000 in
theorem best_walk (w : World) (a : Option Addr) (len cap b off : Nat) (U : Nat → Nat) (most other : Int) (h : Us w a len b off U) :
    Calls Try.prog 7 #[.slice a len cap, .int .i64 most, .int .i64 other] w fun e w' => e = .returned (.bool true) ∧ Below w.heap.size w w' := by
  by_cases h2 : 100 < len
  · have h1 : (100 : Int) < (len : Int) := by omega
    go_enter Try.func7, Try.ntmps7
    go_wp2_with fail
    refine (known_true _).mono ?_
    rintro e w' ⟨rfl, hb⟩
    go_wp2_with fail
    go_ret
    exact ⟨rfl, hb⟩
  · have h1 : ¬ (100 : Int) < (len : Int) := by omega
    have HB := hid (best_any w a len cap b off U h (by omega) most)
    have HU := hid fun w' (hb : Below w.heap.size w w') => h.below hb h.lt
    have HRB := hid fun w' hb => rbest_any w' a len cap b off U (HU.out w' hb) (by omega) most
    have HG := hid fun w' hb => guess_any w' a len cap b off U (HU.out w' hb)
    have HRG := hid fun w' hb => rguess_any w' a len cap b off U (HU.out w' hb)
    have HT := hid fun w' hb => total_any w' a len cap b off U (HU.out w' hb) (by omega) other
    have HLE : Hid (¬ other < 0 → ¬ most < other → ¬ 30 < other → tot U (bst U len (m30 most) : Nat) len ≤ tot U other len) := hid fun g1 g2 g3 => by
      have e : ((other.toNat : Nat) : Int) = other := by omega
      have hm : other.toNat ≤ m30 most := by unfold m30; split; omega; split <;> omega
      have hh := bst_le U len (m30 most) other.toNat hm
      rw [e] at hh
      exact hh
    clear h
    generalize bst U len (m30 most) = kb at *
    generalize tot U (kb : Nat) len = nb at *
    generalize gues U len = gg at *
    generalize tot U other len = ot at *
    go_enter Try.func7, Try.ntmps7
    go_wp2_with fail
    refine HB.out.mono ?_
    rintro e w1 ⟨rfl, hb1⟩
    have HB1 := hid hb1
    clear hb1
    go_wp2_with fail
    refine (HRB.out w1 HB1.out).mono ?_
    rintro e w2 ⟨rfl, rfl⟩
    go_wp2_with fail
    refine (HG.out w1 HB1.out).mono ?_
    rintro e w2 ⟨rfl, rfl⟩
    go_wp2_with fail
    refine (HRG.out w1 HB1.out).mono ?_
    rintro e w2 ⟨rfl, rfl⟩
    by_cases g1 : other < 0
    · go_wp2_with fail
      refine (known_true _).mono ?_
      rintro e w3 ⟨rfl, hb3⟩
      have hfin := HB1.out.trans (hb3.mono HB1.out.size)
      clear hb3
      go_wp2_with fail
      go_ret
      exact ⟨rfl, hfin⟩
    · by_cases g2 : most < other
      · go_wp2_with fail
        refine (known_true _).mono ?_
        rintro e w3 ⟨rfl, hb3⟩
        have hfin := HB1.out.trans (hb3.mono HB1.out.size)
        clear hb3
        go_wp2_with fail
        go_ret
        exact ⟨rfl, hfin⟩
      · by_cases g3 : 30 < other
        · go_wp2_with fail
          refine (known_true _).mono ?_
          rintro e w3 ⟨rfl, hb3⟩
          have hfin := HB1.out.trans (hb3.mono HB1.out.size)
          clear hb3
          go_wp2_with fail
          go_ret
          exact ⟨rfl, hfin⟩
        · have g4 : (nb : Int) ≤ (ot : Int) := by have := HLE.out (by omega) (by omega) (by omega); omega
          go_wp2_with fail
          refine (HT.out w1 HB1.out).mono ?_
          rintro e w2 ⟨rfl, hb2⟩
          have HB2 := hid (HB1.out.trans (hb2.mono HB1.out.size))
          clear hb2
          go_wp2_with fail
          refine (known_true _).mono ?_
          rintro e w3 ⟨rfl, hb3⟩
          have hfin := HB2.out.trans (hb3.mono HB2.out.size)
          clear hb3
          go_wp2_with fail
          go_ret
          exact ⟨rfl, hfin⟩
end Go.Proofs.Ytgojdhffhocceaa.Rice
