/- How many bits a number has, in the program and in the document; the document's Add of two numbers from 0 to 2^62. No other condition. -/
import Derived.Test.YtgojdhffhocceaaTo
import Derived.Test.YtgojdhffhocceaaLn
namespace Go.Proofs.Ytgojdhffhocceaa.Rice
open Go.RowKit Bit

theorem len_wd (x : Nat) (hx : x < 18446744073709551616) (w : World) : Calls Try.prog 63 #[.int .u64 (x : Int)] w fun e w' => e = .returned (.int .i64 (Lib.bitLen x : Int)) ∧ w = w' := by
  have h := len64_any x hx w
  generalize Lib.bitLen x = n at *
  go_enter Try.func63, Try.ntmps63
  go_wp2_with fail
  refine h.mono ?_
  rintro e w1 ⟨rfl, rfl⟩
  clear h
  go_wp2_with fail
  go_ret
  exact ⟨rfl, rfl⟩
theorem width_any (x : Nat) (hx : x < 18446744073709551616) (w : World) : Calls Try.prog 52 #[.int .u64 (x : Int)] w fun e w' => e = .returned (.int .i64 (Lib.bitLen x : Int)) ∧ w = w' := by
  have h := len_wd x hx w
  generalize Lib.bitLen x = n at *
  go_enter Try.func52, Try.ntmps52
  go_wp2_with fail
  refine h.mono ?_
  rintro e w1 ⟨rfl, rfl⟩
  clear h
  go_wp2_with fail
  go_ret
  exact ⟨rfl, rfl⟩

theorem rwidth_any (x : Nat) (hx : x < 18446744073709551616) (w : World) : Calls Try.prog 54 #[.int .u64 (x : Int)] w fun e w' => e = .returned (.int .i64 (Lib.bitLen x : Int)) ∧ w = w' := by
  have HX := hid hx
  clear hx
  go_enter Try.func54, Try.ntmps54
  go_wp2_with fail
  go_loopg [0, 3, 4] 64 (fun g y n i wr => ∃ j : Nat, j ≤ 64 ∧ g = 64 - j ∧ y = .int .u64 ((x / 2 ^ j : Nat) : Int) ∧ n = .int .i64 j ∧ i = .int .i64 j ∧ w = wr ∧ Lib.bitLen x = j + Lib.bitLen (x / 2 ^ j))
  case atStart => exact ⟨0, by decide, rfl, by simp, rfl, rfl, rfl, by simp⟩
  case round =>
    obtain ⟨j, hj, hg, rfl, rfl, rfl, rfl, hL⟩ := hrel
    have HG := hid hg; have HL := hid hL
    have hnx : (x / 2 ^ j) / 2 = x / 2 ^ (j + 1) := by rw [Nat.div_div_eq_div_mul, ← Nat.pow_succ]
    have hyb : x / 2 ^ j < 18446744073709551616 := Nat.lt_of_le_of_lt (Nat.div_le_self _ _) HX.out
    have HNX := hid hnx
    clear hg hL hnx
    by_cases h0 : x / 2 ^ j = 0
    · have hfin : Lib.bitLen x = j := by rw [HL.out, h0]; rfl
      have HF := hid hfin
      clear hfin
      generalize hy : x / 2 ^ j = y at *
      obtain rfl := h0
      have HY := hid hy
      clear hy hyb
      by_cases h64 : j < 64
      · have g1 : (j : Int) < 64 := by omega
        go_wp2_with fail
        go_ret
        exact ⟨congrArg (fun z : Nat => Ending.returned (.int .i64 (z : Int))) HF.out.symm, rfl⟩
      · have g1 : ¬ (j : Int) < 64 := by omega
        go_wp2_with fail
        go_ret
        exact ⟨congrArg (fun z : Nat => Ending.returned (.int .i64 (z : Int))) HF.out.symm, rfl⟩
    · have hj64 : j < 64 := by
        rcases Nat.lt_or_ge j 64 with h | h
        · exact h
        · obtain rfl : j = 64 := by omega
          exact absurd (Nat.div_eq_of_lt HX.out) h0
      have hst := Lib.bitLen_half _ h0 hyb
      have HST := hid (show Lib.bitLen x = (j + 1) + Lib.bitLen (x / 2 ^ (j + 1)) by rw [HL.out, hst, HNX.out]; omega)
      clear hst
      generalize x / 2 ^ j = y at *
      have g1 : (j : Int) < 64 := by omega
      have g2 : (0 : Int) < (y : Int) := by omega
      go_wp2_with fail
      have ex : (y : Int) / 2 = ((x / 2 ^ (j + 1) : Nat) : Int) := by rw [← HNX.out]; omega
      go_roundg (64 - (j + 1))
      case measure => rw [HG.out]; omega
      case rel => exact ⟨j + 1, by omega, rfl, by rw [ex], by go_num, by go_num, rfl, HST.out⟩

theorem hold_any (x : Nat) (hx : x ≤ 9223372036854775807) (w : World) : Calls Try.prog 64 #[.int .i64 (x : Int)] w fun e w' => e = .returned (.int .i64 ((min x 4611686018427387904 : Nat) : Int)) ∧ w = w' := by
  have g1 : ¬ (x : Int) < -4611686018427387904 := by omega
  by_cases h : 4611686018427387904 < x
  · rw [Nat.min_eq_right (by omega)]
    have g2 : (4611686018427387904 : Int) < (x : Int) := by omega
    go_enter Try.func64, Try.ntmps64
    go_wp2_with fail
    go_ret
    exact ⟨rfl, rfl⟩
  · rw [Nat.min_eq_left (by omega)]
    have g2 : ¬ (4611686018427387904 : Int) < (x : Int) := by omega
    go_enter Try.func64, Try.ntmps64
    go_wp2_with fail
    go_ret
    exact ⟨rfl, rfl⟩
theorem holdI (xi : Int) (x y : Nat) (hx : xi = x) (hb : x ≤ 9223372036854775807) (hy : min x 4611686018427387904 = y) (w : World) : Calls Try.prog 64 #[.int .i64 xi] w fun e w' => e = .returned (.int .i64 (y : Int)) ∧ w = w' := by
  subst hx hy; exact hold_any x hb w

theorem add_any (a b : Nat) (ha : a ≤ 4611686018427387904) (hb : b ≤ 4611686018427387904) (w : World) : Calls Try.prog 53 #[.int .i64 (a : Int), .int .i64 (b : Int)] w fun e w' => e = .returned (.int .i64 ((min (a + b) 4611686018427387904 : Nat) : Int)) ∧ w = w' := by
  have h1 := holdI a a a rfl (by omega) (by omega) w
  have h2 := holdI b b b rfl (by omega) (by omega) w
  by_cases hm : a = 4611686018427387904 ∧ b = 4611686018427387904
  · obtain ⟨e1, e2⟩ := hm
    have HE : Hid (min (a + b) 4611686018427387904 = 4611686018427387904) := hid (by omega)
    have g1 : ((a : Int) == 4611686018427387904) = true := beq_iff_eq.2 (by omega)
    have g2 : ((b : Int) == 4611686018427387904) = true := beq_iff_eq.2 (by omega)
    generalize min (a + b) 4611686018427387904 = m at *
    clear e1 e2
    go_enter Try.func53, Try.ntmps53
    go_wp2_with fail
    refine h1.mono ?_
    rintro e w1 ⟨rfl, rfl⟩
    go_wp2_with fail
    refine h2.mono ?_
    rintro e w1 ⟨rfl, rfl⟩
    clear h1 h2
    go_wp2_with fail
    go_ret
    exact ⟨by rw [HE.out]; rfl, rfl⟩
  · have h3 := holdI ((a : Int) + b) (a + b) (min (a + b) 4611686018427387904) (by omega) (by omega) rfl w
    generalize min (a + b) 4611686018427387904 = m at *
    by_cases e1 : a = 4611686018427387904
    · have g1 : ((a : Int) == 4611686018427387904) = true := beq_iff_eq.2 (by omega)
      have g2 : ((b : Int) == 4611686018427387904) = false := beq_eq_false_iff_ne.2 (by omega)
      have g3 : (a : Int) + b ≤ 9223372036854775807 := by omega
      clear e1
      go_enter Try.func53, Try.ntmps53
      go_wp2_with fail
      refine h1.mono ?_
      rintro e w1 ⟨rfl, rfl⟩
      go_wp2_with fail
      refine h2.mono ?_
      rintro e w1 ⟨rfl, rfl⟩
      go_wp2_with fail
      refine h3.mono ?_
      rintro e w1 ⟨rfl, rfl⟩
      clear h1 h2 h3
      go_wp2_with fail
      go_ret
      exact ⟨rfl, rfl⟩
    · have g1 : ((a : Int) == 4611686018427387904) = false := beq_eq_false_iff_ne.2 (by omega)
      have g3 : (a : Int) + b ≤ 9223372036854775807 := by omega
      clear e1
      go_enter Try.func53, Try.ntmps53
      go_wp2_with fail
      refine h1.mono ?_
      rintro e w1 ⟨rfl, rfl⟩
      go_wp2_with fail
      refine h2.mono ?_
      rintro e w1 ⟨rfl, rfl⟩
      go_wp2_with fail
      refine h3.mono ?_
      rintro e w1 ⟨rfl, rfl⟩
      clear h1 h2 h3
      go_wp2_with fail
      go_ret
      exact ⟨rfl, rfl⟩
end Go.Proofs.Ytgojdhffhocceaa.Rice
