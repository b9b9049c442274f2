/- How many bits a number has, in the program and in the document; the document's Add of two numbers from 0 to 2^62. No other condition. -/
import Derived.Test.YtjimamjhakainaaTo
import Derived.Test.YtjimamjhakainaaLn
namespace Go.Proofs.Ytjimamjhakainaa.Rice
open Go.RowKit Bit

theorem len_wd (x : Nat) (hx : x < 18446744073709551616) (w : World) : Calls Try.prog 85 #[.int .u64 (x : Int)] w fun e w' => e = .returned (.int .i64 (Lib.bitLen x : Int)) ∧ w = w' := by
  have h := len64_any x hx w
  generalize Lib.bitLen x = n at *
  go_enter Try.func85, Try.ntmps85
  go_wp2_with fail
  refine h.mono ?_
  rintro e w1 ⟨rfl, rfl⟩
  clear h
  go_wp2_with fail
  go_ret
  exact ⟨rfl, rfl⟩
theorem width_any (x : Nat) (hx : x < 18446744073709551616) (w : World) : Calls Try.prog 60 #[.int .u64 (x : Int)] w fun e w' => e = .returned (.int .i64 (Lib.bitLen x : Int)) ∧ w = w' := by
  have h := len_wd x hx w
  generalize Lib.bitLen x = n at *
  go_enter Try.func60, Try.ntmps60
  go_wp2_with fail
  refine h.mono ?_
  rintro e w1 ⟨rfl, rfl⟩
  clear h
  go_wp2_with fail
  go_ret
  exact ⟨rfl, rfl⟩

theorem rwidth_any (x : Nat) (hx : x < 18446744073709551616) (w : World) : Calls Try.prog 37 #[.int .u64 (x : Int)] w fun e w' => e = .returned (.int .i64 (Lib.bitLen x : Int)) ∧ w = w' := by
  have HX := hid hx
  clear hx
  go_enter Try.func37, Try.ntmps37
  go_wp2_with fail
  go_loopg [0, 3, 4] 64 (fun g y n i wr => ∃ j : Nat, j ≤ 64 ∧ g = 64 - j ∧ y = .int .u64 ((x / 2 ^ j : Nat) : Int) ∧ n = .int .i64 j ∧ i = .int .i64 j ∧ w = wr ∧ Lib.bitLen x = j + Lib.bitLen (x / 2 ^ j))
  case atStart => exact ⟨0, by decide, rfl, by simp, rfl, rfl, rfl, by simp⟩
  case round =>
    obtain ⟨j, hj, hg, rfl, rfl, rfl, rfl, hL⟩ := hrel
    have HG := hid hg; have HL := hid hL
    have hnx : (x / 2 ^ j) / 2 = x / 2 ^ (j + 1) := by rw [Nat.div_div_eq_div_mul, ← Nat.pow_succ]
    have hyb : x / 2 ^ j < 18446744073709551616 := Nat.lt_of_le_of_lt (Nat.div_le_self _ _) HX.out
    have HNX := hid hnx
    clear hg hL hnx
    by_cases h0 : x / 2 ^ j = 0
    · have hfin : Lib.bitLen x = j := by rw [HL.out, h0]; rfl
      have HF := hid hfin
      clear hfin
      generalize hy : x / 2 ^ j = y at *
      obtain rfl := h0
      have HY := hid hy
      clear hy hyb
      by_cases h64 : j < 64
      · have g1 : (j : Int) < 64 := by omega
        go_wp2_with fail
        go_ret
        exact ⟨congrArg (fun z : Nat => Ending.returned (.int .i64 (z : Int))) HF.out.symm, rfl⟩
      · have g1 : ¬ (j : Int) < 64 := by omega
        go_wp2_with fail
        go_ret
        exact ⟨congrArg (fun z : Nat => Ending.returned (.int .i64 (z : Int))) HF.out.symm, rfl⟩
    · have hj64 : j < 64 := by
        rcases Nat.lt_or_ge j 64 with h | h
        · exact h
        · obtain rfl : j = 64 := by omega
          exact absurd (Nat.div_eq_of_lt HX.out) h0
      have hst := Lib.bitLen_half _ h0 hyb
      have HST := hid (show Lib.bitLen x = (j + 1) + Lib.bitLen (x / 2 ^ (j + 1)) by rw [HL.out, hst, HNX.out]; omega)
      clear hst
      generalize x / 2 ^ j = y at *
      have g1 : (j : Int) < 64 := by omega
      have g2 : (0 : Int) < (y : Int) := by omega
      go_wp2_with fail
      have ex : (y : Int) / 2 = ((x / 2 ^ (j + 1) : Nat) : Int) := by rw [← HNX.out]; omega
      go_roundg (64 - (j + 1))
      case measure => rw [HG.out]; omega
      case rel => exact ⟨j + 1, by omega, rfl, by rw [ex], by go_num, by go_num, rfl, HST.out⟩

end Go.Proofs.Ytjimamjhakainaa.Rice
