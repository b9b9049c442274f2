/- How many bits a number has, in the program and in the document; the document's Add of two numbers from 0 to 2^62. No other condition. -/
import Derived.Test.YtjimamjhakainaaSTo
import Derived.Test.YtjimamjhakainaaSLn
namespace Go.Proofs.Ytjimamjhakainaa.Rice
open Go.RowKit Bit

theorem len_wd (x : Nat) (hx : x < 18446744073709551616) (w : World) : Calls Try.prog 85 #[.int .u64 (x : Int)] w fun e w' => e = .returned (.int .i64 (Lib.bitLen x : Int)) ∧ w = w' := by
  have h := len64_any x hx w
  generalize Lib.bitLen x = n at *
  go_enter Try.func85, Try.ntmps85
  go_wp2_with fail
  refine h.mono ?_
  rintro e w1 ⟨rfl, rfl⟩
  clear h
  go_wp2_with fail
  go_ret
  exact ⟨rfl, rfl⟩
theorem width_any (x : Nat) (hx : x < 18446744073709551616) (w : World) : Calls Try.prog 60 #[.int .u64 (x : Int)] w fun e w' => e = .returned (.int .i64 (Lib.bitLen x : Int)) ∧ w = w' := by
  have h := len_wd x hx w
  generalize Lib.bitLen x = n at *
  go_enter Try.func60, Try.ntmps60
  go_wp2_with fail
  refine h.mono ?_
  rintro e w1 ⟨rfl, rfl⟩
  clear h
  go_wp2_with fail
  go_ret
  exact ⟨rfl, rfl⟩

theorem rwidth_any (x : Nat) (hx : x < 18446744073709551616) (w : World) : Calls Try.prog 37 #[.int .u64 (x : Int)] w fun e w' => e = .returned (.int .i64 (Lib.bitLen x : Int)) ∧ w = w' := by
  have HX := hid hx
  clear hx
  go_enter Try.func37, Try.ntmps37
  go_wp2_with fail
  go_loopg [0, 3, 4] 64 (fun g y n i wr => ∃ j : Nat, j ≤ 64 ∧ g = 64 - j ∧ y = .int .u64 ((x / 2 ^ j : Nat) : Int) ∧ n = .int .i64 j ∧ i = .int .i64 j ∧ w = wr ∧ Lib.bitLen x = j + Lib.bitLen (x / 2 ^ j))
  case atStart => exact ⟨0, by decide, rfl, by simp, rfl, rfl, rfl, by simp⟩
  case round =>
    obtain ⟨j, hj, hg, rfl, rfl, rfl, rfl, hL⟩ := hrel
    have HG := hid hg; have HL := hid hL
    have hnx : (x / 2 ^ j) / 2 = x / 2 ^ (j + 1) := by rw [Nat.div_div_eq_div_mul, ← Nat.pow_succ]
    have hyb : x / 2 ^ j < 18446744073709551616 := Nat.lt_of_le_of_lt (Nat.div_le_self _ _) HX.out
    have HNX := hid hnx
    clear hg hL hnx
    by_cases h0 : x / 2 ^ j = 0
    · have hfin : Lib.bitLen x = j := by rw [HL.out, h0]; rfl
      have HF := hid hfin
      clear hfin
      generalize hy : x / 2 ^ j = y at *
      obtain rfl := h0
      have HY := hid hy
      clear hy hyb
      by_cases h64 : j < 64
      · have g1 : (j : Int) < 64 := by omega
        go_wp2_with fail
        go_ret
        exact ⟨congrArg (fun z : Nat => Ending.returned (.int .i64 (z : Int))) HF.out.symm, rfl⟩
      · have g1 : ¬ (j : Int) < 64 := by omega
        go_wp2_with fail
        go_ret
        exact ⟨congrArg (fun z : Nat => Ending.returned (.int .i64 (z : Int))) HF.out.symm, rfl⟩
    · have hj64 : j < 64 := by
        rcases Nat.lt_or_ge j 64 with h | h
        · exact h
        · obtain rfl : j = 64 := by omega
          exact absurd (Nat.div_eq_of_lt HX.out) h0
      have hst := Lib.bitLen_half _ h0 hyb
      have HST := hid (show Lib.bitLen x = (j + 1) + Lib.bitLen (x / 2 ^ (j + 1)) by rw [HL.out, hst, HNX.out]; omega)
      clear hst
      generalize x / 2 ^ j = y at *
      have g1 : (j : Int) < 64 := by omega
      have g2 : (0 : Int) < (y : Int) := by omega
      go_wp2_with fail
      have ex : (y : Int) / 2 = ((x / 2 ^ (j + 1) : Nat) : Int) := by rw [← HNX.out]; omega
      go_roundg (64 - (j + 1))
      case measure => rw [HG.out]; omega
      case rel => exact ⟨j + 1, by omega, rfl, by rw [ex], by go_num, by go_num, rfl, HST.out⟩

end Go.Proofs.Ytjimamjhakainaa.Rice
/- Best and Guess of rice, and the document's: the same. Conditions: a list lies in memory as its numbers, at most 2^20 of them. -/
namespace Go.Proofs.Ytjimamjhakainaa.Rice
open Go.RowKit Bit

/-- The best parameter from 0 to j. -/
def bst (U : Nat → Nat) (len : Nat) : Nat → Nat
  | 0 => 0
  | j + 1 => if tot U (j + 1 : Nat) len < tot U (bst U len j : Nat) len then j + 1 else bst U len j
theorem bst_le (U : Nat → Nat) (len : Nat) : ∀ j i, i ≤ j → tot U (bst U len j : Nat) len ≤ tot U (i : Nat) len
  | 0, i, h => by
    obtain rfl : i = 0 := by omega
    exact Nat.le_refl _
  | j + 1, i, h => by
    have h1 := bst_le U len j
    show tot U ((if tot U (j + 1 : Nat) len < tot U (bst U len j : Nat) len then j + 1 else bst U len j : Nat) : Int) len ≤ _
    by_cases e : i = j + 1
    · subst e
      split
      · exact Nat.le_refl _
      · omega
    · have := h1 i (by omega)
      split
      · omega
      · exact this
/-- most, from 0 to 30. -/
def m30 (most : Int) : Nat := if most < 0 then 0 else if 30 < most then 30 else most.toNat
theorem m30_le (most : Int) : m30 most ≤ 30 := by unfold m30; split; omega; split <;> omega

theorem clamp_any (x : Int) (w : World) : Calls Try.prog 72 #[.int .i64 x, .int .i64 0, .int .i64 30] w fun e w' => e = .returned (.int .i64 (m30 x : Int)) ∧ w = w' := by
  by_cases h0 : x < 0
  · have e : m30 x = 0 := if_pos h0
    rw [e]
    clear e
    go_enter Try.func72, Try.ntmps72
    go_wp2_with fail
    go_ret
    exact ⟨rfl, rfl⟩
  · by_cases h1 : 30 < x
    · have e : m30 x = 30 := by unfold m30; rw [if_neg h0, if_pos h1]
      rw [e]
      clear e
      go_enter Try.func72, Try.ntmps72
      go_wp2_with fail
      go_ret
      exact ⟨rfl, rfl⟩
    · have e : ((m30 x : Nat) : Int) = x := by unfold m30; rw [if_neg h0, if_neg h1]; omega
      rw [e]
      clear e
      go_enter Try.func72, Try.ntmps72
      go_wp2_with fail
      go_ret
      exact ⟨rfl, rfl⟩

set_option maxHeartbeats 800000 in
theorem best_any (w : World) (a : Option Addr) (len cap b off : Nat) (U : Nat → Nat) (h : Us w a len b off U) (hlen : len ≤ 1048576) (most : Int) :
    Calls Try.prog 95 #[.slice a len cap, .int .i64 most] w fun e w' => e = .returned (.tuple #[.int .i64 (bst U len (m30 most) : Int), .int .i64 (tot U (bst U len (m30 most) : Nat) len : Int)]) ∧ Below w.heap.size w w' := by
  have HT := hid fun w' (hb : Below w.heap.size w w') k => total_any w' a len cap b off U (h.below hb h.lt) hlen k
  have HK := hid (clamp_any most)
  have hm := m30_le most
  generalize m30 most = m at *
  clear h hlen
  go_enter Try.func95, Try.ntmps95
  go_wp2_with fail
  refine (HT.out w (Below.refl _ _) 0).mono ?_
  rintro e w1 ⟨rfl, hb1⟩
  have HB1 := hid hb1
  clear hb1
  go_wp2_with fail
  go_loopg [6, 7, 8] (m + 1) (fun g b t k wr => ∃ j : Nat, j ≤ m ∧ g = m + 1 - j ∧ b = .int .i64 (bst U len j : Int) ∧ t = .int .i64 (tot U (bst U len j : Nat) len : Int) ∧ k = .int .i64 ((j : Int) + 1) ∧ Below w.heap.size w wr)
  case atStart => exact ⟨0, Nat.zero_le _, by omega, rfl, rfl, rfl, HB1.out⟩
  case round =>
    obtain ⟨j, hj, hg, rfl, rfl, rfl, hb⟩ := hrel
    have HG := hid hg
    have HB := hid hb
    clear hg hb
    by_cases hlt : j < m
    · have g1 : (j : Int) + 1 ≤ (m : Int) := by omega
      have HN : Hid (bst U len (j + 1) = if tot U (j + 1 : Nat) len < tot U (bst U len j : Nat) len then j + 1 else bst U len j) := hid rfl
      have HTK := hid (HT.out wr HB.out ((j : Int) + 1))
      rw [show ((j + 1 : Nat) : Int) = (j : Int) + 1 from rfl] at HN
      generalize bst U len j = bj at *
      generalize hbt : tot U (bj : Nat) len = bt at *
      have HBT := hid hbt
      clear hbt
      generalize hnt : tot U ((j : Int) + 1) len = nt at *
      have HNT := hid hnt
      clear hnt
      go_wp2_with fail
      refine (HK.out _).mono ?_
      rintro e w2 ⟨rfl, rfl⟩
      go_wp2_with fail
      refine HTK.out.mono ?_
      rintro e w2 ⟨rfl, hb2⟩
      have HB2 := hid (HB.out.trans (hb2.mono HB.out.size))
      clear hb2
      by_cases hc : nt < bt
      · have g2 : (nt : Int) < (bt : Int) := by omega
        have HE : Hid (bst U len (j + 1) = j + 1) := hid (by rw [HN.out, if_pos hc])
        go_wp2_with fail
        go_roundg (m + 1 - (j + 1))
        case measure => rw [HG.out]; omega
        case rel => exact ⟨j + 1, by omega, rfl, by rw [HE.out]; rfl, by rw [HE.out, show ((j + 1 : Nat) : Int) = (j : Int) + 1 from rfl, HNT.out], rfl, HB2.out⟩
      · have g2 : ¬ (nt : Int) < (bt : Int) := by omega
        have HE : Hid (bst U len (j + 1) = bj) := hid (by rw [HN.out, if_neg hc])
        go_wp2_with fail
        go_roundg (m + 1 - (j + 1))
        case measure => rw [HG.out]; omega
        case rel => exact ⟨j + 1, by omega, rfl, by rw [HE.out], by rw [HE.out, HBT.out], rfl, HB2.out⟩
    · have g1 : ¬ (j : Int) + 1 ≤ (m : Int) := by omega
      obtain rfl : j = m := by omega
      go_wp2_with fail
      refine (HK.out _).mono ?_
      rintro e w2 ⟨rfl, rfl⟩
      go_wp2_with fail
      go_ret2
      exact ⟨rfl, HB.out⟩

set_option maxHeartbeats 800000 in
theorem rbest_any (w : World) (a : Option Addr) (len cap b off : Nat) (U : Nat → Nat) (h : Us w a len b off U) (hlen : len ≤ 1048576) (most : Int) :
    Calls Try.prog 38 #[.slice a len cap, .int .i64 most] w fun e w' => e = .returned (.tuple #[.int .i64 (bst U len (m30 most) : Int), .int .i64 (tot U (bst U len (m30 most) : Nat) len : Int)]) ∧ w = w' := by
  have HT := hid fun k => rtotal_any w a len cap b off U h hlen k
  have HM : Hid (∀ j : Nat, j < m30 most ↔ (j : Int) + 1 ≤ 30 ∧ (j : Int) + 1 ≤ most) := hid fun j => by unfold m30; split; omega; split <;> omega
  have hm := m30_le most
  generalize m30 most = m at *
  clear h hlen
  go_enter Try.func38, Try.ntmps38
  go_wp2_with fail
  go_loopg [6, 7] (m + 1) (fun g b k wr => ∃ j : Nat, j ≤ m ∧ g = m + 1 - j ∧ b = .int .i64 (bst U len j : Int) ∧ k = .int .i64 ((j : Int) + 1) ∧ w = wr)
  case atStart => exact ⟨0, Nat.zero_le _, by omega, rfl, rfl, rfl⟩
  case round =>
    obtain ⟨j, hj, hg, rfl, rfl, rfl⟩ := hrel
    have HG := hid hg
    clear hg
    by_cases hlt : j < m
    · obtain ⟨g1, g2⟩ := (HM.out j).1 hlt
      have HN : Hid (bst U len (j + 1) = if tot U (j + 1 : Nat) len < tot U (bst U len j : Nat) len then j + 1 else bst U len j) := hid rfl
      have HTK := hid (HT.out ((j : Int) + 1))
      have HTB := hid (HT.out (bst U len j : Nat))
      rw [show ((j + 1 : Nat) : Int) = (j : Int) + 1 from rfl] at HN
      generalize bst U len j = bj at *
      generalize tot U (bj : Nat) len = bt at *
      generalize tot U ((j : Int) + 1) len = nt at *
      go_wp2_with fail
      refine HTK.out.mono ?_
      rintro e w2 ⟨rfl, rfl⟩
      go_wp2_with fail
      refine HTB.out.mono ?_
      rintro e w2 ⟨rfl, rfl⟩
      by_cases hc : nt < bt
      · have g3 : (nt : Int) < (bt : Int) := by omega
        have HE : Hid (bst U len (j + 1) = j + 1) := hid (by rw [HN.out, if_pos hc])
        go_wp2_with fail
        go_roundg (m + 1 - (j + 1))
        case measure => rw [HG.out]; omega
        case rel => exact ⟨j + 1, by omega, rfl, by rw [HE.out]; rfl, rfl, rfl⟩
      · have g3 : ¬ (nt : Int) < (bt : Int) := by omega
        have HE : Hid (bst U len (j + 1) = bj) := hid (by rw [HN.out, if_neg hc])
        go_wp2_with fail
        go_roundg (m + 1 - (j + 1))
        case measure => rw [HG.out]; omega
        case rel => exact ⟨j + 1, by omega, rfl, by rw [HE.out], rfl, rfl⟩
    · obtain rfl : j = m := by omega
      have HTB := hid (HT.out (bst U len j : Nat))
      by_cases g1 : (j : Int) + 1 ≤ 30
      · have g2 : ¬ (j : Int) + 1 ≤ most := fun h => hlt ((HM.out j).2 ⟨g1, h⟩)
        go_wp2_with fail
        refine HTB.out.mono ?_
        rintro e w2 ⟨rfl, rfl⟩
        go_wp2_with fail
        go_ret2
        exact ⟨rfl, rfl⟩
      · go_wp2_with fail
        refine HTB.out.mono ?_
        rintro e w2 ⟨rfl, rfl⟩
        go_wp2_with fail
        go_ret2
        exact ⟨rfl, rfl⟩
end Go.Proofs.Ytjimamjhakainaa.Rice
