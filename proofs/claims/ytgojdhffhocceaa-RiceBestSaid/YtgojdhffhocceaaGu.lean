/- Guess of rice, and the document's: the same; RiceBest's walk. Conditions: those of the memory's own form alone. -/
import Derived.Test.YtgojdhffhocceaaBe
import Derived.Test.YtgojdhffhocceaaKn
namespace Go.Proofs.Ytgojdhffhocceaa.Rice
open Go.RowKit Bit

def gues (U : Nat → Nat) (len : Nat) : Nat := if len = 0 then 0 else min (Lib.bitLen (tog (fun u => u) U len / len)) 30

theorem self_any (u : Nat) (w : World) : Calls Try.prog 51 #[.int .u64 (u : Int)] w fun e w' => e = .returned (.int .u64 (u : Int)) ∧ w = w' := by
  go_enter Try.func51, Try.ntmps51
  go_wp2_with fail
  go_ret
  exact ⟨rfl, rfl⟩
theorem widthI (xi : Int) (x : Nat) (hxi : xi = x) (hx : x < 18446744073709551616) (w : World) : Calls Try.prog 52 #[.int .u64 xi] w fun e w' => e = .returned (.int .i64 (Lib.bitLen x : Int)) ∧ w = w' := by subst hxi; exact width_any x hx w
theorem rwidthI (xi : Int) (x : Nat) (hxi : xi = x) (hx : x < 18446744073709551616) (w : World) : Calls Try.prog 54 #[.int .u64 xi] w fun e w' => e = .returned (.int .i64 (Lib.bitLen x : Int)) ∧ w = w' := by subst hxi; exact rwidth_any x hx w

set_option maxHeartbeats 800000 in
theorem guess_any (w : World) (a : Option Addr) (len cap b off : Nat) (U : Nat → Nat) (h : Us w a len b off U) :
    Calls Try.prog 33 #[.slice a len cap] w fun e w' => e = .returned (.int .i64 (gues U len : Int)) ∧ w = w' := by
  have hl := h.hl
  by_cases h0 : len = 0
  · subst h0
    rw [show gues U 0 = 0 from rfl]
    clear h
    go_enter Try.func33, Try.ntmps33
    go_wp2_with fail
    go_ret
    exact ⟨rfl, rfl⟩
  · have HE : Hid (gues U len = min (Lib.bitLen (tog (fun u => u) U len / len)) 30) := hid (if_neg h0)
    have ht := together_any (fun u => u) 51 #[] (fun args w => Try.call51 args w) w a len cap b off U h (fun i _ => by rw [Array.append_empty]; exact self_any (U i) w) (fun i hi => h.ub i hi)
    have htl := tog_le (fun u => u) U len
    generalize tog (fun u => u) U len = t at *
    have hdv : t / len ≤ t := Nat.div_le_self _ _
    have hq : IntKind.u64.wrap ((t : Int) / (len : Int)) = ((t / len : Nat) : Int) := by
      have e : (t : Int) / (len : Int) = ((t / len : Nat) : Int) := by push_cast; rfl
      rw [e, IntWalk.u64_in _ ⟨Int.natCast_nonneg _, by omega⟩]
    have hw := widthI (IntKind.u64.wrap ((t : Int) / (len : Int))) (t / len) hq (by omega) w
    have g0 : ((len : Int) == 0) = false := beq_eq_false_iff_ne.2 (by omega)
    have g1 : ¬ (len : Int) = 0 := by omega
    have HT := hid ht
    have HW := hid hw
    clear ht hw h h0 hq
    go_enter Try.func33, Try.ntmps33
    go_wp2_with fail
    refine HT.out.mono ?_
    rintro e w1 ⟨rfl, rfl⟩
    go_wp2_with fail
    refine HW.out.mono ?_
    rintro e w1 ⟨rfl, rfl⟩
    generalize Lib.bitLen (t / len) = n at *
    by_cases h30 : 30 < n
    · have g2 : (30 : Int) < (n : Int) := by omega
      go_wp2_with fail
      go_ret
      exact ⟨congrArg (fun z : Int => Ending.returned (.int .i64 z)) (by rw [HE.out]; omega), rfl⟩
    · have g2 : ¬ (30 : Int) < (n : Int) := by omega
      go_wp2_with fail
      go_ret
      exact ⟨congrArg (fun z : Int => Ending.returned (.int .i64 z)) (by rw [HE.out]; omega), rfl⟩

set_option maxHeartbeats 1600000 in
theorem rguess_any (w : World) (a : Option Addr) (len cap b off : Nat) (U : Nat → Nat) (h : Us w a len b off U) :
    Calls Try.prog 34 #[.slice a len cap] w fun e w' => e = .returned (.int .i64 (gues U len : Int)) ∧ w = w' := by
  have hl := h.hl
  by_cases h0 : len = 0
  · subst h0
    rw [show gues U 0 = 0 from rfl]
    clear h
    go_enter Try.func34, Try.ntmps34
    go_wp2_with fail
    go_ret
    exact ⟨rfl, rfl⟩
  · have HE : Hid (gues U len = min (Lib.bitLen (tog (fun u => u) U len / len)) 30) := hid (if_neg h0)
    have g0 : ((len : Int) == 0) = false := beq_eq_false_iff_ne.2 (by omega)
    have g1 : ¬ (len : Int) = 0 := by omega
    have H := hid h
    have hpos : 0 < len := by omega
    clear h h0
    go_enter Try.func34, Try.ntmps34
    go_wp2_with fail
    go_loopg [3, 4] len (fun g s i wr => ∃ j : Nat, j ≤ len ∧ g = len - j ∧ s = .int .i64 (tog (fun u => u) U j : Int) ∧ i = .int .i64 j ∧ w = wr)
    case atStart => exact ⟨0, Nat.zero_le _, rfl, rfl, rfl, rfl⟩
    case round =>
      obtain ⟨j, hj, hg, rfl, rfl, rfl⟩ := hrel
      have HG := hid hg
      have htl := tog_le (fun u => u) U j
      clear hg
      by_cases hlt : j < len
      · have hlt2 : (j : Int) < (len : Int) := by omega
        obtain rfl := H.out.addr (by omega)
        have ck := H.out.c j hlt
        have hub := H.out.ub j hlt
        have HN : Hid (tog (fun u => u) U (j + 1) = min (tog (fun u => u) U j + min (U j) 4611686018427387904) 4611686018427387904) := hid rfl
        generalize tog (fun u => u) U j = t at *
        generalize U j = x at *
        by_cases hx : x < 4611686018427387904
        · have g2 : (x : Int) < 4611686018427387904 := by omega
          have ha := hid (add_any t x htl (by omega) w)
          go_wp2_with fail
          refine ha.out.mono ?_
          rintro e w1 ⟨rfl, rfl⟩
          have HV : Hid (min (t + x) 4611686018427387904 = tog (fun u => u) U (j + 1)) := hid (by rw [HN.out, Nat.min_eq_left (show x ≤ 4611686018427387904 by omega)])
          generalize min (t + x) 4611686018427387904 = v at *
          clear ha
          go_wp2_with fail
          go_roundg (len - (j + 1))
          case measure => rw [HG.out]; omega
          case rel => exact ⟨j + 1, by omega, rfl, by rw [HV.out], by go_num, rfl⟩
        · have g2 : ¬ (x : Int) < 4611686018427387904 := by omega
          have ha := hid (add_any t 4611686018427387904 htl (Nat.le_refl _) w)
          go_wp2_with fail
          refine ha.out.mono ?_
          rintro e w1 ⟨rfl, rfl⟩
          have HV : Hid (min (t + 4611686018427387904) 4611686018427387904 = tog (fun u => u) U (j + 1)) := hid (by rw [HN.out, Nat.min_eq_right (show 4611686018427387904 ≤ x by omega)])
          generalize min (t + 4611686018427387904) 4611686018427387904 = v at *
          clear ha
          go_wp2_with fail
          go_roundg (len - (j + 1))
          case measure => rw [HG.out]; omega
          case rel => exact ⟨j + 1, by omega, rfl, by rw [HV.out], by go_num, rfl⟩
      · have hge : ¬ (j : Int) < (len : Int) := by omega
        obtain rfl : j = len := by omega
        generalize tog (fun u => u) U j = t at *
        have hdv : t / j ≤ t := Nat.div_le_self _ _
        have HW := hid (rwidthI ((t : Int) / (j : Int)) (t / j) (by push_cast; rfl) (by omega) w)
        have hd0 : (0 : Int) ≤ (t : Int) / (j : Int) := Int.ediv_nonneg (by omega) (by omega)
        have hd1 : (t : Int) / (j : Int) ≤ 4611686018427387904 := by
          have : (t : Int) / (j : Int) = ((t / j : Nat) : Int) := by push_cast; rfl
          omega
        go_wp2_with fail
        refine HW.out.mono ?_
        rintro e w1 ⟨rfl, rfl⟩
        generalize Lib.bitLen (t / j) = n at *
        by_cases h30 : 30 < n
        · have g2 : (30 : Int) < (n : Int) := by omega
          go_wp2_with fail
          go_ret
          exact ⟨congrArg (fun z : Int => Ending.returned (.int .i64 z)) (by rw [HE.out]; omega), rfl⟩
        · have g2 : ¬ (30 : Int) < (n : Int) := by omega
          go_wp2_with fail
          go_ret
          exact ⟨congrArg (fun z : Int => Ending.returned (.int .i64 z)) (by rw [HE.out]; omega), rfl⟩
end Go.Proofs.Ytgojdhffhocceaa.Rice
