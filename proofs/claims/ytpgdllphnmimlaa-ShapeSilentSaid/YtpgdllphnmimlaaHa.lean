/- Numbers between two ends, a quotient by 16 rounded down, samples held, in the program and in the document: the same ones. No condition but those that each names. -/
import Derived.Test.YtpgdllphnmimlaaProg
import Derived.Test.YtpgdllphnmimlaaGen
import Derived.WalkKit
import Derived.WalkLawsBesides
import Derived.WalkSpells
import Derived.Outline
import Derived.Handy
import Derived.Deep.LoopGhost
import Derived.Deep.RegionHeld3
import Derived.Deep.RegionLaw
import Derived.Deep.DeepCutAuto
import Derived.Deep.QuietTactic
import Derived.BigQuiet
import Derived.Deep.RegionWith
namespace Go.Proofs.Ytpgdllphnmimlaa.Shape
open Go.RowKit Gen

def clp (x lo hi : Int) : Int := if x < lo then lo else if hi < x then hi else x
theorem clp_lo {x lo hi : Int} (h : x < lo) : clp x lo hi = lo := if_pos h
theorem clp_hi {x lo hi : Int} (h : ¬ x < lo) (h2 : hi < x) : clp x lo hi = hi := by unfold clp; rw [if_neg h, if_pos h2]
theorem clp_in {x lo hi : Int} (h : ¬ x < lo) (h2 : ¬ hi < x) : clp x lo hi = x := by unfold clp; rw [if_neg h, if_neg h2]
theorem clp_ge {x lo hi : Int} (h : lo ≤ hi) : lo ≤ clp x lo hi ∧ clp x lo hi ≤ hi := by unfold clp; split <;> (try split) <;> omega
def ld (x : Int) : Int := clp x (-4294967296) 4294967296
theorem ld_in (x : Int) : -4294967296 ≤ ld x ∧ ld x ≤ 4294967296 := clp_ge (by decide)
theorem ld_ld (x : Int) : ld (ld x) = ld x := by
  have := ld_in x
  exact clp_in (by omega) (by omega)
def mis (y t : Int) : Int := clp (ld y - t) (-67108864) 67108864
theorem mis_in (y t : Int) : -67108864 ≤ mis y t ∧ mis y t ≤ 67108864 := clp_ge (by decide)

theorem clamp_any (xi x lo hi : Int) (hx : xi = x) (h : lo ≤ hi) (w : World) : Calls Try.prog 26 #[.int .i64 xi, .int .i64 lo, .int .i64 hi] w fun e w' => e = .returned (.int .i64 (clp x lo hi)) ∧ w = w' := by
  subst hx
  have h' : ¬ hi < lo := by omega
  by_cases h0 : xi < lo
  · rw [clp_lo h0]
    go_enter Try.func26, Try.ntmps26
    go_wp2_with fail
    go_ret
    exact ⟨rfl, rfl⟩
  · by_cases h1 : hi < xi
    · rw [clp_hi h0 h1]
      go_enter Try.func26, Try.ntmps26
      go_wp2_with fail
      go_ret
      exact ⟨rfl, rfl⟩
    · rw [clp_in h0 h1]
      go_enter Try.func26, Try.ntmps26
      go_wp2_with fail
      go_ret
      exact ⟨rfl, rfl⟩
theorem rclamp_any (xi x lo hi : Int) (hx : xi = x) (h : lo ≤ hi) (w : World) : Calls Try.prog 27 #[.int .i64 xi, .int .i64 lo, .int .i64 hi] w fun e w' => e = .returned (.int .i64 (clp x lo hi)) ∧ w = w' := by
  subst hx
  have h' : ¬ hi < lo := by omega
  by_cases h0 : xi < lo
  · rw [clp_lo h0]
    go_enter Try.func27, Try.ntmps27
    go_wp2_with fail
    go_ret
    exact ⟨rfl, rfl⟩
  · by_cases h1 : hi < xi
    · rw [clp_hi h0 h1]
      go_enter Try.func27, Try.ntmps27
      go_wp2_with fail
      go_ret
      exact ⟨rfl, rfl⟩
    · rw [clp_in h0 h1]
      go_enter Try.func27, Try.ntmps27
      go_wp2_with fail
      go_ret
      exact ⟨rfl, rfl⟩
theorem hold_any (x : Int) (w : World) : Calls Try.prog 24 #[.int .i64 x] w fun e w' => e = .returned (.int .i64 (ld x)) ∧ w = w' := by
  go_enter Try.func24, Try.ntmps24
  go_wp2_with fail
  refine (clamp_any x x _ _ rfl (by decide) _).mono ?_
  rintro e w' ⟨rfl, rfl⟩
  go_wp2_with fail
  go_ret
  exact ⟨rfl, rfl⟩
theorem loud_any (x : Int) (w : World) : Calls Try.prog 20 #[.int .i64 x] w fun e w' => e = .returned (.int .i64 (ld x)) ∧ w = w' := by
  go_enter Try.func20, Try.ntmps20
  go_wp2_with fail
  refine (rclamp_any x x _ _ rfl (by decide) _).mono ?_
  rintro e w' ⟨rfl, rfl⟩
  go_wp2_with fail
  go_ret
  exact ⟨rfl, rfl⟩
theorem rmiss_any (y t : Int) (ht : -1099511627776 ≤ t ∧ t ≤ 1099511627776) (w : World) : Calls Try.prog 17 #[.int .i64 y, .int .i64 t] w fun e w' => e = .returned (.int .i64 (mis y t)) ∧ w = w' := by
  have hl := ld_in y
  have HP := hid (show ∀ z, z = ld y - t → ∀ w, Calls Try.prog 27 #[.int .i64 z, .int .i64 (-67108864), .int .i64 67108864] w fun e w' => e = .returned (.int .i64 (mis y t)) ∧ w = w' from fun z hz w => rclamp_any z _ _ _ hz (by decide) w)
  have HL := hid (loud_any y w)
  generalize ld y = x at *
  go_enter Try.func17, Try.ntmps17
  go_wp2_with fail
  refine HL.out.mono ?_
  rintro e w' ⟨rfl, rfl⟩
  go_wp2_with fail
  refine (HP.out _ (by first | rfl | omega | go_num) _).mono ?_
  rintro e w' ⟨rfl, rfl⟩
  go_wp2_with fail
  go_ret
  exact ⟨rfl, rfl⟩

theorem td_nat (n : Nat) : (n : Int).tdiv 16 = (n : Int) / 16 ∧ (n : Int).tmod 16 = (n : Int) % 16 := ⟨Int.tdiv_eq_ediv_of_nonneg (Int.natCast_nonneg n), Int.tmod_eq_emod_of_nonneg (Int.natCast_nonneg n)⟩
theorem td_neg (n : Nat) : (-(n : Int)).tdiv 16 = -((n : Int) / 16) ∧ (-(n : Int)).tmod 16 = -((n : Int) % 16) := by
  rw [Int.neg_tdiv, Int.neg_tmod, (td_nat n).1, (td_nat n).2]; exact ⟨rfl, rfl⟩
theorem fl_neg {a : Int} (h : a.tmod 16 < 0) : a.tdiv 16 - 1 = a / 16 := by
  obtain ⟨n, rfl | rfl⟩ := Int.eq_nat_or_neg a
  · rw [(td_nat n).2] at h; omega
  · rw [(td_neg n).2] at h; rw [(td_neg n).1]; omega
theorem fl_pos {a : Int} (h : ¬ a.tmod 16 < 0) : a.tdiv 16 = a / 16 := by
  obtain ⟨n, rfl | rfl⟩ := Int.eq_nat_or_neg a
  · exact (td_nat n).1
  · rw [(td_neg n).2] at h; rw [(td_neg n).1]; omega
theorem td_in {a : Int} (ha : -1099511627776 ≤ a ∧ a ≤ 1099511627776) : -1099511627776 ≤ a.tdiv 16 ∧ a.tdiv 16 ≤ 1099511627776 := by
  obtain ⟨n, rfl | rfl⟩ := Int.eq_nat_or_neg a
  · rw [(td_nat n).1]; omega
  · rw [(td_neg n).1]; omega
theorem floor_any (a : Int) (ha : -1099511627776 ≤ a ∧ a ≤ 1099511627776) (w : World) : Calls Try.prog 25 #[.int .i64 a, .int .i64 16] w fun e w' => e = .returned (.int .i64 (a / 16)) ∧ w = w' := by
  have ht := td_in ha
  by_cases h : a.tmod 16 < 0
  · rw [← fl_neg h]
    go_enter Try.func25, Try.ntmps25
    go_wp2_with fail
    go_ret
    exact ⟨by first | rfl | (congr 2; go_num), rfl⟩
  · rw [← fl_pos h]
    go_enter Try.func25, Try.ntmps25
    go_wp2_with fail
    go_ret
    exact ⟨by first | rfl | (congr 2; go_num), rfl⟩
theorem md_zero (a : Int) : a.tmod 16 = 0 ↔ a % 16 = 0 := by
  obtain ⟨n, rfl | rfl⟩ := Int.eq_nat_or_neg a
  · rw [(td_nat n).2]
  · rw [(td_neg n).2]; omega
theorem rf_neg {a : Int} (h0 : a < 0) (h : ¬ a.tmod 16 = 0) : a.tdiv 16 - 1 = a / 16 := by
  refine fl_neg ?_
  obtain ⟨n, rfl | rfl⟩ := Int.eq_nat_or_neg a
  · omega
  · rw [(td_neg n).2] at h ⊢; omega
theorem rf_pos {a : Int} (h : ¬ a < 0 ∨ a.tmod 16 = 0) : a.tdiv 16 = a / 16 := by
  refine fl_pos ?_
  rcases h with h | h
  · obtain ⟨n, rfl | rfl⟩ := Int.eq_nat_or_neg a
    · rw [(td_nat n).2]; omega
    · rw [(td_neg n).2]; omega
  · omega
theorem rfloor_any (a : Int) (ha : -1099511627776 ≤ a ∧ a ≤ 1099511627776) (w : World) : Calls Try.prog 23 #[.int .i64 a, .int .i64 16] w fun e w' => e = .returned (.int .i64 (a / 16)) ∧ w = w' := by
  have ht := td_in ha
  by_cases h0 : a < 0
  · by_cases h : a.tmod 16 = 0
    · rw [← rf_pos (.inr h)]
      go_enter Try.func23, Try.ntmps23
      go_wp2_with fail
      go_ret
      exact ⟨by first | rfl | (congr 2; go_num), rfl⟩
    · rw [← rf_neg h0 h]
      go_enter Try.func23, Try.ntmps23
      go_wp2_with fail
      go_ret
      exact ⟨by first | rfl | (congr 2; go_num), rfl⟩
  · rw [← rf_pos (.inl h0)]
    go_enter Try.func23, Try.ntmps23
    go_wp2_with fail
    go_ret
    exact ⟨by first | rfl | (congr 2; go_num), rfl⟩
end Go.Proofs.Ytpgdllphnmimlaa.Shape
