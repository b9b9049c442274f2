/- Where a part begins and ends, in the program and in the document; the document's orders. Conditions: those that each lemma names. -/
import Derived.Test.YtjimamjhakainaaYh
namespace Go.Proofs.Ytjimamjhakainaa.Part
open Go.RowKit Bit Rice Runs

def bd (n p i : Nat) : Nat := i * n / 2 ^ p
def BdPost (w : World) (x y : Int) (e : Ending) (w' : World) : Prop := e = .returned (.tuple #[.int .i64 x, .int .i64 y]) ∧ w' = w
theorem shr_val (m p : Nat) : ((m : Int) / 2 ^ p) = ((m / 2 ^ p : Nat) : Int) := by push_cast; rfl
set_option maxRecDepth 100000 in
set_option maxHeartbeats 2000000 in
theorem bounds_in (n p i : Nat) (hn : n ≤ 65536) (hp : p ≤ 6) (hi : i < 2 ^ p) (w : World) :
    Calls Try.prog 14 #[.int .i64 (n : Int), .int .i64 (p : Int), .int .i64 (i : Int)] w (fun e w' => e = .returned (.tuple #[.int .i64 (bd n p i : Int), .int .i64 (bd n p (i + 1) : Int)]) ∧ ∃ nq, w' = w.drewN nq) := by
  have h1 : i * n ≤ 64 * 65536 := Nat.mul_le_mul (Nat.le_of_lt (Nat.lt_of_lt_of_le hi (Nat.pow_le_pow_right (n := 2) (by decide) hp))) hn
  have h2 : (i + 1) * n ≤ 64 * 65536 := Nat.mul_le_mul (Nat.lt_of_lt_of_le hi (Nat.pow_le_pow_right (n := 2) (by decide) hp)) hn
  unfold bd
  obtain ⟨m, hm⟩ : ∃ m, i * n = m := ⟨_, rfl⟩
  obtain ⟨k, hk⟩ : ∃ k, (i + 1) * n = k := ⟨_, rfl⟩
  have e1 : (i : Int) * (n : Int) = (m : Int) := by rw [← hm]; push_cast; rfl
  have e2 : ((i : Int) + 1) * (n : Int) = (k : Int) := by rw [← hk]; push_cast; rfl
  have g1 : ¬ (n : Int) < 0 := by omega
  have g2 : ¬ (65536 : Int) < (n : Int) := by omega
  have g3 : ¬ (i : Int) < 0 := by omega
  rw [hm, hk]
  rw [hm] at h1
  rw [hk] at h2
  clear hm hk hn
  rcases (show p = 0 ∨ p = 1 ∨ p = 2 ∨ p = 3 ∨ p = 4 ∨ p = 5 ∨ p = 6 by omega) with rfl | rfl | rfl | rfl | rfl | rfl | rfl
  all_goals
    have g4 : (i : Int) ≤ 63 := by omega
    go_enter Try.func14, Try.ntmps14
    go_wp2_with fail
    all_goals first
      | (exfalso; omega)
      | (go_quiet (fail)
         go_wp2_with fail
         go_ret2
         exact ⟨by simp, _, rfl⟩)

theorem bounds_out (n p i : Int) (h : n < 0 ∨ 65536 < n ∨ p < 0 ∨ 6 < p ∨ i < 0 ∨ (2 : Int) ^ p.toNat ≤ i) (w : World) :
    Calls Try.prog 14 #[.int .i64 n, .int .i64 p, .int .i64 i] w fun e w' => e = .returned (.tuple #[.int .i64 0, .int .i64 0]) ∧ w = w' := by
  by_cases h1 : n < 0
  · clear h
    go_enter Try.func14, Try.ntmps14
    go_wp2_with fail
    go_ret2
    exact ⟨rfl, rfl⟩
  by_cases h2 : 65536 < n
  · clear h
    go_enter Try.func14, Try.ntmps14
    go_wp2_with fail
    go_ret2
    exact ⟨rfl, rfl⟩
  by_cases h3 : p < 0
  · clear h
    go_enter Try.func14, Try.ntmps14
    go_wp2_with fail
    go_ret2
    exact ⟨rfl, rfl⟩
  by_cases h4 : 6 < p
  · clear h
    go_enter Try.func14, Try.ntmps14
    go_wp2_with fail
    go_ret2
    exact ⟨rfl, rfl⟩
  by_cases h5 : i < 0
  · clear h
    go_enter Try.func14, Try.ntmps14
    go_wp2_with fail
    go_ret2
    exact ⟨rfl, rfl⟩
  have h6 : (2 : Int) ^ p.toNat ≤ i := by omega
  clear h
  obtain ⟨k, rfl⟩ : ∃ k : Nat, p = (k : Int) := ⟨p.toNat, by omega⟩
  rw [Int.toNat_natCast] at h6
  rcases (show k = 0 ∨ k = 1 ∨ k = 2 ∨ k = 3 ∨ k = 4 ∨ k = 5 ∨ k = 6 by omega) with rfl | rfl | rfl | rfl | rfl | rfl | rfl
  all_goals
    clear h3 h4
    simp only [Int.reducePow] at h6
    go_enter Try.func14, Try.ntmps14
    go_wp2_with fail
    all_goals first
      | (exfalso; omega)
      | (go_ret2
         exact ⟨rfl, rfl⟩)
theorem power_p (p y : Nat) (hp : p ≤ 6) (hy : 2 ^ p = y) (w : World) : Calls Try.prog 43 #[.int .i64 (p : Int)] w fun e w' => e = .returned (.int .i64 (y : Int)) ∧ w = w' := power_gen p y (by omega) hy w
theorem rorder_any (n : Nat) (hn : n ≤ 9223372036854775807) (p : Int) (w : World) : Calls Try.prog 23 #[.int .i64 (n : Int), .int .i64 p] w fun e w' => e = .returned (.bool (decide (ord n p))) ∧ w = w' := by
  by_cases h0 : p = 0
  · subst h0
    rw [decide_eq_true (show ord n 0 from (ord_iff (by omega) 0).2 (.inl rfl))]
    go_enter Try.func23, Try.ntmps23
    go_wp2_with fail
    go_ret
    exact ⟨rfl, rfl⟩
  · have hb : (p == 0) = false := beq_eq_false_iff_ne.2 h0
    by_cases h1 : 1 ≤ p
    · obtain ⟨k, rfl⟩ : ∃ k : Nat, p = (k : Int) := ⟨p.toNat, by omega⟩
      by_cases h6 : (k : Int) ≤ 6
      · have hp := power_p k (2 ^ k) (by omega) rfl w
        have e : decide (ord n (k : Int)) = decide (((2 ^ k : Nat) : Int) ≤ (n : Int)) := decide_eq_decide.2 ((ord_iff (by omega) k).trans ⟨fun h => by rcases h with h | h <;> omega, fun h => .inr ⟨by omega, by omega⟩⟩)
        rw [e]
        clear e h0
        generalize 2 ^ k = y at *
        go_enter Try.func23, Try.ntmps23
        go_wp2_with fail
        refine hp.mono ?_
        rintro e w' ⟨rfl, rfl⟩
        clear hp
        go_wp2_with fail
        go_ret
        exact ⟨congrArg (fun z : Bool => Ending.returned (.bool z)) (decide_eq_decide.2 (by omega)), rfl⟩
      · rw [decide_eq_false (fun h => by have := (ord_iff (by omega) k).1 h; omega)]
        clear h0
        go_enter Try.func23, Try.ntmps23
        go_wp2_with fail
        go_ret
        exact ⟨rfl, rfl⟩
    · rw [decide_eq_false (fun h => by have := h.1; omega)]
      clear h0
      go_enter Try.func23, Try.ntmps23
      go_wp2_with fail
      go_ret
      exact ⟨rfl, rfl⟩
set_option maxRecDepth 100000 in
set_option maxHeartbeats 2000000 in
theorem rbounds_any (n p i : Nat) (hn : n ≤ 65536) (hp : p ≤ 6) (hi : i < 2 ^ p) (w : World) :
    Calls Try.prog 15 #[.int .i64 (n : Int), .int .i64 (p : Int), .int .i64 (i : Int)] w (fun e w' => e = .returned (.tuple #[.int .i64 (bd n p i : Int), .int .i64 (bd n p (i + 1) : Int)]) ∧ ∃ nq, w' = w.drewN nq) := by
  have h1 : i * n ≤ 64 * 65536 := Nat.mul_le_mul (Nat.le_of_lt (Nat.lt_of_lt_of_le hi (Nat.pow_le_pow_right (n := 2) (by decide) hp))) hn
  have h2 : (i + 1) * n ≤ 64 * 65536 := Nat.mul_le_mul (Nat.lt_of_lt_of_le hi (Nat.pow_le_pow_right (n := 2) (by decide) hp)) hn
  unfold bd
  obtain ⟨m, hm⟩ : ∃ m, i * n = m := ⟨_, rfl⟩
  obtain ⟨k, hk⟩ : ∃ k, (i + 1) * n = k := ⟨_, rfl⟩
  have e1 : (i : Int) * (n : Int) = (m : Int) := by rw [← hm]; push_cast; rfl
  have e2 : ((i : Int) + 1) * (n : Int) = (k : Int) := by rw [← hk]; push_cast; rfl
  rw [hm, hk]
  rw [hm] at h1
  rw [hk] at h2
  have hwm : IntKind.i64.wrap (m : Int) = (m : Int) := IntWalk.i64_in _ (by omega)
  have hwk : IntKind.i64.wrap (k : Int) = (k : Int) := IntWalk.i64_in _ (by omega)
  obtain ⟨y, hy⟩ : ∃ y, 2 ^ p = y := ⟨_, rfl⟩
  have HPW := hid fun wr => power_p p y hp hy wr
  have hy0 : 0 < y := by rw [← hy]; exact Nat.two_pow_pos p
  have hy1 : (y : Int) ≠ 0 := by omega
  have hi63 : i < 64 := Nat.lt_of_lt_of_le hi (Nat.pow_le_pow_right (n := 2) (by decide) hp)
  rw [hy]
  have g4 : (i : Int) ≤ 63 := by omega
  have HQ1 : RowKit.Hid (wrap64 ((m : Int) / (y : Int)) = ((m / y : Nat) : Int)) := hid (by
    have hle := Nat.div_le_self m y
    rw [show (m : Int) / (y : Int) = ((m / y : Nat) : Int) from by push_cast; rfl]
    generalize m / y = q at *
    exact IntWalk.wrap64_in _ (by omega))
  have HQ2 : RowKit.Hid (wrap64 ((k : Int) / (y : Int)) = ((k / y : Nat) : Int)) := hid (by
    have hle := Nat.div_le_self k y
    rw [show (k : Int) / (y : Int) = ((k / y : Nat) : Int) from by push_cast; rfl]
    generalize k / y = q at *
    exact IntWalk.wrap64_in _ (by omega))
  clear hm hk hn hi hp hy
  go_enter Try.func15, Try.ntmps15
  go_wp2_with fail
  go_quiet (first | (go_at_call 43; refine Calls.quiet_of_same (qt (HPW.out _))))
  rw [HQ1.out, HQ2.out]
  go_wp2_with fail
  go_ret2
  exact ⟨rfl, _, rfl⟩
