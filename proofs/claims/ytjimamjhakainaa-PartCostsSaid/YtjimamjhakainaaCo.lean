/- What a number costs by a parameter, in the program and in the document: the same number, and nothing has turned. No condition. -/
import Derived.Test.YtjimamjhakainaaPut
namespace Go.Proofs.Ytjimamjhakainaa.Rice
open Go.RowKit Bit

/-- A parameter. -/
def okK (k : Int) : Prop := 0 ≤ k ∧ k ≤ 30
instance (k : Int) : Decidable (okK k) := by unfold okK; exact inferInstance
def coded (u : Nat) : Prop := u < 1099511627776
instance (u : Nat) : Decidable (coded u) := by unfold coded; exact inferInstance
/-- What a number costs. -/
def cost (u : Nat) (k : Int) : Nat := if okK k ∧ coded u then (if u / 2 ^ k.toNat < 24 then u / 2 ^ k.toNat + 1 + k.toNat else 64) else 0
theorem cost_le (u : Nat) (k : Int) : cost u k ≤ 64 := by
  unfold cost okK
  split
  · split <;> omega
  · omega
theorem cost_no {u : Nat} {k : Int} (h : ¬ (okK k ∧ coded u)) : cost u k = 0 := if_neg h

theorem isparam (k : Int) (w : World) : Calls Try.prog 88 #[.int .i64 k] w fun e w' => e = .returned (.bool (decide (okK k))) ∧ w = w' := by
  by_cases h0 : 0 ≤ k
  · by_cases h1 : k ≤ 30
    · have e : decide (okK k) = true := decide_eq_true ⟨h0, h1⟩
      rw [e]
      go_enter Try.func88, Try.ntmps88
      go_wp2_with fail
      go_ret
      exact ⟨rfl, rfl⟩
    · have e : decide (okK k) = false := decide_eq_false fun h => h1 h.2
      rw [e]
      go_enter Try.func88, Try.ntmps88
      go_wp2_with fail
      go_ret
      exact ⟨rfl, rfl⟩
  · have e : decide (okK k) = false := decide_eq_false fun h => h0 h.1
    rw [e]
    go_enter Try.func88, Try.ntmps88
    go_wp2_with fail
    go_ret
    exact ⟨rfl, rfl⟩
theorem rparam (k : Int) (w : World) : Calls Try.prog 97 #[.int .i64 k] w fun e w' => e = .returned (.bool (decide (okK k))) ∧ w = w' := by
  by_cases h0 : 0 ≤ k
  · by_cases h1 : k ≤ 30
    · have e : decide (okK k) = true := decide_eq_true ⟨h0, h1⟩
      rw [e]
      go_enter Try.func97, Try.ntmps97
      go_wp2_with fail
      go_ret
      exact ⟨rfl, rfl⟩
    · have e : decide (okK k) = false := decide_eq_false fun h => h1 h.2
      rw [e]
      go_enter Try.func97, Try.ntmps97
      go_wp2_with fail
      go_ret
      exact ⟨rfl, rfl⟩
  · have e : decide (okK k) = false := decide_eq_false fun h => h0 h.1
    rw [e]
    go_enter Try.func97, Try.ntmps97
    go_wp2_with fail
    go_ret
    exact ⟨rfl, rfl⟩

theorem coded_eq (u : Nat) : ((((u : Int) / 2 ^ 40) == 0) : Bool) = decide (coded u) := by
  unfold coded
  by_cases h : u < 1099511627776
  · rw [decide_eq_true h, beq_iff_eq]; omega
  · rw [decide_eq_false h, beq_eq_false_iff_ne]; omega
theorem iscoded (u : Nat) (w : World) : Calls Try.prog 89 #[.int .u64 (u : Int)] w fun e w' => e = .returned (.bool (decide (coded u))) ∧ w = w' := by
  have HE := hid (coded_eq u)
  go_enter Try.func89, Try.ntmps89
  go_wp2_with fail
  go_ret
  exact ⟨by rw [← HE.out]; rfl, rfl⟩
theorem rmay (u : Nat) (w : World) : Calls Try.prog 99 #[.int .u64 (u : Int)] w fun e w' => e = .returned (.bool (decide (coded u))) ∧ w = w' := by
  by_cases h : u < 1099511627776
  · have e : decide (coded u) = true := decide_eq_true h
    rw [e]
    have h1 : (u : Int) < 1099511627776 := by omega
    go_enter Try.func99, Try.ntmps99
    go_wp2_with fail
    go_ret
    exact ⟨rfl, rfl⟩
  · have e : decide (coded u) = false := decide_eq_false h
    rw [e]
    have h1 : ¬ (u : Int) < 1099511627776 := by omega
    go_enter Try.func99, Try.ntmps99
    go_wp2_with fail
    go_ret
    exact ⟨rfl, rfl⟩
theorem iswhole (u k : Nat) (hk : k ≤ 30) (w : World) : Calls Try.prog 90 #[.int .u64 (u : Int), .int .i64 (k : Int)] w fun e w' => e = .returned (.bool (decide (24 ≤ u / 2 ^ k))) ∧ w = w' := by
  have hsh := shr_nat u k
  by_cases h : 24 ≤ u / 2 ^ k
  · rw [decide_eq_true h]
    have h1 : (24 : Int) ≤ (u : Int) / 2 ^ k := by rw [hsh]; omega
    clear hsh
    go_enter Try.func90, Try.ntmps90
    go_wp2_with fail
    go_ret
    exact ⟨rfl, rfl⟩
  · rw [decide_eq_false h]
    have h1 : ¬ (24 : Int) ≤ (u : Int) / 2 ^ k := by rw [hsh]; omega
    clear hsh
    go_enter Try.func90, Try.ntmps90
    go_wp2_with fail
    go_ret
    exact ⟨rfl, rfl⟩
theorem rquot (u k : Nat) (hk : k ≤ 30) (w : World) : Calls Try.prog 100 #[.int .u64 (u : Int), .int .i64 (k : Int)] w fun e w' => e = .returned (.int .u64 ((u / 2 ^ k : Nat) : Int)) ∧ w = w' := by
  go_enter Try.func100, Try.ntmps100
  go_wp2_with fail
  go_ret
  exact ⟨rfl, rfl⟩

theorem cost_any (u : Nat) (k : Int) (hu : u < 18446744073709551616) (w : World) : Calls Try.prog 62 #[.int .u64 (u : Int), .int .i64 k] w fun e w' => e = .returned (.int .i64 (cost u k : Int)) ∧ w = w' := by
  by_cases h0 : okK k
  · obtain ⟨n, rfl⟩ := Int.eq_ofNat_of_zero_le h0.1
    have hn : n ≤ 30 := by have := h0.2; omega
    have HU := hid hu
    clear hu
    by_cases h1 : coded u
    · by_cases h2 : 24 ≤ u / 2 ^ n
      · have e : cost u (n : Int) = 64 := by unfold cost; rw [if_pos ⟨h0, h1⟩, if_neg (by rw [Int.toNat_natCast]; omega)]
        rw [e]
        clear e
        go_enter Try.func62, Try.ntmps62
        go_wp2_with fail
        refine (isparam _ _).mono ?_
        rintro e w' ⟨rfl, rfl⟩
        rw [decide_eq_true h0]
        go_wp2_with fail
        refine (iscoded _ _).mono ?_
        rintro e w' ⟨rfl, rfl⟩
        rw [decide_eq_true h1]
        go_wp2_with fail
        refine (iswhole u n hn _).mono ?_
        rintro e w' ⟨rfl, rfl⟩
        rw [decide_eq_true h2]
        go_wp2_with fail
        go_ret
        exact ⟨rfl, rfl⟩
      · have e : cost u (n : Int) = u / 2 ^ n + 1 + n := by unfold cost; rw [if_pos ⟨h0, h1⟩, if_pos (by rw [Int.toNat_natCast]; omega), Int.toNat_natCast]
        rw [e]
        clear e
        have h3 : (u : Int) / 2 ^ n ≤ 24 := by rw [shr_nat]; omega
        have h4 : (0 : Int) ≤ (u : Int) / 2 ^ n := by rw [shr_nat]; exact Int.natCast_nonneg _
        go_enter Try.func62, Try.ntmps62
        go_wp2_with fail
        refine (isparam _ _).mono ?_
        rintro e w' ⟨rfl, rfl⟩
        rw [decide_eq_true h0]
        go_wp2_with fail
        refine (iscoded _ _).mono ?_
        rintro e w' ⟨rfl, rfl⟩
        rw [decide_eq_true h1]
        go_wp2_with fail
        refine (iswhole u n hn _).mono ?_
        rintro e w' ⟨rfl, rfl⟩
        rw [decide_eq_false h2]
        go_wp2_with fail
        go_ret
        exact ⟨rfl, rfl⟩
    · have e : cost u (n : Int) = 0 := cost_no fun h => h1 h.2
      rw [e]
      clear e
      go_enter Try.func62, Try.ntmps62
      go_wp2_with fail
      refine (isparam _ _).mono ?_
      rintro e w' ⟨rfl, rfl⟩
      rw [decide_eq_true h0]
      go_wp2_with fail
      refine (iscoded _ _).mono ?_
      rintro e w' ⟨rfl, rfl⟩
      rw [decide_eq_false h1]
      go_wp2_with fail
      go_ret
      exact ⟨rfl, rfl⟩
  · have e : cost u k = 0 := cost_no fun h => h0 h.1
    rw [e]
    clear e
    go_enter Try.func62, Try.ntmps62
    go_wp2_with fail
    refine (isparam _ _).mono ?_
    rintro e w' ⟨rfl, rfl⟩
    rw [decide_eq_false h0]
    go_wp2_with fail
    go_ret
    exact ⟨rfl, rfl⟩
theorem rcost_any (u : Nat) (k : Int) (hu : u < 18446744073709551616) (w : World) : Calls Try.prog 96 #[.int .u64 (u : Int), .int .i64 k] w fun e w' => e = .returned (.int .i64 (cost u k : Int)) ∧ w = w' := by
  by_cases h0 : okK k
  · obtain ⟨n, rfl⟩ := Int.eq_ofNat_of_zero_le h0.1
    have hn : n ≤ 30 := by have := h0.2; omega
    have HU := hid hu
    clear hu
    by_cases h1 : coded u
    · by_cases h2 : u / 2 ^ n < 24
      · have e : cost u (n : Int) = u / 2 ^ n + 1 + n := by unfold cost; rw [if_pos ⟨h0, h1⟩, if_pos (by rw [Int.toNat_natCast]; omega), Int.toNat_natCast]
        rw [e]
        clear e
        have hq := rquot u n hn
        generalize u / 2 ^ n = x at *
        have h3 : (x : Int) < 24 := by omega
        go_enter Try.func96, Try.ntmps96
        go_wp2_with fail
        refine (rparam _ _).mono ?_
        rintro e w' ⟨rfl, rfl⟩
        rw [decide_eq_true h0]
        go_wp2_with fail
        refine (rmay _ _).mono ?_
        rintro e w' ⟨rfl, rfl⟩
        rw [decide_eq_true h1]
        go_wp2_with fail
        refine (hq _).mono ?_
        rintro e w' ⟨rfl, rfl⟩
        go_wp2_with fail
        go_ret
        exact ⟨rfl, rfl⟩
      · have e : cost u (n : Int) = 64 := by unfold cost; rw [if_pos ⟨h0, h1⟩, if_neg (by rw [Int.toNat_natCast]; omega)]
        rw [e]
        clear e
        have hq := rquot u n hn
        generalize u / 2 ^ n = x at *
        have h3 : ¬ (x : Int) < 24 := by omega
        go_enter Try.func96, Try.ntmps96
        go_wp2_with fail
        refine (rparam _ _).mono ?_
        rintro e w' ⟨rfl, rfl⟩
        rw [decide_eq_true h0]
        go_wp2_with fail
        refine (rmay _ _).mono ?_
        rintro e w' ⟨rfl, rfl⟩
        rw [decide_eq_true h1]
        go_wp2_with fail
        refine (hq _).mono ?_
        rintro e w' ⟨rfl, rfl⟩
        go_wp2_with fail
        go_ret
        exact ⟨rfl, rfl⟩
    · have e : cost u (n : Int) = 0 := cost_no fun h => h1 h.2
      rw [e]
      clear e
      go_enter Try.func96, Try.ntmps96
      go_wp2_with fail
      refine (rparam _ _).mono ?_
      rintro e w' ⟨rfl, rfl⟩
      rw [decide_eq_true h0]
      go_wp2_with fail
      refine (rmay _ _).mono ?_
      rintro e w' ⟨rfl, rfl⟩
      rw [decide_eq_false h1]
      go_wp2_with fail
      go_ret
      exact ⟨rfl, rfl⟩
  · have e : cost u k = 0 := cost_no fun h => h0 h.1
    rw [e]
    clear e
    go_enter Try.func96, Try.ntmps96
    go_wp2_with fail
    refine (rparam _ _).mono ?_
    rintro e w' ⟨rfl, rfl⟩
    rw [decide_eq_false h0]
    go_wp2_with fail
    go_ret
    exact ⟨rfl, rfl⟩
end Go.Proofs.Ytjimamjhakainaa.Rice
