/- The document's Span, Short, Code, Get of even; EvenOnes' walk. Conditions: those of the memory's own form alone. -/
import Derived.Test.YtfpmdfbggifjiaaEd
import Derived.Test.YtfpmdfbggifjiaaCd
namespace Go.Proofs.Ytfpmdfbggifjiaa.Even
open Go.RowKit Bit Rice

theorem rspan (n : Nat) (w : World) : Calls Try.prog 11 #[.int .u64 (n : Int)] w fun e w' => e = .returned (.bool (decide (spn n))) ∧ w = w' := by
  by_cases h0 : 0 < n
  · have g0 : (1 : Int) ≤ (n : Int) := by omega
    by_cases h1 : n ≤ 1099511627776
    · rw [decide_eq_true (show spn n from ⟨h0, h1⟩)]
      go_enter Try.func11, Try.ntmps11
      go_wp2
      go_ret
      exact ⟨by simp; omega, rfl⟩
    · rw [decide_eq_false (fun h : spn n => h1 h.2)]
      go_enter Try.func11, Try.ntmps11
      go_wp2
      go_ret
      exact ⟨by simp; omega, rfl⟩
  · have g0 : ¬ (1 : Int) ≤ (n : Int) := by omega
    rw [decide_eq_false (fun h : spn n => h0 h.1)]
    go_enter Try.func11, Try.ntmps11
    go_wp2
    go_ret
    exact ⟨by simp, rfl⟩

theorem power_x (ki : Int) (k y : Nat) (hki : ki = k) (hk : k ≤ 40) (hy : 2 ^ k = y) (w : World) : Calls Try.prog 51 #[.int .i64 ki] w fun e w' => e = .returned (.int .i64 (y : Int)) ∧ w = w' := by
  subst hki
  have HY := hid hy
  clear hy
  go_enter Try.func51, Try.ntmps51
  go_wp2_with fail
  go_loopg [3, 4] k (fun g x i wr => ∃ j : Nat, j ≤ k ∧ g = k - j ∧ x = .int .i64 ((2 ^ j : Nat) : Int) ∧ i = .int .i64 j ∧ w = wr)
  case atStart => exact ⟨0, Nat.zero_le _, rfl, rfl, rfl, rfl⟩
  case round =>
    obtain ⟨j, hj, hg, rfl, rfl, rfl⟩ := hrel
    have HG := hid hg
    clear hg
    have hp : 2 ^ j ≤ 2 ^ 40 := Nat.pow_le_pow_right (by decide) (by omega)
    have HN : Hid (2 ^ (j + 1) = 2 ^ j * 2) := hid (Nat.pow_succ _ _)
    generalize hxx : 2 ^ j = x at *
    have HXX := hid hxx
    clear hxx
    by_cases hlt : j < k
    · have g1 : (j : Int) < (k : Int) := by omega
      have g2 : (j : Int) < 62 := by omega
      have g3 : (x : Int) ≤ 1099511627776 := by omega
      go_wp2_with fail
      go_roundg (k - (j + 1))
      case measure => rw [HG.out]; omega
      case rel => exact ⟨j + 1, by omega, rfl, congrArg (Value.int .i64) (by rw [HN.out]; omega), by go_num, rfl⟩
    · have g1 : ¬ (j : Int) < (k : Int) := by omega
      obtain rfl : j = k := by omega
      go_wp2_with fail
      go_ret
      exact ⟨congrArg (fun z : Nat => Ending.returned (.int .i64 (z : Int))) (HXX.out.symm.trans HY.out), rfl⟩

theorem rshort (n : Nat) (h : spn n) (w : World) : Calls Try.prog 42 #[.int .u64 (n : Int)] w fun e w' => e = .returned (.int .u64 (sh n : Int)) ∧ w = w' := by
  have hw := fun xi hxi w => rwidthI xi (n - 1) hxi (by unfold spn at h; omega) w
  have h0 : 0 < n := h.1
  have h4 : n ≤ 1099511627776 := h.2
  have hle := n_le h
  have hll := lg_le h
  change ∀ xi, xi = ((n - 1 : Nat) : Int) → ∀ w, Calls Try.prog 41 #[.int .u64 xi] w fun e w' => e = .returned (.int .i64 (lg n : Int)) ∧ w = w' at hw
  have HW := hid hw
  have HP := hid (power_x (lg n : Int) (lg n) (2 ^ lg n) rfl hll rfl)
  have hpb : 2 ^ lg n ≤ 2 ^ 40 := Nat.pow_le_pow_right (by decide) hll
  have HS : Hid (sh n = 2 ^ lg n - n) := hid rfl
  clear hw
  generalize 2 ^ lg n = y at *
  generalize lg n = L at *
  generalize sh n = s at *
  go_enter Try.func42, Try.ntmps42
  go_wp2_with fail
  refine (HW.out _ (by omega) _).mono ?_
  rintro e w1 ⟨rfl, rfl⟩
  go_wp2_with fail
  refine (HP.out _).mono ?_
  rintro e w1 ⟨rfl, rfl⟩
  go_wp2_with fail
  go_ret
  exact ⟨congrArg (fun z : Int => Ending.returned (.int .u64 z)) (by have := HS.out; omega), rfl⟩

/-- A list of bits that is a code. -/
def CodeP (w : World) (N L : Nat) (e : Ending) (w' : World) : Prop := ∃ lo lcap, e = .returned (.slice lo L lcap) ∧ (lo = none → L = 0 ∧ lcap = 0) ∧ (∀ ad, lo = some ad → ∀ j u, (bitl N L)[j]? = some u → w'.cell? (ad.add j) = some u) ∧ Below w.heap.size w w'
theorem CodeP.none (w : World) : CodeP w 0 0 (.returned (.slice none 0 0)) w := ⟨_, _, rfl, fun _ => ⟨rfl, rfl⟩, fun ad h => by simp at h, Below.refl _ _⟩
theorem bits_x (ui ki : Int) (u k : Nat) (hui : ui = u) (hki : ki = k) (hk : k ≤ 64) (h64 : u < 18446744073709551616) (w : World) :
    Calls Try.prog 43 #[.int .u64 ui, .int .i64 ki] w (CodeP w u k) := by
  subst hui hki
  refine (bits_any u k w hk h64).mono ?_
  rintro e w5 ⟨rfl, hb5, hrow⟩
  refine ⟨some ⟨w.heap.size, 0, none⟩, k, rfl, fun h => by simp at h, fun ad had i u' hj => ?_, hb5⟩
  cases had
  have hjm : i < k := by have := (List.getElem?_eq_some_iff.1 hj).1; simpa [bitl] using this
  rw [Addr.add_lit, Nat.zero_add, hrow.cell hjm, ← bitl_at u k i hjm]; exact hj

theorem rcode_any (v n : Nat) (hv : v < 18446744073709551616) (w : World) : Calls Try.prog 22 #[.int .u64 (v : Int), .int .u64 (n : Int)] w (CodeP w (cd v n) (ct v n)) := by
  by_cases hn : spn n
  · have hn4 : n ≤ 1099511627776 := hn.2
    have h0 : 0 < n := hn.1
    by_cases hvn : v < n
    · have g1 : ¬ (n : Int) ≤ (v : Int) := by omega
      have ho : okv v n := ⟨hn, hvn⟩
      by_cases h1 : n = 1
      · subst h1
        obtain rfl : v = 0 := by omega
        rw [show cd 0 1 = 0 from by decide, show ct 0 1 = 0 from by decide]
        have hfin := CodeP.none w
        go_enter Try.func22, Try.ntmps22
        go_wp2_with fail
        refine (rspan 1 w).mono ?_
        rintro e w1 ⟨rfl, rfl⟩
        rw [decide_eq_true hn]
        go_wp2_with fail
        go_ret
        exact hfin
      · have hg1 : ((n : Int) == 1) = false := beq_eq_false_iff_ne.2 (by omega)
        have hw := fun xi hxi w => rwidthI xi (n - 1) hxi (by omega) w
        change ∀ xi, xi = ((n - 1 : Nat) : Int) → ∀ w, Calls Try.prog 41 #[.int .u64 xi] w fun e w' => e = .returned (.int .i64 (lg n : Int)) ∧ w = w' at hw
        have HW := hid hw
        have HRS := hid (rshort n hn)
        have HSP := hid (rspan n)
        have hlp := (lg_pos hn h1).1
        have hll := lg_le hn
        have hsl := (sh_lt hn h1).1
        have HS1 : Hid (v < sh n → ct v n = lg n - 1 ∧ cd v n = v) := hid (ct_short hn)
        have HS2 : Hid (¬ v < sh n → ct v n = lg n ∧ cd v n = v + sh n) := hid (ct_long ho)
        have hdt := decide_eq_true hn
        clear hw
        generalize lg n = L at *
        generalize sh n = s at *
        generalize ct v n = c at *
        generalize cd v n = d at *
        by_cases h2 : v < s
        · have g2 : (v : Int) < (s : Int) := by omega
          obtain ⟨rfl, rfl⟩ := HS1.out h2
          go_enter Try.func22, Try.ntmps22
          go_wp2_with fail
          refine (HSP.out w).mono ?_
          rintro e w1 ⟨rfl, rfl⟩
          rw [hdt]
          go_wp2_with fail
          refine (HW.out _ (by omega) _).mono ?_
          rintro e w1 ⟨rfl, rfl⟩
          go_wp2_with fail
          refine (HRS.out _).mono ?_
          rintro e w1 ⟨rfl, rfl⟩
          go_wp2_with fail
          refine (bits_x _ _ d (L - 1) rfl (by omega) (by omega) hv _).mono ?_
          rintro e w1 ⟨lo, lcap, rfl, hfin⟩
          have HF := hid hfin
          clear hfin
          go_wp2_with fail
          go_ret
          exact ⟨lo, lcap, rfl, HF.out⟩
        · have g2 : ¬ (v : Int) < (s : Int) := by omega
          obtain ⟨rfl, rfl⟩ := HS2.out h2
          go_enter Try.func22, Try.ntmps22
          go_wp2_with fail
          refine (HSP.out w).mono ?_
          rintro e w1 ⟨rfl, rfl⟩
          rw [hdt]
          go_wp2_with fail
          refine (HW.out _ (by omega) _).mono ?_
          rintro e w1 ⟨rfl, rfl⟩
          go_wp2_with fail
          refine (HRS.out _).mono ?_
          rintro e w1 ⟨rfl, rfl⟩
          go_wp2_with fail
          refine (HRS.out _).mono ?_
          rintro e w1 ⟨rfl, rfl⟩
          go_wp2_with fail
          refine (bits_x _ _ (v + s) c (by omega) rfl (by omega) (by omega) _).mono ?_
          rintro e w1 ⟨lo, lcap, rfl, hfin⟩
          have HF := hid hfin
          clear hfin
          go_wp2_with fail
          go_ret
          exact ⟨lo, lcap, rfl, HF.out⟩
    · have g1 : (n : Int) ≤ (v : Int) := by omega
      have ho : ¬ okv v n := fun h => hvn h.2
      rw [ct_no ho, cd_no ho]
      have hfin := CodeP.none w
      go_enter Try.func22, Try.ntmps22
      go_wp2_with fail
      refine (rspan n w).mono ?_
      rintro e w1 ⟨rfl, rfl⟩
      rw [decide_eq_true hn]
      go_wp2_with fail
      go_ret
      exact hfin
  · have ho : ¬ okv v n := fun h => hn h.1
    rw [ct_no ho, cd_no ho]
    have hfin := CodeP.none w
    go_enter Try.func22, Try.ntmps22
    go_wp2_with fail
    refine (rspan n w).mono ?_
    rintro e w1 ⟨rfl, rfl⟩
    rw [decide_eq_false hn]
    go_wp2_with fail
    go_ret
    exact hfin

/-- A code among bits is read as its number. -/
theorem get_of_code {M T p n v : Nat} (h : okv v n) (hT : p + ct v n ≤ 8 * T) (hs : seg M (8 * T) p (ct v n) = cd v n) : getE M T p n = (v, 0, p + ct v n) := by
  have hn := h.1
  have hv := h.2
  by_cases h1 : n = 1
  · subst h1
    obtain rfl : v = 0 := by omega
    rw [show ct 0 1 = 0 from by decide]; rfl
  · have hl := (lg_pos hn h1).1
    by_cases h2 : v < sh n
    · obtain ⟨e1, e2⟩ := ct_short hn h2
      rw [e1] at hT hs ⊢
      rw [e2] at hs
      unfold getE
      rw [if_neg h1, if_neg (by omega), hs, if_pos h2]
    · obtain ⟨e1, e2⟩ := ct_long h h2
      rw [e1] at hT hs ⊢
      rw [e2] at hs
      have ha := seg_app M (8 * T) p (lg n - 1) 1 (by omega)
      rw [show lg n - 1 + 1 = lg n from by omega, hs] at ha
      have hb := seg_lt M (8 * T) (p + (lg n - 1)) 1
      unfold getE
      generalize seg M (8 * T) p (lg n - 1) = x at *
      generalize seg M (8 * T) (p + (lg n - 1)) 1 = y at *
      rw [if_neg h1, if_neg (by omega), if_neg (by omega), if_neg (by omega)]
      simp only [Prod.mk.injEq, true_and]
      exact ⟨by omega, by omega⟩
/-- What is read is a code among bits. -/
theorem code_of_get {M T p n v c : Nat} (hn : spn n) (hp : p ≤ 8 * T) (h : getE M T p n = (v, 0, c)) : okv v n ∧ c = p + ct v n ∧ c ≤ 8 * T ∧ seg M (8 * T) p (ct v n) = cd v n := by
  unfold getE at h
  by_cases h1 : n = 1
  · rw [if_pos h1] at h
    simp only [Prod.mk.injEq, true_and] at h
    obtain ⟨rfl, rfl⟩ := h
    subst h1
    rw [show ct 0 1 = 0 from by decide, show cd 0 1 = 0 from by decide]
    exact ⟨by decide, rfl, hp, seg_zero _ _ _⟩
  · have hl := (lg_pos hn h1).1
    have hsa := sh_add hn
    have hsl := sh_lt hn h1
    rw [if_neg h1] at h
    split at h
    · simp at h
    · rename_i h2
      split at h
      · rename_i h3
        simp only [Prod.mk.injEq, true_and] at h
        obtain ⟨e1, e2⟩ := h
        rw [e1] at h3
        obtain ⟨d1, d2⟩ := ct_short hn h3
        rw [d1, d2]
        exact ⟨⟨hn, by omega⟩, by omega, by omega, e1⟩
      · rename_i h3
        split at h
        · simp at h
        · rename_i h4
          simp only [Prod.mk.injEq, true_and] at h
          obtain ⟨e1, e2⟩ := h
          have ha := seg_app M (8 * T) p (lg n - 1) 1 (by omega)
          rw [show lg n - 1 + 1 = lg n from by omega] at ha
          have hb := seg_lt M (8 * T) (p + (lg n - 1)) 1
          have hc := seg_lt M (8 * T) p (lg n)
          generalize seg M (8 * T) p (lg n - 1) = x at *
          generalize seg M (8 * T) (p + (lg n - 1)) 1 = y at *
          have ho : okv v n := ⟨hn, by omega⟩
          obtain ⟨d1, d2⟩ := ct_long ho (by omega)
          rw [d1, d2]
          exact ⟨ho, by omega, by omega, by omega⟩

theorem seg_pad (N L p c : Nat) (h : p + c ≤ L) : seg (pad N L) (8 * ((L + 7) / 8)) p c = seg N L p c := by
  unfold seg pad
  have e : 8 * ((L + 7) / 8) - p - c = (8 * ((L + 7) / 8) - L) + (L - p - c) := by omega
  rw [e, Nat.pow_add, ← Nat.div_div_eq_div_mul, Nat.mul_div_cancel _ (Nat.two_pow_pos _)]
theorem get_own {v n : Nat} (h : okv v n) : getE (pad (cd v n) (ct v n)) ((ct v n + 7) / 8) 0 n = (v, 0, ct v n) := by
  have := get_of_code (M := pad (cd v n) (ct v n)) (T := (ct v n + 7) / 8) (p := 0) h (by omega) (by
    rw [seg_pad _ _ _ _ (by omega)]
    unfold seg
    rw [show ct v n - 0 - ct v n = 0 from by omega, Nat.pow_zero, Nat.div_one, Nat.mod_eq_of_lt (cd_lt v n)])
  rwa [Nat.zero_add] at this
theorem ct_span (n : Nat) (h : spn n) : ct 0 n ≤ ct (n - 1) n ∧ ct (n - 1) n ≤ ct 0 n + 1 := by
  by_cases h1 : n = 1
  · subst h1; decide
  · have hl := lg_pos h h1
    have hs := sh_lt h h1
    have h0 := h.1
    have e1 := ct_long (v := n - 1) ⟨h, by omega⟩ (by omega)
    by_cases h2 : 0 < sh n
    · have e2 := ct_short h h2; omega
    · have e2 := ct_long (v := 0) ⟨h, h0⟩ h2; omega
end Go.Proofs.Ytfpmdfbggifjiaa.Even
