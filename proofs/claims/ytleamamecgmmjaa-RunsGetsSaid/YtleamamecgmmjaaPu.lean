/- Plain facts: a code among bits is read as its number, and what is read is a code among bits; what many codes are read as. No program in it; no condition but those that each lemma names. -/
import Derived.Test.YtleamamecgmmjaaGa
import Derived.Test.YtleamamecgmmjaaPa
import Derived.Test.YtleamamecgmmjaaTr
namespace Go.Proofs.Ytleamamecgmmjaa.Rice
open Go.RowKit Bit

/-- A piece of a piece. -/
theorem seg_sub (M T p c a b : Nat) (h : a + b ≤ c) (hT : p + c ≤ T) : seg M T (p + a) b = seg M T p c / 2 ^ (c - a - b) % 2 ^ b := by
  unfold seg
  have e1 : 2 ^ c = 2 ^ (c - a - b) * 2 ^ (a + b) := by rw [← Nat.pow_add]; congr 1; omega
  have e2 : T - (p + a) - b = (T - p - c) + (c - a - b) := by omega
  rw [e1, Nat.mod_mul_right_div_self, e2, Nat.pow_add, ← Nat.div_div_eq_div_mul]
  have e3 : (2 : Nat) ^ b ∣ 2 ^ (a + b) := Nat.pow_dvd_pow 2 (by omega)
  rw [Nat.mod_mod_of_dvd _ e3]
theorem ones_div (q m : Nat) (h : m ≤ q) : (2 ^ q - 1) / 2 ^ m = 2 ^ (q - m) - 1 := by
  have e : 2 ^ q = 2 ^ (q - m) * 2 ^ m := by rw [← Nat.pow_add]; congr 1; omega
  have h1 := Nat.two_pow_pos m
  have h2 := Nat.two_pow_pos (q - m)
  rw [e]
  generalize 2 ^ m = x at *
  obtain ⟨y, hy⟩ : ∃ y, 2 ^ (q - m) = y + 1 := ⟨2 ^ (q - m) - 1, by omega⟩
  rw [hy, Nat.add_sub_cancel, Nat.add_mul, Nat.one_mul]
  have e2 : y * x + x - 1 = x * y + (x - 1) := by rw [Nat.mul_comm]; omega
  rw [e2, Nat.mul_add_div h1, Nat.div_eq_of_lt (by omega), Nat.add_zero]
theorem ones_odd (n : Nat) : (2 ^ (n + 1) - 1) % 2 = 1 := by
  have := Nat.two_pow_pos n
  rw [Nat.pow_succ]; omega
theorem ones_seg (M T p : Nat) : ∀ m, p + m ≤ T → (∀ i, i < m → seg M T (p + i) 1 = 1) → seg M T p m = 2 ^ m - 1
  | 0, _, _ => seg_zero _ _ _
  | m + 1, h, ho => by
    have h1 := ones_seg M T p m (by omega) fun i hi => ho i (by omega)
    have h2 := seg_app M T p m 1 (by omega)
    rw [h1, ho m (by omega)] at h2
    have := Nat.two_pow_pos m
    rw [← h2, Nat.pow_succ]; omega

theorem low_ones (q k r i : Nat) (hr : r < 2 ^ k) (hi : i < q) : ((2 ^ q - 1) * 2 ^ (k + 1) + r) / 2 ^ (q + 1 + k - i - 1) % 2 ^ 1 = 1 := by
  have e : q + 1 + k - i - 1 = (k + 1) + (q - 1 - i) := by omega
  have hr2 : r < 2 ^ (k + 1) := Nat.lt_of_lt_of_le hr (Nat.pow_le_pow_right (by decide) (by omega))
  rw [e, Nat.pow_add 2 (k + 1) (q - 1 - i), ← Nat.div_div_eq_div_mul, Nat.mul_comm (2 ^ q - 1), Nat.mul_add_div (Nat.two_pow_pos _), Nat.div_eq_of_lt hr2, Nat.add_zero, ones_div q _ (by omega), show q - (q - 1 - i) = i + 1 from by omega]
  exact ones_odd i
theorem low_nought (q k r : Nat) (hr : r < 2 ^ k) : ((2 ^ q - 1) * 2 ^ (k + 1) + r) / 2 ^ (q + 1 + k - q - 1) % 2 ^ 1 = 0 := by
  have e : q + 1 + k - q - 1 = k := by omega
  rw [e, Nat.pow_succ, ← Nat.mul_assoc, Nat.mul_right_comm, Nat.mul_comm _ (2 ^ k), Nat.mul_add_div (Nat.two_pow_pos _), Nat.div_eq_of_lt hr, Nat.add_zero]
  exact Nat.mul_mod_left _ _
theorem low_rest (q k r : Nat) (hr : r < 2 ^ k) : ((2 ^ q - 1) * 2 ^ (k + 1) + r) / 2 ^ (q + 1 + k - (q + 1) - k) % 2 ^ k = r := by
  have e : q + 1 + k - (q + 1) - k = 0 := by omega
  rw [e, Nat.pow_zero, Nat.div_one, Nat.pow_succ, ← Nat.mul_assoc, Nat.mul_right_comm, Nat.mul_comm _ (2 ^ k), Nat.mul_add_mod, Nat.mod_eq_of_lt hr]
theorem high_ones (u i : Nat) (hu : u < 2 ^ 40) (hi : i < 24) : ((2 ^ 24 - 1) * 2 ^ 40 + u) / 2 ^ (64 - i - 1) % 2 ^ 1 = 1 := by
  have e : 64 - i - 1 = 40 + (24 - 1 - i) := by omega
  rw [e, Nat.pow_add, ← Nat.div_div_eq_div_mul, Nat.mul_comm, Nat.mul_add_div (Nat.two_pow_pos _), Nat.div_eq_of_lt hu, Nat.add_zero, ones_div 24 _ (by omega), show 24 - (24 - 1 - i) = i + 1 from by omega]
  exact ones_odd i

/-- A code among bits is read as its number. -/
theorem get_of_code {M T p k u : Nat} (hk : k ≤ 30) (hu : coded u) (hT : p + cost u (k : Int) ≤ 8 * T) (hs : seg M (8 * T) p (cost u (k : Int)) = cod u k) : GetR M T p k (u, 0, p + cost u (k : Int)) := by
  by_cases h : u / 2 ^ k < 24
  · have hr : u % 2 ^ k < 2 ^ k := Nat.mod_lt _ (Nat.two_pow_pos k)
    have hdm := Nat.div_add_mod u (2 ^ k)
    rw [cost_low hk hu h] at hT hs ⊢
    rw [show cod u k = (2 ^ (u / 2 ^ k) - 1) * 2 ^ (k + 1) + u % 2 ^ k from if_pos h] at hs
    generalize u / 2 ^ k = q at *
    generalize u % 2 ^ k = r at *
    refine ⟨((q : Int), 0, p + q + 1), .inr (.inl ⟨q, by omega, by omega, fun i hi => ?_, ?_, rfl⟩), ?_⟩
    · rw [seg_sub M (8 * T) p (q + 1 + k) i 1 (by omega) (by omega), hs]; exact low_ones q k r i hr hi
    · rw [seg_sub M (8 * T) p (q + 1 + k) q 1 (by omega) (by omega), hs]; exact low_nought q k r hr
    · unfold getF
      rw [if_neg (show ¬ (0 : Int) ≠ 0 from fun h => h rfl), if_neg (show ¬ (q : Int) = 24 by omega), if_neg (show ¬ 8 * T < p + q + 1 + k by omega), Int.toNat_natCast]
      have e := seg_sub M (8 * T) p (q + 1 + k) (q + 1) k (by omega) (by omega)
      rw [hs, low_rest q k r hr] at e
      show (u, (0 : Int), p + (q + 1 + k)) = (q * 2 ^ k + seg M (8 * T) (p + q + 1) k, 0, p + q + 1 + k)
      rw [show p + q + 1 = p + (q + 1) from by omega, e, ← hdm, Nat.mul_comm]
      congr 2
      omega
  · rw [cost_high hk hu h] at hT hs ⊢
    rw [show cod u k = (2 ^ 24 - 1) * 2 ^ 40 + u from if_neg h] at hs
    have hu2 : u < 2 ^ 40 := hu
    refine ⟨(((24 : Nat) : Int), 0, p + 24), .inl ⟨24, rfl, by omega, fun i hi => ?_, rfl⟩, ?_⟩
    · rw [seg_sub M (8 * T) p 64 i 1 (by omega) (by omega), hs]; exact high_ones u i hu2 hi
    · have e := seg_sub M (8 * T) p 64 24 40 (by omega) (by omega)
      rw [hs, show 64 - 24 - 40 = 0 from rfl, Nat.pow_zero, Nat.div_one, Nat.mul_comm (2 ^ 24 - 1), Nat.mul_add_mod, Nat.mod_eq_of_lt hu2] at e
      show (u, (0 : Int), p + 64) = getW M T (p + 24) k
      unfold getW
      rw [if_neg (by omega), e, if_neg h]

/-- What is read is a code among bits. -/
theorem code_of_get {M T p k u c : Nat} (hk : k ≤ 30) (h : GetR M T p k (u, 0, c)) : coded u ∧ c = p + cost u (k : Int) ∧ c ≤ 8 * T ∧ seg M (8 * T) p (cost u (k : Int)) = cod u k := by
  have hu := (h.coded hk).1
  obtain ⟨r, hr, hx⟩ := h
  rcases hr with ⟨m, h1, h2, h3, rfl⟩ | ⟨q, h1, h2, h3, h4, rfl⟩ | ⟨q, h1, h2, h3, rfl⟩ | ⟨h1, rfl⟩
  · obtain rfl : m = 24 := by omega
    have hx' : (u, (0 : Int), c) = getW M T (p + 24) k := hx
    unfold getW at hx'
    split at hx'
    · simp at hx'
    · split at hx'
      · simp at hx'
      · rename_i g1 g2
        simp only [Prod.mk.injEq, true_and] at hx'
        obtain ⟨e1, e2⟩ := hx'
        rw [← e1] at g2
        have hs := ones_seg M (8 * T) p 24 (by omega) h3
        have ha := seg_app M (8 * T) p 24 40 (by omega)
        rw [hs, ← e1] at ha
        rw [cost_high hk hu g2, show cod u k = (2 ^ 24 - 1) * 2 ^ 40 + u from if_neg g2]
        exact ⟨hu, by omega, by omega, ha.symm⟩
  · have hq : q < 24 := by omega
    unfold getF at hx
    rw [if_neg (show ¬ (0 : Int) ≠ 0 from fun h => h rfl), if_neg (show ¬ (q : Int) = 24 by omega), Int.toNat_natCast] at hx
    split at hx
    · simp at hx
    · rename_i g1
      simp only [Prod.mk.injEq, true_and] at hx
      obtain ⟨e1, e2⟩ := hx
      have hv := seg_lt M (8 * T) (p + q + 1) k
      have g1' : p + q + 1 + k ≤ 8 * T := by have : ¬ 8 * T < p + q + 1 + k := g1; omega
      have hs := ones_seg M (8 * T) p q (by omega) h3
      have ha := seg_app M (8 * T) p q 1 (by omega)
      have hb := seg_app M (8 * T) p (q + 1) k (by omega)
      rw [hs, h4] at ha
      rw [← ha, show p + (q + 1) = p + q + 1 from by omega] at hb
      have e1' : u = q * 2 ^ k + seg M (8 * T) (p + q + 1) k := e1
      have e2' : c = p + q + 1 + k := e2
      generalize seg M (8 * T) (p + q + 1) k = v at *
      have d1 : u / 2 ^ k = q := by rw [e1', Nat.mul_comm, Nat.mul_add_div (Nat.two_pow_pos k), Nat.div_eq_of_lt hv, Nat.add_zero]
      have d2 : u % 2 ^ k = v := by rw [e1', Nat.mul_comm, Nat.mul_add_mod, Nat.mod_eq_of_lt hv]
      have hlt : u / 2 ^ k < 24 := by rw [d1]; exact hq
      rw [cost_low hk hu hlt, show cod u k = (2 ^ (u / 2 ^ k) - 1) * 2 ^ (k + 1) + u % 2 ^ k from if_pos hlt, d1, d2]
      refine ⟨hu, by omega, by omega, ?_⟩
      exact hb.symm.trans (join_code _ _ _).symm
  · simp [getF] at hx
  · omega
theorem GetR.zero {M T p k : Nat} {x : Nat × Int × Nat} (h : GetR M T p k x) (hx : x.2.1 ≠ 0) : x.1 = 0 := by
  obtain ⟨r, hr, rfl⟩ := h
  revert hx
  unfold getF getW
  repeat' split
  all_goals simp

theorem seg_pad (N L p c : Nat) (h : p + c ≤ L) : seg (pad N L) (8 * ((L + 7) / 8)) p c = seg N L p c := by
  unfold seg pad
  have e : 8 * ((L + 7) / 8) - p - c = (8 * ((L + 7) / 8) - L) + (L - p - c) := by omega
  rw [e, Nat.pow_add, ← Nat.div_div_eq_div_mul, Nat.mul_div_cancel _ (Nat.two_pow_pos _)]

theorem cods_pre (U : Nat → Nat) (k : Nat) (hk : k ≤ 30) : ∀ n j, j ≤ n → allC U n → (cods U k 0 0 n).1 / 2 ^ ((cods U k 0 0 n).2 - (cods U k 0 0 j).2) = (cods U k 0 0 j).1 ∧ (cods U k 0 0 j).2 ≤ (cods U k 0 0 n).2
  | 0, j, h, _ => by
    obtain rfl : j = 0 := by omega
    exact ⟨by simp, Nat.le_refl _⟩
  | n + 1, j, h, hc => by
    by_cases e : j = n + 1
    · subst e; exact ⟨by rw [Nat.sub_self, Nat.pow_zero, Nat.div_one], Nat.le_refl _⟩
    · obtain ⟨h1, h2⟩ := cods_pre U k hk n j (by omega) fun i hi => hc i (by omega)
      have hl := cod_lt hk (hc n (by omega))
      show ((cods U k 0 0 n).1 * 2 ^ cost (U n) k + cod (U n) k) / 2 ^ ((cods U k 0 0 n).2 + cost (U n) k - (cods U k 0 0 j).2) = _ ∧ _ ≤ (cods U k 0 0 n).2 + cost (U n) k
      refine ⟨?_, by omega⟩
      rw [show (cods U k 0 0 n).2 + cost (U n) k - (cods U k 0 0 j).2 = cost (U n) k + ((cods U k 0 0 n).2 - (cods U k 0 0 j).2) from by omega, Nat.pow_add, ← Nat.div_div_eq_div_mul, Nat.mul_comm, Nat.mul_add_div (Nat.two_pow_pos _), Nat.div_eq_of_lt hl, Nat.add_zero, h1]
/-- The first numbers of a list. -/
def upto (U : Nat → Nat) (j : Nat) : List Nat := (List.range j).map U
theorem upto_succ (U : Nat → Nat) (j : Nat) : upto U (j + 1) = upto U j ++ [U j] := by unfold upto; rw [List.range_succ, List.map_append]; rfl
theorem upto_len (U : Nat → Nat) (j : Nat) : (upto U j).length = j := by simp [upto]
theorem run_of_cods (U : Nat → Nat) (k n : Nat) (hk : k ≤ 30) (hc : allC U n) : ∀ j, j ≤ n → Run (pad (cods U k 0 0 n).1 (cods U k 0 0 n).2) (((cods U k 0 0 n).2 + 7) / 8) k 0 j (upto U j) (cods U k 0 0 j).2
  | 0, _ => ⟨rfl, rfl⟩
  | j + 1, h => by
    refine ⟨upto U j, (cods U k 0 0 j).2, U j, run_of_cods U k n hk hc j (by omega), ?_, upto_succ U j⟩
    obtain ⟨h1, h2⟩ := cods_pre U k hk n (j + 1) h hc
    have hl := cod_lt hk (hc j (by omega))
    have e2 : (cods U k 0 0 (j + 1)).2 = (cods U k 0 0 j).2 + cost (U j) k := rfl
    have e1 : (cods U k 0 0 (j + 1)).1 = (cods U k 0 0 j).1 * 2 ^ cost (U j) k + cod (U j) k := rfl
    rw [e2] at h1 h2 ⊢
    refine get_of_code hk (hc j (by omega)) (by omega) ?_
    rw [seg_pad _ _ _ _ (by omega)]
    unfold seg
    rw [show (cods U k 0 0 n).2 - (cods U k 0 0 j).2 - cost (U j) k = (cods U k 0 0 n).2 - ((cods U k 0 0 j).2 + cost (U j) k) from by omega, h1, e1, Nat.mul_comm, Nat.mul_add_mod, Nat.mod_eq_of_lt hl]
end Go.Proofs.Ytleamamecgmmjaa.Rice
