/- PcmApart, walked: true, whatever the two sounds are. Conditions: both lie in memory as their lists. -/
import Derived.Test.YtkdpalmdcnpnoaaAr
namespace Go.Proofs.Ytkdpalmdcnpnoaa.Pcm
open Go.RowKit Gen

set_option maxRecDepth 20000 in
theorem dist_nn (x y : Int) : 0 ≤ dist x y := by unfold dist; split <;> omega
set_option maxRecDepth 20000 in
theorem dist_zero {x y : Int} : dist x y = 0 ↔ x = y := by unfold dist; split <;> omega
set_option maxRecDepth 20000 in
theorem far_nn (U V : Nat → Int) : ∀ k, 0 ≤ far U V k
  | 0 => Int.le_refl _
  | k + 1 => by
    have ih := far_nn U V k
    have hd := dist_nn (U k) (V k)
    show 0 ≤ (if far U V k < dist (U k) (V k) then dist (U k) (V k) else far U V k)
    split <;> assumption
set_option maxRecDepth 20000 in
theorem far_zero (U V : Nat → Int) : ∀ k, (far U V k = 0 ↔ ∀ j, j < k → U j = V j)
  | 0 => ⟨fun _ j hj => absurd hj (Nat.not_lt_zero j), fun _ => rfl⟩
  | k + 1 => by
    have ih := far_zero U V k
    have hn := far_nn U V k
    have hd := dist_nn (U k) (V k)
    have hz := @dist_zero (U k) (V k)
    have hs : far U V (k + 1) = if far U V k < dist (U k) (V k) then dist (U k) (V k) else far U V k := rfl
    rw [hs]
    constructor
    · intro h j hj
      have h0 : far U V k = 0 ∧ dist (U k) (V k) = 0 := by split at h <;> omega
      by_cases e : j = k
      · rw [e]; exact hz.1 h0.2
      · exact ih.1 h0.1 j (by omega)
    · intro h
      have h1 := ih.2 fun j hj => h j (by omega)
      have h2 := hz.2 (h k (by omega))
      rw [h1, h2]; rfl

/-- Is no distance of the first above 0? -/
def zer (a b : Dat) : Nat → Bool
  | 0 => true
  | k + 1 => zer a b k && (apf a b k == 0)
set_option maxRecDepth 20000 in
theorem zer_iff (a b : Dat) : ∀ n, (zer a b n = true ↔ ∀ c, c < n → apf a b c = 0)
  | 0 => ⟨fun _ j hj => absurd hj (Nat.not_lt_zero j), fun _ => rfl⟩
  | k + 1 => by
    show (zer a b k && (apf a b k == 0)) = true ↔ _
    rw [Bool.and_eq_true, zer_iff a b k, beq_iff_eq]
    constructor
    · rintro ⟨h, h2⟩ c hc
      by_cases e : c = k
      · rw [e]; exact h2
      · exact h c (by omega)
    · intro h
      exact ⟨fun c hc => h c (by omega), h k (by omega)⟩
set_option maxRecDepth 20000 in
theorem eqS_iff {a b : Dat} : eqS a b = true ↔ a.n = b.n ∧ ∀ i, i < a.n → eqL a b i = true := by
  by_cases hn : a.n = b.n
  · by_cases h : ∀ i, i < a.n → eqL a b i = true
    · rw [eqS_all hn h]; exact ⟨fun _ => ⟨hn, h⟩, fun _ => rfl⟩
    · obtain ⟨i, hi⟩ := Classical.not_forall.1 h
      obtain ⟨hi, hq⟩ := Classical.not_imp.1 hi
      rw [eqS_not hi (by cases hx : eqL a b i with | false => rfl | true => exact absurd hx hq)]
      exact ⟨fun h => (by cases h), fun h' => absurd h'.2 h⟩
  · rw [eqS_len hn]; exact ⟨fun h => (by cases h), fun h => absurd h.1 hn⟩
set_option maxRecDepth 20000 in
theorem apc_ok {a b : Dat} (h : apc a b = 0) : both a b = 0 ∧ a.cnt = b.cnt := by
  unfold apc at h
  by_cases h1 : both a b = 0
  · rw [if_neg (fun x => x h1)] at h
    by_cases h2 : a.cnt = b.cnt
    · exact ⟨h1, h2⟩
    · rw [if_pos h2] at h; cases h
  · rw [if_pos h1] at h; exact absurd h h1
set_option maxRecDepth 20000 in
theorem zer_same {a b : Dat} (h : apc a b = 0) : zer a b a.n = same a b := by
  obtain ⟨h1, h2⟩ := apc_ok h
  obtain ⟨ok1, ok2, hf⟩ := both_ok h1
  have o1 := chk_ok ok1
  have o2 := chk_ok ok2
  have hn : a.n = b.n := by have e1 := o1.2.1; have e2 := o2.2.1; rw [hf] at e1; omega
  rw [same_yes hf]
  have key : zer a b a.n = true ↔ eqS a b = true := by
    rw [zer_iff, eqS_iff]
    constructor
    · intro hz
      refine ⟨hn, fun i hi => eqI_iff.2 ⟨?_, fun j hj => ?_⟩⟩
      · rw [o1.2.2.2.2.2.1 i hi, o2.2.2.2.2.2.1 i (by omega), h2]
      · exact (far_zero _ _ _).1 (hz i hi) j (by rw [← o1.2.2.2.2.2.1 i hi]; exact hj)
    · rintro ⟨_, hq⟩ c hc
      exact (far_zero _ _ _).2 fun j hj => (eqI_iff.1 (hq c hc)).2 j (by rw [o1.2.2.2.2.2.1 c hc]; exact hj)
  cases hx : zer a b a.n with
  | true => rw [hx] at key; exact (key.1 rfl).symm
  | false => cases hy : eqS a b with
    | false => rfl
    | true => rw [hx, hy] at key; exact absurd (key.2 rfl) (by decide)
set_option maxRecDepth 20000 in
theorem same_self (a : Dat) : same a a = true := by rw [same_yes rfl]; exact eqS_all rfl fun i hi => eqI_all fun _ _ => rfl

end Go.Proofs.Ytkdpalmdcnpnoaa.Pcm
