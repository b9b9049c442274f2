/- Letters of a text, one behind the other, as the model's own decoder tells them, and as the document's Letter does. No program in it; no condition but those that each lemma names. -/
import Derived.Test.YtfkklmklbmdlhaaDoorT2
import Derived.Lib.ValidLaws
import Derived.Lib.MapLaws
import Derived.Lib.TrimUEq
import Derived.Lib.RuneCount
import Derived.Laws.RangeAny
namespace Go.Proofs.YtfkklmklbmdlhaaDoor.Tg
open Go.Lib

/-- The letter of four bytes, of n that there are: how many it has, and which it is; nothing: none. -/
def lN (n b0 b1 b2 b3 : Nat) : Nat × Nat := if (decodeN n b0 b1 b2 b3).1 = 65533 ∧ (decodeN n b0 b1 b2 b3).2 = 1 then (0, 0) else ((decodeN n b0 b1 b2 b3).2, (decodeN n b0 b1 b2 b3).1)
theorem lN_one (n b0 b1 b2 b3 : Nat) (h : b0 < 128) : lN n b0 b1 b2 b3 = (1, b0) := by
  unfold lN decodeN
  rw [if_pos h, if_neg (by simp only []; omega)]
theorem lN_none (n b0 b1 b2 b3 : Nat) (h : (128 ≤ b0 ∧ b0 < 194) ∨ (245 ≤ b0 ∧ b0 < 256)) : lN n b0 b1 b2 b3 = (0, 0) := by
  unfold lN
  rw [decodeN_bad n b0 b1 b2 b3 h]
  rfl
set_option maxHeartbeats 2000000 in
set_option maxRecDepth 100000 in
theorem lN_two (n b0 b1 b2 b3 : Nat) (h1 : 194 ≤ b0) (h2 : b0 < 224) : lN n b0 b1 b2 b3 = if 1 < n ∧ 128 ≤ b1 ∧ b1 ≤ 191 then (2, 64 * (b0 - 192) + (b1 - 128)) else (0, 0) := by
  have key : decodeN n b0 b1 b2 b3 = if 1 < n ∧ 128 ≤ b1 ∧ b1 ≤ 191 then (64 * (b0 - 192) + (b1 - 128), 2) else (65533, 1) := by
    unfold decodeN
    repeat' split
    all_goals first | rfl | (exfalso; omega) | (refine Prod.ext ?_ rfl; simp only []; omega)
  unfold lN
  rw [key]
  split
  · rw [if_neg (by simp only []; omega)]
  · rw [if_pos ⟨rfl, rfl⟩]
set_option maxHeartbeats 4000000 in
set_option maxRecDepth 100000 in
theorem lN_three (n b0 b1 b2 b3 : Nat) (h1 : 224 ≤ b0) (h2 : b0 < 240) : lN n b0 b1 b2 b3 = if (1 < n ∧ 128 ≤ b1 ∧ b1 ≤ 191) ∧ (2 < n ∧ 128 ≤ b2 ∧ b2 ≤ 191) then
    (if 64 * (64 * (b0 - 224) + (b1 - 128)) + (b2 - 128) < 2048 ∨ 1114111 < 64 * (64 * (b0 - 224) + (b1 - 128)) + (b2 - 128) ∨ (55296 ≤ 64 * (64 * (b0 - 224) + (b1 - 128)) + (b2 - 128) ∧ 64 * (64 * (b0 - 224) + (b1 - 128)) + (b2 - 128) ≤ 57343) then (0, 0)
      else (3, 64 * (64 * (b0 - 224) + (b1 - 128)) + (b2 - 128))) else (0, 0) := by
  have key : decodeN n b0 b1 b2 b3 = if (1 < n ∧ 128 ≤ b1 ∧ b1 ≤ 191) ∧ (2 < n ∧ 128 ≤ b2 ∧ b2 ≤ 191) then
    (if 64 * (64 * (b0 - 224) + (b1 - 128)) + (b2 - 128) < 2048 ∨ 1114111 < 64 * (64 * (b0 - 224) + (b1 - 128)) + (b2 - 128) ∨ (55296 ≤ 64 * (64 * (b0 - 224) + (b1 - 128)) + (b2 - 128) ∧ 64 * (64 * (b0 - 224) + (b1 - 128)) + (b2 - 128) ≤ 57343) then (65533, 1)
      else (64 * (64 * (b0 - 224) + (b1 - 128)) + (b2 - 128), 3)) else (65533, 1) := by
    unfold decodeN
    repeat' split
    all_goals first | rfl | (exfalso; omega) | (refine Prod.ext ?_ rfl; simp only []; omega)
  unfold lN
  rw [key]
  split
  · split
    · rw [if_pos ⟨rfl, rfl⟩]
    · rw [if_neg (by simp only []; omega)]
  · rw [if_pos ⟨rfl, rfl⟩]
set_option maxHeartbeats 4000000 in
set_option maxRecDepth 100000 in
theorem lN_four (n b0 b1 b2 b3 : Nat) (h1 : 240 ≤ b0) (h2 : b0 < 245) : lN n b0 b1 b2 b3 = if (1 < n ∧ 128 ≤ b1 ∧ b1 ≤ 191) ∧ (2 < n ∧ 128 ≤ b2 ∧ b2 ≤ 191) ∧ (3 < n ∧ 128 ≤ b3 ∧ b3 ≤ 191) then
    (if 64 * (64 * (64 * (b0 - 240) + (b1 - 128)) + (b2 - 128)) + (b3 - 128) < 65536 ∨ 1114111 < 64 * (64 * (64 * (b0 - 240) + (b1 - 128)) + (b2 - 128)) + (b3 - 128) ∨ (55296 ≤ 64 * (64 * (64 * (b0 - 240) + (b1 - 128)) + (b2 - 128)) + (b3 - 128) ∧ 64 * (64 * (64 * (b0 - 240) + (b1 - 128)) + (b2 - 128)) + (b3 - 128) ≤ 57343) then (0, 0)
      else (4, 64 * (64 * (64 * (b0 - 240) + (b1 - 128)) + (b2 - 128)) + (b3 - 128))) else (0, 0) := by
  have key : decodeN n b0 b1 b2 b3 = if (1 < n ∧ 128 ≤ b1 ∧ b1 ≤ 191) ∧ (2 < n ∧ 128 ≤ b2 ∧ b2 ≤ 191) ∧ (3 < n ∧ 128 ≤ b3 ∧ b3 ≤ 191) then
    (if 64 * (64 * (64 * (b0 - 240) + (b1 - 128)) + (b2 - 128)) + (b3 - 128) < 65536 ∨ 1114111 < 64 * (64 * (64 * (b0 - 240) + (b1 - 128)) + (b2 - 128)) + (b3 - 128) ∨ (55296 ≤ 64 * (64 * (64 * (b0 - 240) + (b1 - 128)) + (b2 - 128)) + (b3 - 128) ∧ 64 * (64 * (64 * (b0 - 240) + (b1 - 128)) + (b2 - 128)) + (b3 - 128) ≤ 57343) then (65533, 1)
      else (64 * (64 * (64 * (b0 - 240) + (b1 - 128)) + (b2 - 128)) + (b3 - 128), 4)) else (65533, 1) := by
    unfold decodeN
    repeat' split
    all_goals first | rfl | (exfalso; omega) | (refine Prod.ext ?_ rfl; simp only []; omega)
  unfold lN
  rw [key]
  split
  · split
    · rw [if_pos ⟨rfl, rfl⟩]
    · rw [if_neg (by simp only []; omega)]
  · rw [if_pos ⟨rfl, rfl⟩]




/-- The letter at a place. -/
def ltr (s : ByteArray) (p : Nat) : Nat × Nat := lN (s.size - p) (bt s p) (bt s (p + 1)) (bt s (p + 2)) (bt s (p + 3))
theorem ltr_decode (s : ByteArray) (p : Nat) : ltr s p = if (Utf8.decode s p).1 = 65533 ∧ (Utf8.decode s p).2 = 1 then (0, 0) else ((Utf8.decode s p).2, (Utf8.decode s p).1) := by
  rw [decode_at]; rfl
theorem width_le (s : ByteArray) (p : Nat) (h : p < s.size) : p + (Utf8.decode s p).2 ≤ s.size := by
  have h1 := decodeL_le (s.data.toList.drop p) (by intro e; have := congrArg List.length e; rw [List.length_drop, ← size_eq] at this; simp at this; omega)
  rw [decodeL_drop, List.length_drop, ← size_eq] at h1
  omega

/-- Is what is left a value's letters? -/
def vl (s : ByteArray) : Nat → Nat → Bool
  | 0, _ => true
  | f + 1, p => if p < s.size then (if (ltr s p).1 = 0 ∨ (ltr s p).2 < 32 then false else vl s f (p + (ltr s p).1)) else true
/-- No letter is below 32. -/
def rl (s : ByteArray) : Nat → Nat → Bool
  | 0, _ => true
  | f + 1, p => if p < s.size then (if (Utf8.decode s p).1 < 32 then false else rl s f (p + (Utf8.decode s p).2)) else true
def Vl (s : ByteArray) : Bool := decide (s.size ≤ 1024) && vl s s.size 0
theorem rl_end (s : ByteArray) (f p : Nat) (h : ¬ p < s.size) : rl s f p = true := by
  cases f with
  | zero => rfl
  | succ f => unfold rl; rw [if_neg h]
theorem vl_end (s : ByteArray) (f p : Nat) (h : ¬ p < s.size) : vl s f p = true := by
  cases f with
  | zero => rfl
  | succ f => unfold vl; rw [if_neg h]
theorem vl_eq (s : ByteArray) : ∀ f p, s.size ≤ p + f → vl s f p = (validD (s.data.toList.drop p) && rl s f p)
  | 0, p, h => by
    have : s.data.toList.drop p = [] := List.drop_eq_nil_of_le (by rw [← size_eq]; omega)
    rw [this]; rfl
  | f + 1, p, h => by
    by_cases hp : p < s.size
    · have hne : s.data.toList.drop p ≠ [] := by intro e; have := congrArg List.length e; rw [List.length_drop, ← size_eq] at this; simp at this; omega
      have hw := decode_width_pos s p hp
      have hv := validD_step _ hne
      rw [decodeL_drop, List.drop_drop] at hv
      unfold vl rl
      rw [if_pos hp, if_pos hp, hv, ltr_decode]
      by_cases hb : (Utf8.decode s p).1 = 65533 ∧ (Utf8.decode s p).2 = 1
      · rw [if_pos hb, if_pos hb, if_pos (.inl rfl)]; rfl
      · rw [if_neg hb, if_neg hb]
        by_cases h32 : (Utf8.decode s p).1 < 32
        · rw [if_pos (.inr h32), if_pos h32, Bool.and_false]
        · rw [if_neg (by simp only []; omega), if_neg h32]
          exact vl_eq s f _ (by omega)
    · have : s.data.toList.drop p = [] := List.drop_eq_nil_of_le (by rw [← size_eq]; omega)
      rw [vl_end s _ p hp, rl_end s _ p hp, this]; rfl
theorem Vl_eq (s : ByteArray) : Vl s = (decide (s.size ≤ 1024) && (validD s.data.toList && rl s s.size 0)) := by
  unfold Vl
  rw [vl_eq s s.size 0 (by omega), List.drop_zero]

/-- The place behind so many letters. -/
def stp (s : ByteArray) : Nat → Nat
  | 0 => 0
  | k + 1 => stp s k + (Utf8.decode s (stp s k)).2
/-- So many letters stand there, at least. -/
def Has (s : ByteArray) (k : Nat) : Prop := ∀ i, i < k → stp s i < s.size
/-- So many letters has a text. -/
def Ct (s : ByteArray) (k : Nat) : Prop := Has s k ∧ s.size ≤ stp s k
theorem Has.le {s : ByteArray} {k : Nat} (h : Has s k) {j : Nat} (hj : j ≤ k) : Has s j := fun i hi => h i (by omega)
theorem Has.stp_le {s : ByteArray} : ∀ {k : Nat}, Has s k → stp s k ≤ s.size
  | 0, _ => Nat.zero_le _
  | k + 1, h => width_le s _ (h k (by omega))
theorem Has.ge {s : ByteArray} : ∀ {k : Nat}, Has s k → k ≤ stp s k
  | 0, _ => Nat.zero_le _
  | k + 1, h => by
    have h1 := Has.ge (h.le (Nat.le_succ k))
    have h2 := decode_width_pos s _ (h k (by omega))
    show k + 1 ≤ stp s k + _
    omega
theorem Has.next {s : ByteArray} {k : Nat} (h : Has s k) (hk : stp s k < s.size) : Has s (k + 1) := fun i hi => by
  by_cases e : i = k
  · exact e ▸ hk
  · exact h i (by omega)
theorem Has.mono {s : ByteArray} {k : Nat} (h : Has s k) : ∀ {j : Nat}, j < k → stp s j < stp s (j + 1) := fun {j} hj => by
  have h2 := decode_width_pos s _ (h j hj)
  show _ < stp s j + _
  omega
theorem Has.lt {s : ByteArray} {k : Nat} (h : Has s k) (j : Nat) (hj : j < k) : stp s j < stp s k := by
  have key : ∀ d, j + 1 + d ≤ k → stp s j < stp s (j + 1 + d) := by
    intro d
    induction d with
    | zero => intro hd; exact h.mono hj
    | succ d ih =>
      intro hd
      have h1 := ih (by omega)
      have h2 := h.mono (show j + 1 + d < k by omega)
      exact Nat.lt_trans h1 h2
  have := key (k - (j + 1)) (by omega)
  rwa [show j + 1 + (k - (j + 1)) = k by omega] at this
theorem Ct.eq {s : ByteArray} {k j : Nat} (h : Ct s k) (h' : Ct s j) : k = j := by
  rcases Nat.lt_trichotomy k j with e | e | e
  · have := h'.1 k e; have := h.2; omega
  · exact e
  · have := h.1 j e; have := h'.2; omega
/-- What a text's first letters are, and how many. -/
def Fst (s : ByteArray) (n : Int) (k : Nat) : Prop := Has s k ∧ (k : Int) ≤ max n 0 ∧ ((k : Int) = max n 0 ∨ s.size ≤ stp s k)
theorem Fst.eq {s : ByteArray} {n : Int} {k j : Nat} (h : Fst s n k) (h' : Fst s n j) : k = j := by
  rcases Nat.lt_trichotomy k j with e | e | e
  · have := h'.1 k e; have := h.2.2; have := h'.2.1; omega
  · exact e
  · have := h.1 j e; have := h'.2.2; have := h.2.1; omega
theorem Fst.all {s : ByteArray} {n : Int} {k : Nat} (h : Fst s n k) (hn : (s.size : Int) < n) : Ct s k := by
  refine ⟨h.1, ?_⟩
  rcases h.2.2 with e | e
  · have h1 := h.1.ge
    have h2 := h.1.stp_le
    omega
  · exact e

set_option maxHeartbeats 4000000 in
set_option maxRecDepth 100000 in
theorem decodeN_less (n n' b0 b1 b2 b3 c1 c2 c3 : Nat) (hn : 1 ≤ n') (hnn : n' ≤ n) (hw : (decodeN n b0 b1 b2 b3).2 ≤ n')
    (e1 : 1 < n' → c1 = b1) (e2 : 2 < n' → c2 = b2) (e3 : 3 < n' → c3 = b3) : decodeN n' b0 c1 c2 c3 = decodeN n b0 b1 b2 b3 := by
  by_cases h1 : 1 < n'
  · have E1 := e1 h1
    subst E1
    by_cases h2 : 2 < n'
    · have E2 := e2 h2
      subst E2
      by_cases h3 : 3 < n'
      · have E3 := e3 h3
        subst E3
        unfold decodeN at hw ⊢
        repeat' split at hw
        all_goals (repeat' split)
        all_goals first | rfl | (exfalso; simp only [] at hw; omega)
      · unfold decodeN at hw ⊢
        repeat' split at hw
        all_goals (repeat' split)
        all_goals first | rfl | (exfalso; simp only [] at hw; omega)
    · unfold decodeN at hw ⊢
      repeat' split at hw
      all_goals (repeat' split)
      all_goals first | rfl | (exfalso; simp only [] at hw; omega)
  · unfold decodeN at hw ⊢
    repeat' split at hw
    all_goals (repeat' split)
    all_goals first | rfl | (exfalso; simp only [] at hw; omega)
theorem get_extract (s : ByteArray) (P i : Nat) (hi : i < P) : (s.extract 0 P).get! i = s.get! i := by
  rw [← getD_get!', ← getD_get!', extract_data, List.drop_zero, Nat.sub_zero]
  simp [List.getD, hi]
theorem size_extract (s : ByteArray) (P : Nat) (hP : P ≤ s.size) : (s.extract 0 P).size = P := by
  rw [size_eq, extract_data, List.drop_zero, Nat.sub_zero, List.length_take, ← size_eq]; omega
theorem decode_extract (s : ByteArray) (P q : Nat) (hP : P ≤ s.size) (hq : q < P) (hw : q + (Utf8.decode s q).2 ≤ P) : Utf8.decode (s.extract 0 P) q = Utf8.decode s q := by
  rw [decode_at] at hw
  rw [decode_at, decode_at, size_extract s P hP, get_extract s P q hq]
  exact decodeN_less _ _ _ _ _ _ _ _ _ (by omega) (by omega) (by omega) (fun h => by rw [get_extract s P _ (by omega)]) (fun h => by rw [get_extract s P _ (by omega)]) (fun h => by rw [get_extract s P _ (by omega)])
theorem stp_extract {s : ByteArray} {k : Nat} (h : Has s k) : ∀ j, j ≤ k → stp (s.extract 0 (stp s k)) j = stp s j
  | 0, _ => rfl
  | j + 1, hj => by
    have ih := stp_extract h j (by omega)
    have h1 := h.lt j (by omega)
    have h2 : stp s (j + 1) ≤ stp s k := by
      by_cases e : j + 1 = k
      · rw [e]; exact Nat.le_refl _
      · exact Nat.le_of_lt (h.lt (j + 1) (by omega))
    show stp (s.extract 0 (stp s k)) j + (Utf8.decode (s.extract 0 (stp s k)) (stp (s.extract 0 (stp s k)) j)).2 = stp s j + (Utf8.decode s (stp s j)).2
    rw [ih, decode_extract s _ _ h.stp_le h1 h2]
/-- The first letters of a text are so many. -/
theorem Has.cut {s : ByteArray} {k : Nat} (h : Has s k) : Ct (s.extract 0 (stp s k)) k := by
  have hz := size_extract s _ h.stp_le
  refine ⟨fun i hi => ?_, ?_⟩
  · rw [stp_extract h i (by omega), hz]; exact h.lt i hi
  · rw [stp_extract h k (Nat.le_refl _), hz]; exact Nat.le_refl _
theorem Ct.whole {s : ByteArray} {k : Nat} (h : Ct s k) : stp s k = s.size := Nat.le_antisymm h.1.stp_le h.2
end Go.Proofs.YtfkklmklbmdlhaaDoor.Tg
