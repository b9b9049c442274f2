/- What is laid is taken: plain facts on states of makers and takers. No program in it. -/
import Derived.Test.YtmjjpmmbhlibmaaMakes
namespace Go.Proofs.Ytmjjpmmbhlibmaa.Fld
open Go.RowKit Gen

section
variable (K : Nat → Int) (V : Nat → Nat) (N : Nat → Int) (S : Nat → ByteArray)
theorem stf_ok (k n : Nat) (hk : k ≤ n) (h : (stf K V N S n).1 = 0) : (stf K V N S k).1 = 0 := by
  induction n with
  | zero =>
    obtain rfl : k = 0 := by omega
    exact h
  | succ n ih =>
    by_cases e : k = n + 1
    · subst e; exact h
    · exact ih (by omega) (((stf_step _ _ _).2.2 h).1)
theorem stf_next (k n : Nat) (hk : k < n) (h : (stf K V N S n).1 = 0) : actE (K k) (V k) (N k) (S k) = 0 ∧ (stf K V N S (k + 1)).2 = (stf K V N S k).2 ++ actM (K k) (V k) (N k) (S k) := by
  have := (stf_step (stf K V N S k) (actE (K k) (V k) (N k) (S k)) (actM (K k) (V k) (N k) (S k))).2.2 (stf_ok K V N S (k + 1) n (by omega) h)
  exact ⟨this.2.1, this.2.2⟩
theorem stf_split (k n : Nat) (hk : k < n) (h : (stf K V N S n).1 = 0) : ∃ r, (stf K V N S n).2 = (stf K V N S k).2 ++ (actM (K k) (V k) (N k) (S k) ++ r) := by
  induction n with
  | zero => omega
  | succ n ih =>
    by_cases e : k = n
    · subst e
      exact ⟨[], by rw [List.append_nil]; exact (stf_next K V N S k (k + 1) (by omega) h).2⟩
    · obtain ⟨r, hr⟩ := ih (by omega) (stf_ok K V N S n (n + 1) (by omega) h)
      refine ⟨r ++ actM (K n) (V n) (N n) (S n), ?_⟩
      rw [(stf_next K V N S n (n + 1) (by omega) h).2, hr]
      simp
/-- The taker's state behind k calls. -/
def tkf (n k : Nat) : TS := ⟨0, (stf K V N S n).2.drop (stf K V N S k).2.length, (stf K V N S k).2.length⟩
end

theorem le_uErr {V : Nat} {N : Int} (h : uErr V N = 0) : ∃ k : Nat, N = k ∧ 1 ≤ k ∧ k ≤ 8 ∧ lev (le V k) = V := by
  unfold uErr at h
  split at h
  · omega
  · rename_i hn
    split at h
    · omega
    · rename_i hv
      refine ⟨N.toNat, by omega, by omega, by omega, ?_⟩
      rw [lev_le]; exact Nat.mod_eq_of_lt (by omega)
theorem sgn_iErr {v N : Int} (h : iErr v N = 0) : ∃ k : Nat, N = k ∧ 1 ≤ k ∧ k ≤ 8 ∧ (-9223372036854775808 ≤ v → v ≤ 9223372036854775807 → sgn (le (u64 v) k) = v) := by
  unfold iErr at h
  split at h
  · omega
  · rename_i hn
    split at h
    · omega
    · rename_i hv
      refine ⟨N.toNat, by omega, by omega, by omega, fun _ _ => ?_⟩
      unfold sgn
      rw [le_len, lev_le]
      generalize hk : N.toNat = k at *
      have hkk : k = 1 ∨ k = 2 ∨ k = 3 ∨ k = 4 ∨ k = 5 ∨ k = 6 ∨ k = 7 ∨ k = 8 := by omega
      unfold u64
      rcases hkk with rfl | rfl | rfl | rfl | rfl | rfl | rfl | rfl <;> simp only [Nat.reduceMul, Nat.reduceSub, Nat.reducePow, Int.reducePow] at hv ⊢ <;> split <;> omega

/-- A field that lies at the head of what is left is taken. -/
theorem nx_head {s : TS} {m r : List Nat} (hF : s.F = 0) (hl : s.l = m ++ r) (f : Bool) (hg : f = true → 1 ≤ m.length ∧ m.length ≤ 8) : nx s (m.length : Int) f = (m, ⟨0, r, s.pos + m.length⟩) := by
  rw [nx_ok hF hg (by rw [hl]; simp), hl, List.take_left, List.drop_left]
theorem tkf_next (K : Nat → Int) (V : Nat → Nat) (N : Nat → Int) (S : Nat → ByteArray) (k n : Nat) (hk : k < n) (h : (stf K V N S n).1 = 0) :
    ∃ r, (tkf K V N S n k).l = actM (K k) (V k) (N k) (S k) ++ r ∧ tkf K V N S n (k + 1) = ⟨0, r, (tkf K V N S n k).pos + (actM (K k) (V k) (N k) (S k)).length⟩ := by
  obtain ⟨r, hr⟩ := stf_split K V N S k n hk h
  have h1 := (stf_next K V N S k n hk h).2
  refine ⟨r, ?_, ?_⟩
  · show (stf K V N S n).2.drop _ = _
    rw [hr, List.drop_left]
  · show (⟨0, (stf K V N S n).2.drop (stf K V N S (k + 1)).2.length, (stf K V N S (k + 1)).2.length⟩ : TS) = ⟨0, r, (stf K V N S k).2.length + _⟩
    rw [h1, List.length_append]
    congr 1
    rw [hr, ← List.append_assoc, ← List.length_append, List.drop_left]

section
variable {K : Nat → Int} {V : Nat → Nat} {N : Nat → Int} {S : Nat → ByteArray} {k n : Nat}
theorem back_u (hk : k < n) (h : (stf K V N S n).1 = 0) (hK : K k = 0) : (nx (tkf K V N S n k) (N k) true).2 = tkf K V N S n (k + 1) ∧ lev (nx (tkf K V N S n k) (N k) true).1 = V k := by
  obtain ⟨r, h1, h2⟩ := tkf_next K V N S k n hk h
  have hE := (stf_next K V N S k n hk h).1
  rw [hK, (act_0 _ _ _).1] at hE
  rw [hK, (act_0 _ _ _).2] at h1 h2
  obtain ⟨j, hj, hj1, hj8, hlev⟩ := le_uErr hE
  rw [hj, Int.toNat_natCast] at h1 h2
  have hx := nx_head (s := tkf K V N S n k) rfl h1 true (fun _ => by rw [le_len]; exact ⟨hj1, hj8⟩)
  rw [le_len] at hx h2
  rw [hj, hx, h2]
  exact ⟨rfl, hlev⟩
theorem back_i (hk : k < n) (h : (stf K V N S n).1 = 0) (hK : K k = 1) : (nx (tkf K V N S n k) (N k) true).2 = tkf K V N S n (k + 1) ∧ sgn (nx (tkf K V N S n k) (N k) true).1 = wrap64 (V k) := by
  obtain ⟨r, h1, h2⟩ := tkf_next K V N S k n hk h
  have hE := (stf_next K V N S k n hk h).1
  rw [hK, (act_1 _ _ _).1] at hE
  rw [hK, (act_1 _ _ _).2] at h1 h2
  obtain ⟨j, hj, hj1, hj8, hs⟩ := sgn_iErr hE
  rw [hj, Int.toNat_natCast] at h1 h2
  have hx := nx_head (s := tkf K V N S n k) rfl h1 true (fun _ => by rw [le_len]; exact ⟨hj1, hj8⟩)
  rw [le_len] at hx h2
  rw [hj, hx, h2]
  have hw := wrap64_in (V k)
  exact ⟨rfl, hs hw.1 hw.2⟩
theorem back_b (hk : k < n) (h : (stf K V N S n).1 = 0) (hK : K k = 2) : (nx (tkf K V N S n k) ((sb (S k)).length : Int) false).2 = tkf K V N S n (k + 1) ∧ isB (tkf K V N S n k) (sb (S k)) = true := by
  obtain ⟨r, h1, h2⟩ := tkf_next K V N S k n hk h
  rw [hK, (act_2 _ _ _).2] at h1 h2
  have hx := nx_head (s := tkf K V N S n k) rfl h1 false (fun e => by cases e)
  unfold isB
  rw [hx, h2]
  exact ⟨rfl, by simp⟩
theorem back_t (hk : k < n) (h : (stf K V N S n).1 = 0) (hK : K k = 3) : (tx (tkf K V N S n k) (N k)).2 = tkf K V N S n (k + 1) ∧ tos (tx (tkf K V N S n k) (N k)).1 = S k := by
  obtain ⟨r, h1, h2⟩ := tkf_next K V N S k n hk h
  have hE := (stf_next K V N S k n hk h).1
  rw [hK, (act_3 _ _ _).1] at hE
  rw [hK, (act_3 _ _ _).2] at h1 h2
  obtain ⟨j, hj, hj1, hj8, hlev⟩ := le_uErr hE
  rw [hj, Int.toNat_natCast] at h1 h2
  rw [List.append_assoc] at h1
  have hx := nx_head (s := tkf K V N S n k) rfl h1 true (fun _ => by rw [le_len]; exact ⟨hj1, hj8⟩)
  rw [le_len] at hx
  have hx2 := nx_head (s := ⟨0, sb (S k) ++ r, (tkf K V N S n k).pos + j⟩) (m := sb (S k)) (r := r) rfl rfl false (fun e => by cases e)
  rw [sb_len] at hx2
  unfold tx
  rw [hj, hx, if_neg (by show ¬ (sb (S k) ++ r).length < lev (le (S k).size j); rw [hlev, List.length_append, sb_len]; omega)]
  show (nx ⟨0, sb (S k) ++ r, (tkf K V N S n k).pos + j⟩ (lev (le (S k).size j) : Nat) false).2 = _ ∧ _
  rw [hlev, hx2, h2, List.length_append, le_len, sb_len]
  exact ⟨by rw [Nat.add_assoc], tos_sb _⟩
theorem back_x (hk : k < n) (h : (stf K V N S n).1 = 0) (h0 : K k ≠ 0) (h1 : K k ≠ 1) (h2 : K k ≠ 2) (h3 : K k ≠ 3) : tkf K V N S n (k + 1) = tkf K V N S n k := by
  obtain ⟨r, e1, e2⟩ := tkf_next K V N S k n hk h
  have hM : actM (K k) (V k) (N k) (S k) = [] := by unfold actM; rw [if_neg h0, if_neg h1, if_neg h2, if_neg h3]
  rw [hM] at e1 e2
  rw [e2]
  show _ = (⟨0, (tkf K V N S n k).l, (tkf K V N S n k).pos⟩ : TS)
  rw [e1]
  rfl
end
end Go.Proofs.Ytmjjpmmbhlibmaa.Fld
