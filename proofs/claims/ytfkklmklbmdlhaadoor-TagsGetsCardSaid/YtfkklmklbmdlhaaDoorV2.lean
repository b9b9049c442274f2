/- What follows for tags that are set among right ones: of lists alone. No condition but those that each lemma names. -/
import Derived.Test.YtfkklmklbmdlhaaDoorU8
namespace Go.Proofs.YtfkklmklbmdlhaaDoor.Tg
open Go.RowKit Gen

theorem chk_zero {T : Nat → Tag} {n : Nat} (h : (chk T n).2 = 0) : ∀ i, i < n → bad T i = false := by
  unfold chk at h
  by_cases h64 : 64 < n
  · rw [if_pos h64] at h; exact absurd h (by decide)
  · rw [if_neg h64] at h
    rcases fi_cases (bad T) n with ⟨_, h2⟩ | ⟨k, h1, _, h3, _⟩
    · exact h2
    · rw [h1] at h
      unfold bad at h3
      exact absurd h (of_decide_eq_true h3)
theorem bad_fx {T : Nat → Tag} {i : Nat} (h : bad T i = false) : ∀ j, j < i → lk T (fold (T i).k) j = false := by
  have h1 : kd T i = 0 := by
    unfold bad at h
    exact Decidable.not_not.1 (of_decide_eq_false h)
  have h2 : ¬ 0 ≤ fx (lk T (fold (T i).k)) i := by
    intro h0
    unfold kd at h1
    by_cases hk : Ky (T i).k
    · rw [if_pos hk, if_pos h0] at h1; exact absurd h1 (by decide)
    · rw [if_neg hk] at h1; exact absurd h1 (by decide)
  rcases fx_cases (lk T (fold (T i).k)) i with ⟨_, h3⟩ | ⟨k, h3, _⟩
  · exact h3
  · omega
/-- No key is alike to one ahead. -/
def Uq (T : Nat → Tag) (n : Nat) : Prop := ∀ i, i < n → ∀ j, j < i → fold (T j).k ≠ fold (T i).k
theorem uq_of {T : Nat → Tag} {n : Nat} (h : (chk T n).2 = 0) : Uq T n := fun i hi j hj => of_decide_eq_false (bad_fx (chk_zero h i hi) j hj)
theorem Uq.fx {T : Nat → Tag} {n p : Nat} (h : Uq T n) (hp : p < n) : fx (lk T (fold (T p).k)) n = (p : Int) :=
  fx_some (decide_eq_true rfl) (fun j hj => decide_eq_false (h p hp j hj)) hp
theorem Uq.drops {T : Nat → Tag} {n p : Nat} (h : Uq T n) (hp : p < n) : (flt (fold (T p).k) (lst T n)).length = n - 1 := by
  have key : ∀ d, p + 1 + d ≤ n → (flt (fold (T p).k) (lst T (p + 1 + d))).length = p + d := by
    intro d
    induction d with
    | zero =>
      intro _
      rw [Nat.add_zero, flt_yes (decide_eq_true rfl), flt_all (fun j hj => decide_eq_false (h p hp j hj)), lst_len, Nat.add_zero]
    | succ d ih =>
      intro hd
      have h1 := ih (by omega)
      rw [show p + 1 + (d + 1) = p + 1 + d + 1 from by omega, flt_no (decide_eq_false (fun e => h (p + 1 + d) (by omega) p (by omega) e.symm)), List.length_append, h1]
      rfl
  have h2 := key (n - (p + 1)) (by omega)
  rw [show p + 1 + (n - (p + 1)) = n from by omega] at h2
  omega
theorem flt_none (kf : ByteArray) (l : List Tag) : ∀ i, i < (flt kf l).length → lk (gt (flt kf l)) kf i = false := by
  intro i hi
  have h1 := List.mem_of_getElem? (gt_at hi)
  unfold flt at h1
  have h2 := (List.mem_filter.1 h1).2
  unfold lk
  cases hd : decide (fold (gt (flt kf l) i).k = kf) with
  | false => rfl
  | true =>
    have h3 : (!decide (fold (gt (flt kf l) i).k = kf)) = true := h2
    rw [hd] at h3
    cases h3
/-- Where a tag stands that was set. -/
def plc (T : Nat → Tag) (len : Nat) (kf : ByteArray) : Nat := if fx (lk T kf) len < 0 then len else (fx (lk T kf) len).toNat
theorem stt_at {T : Nat → Tag} {len : Nat} {t : Tag} : plc T len (fold t.k) < (stt T len t).length ∧ gt (stt T len t) (plc T len (fold t.k)) = t ∧ ∀ i, i < len → fold (T i).k ≠ fold t.k → i < (stt T len t).length ∧ gt (stt T len t) i = T i := by
  rcases fx_cases (lk T (fold t.k)) len with ⟨hfx, hno⟩ | ⟨k, hfx, hkl, hyes, _⟩
  · have hs : stt T len t = lst T len ++ [t] := by unfold stt; rw [hfx]; rfl
    have hp : plc T len (fold t.k) = len := by unfold plc; rw [hfx]; rfl
    rw [hs, hp]
    refine ⟨by rw [List.length_append, lst_len]; simp, ?_, fun i hi _ => ⟨by rw [List.length_append, lst_len]; omega, ?_⟩⟩
    · unfold gt; simp [List.getD, lst_len]
    · unfold gt; simp [List.getD, List.getElem?_append_left (show i < (lst T len).length by rw [lst_len]; exact hi), lst_at T len i hi]
  · have hs : stt T len t = (lst T len).set k t := by unfold stt; rw [hfx, if_neg (by omega)]; rfl
    have hp : plc T len (fold t.k) = k := by unfold plc; rw [hfx, if_neg (by omega)]; rfl
    rw [hs, hp]
    refine ⟨by rw [List.length_set, lst_len]; exact hkl, ?_, fun i hi hne => ⟨by rw [List.length_set, lst_len]; exact hi, ?_⟩⟩
    · unfold gt; simp [List.getD, lst_len, hkl]
    · have hik : ¬ k = i := fun e => hne (e ▸ of_decide_eq_true hyes)
      unfold gt; simp [List.getD, List.getElem?_set_ne hik, lst_at T len i hi]
theorem Sz.list {L : List Tag} (hl : L.length ≤ 1099511627776) (h : ∀ x ∈ L, x.k.size ≤ 1099511627776 ∧ x.v.size ≤ 1099511627776) : Sz (gt L) L.length :=
  ⟨hl, fun _ hi => (h _ (List.mem_of_getElem? (gt_at hi))).1, fun _ hi => (h _ (List.mem_of_getElem? (gt_at hi))).2⟩
theorem Sz.mem {L : List Tag} (h : Sz (gt L) L.length) : ∀ x ∈ L, x.k.size ≤ 1099511627776 ∧ x.v.size ≤ 1099511627776 := by
  intro x hx
  obtain ⟨i, hi⟩ := List.mem_iff_getElem?.1 hx
  have hil := (List.getElem?_eq_some_iff.1 hi).1
  rw [gt_at hil] at hi
  cases hi
  exact ⟨h.k i hil, h.v i hil⟩
theorem Sz.drops {L : List Tag} (h : Sz (gt L) L.length) (kf : ByteArray) : Sz (gt (flt kf L)) (flt kf L).length :=
  Sz.list (Nat.le_trans (flt_le kf L) h.n) fun x hx => h.mem x (List.mem_filter.1 hx).1
end Go.Proofs.YtfkklmklbmdlhaaDoor.Tg
