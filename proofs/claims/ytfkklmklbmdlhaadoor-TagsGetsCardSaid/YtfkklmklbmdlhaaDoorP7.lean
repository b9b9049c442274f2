/- What is read from the bytes of tags: those tags. No program. Conditions: nothing is wrong with the tags. -/
import Derived.Test.YtfkklmklbmdlhaaDoorP6
namespace Go.Proofs.YtfkklmklbmdlhaaDoor.Tg
open Go.RowKit Gen Fld
open Crc hiding hid

theorem fi_congr {p q : Nat → Bool} : ∀ {n : Nat}, (∀ i, i < n → p i = q i) → fi p n = fi q n
  | 0, _ => rfl
  | n + 1, h => by unfold fi; rw [fi_congr (fun i hi => h i (by omega)), h n (by omega)]
theorem kd_congr {T U : Nat → Tag} {i : Nat} (h : ∀ j, j ≤ i → T j = U j) : kd T i = kd U i := by
  unfold kd
  rw [h i (Nat.le_refl _), fx_congr (q := lk U (fold (U i).k)) (fun j hj => by unfold lk; rw [h j (by omega)])]
theorem chk_congr {T U : Nat → Tag} {n : Nat} (h : ∀ j, j < n → T j = U j) : chk T n = chk U n := by
  unfold chk
  by_cases h64 : 64 < n
  · rw [if_pos h64, if_pos h64]
  · rw [if_neg h64, if_neg h64, fi_congr (q := bad U) (fun i hi => by unfold bad; rw [kd_congr (fun j hj => h j (by omega))])]
    rcases fi_cases (bad U) n with ⟨h1, _⟩ | ⟨k, h1, hk, _⟩
    · rw [h1]
    · rw [h1]
      show (_, _) = (_, _)
      rw [kd_congr (fun j hj => h j (by omega))]
theorem nx_app (m r : List Nat) (p : Nat) (n : Nat) (f : Bool) (hm : m.length = n) (hf : f = true → 1 ≤ n ∧ n ≤ 8) : nx ⟨0, m ++ r, p⟩ (n : Int) f = (m, ⟨0, r, p + n⟩) := by
  rw [nx_ok (s := ⟨0, m ++ r, p⟩) rfl hf (by show n ≤ (m ++ r).length; rw [List.length_append]; omega)]
  show ((m ++ r).take n, TS.mk 0 ((m ++ r).drop n) (p + n)) = _
  rw [← hm, List.take_left, List.drop_left]
theorem lev_lev {v n k : Nat} (hk : 2 ^ (8 * n) = k) (h : v < k) : lev (le v n) = v := by rw [lev_le, hk, Nat.mod_eq_of_lt h]
theorem tx_app (s : ByteArray) (r : List Nat) (p n k : Nat) (hn : 1 ≤ n ∧ n ≤ 8) (hk : 2 ^ (8 * n) = k) (hs : s.size < k) : tx ⟨0, le s.size n ++ (sb s ++ r), p⟩ (n : Int) = (sb s, ⟨0, r, p + n + s.size⟩) := by
  have h1 := nx_app (le s.size n) (sb s ++ r) p n true (le_len _ _) (fun _ => hn)
  have h2 := nx_app (sb s) r (p + n) s.size false (sb_len s) (fun e => by cases e)
  unfold tx
  rw [h1, lev_lev hk hs, if_neg (by show ¬ (sb s ++ r).length < s.size; rw [List.length_append, sb_len]; omega)]
  exact h2
theorem tag_app (t : Tag) (ht : Ft t) (r : List Nat) (p : Nat) : tx ⟨0, tby t ++ r, p⟩ 1 = (sb t.k, ⟨0, le t.v.size 2 ++ (sb t.v ++ r), p + 1 + t.k.size⟩) ∧ tx ⟨0, le t.v.size 2 ++ (sb t.v ++ r), p + 1 + t.k.size⟩ 2 = (sb t.v, ⟨0, r, p + (tby t).length⟩) := by
  have e1 : tby t ++ r = le t.k.size 1 ++ (sb t.k ++ (le t.v.size 2 ++ (sb t.v ++ r))) := by unfold tby; simp only [List.append_assoc]
  rw [e1, tby_len, show p + (t.k.size + t.v.size + 3) = p + 1 + t.k.size + 2 + t.v.size from by omega]
  exact ⟨tx_app t.k _ p 1 256 (by decide) (by decide) ht.1, tx_app t.v r _ 2 65536 (by decide) (by decide) ht.2⟩
theorem st_app (L : List Tag) (hL : ∀ t ∈ L, Ft t) (r : List Nat) (p : Nat) : ∀ k, k ≤ L.length → st ⟨0, tbs L ++ r, p⟩ k = ⟨0, tbs (L.drop k) ++ r, p + (tbs (L.take k)).length⟩
  | 0, _ => rfl
  | k + 1, hk => by
    have ih := st_app L hL r p k (by omega)
    have hd : L.drop k = L[k] :: L.drop (k + 1) := List.drop_eq_getElem_cons (by omega)
    have hk2 : L.take (k + 1) = L.take k ++ [L[k]] := List.take_succ_eq_append_getElem (by omega)
    have ht := hL L[k] (List.getElem_mem (by omega))
    have h1 := tag_app L[k] ht (tbs (L.drop (k + 1)) ++ r) (p + (tbs (L.take k)).length)
    show (tx (tx (st ⟨0, tbs L ++ r, p⟩ k) 1).2 2).2 = _
    rw [ih, hd]
    show (tx (tx ⟨0, (tby L[k] ++ tbs (L.drop (k + 1))) ++ r, _⟩ 1).2 2).2 = _
    rw [List.append_assoc, h1.1]
    show (tx ⟨0, _, _⟩ 2).2 = _
    rw [h1.2, hk2, tbs_app, List.length_append]
    show TS.mk 0 _ (_ + _ + (tby L[k]).length) = TS.mk 0 _ (_ + (_ + (tby L[k] ++ []).length))
    rw [List.append_nil, Nat.add_assoc]
theorem tgx_app (L : List Tag) (hL : ∀ t ∈ L, Ft t) (r : List Nat) (p : Nat) (k : Nat) (hk : k < L.length) : tgx ⟨0, tbs L ++ r, p⟩ k = L[k] := by
  have ih := st_app L hL r p k (by omega)
  have hd : L.drop k = L[k] :: L.drop (k + 1) := List.drop_eq_getElem_cons (by omega)
  have ht := hL L[k] (List.getElem_mem (by omega))
  have h1 := tag_app L[k] ht (tbs (L.drop (k + 1)) ++ r) (p + (tbs (L.take k)).length)
  unfold tgx
  rw [ih, hd]
  show Tag.mk (tos (tx ⟨0, (tby L[k] ++ tbs (L.drop (k + 1))) ++ r, _⟩ 1).1) (tos (tx (tx ⟨0, (tby L[k] ++ tbs (L.drop (k + 1))) ++ r, _⟩ 1).2 2).1) = _
  rw [List.append_assoc, h1.1]
  show Tag.mk (tos (sb L[k].k)) (tos (tx ⟨0, _, _⟩ 2).1) = _
  rw [h1.2, tos_sb]
  show Tag.mk _ (tos (sb L[k].v)) = _
  rw [tos_sb]
/-- What is read from the bytes of right tags and more. -/
theorem get_pby {T : Nat → Tag} {n : Nat} (h : (chk T n).2 = 0) (more : List Nat) : gF (pby (lst T n) ++ more) = 0 ∧ gL (pby (lst T n) ++ more) = lst T n ∧ gP (pby (lst T n) ++ more) = (pby (lst T n)).length := by
  have hn := chk_few h
  have hF : ∀ t ∈ lst T n, Ft t := fun t ht => by
    obtain ⟨i, hi⟩ := List.mem_iff_getElem?.1 ht
    have hil := (List.getElem?_eq_some_iff.1 hi).1
    rw [lst_len] at hil
    rw [lst_at T n i hil] at hi
    cases hi
    exact bad_ft (chk_zero h i hil)
  have hll := lst_len T n
  obtain ⟨L, hL⟩ : ∃ L, L = lst T n := ⟨_, rfl⟩
  rw [← hL] at hF hll ⊢
  have hTL : ∀ i (hi : i < n), L[i]'(by omega) = T i := fun i hi => by
    have := lst_at T n i hi
    rw [← hL] at this
    exact (List.getElem?_eq_some_iff.1 this).2
  obtain ⟨B, hB⟩ : ∃ B, B = pby L ++ more := ⟨_, rfl⟩
  have e1 : B = [84, 71] ++ (le n 1 ++ (tbs L ++ (le (cs (bod L)) 4 ++ more))) := by rw [hB]; unfold pby bod; rw [hll]; simp only [List.append_assoc]
  have hb0 : Bgn B := by unfold Bgn; rw [e1]; rfl
  have hbl : (bod L).length = 3 + (tbs L).length := by unfold bod; simp only [List.length_append, le_len, List.length_cons, List.length_nil]
  have n1 := nx_app [84, 71] (le n 1 ++ (tbs L ++ (le (cs (bod L)) 4 ++ more))) 0 2 false rfl (fun e => by cases e)
  have n2 := nx_app (le n 1) (tbs L ++ (le (cs (bod L)) 4 ++ more)) 2 1 true (le_len _ _) (fun _ => by decide)
  rw [← e1] at n1
  have q0 : nx (nx ⟨0, B, 0⟩ 2 false).2 1 true = (le n 1, ⟨0, tbs L ++ (le (cs (bod L)) 4 ++ more), 3⟩) := by
    rw [show ((2 : Nat) : Int) = 2 from rfl] at n1
    rw [n1]; exact n2
  have c0 : gc B = n := by unfold gc; rw [q0]; exact lev_lev (k := 256) (by decide) (by omega)
  have s0 : g0 B = ⟨0, tbs L ++ (le (cs (bod L)) 4 ++ more), 3⟩ := by unfold g0; rw [q0]
  have E0 : gE B = ⟨0, le (cs (bod L)) 4 ++ more, (bod L).length⟩ := by
    unfold gE
    rw [s0, c0, st_app L hF _ 3 n (by omega), List.drop_of_length_le (by omega), List.take_of_length_le (by omega), hbl]
    rfl
  have X0 : gX B = (le (cs (bod L)) 4, ⟨0, more, (bod L).length + 4⟩) := by
    unfold gX
    rw [E0]
    exact nx_app (le (cs (bod L)) 4) more _ 4 true (le_len _ _) (fun _ => by decide)
  have T0 : ∀ i, i < n → gT B i = T i := fun i hi => by
    unfold gT
    rw [s0, tgx_app L hF _ 3 i (by omega), hTL i hi]
  have tk : B.take (bod L).length = bod L := by
    rw [hB]; unfold pby; rw [List.append_assoc, List.take_left]
  have F0 : gF B = 0 := by
    rw [gF_chk hb0 (by rw [X0]) (by rw [X0, E0, tk]; exact lev_lev (k := 4294967296) (by decide) (cs_lt (bod_lt L))), c0, chk_congr T0, h]
  rw [← hB]
  refine ⟨F0, ?_, ?_⟩
  · unfold gL
    rw [F0, if_pos rfl, c0, hL]
    apply List.ext_getElem?
    intro i
    by_cases hi : i < n
    · rw [lst_at _ _ _ hi, lst_at _ _ _ hi, T0 i hi]
    · rw [List.getElem?_eq_none (by rw [lst_len]; omega), List.getElem?_eq_none (by rw [lst_len]; omega)]
  · unfold gP
    rw [F0, if_pos rfl, X0]
    show (bod L).length + 4 = _
    unfold pby
    rw [List.length_append, le_len]
end Go.Proofs.YtfkklmklbmdlhaaDoor.Tg
