/- What is read is what lay there: the bytes of what is read are the bytes that it was. No program. Condition: numbers of bytes. -/
import Derived.Test.YtfkklmklbmdlhaaDoorR3
import Derived.Test.YtfkklmklbmdlhaaDoorP7
namespace Go.Proofs.YtfkklmklbmdlhaaDoor.Tg
open Go.RowKit Gen Fld
open Crc hiding hid

theorem nx_inv {s : TS} {n : Int} {f : Bool} (h : (nx s n f).2.F = 0) : s.F = 0 ∧ ∃ k : Nat, n = k ∧ k ≤ s.l.length ∧ nx s n f = (s.l.take k, ⟨0, s.l.drop k, s.pos + k⟩) := by
  unfold nx at h ⊢
  split at h
  · rename_i h0; exact absurd h h0
  · rename_i h0
    split at h
    · exact absurd (show (1 : Nat) = 0 from h) (by decide)
    · rename_i h1
      split at h
      · exact absurd (show (10 : Nat) = 0 from h) (by decide)
      · rename_i h2
        refine ⟨Decidable.not_not.1 h0, n.toNat, by omega, by omega, ?_⟩
        rw [if_neg h0, if_neg h1, if_neg h2]
theorem le_lev : ∀ (n : Nat) (m : List Nat), m.length = n → (∀ b ∈ m, b < 256) → ∀ u, le (lev m + 2 ^ (8 * n) * u) n = m
  | 0, m, hl, _, u => by rw [List.eq_nil_of_length_eq_zero hl]; rfl
  | n + 1, m, hl, hb, u => by
    have hne : m ≠ [] := fun e => by rw [e] at hl; simp at hl
    have hm := (List.dropLast_concat_getLast hne).symm
    obtain ⟨d, hd⟩ : ∃ d, d = m.dropLast := ⟨_, rfl⟩
    obtain ⟨x, hx⟩ : ∃ x, x = m.getLast hne := ⟨_, rfl⟩
    rw [← hd, ← hx] at hm
    have hdl : d.length = n := by rw [hd, List.length_dropLast]; omega
    have hxb : x < 256 := hb x (by rw [hx]; exact List.getLast_mem hne)
    have hdb : ∀ b ∈ d, b < 256 := fun b h => hb b (by rw [hm]; exact List.mem_append_left _ h)
    have ih := le_lev n d hdl hdb (x + 256 * u)
    have hlt := lev_lt d hdb
    rw [hdl] at hlt
    have e1 : lev m + 2 ^ (8 * (n + 1)) * u = lev d + 2 ^ (8 * n) * (x + 256 * u) := by
      rw [hm, lev_app, hdl, show 8 * (n + 1) = 8 * n + 8 from by omega, Nat.pow_add]
      show lev d + 2 ^ (8 * n) * (x + 256 * 0) + 2 ^ (8 * n) * 256 * u = _
      rw [Nat.mul_add, Nat.mul_assoc, Nat.mul_add]; omega
    show le _ n ++ [_ / 2 ^ (8 * n) % 256] = m
    rw [e1, ih, Nat.add_mul_div_left _ _ (Nat.pow_pos (by decide)), Nat.div_eq_of_lt hlt, Nat.zero_add, Nat.add_mul_mod_self_left, Nat.mod_eq_of_lt hxb, ← hm]
theorem le_of_lev {m : List Nat} {n : Nat} (hl : m.length = n) (hb : ∀ b ∈ m, b < 256) : le (lev m) n = m := by
  have := le_lev n m hl hb 0
  rwa [Nat.mul_zero, Nat.add_zero] at this
/-- A text that is taken lay there. -/
theorem tx_inv {s : TS} (hs : ∀ b ∈ s.l, b < 256) {n : Nat} (h : (tx s (n : Int)).2.F = 0) : s.F = 0 ∧ s.l = le (tx s n).1.length n ++ (tx s n).1 ++ (tx s n).2.l ∧ (tx s n).2.pos = s.pos + n + (tx s n).1.length := by
  unfold tx at h ⊢
  by_cases hc : (nx s (n : Int) true).2.l.length < lev (nx s (n : Int) true).1
  · rw [if_pos hc] at h
    exfalso
    have h9 : Fld.fst (nx s (n : Int) true).2.F 10 = 0 := h
    unfold Fld.fst at h9
    split at h9
    · exact absurd h9 (by decide)
    · rename_i h8; exact h8 h9
  · rw [if_neg hc] at h ⊢
    obtain ⟨h1, k, _, hk2, e2⟩ := nx_inv h
    obtain ⟨h0, j, hj, hj2, e1⟩ := nx_inv h1
    obtain rfl : n = j := by omega
    rw [e1] at h hc e2 ⊢
    have hkk : k = lev (s.l.take n) := by
      have h5 : nx (s.l.take n, TS.mk 0 (s.l.drop n) (s.pos + n)).2 ((lev (s.l.take n) : Nat) : Int) false = nx (TS.mk 0 (s.l.drop n) (s.pos + n)) ((lev (s.l.take n) : Nat) : Int) false := rfl
      have h6 := nx_ok (s := ⟨0, s.l.drop n, s.pos + n⟩) (k := lev (s.l.take n)) (f := false) rfl (fun e => by cases e) (Nat.le_of_not_lt hc)
      have h7 : (TS.mk 0 ((s.l.drop n).drop (lev (s.l.take n))) (s.pos + n + lev (s.l.take n))).pos = (TS.mk 0 ((s.l.drop n).drop k) (s.pos + n + k)).pos := congrArg (fun (p : List Nat × TS) => p.2.pos) (h6.symm.trans (h5.symm.trans e2))
      have h8 : s.pos + n + lev (s.l.take n) = s.pos + n + k := h7
      omega
    have hlk : ((s.l.drop n).take k).length = k := by
      rw [List.length_take]
      exact Nat.min_eq_left (by rw [e1] at hk2; exact hk2)
    refine ⟨h0, ?_, ?_⟩
    · show s.l = le (nx _ _ false).1.length n ++ (nx _ _ false).1 ++ (nx _ _ false).2.l
      rw [e2]
      show s.l = le ((s.l.drop n).take k).length n ++ (s.l.drop n).take k ++ (s.l.drop n).drop k
      rw [hlk, hkk, le_of_lev (by rw [List.length_take]; omega) (fun b hb => hs b (List.mem_of_mem_take hb)), List.append_assoc, List.take_append_drop, List.take_append_drop]
    · show (nx _ _ false).2.pos = s.pos + n + (nx _ _ false).1.length
      rw [e2]
      show s.pos + n + k = s.pos + n + ((s.l.drop n).take k).length
      rw [hlk]
theorem tx_F {s : TS} {n : Int} (h : (tx s n).2.F = 0) : s.F = 0 := by
  by_cases h1 : s.F = 0
  · exact h1
  · exfalso
    have e0 : nx s n true = ([], s) := by unfold nx; rw [if_pos h1]
    have e1 : tx s n = nx s ((0 : Nat) : Int) false := by unfold tx; rw [e0]; exact if_neg (Nat.not_lt_zero _)
    have e2 : nx s ((0 : Nat) : Int) false = ([], s) := by unfold nx; rw [if_pos h1]
    rw [e1, e2] at h
    exact h1 h
/-- The tags that are taken lay there. -/
theorem st_inv {s : TS} (hs : ∀ b ∈ s.l, b < 256) : ∀ n, (st s n).F = 0 → s.F = 0 ∧ s.l = tbs (lst (tgx s) n) ++ (st s n).l ∧ (st s n).pos = s.pos + (tbs (lst (tgx s) n)).length
  | 0, h => ⟨h, rfl, rfl⟩
  | n + 1, h => by
    have q1 : (tx (st s n) 1).2.F = 0 := tx_F (show (tx (tx (st s n) 1).2 2).2.F = 0 from h)
    have hF0 : (st s n).F = 0 := tx_F q1
    obtain ⟨i1, i2, i3⟩ := st_inv hs n hF0
    have hs1 : ∀ b ∈ (st s n).l, b < 256 := fun b hb => hs b (by rw [i2]; exact List.mem_append_right _ hb)
    obtain ⟨_, a2, a3⟩ := tx_inv (n := 1) hs1 q1
    have hs2 : ∀ b ∈ (tx (st s n) 1).2.l, b < 256 := fun b hb => hs1 b (by rw [a2]; exact List.mem_append_right _ hb)
    obtain ⟨_, b2, b3⟩ := tx_inv (n := 2) hs2 (show (tx (tx (st s n) 1).2 2).2.F = 0 from h)
    have hk : ∀ b ∈ (tx (st s n) 1).1, b < 256 := fun b hb => hs1 b (by rw [a2]; exact List.mem_append_left _ (List.mem_append_right _ hb))
    have hv : ∀ b ∈ (tx (tx (st s n) 1).2 2).1, b < 256 := fun b hb => hs2 b (by rw [b2]; exact List.mem_append_left _ (List.mem_append_right _ hb))
    have ht : tby (tgx s n) = le (tx (st s n) 1).1.length 1 ++ (tx (st s n) 1).1 ++ (le (tx (tx (st s n) 1).2 2).1.length 2 ++ (tx (tx (st s n) 1).2 2).1) := by
      show le (tos (tx (st s n) 1).1).size 1 ++ sb (tos (tx (st s n) 1).1) ++ (le (tos (tx (tx (st s n) 1).2 2).1).size 2 ++ sb (tos (tx (tx (st s n) 1).2 2).1)) = _
      rw [tos_size, tos_size, sb_tos _ hk, sb_tos _ hv]
    have htb : tbs (lst (tgx s) (n + 1)) = tbs (lst (tgx s) n) ++ tby (tgx s n) := by
      rw [lst_succ, tbs_app]
      show _ ++ (tby (tgx s n) ++ []) = _
      rw [List.append_nil]
    refine ⟨i1, ?_, ?_⟩
    · show s.l = _ ++ (tx (tx (st s n) 1).2 2).2.l
      rw [htb, ht, List.append_assoc, List.append_assoc (le (tx (st s n) 1).1.length 1 ++ (tx (st s n) 1).1)]
      refine i2.trans (congrArg _ (a2.trans (congrArg _ b2)))
    · show (tx (tx (st s n) 1).2 2).2.pos = _
      rw [htb, List.length_append, ht]
      simp only [List.length_append, le_len]
      have a3' : (tx (st s n) 1).2.pos = (st s n).pos + 1 + (tx (st s n) 1).1.length := a3
      have b3' : (tx (tx (st s n) 1).2 2).2.pos = (tx (st s n) 1).2.pos + 2 + (tx (tx (st s n) 1).2 2).1.length := b3
      omega
end Go.Proofs.YtfkklmklbmdlhaaDoor.Tg
