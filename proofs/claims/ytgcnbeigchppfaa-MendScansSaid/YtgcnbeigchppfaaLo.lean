/- Of lists: a block with more behind it is opened as it was; of a block that is cut short the end comes too early; what was opened is sealed as it was. No condition but those that each lemma names. -/
import Derived.Test.YtgcnbeigchppfaaBm
namespace Go.Proofs.Ytgcnbeigchppfaa.Fil
open Go.RowKit Gen
set_option maxRecDepth 100000 in
theorem op_ok {l : List Nat} (h : Head.opE l = 0) : Head.Rt (Head.opH l) ∧ (Head.opH l).sz = (Head.szn l : Int) ∧ Head.szn l + 36 ≤ l.length ∧ Head.szn l ≤ 16777216 := by
  have hg : Head.getE l = 0 := by
    by_cases h0 : Head.getE l = 0
    · exact h0
    · unfold Head.opE at h
      rw [if_pos h0] at h
      exact h
  obtain ⟨hrt, _, _⟩ := Head.get_ok hg
  have hl : Head.szn l + 36 ≤ l.length := by
    by_cases hl : l.length < Head.szn l + 36
    · unfold Head.opE at h
      rw [if_neg (fun e => e hg), if_pos hl] at h
      cases h
    · omega
  have hz := hrt.1.2.2.2.2.2.2.2.2
  have eh : Head.opH l = Head.getH l := by unfold Head.opH; rw [if_pos h]
  rw [eh]
  have es : Head.szn l = (Head.getH l).sz.toNat := rfl
  exact ⟨hrt, by omega, hl, by omega⟩
end Go.Proofs.Ytgcnbeigchppfaa.Fil
namespace Go.Proofs.Ytgcnbeigchppfaa.Inf
open Go.RowKit Gen Fld
open Crc hiding hid
set_option maxRecDepth 100000 in
theorem le_lev : ∀ (n : Nat) (m : List Nat), m.length = n → (∀ b ∈ m, b < 256) → ∀ u, le (lev m + 2 ^ (8 * n) * u) n = m
  | 0, m, hl, _, u => by rw [List.eq_nil_of_length_eq_zero hl]; rfl
  | n + 1, m, hl, hb, u => by
    have hne : m ≠ [] := fun e => by rw [e] at hl; simp at hl
    have hm := (List.dropLast_concat_getLast hne).symm
    obtain ⟨d, hd⟩ : ∃ d, d = m.dropLast := ⟨_, rfl⟩
    obtain ⟨x, hx⟩ : ∃ x, x = m.getLast hne := ⟨_, rfl⟩
    rw [← hd, ← hx] at hm
    have hdl : d.length = n := by rw [hd, List.length_dropLast]; omega
    have hxb : x < 256 := hb x (by rw [hx]; exact List.getLast_mem hne)
    have hdb : ∀ b ∈ d, b < 256 := fun b h => hb b (by rw [hm]; exact List.mem_append_left _ h)
    have ih := le_lev n d hdl hdb (x + 256 * u)
    have hlt := lev_lt d hdb
    rw [hdl] at hlt
    have e1 : lev m + 2 ^ (8 * (n + 1)) * u = lev d + 2 ^ (8 * n) * (x + 256 * u) := by
      rw [hm, lev_app, hdl, show 8 * (n + 1) = 8 * n + 8 from by omega, Nat.pow_add]
      show lev d + 2 ^ (8 * n) * (x + 256 * 0) + 2 ^ (8 * n) * 256 * u = _
      rw [Nat.mul_add, Nat.mul_assoc, Nat.mul_add]; omega
    show le _ n ++ [_ / 2 ^ (8 * n) % 256] = m
    rw [e1, ih, Nat.add_mul_div_left _ _ (Nat.pow_pos (by decide)), Nat.div_eq_of_lt hlt, Nat.zero_add, Nat.add_mul_mod_self_left, Nat.mod_eq_of_lt hxb, ← hm]
set_option maxRecDepth 100000 in
theorem le_of_lev {m : List Nat} {n : Nat} (hl : m.length = n) (hb : ∀ b ∈ m, b < 256) : le (lev m) n = m := by
  have := le_lev n m hl hb 0
  rwa [Nat.mul_zero, Nat.add_zero] at this
set_option maxRecDepth 100000 in
theorem take_more (l : List Nat) (j n : Nat) : l.take j ++ (l.drop j).take n = l.take (j + n) := by rw [List.take_add]
end Go.Proofs.Ytgcnbeigchppfaa.Inf
namespace Go.Proofs.Ytgcnbeigchppfaa.Head
open Go.RowKit Gen Fld
open Crc hiding hid

set_option maxRecDepth 100000 in
theorem bgn_app {l : List Nat} (h : 2 ≤ l.length) (m : List Nat) : Bgn (l ++ m) ↔ Bgn l := by
  unfold Bgn
  rw [List.take_append_of_le_length h, List.length_append, List.take_of_length_le (l := [222, 92]) (show 2 ≤ _ by omega), List.take_of_length_le (l := [222, 92]) (show 2 ≤ _ by omega)]
set_option maxRecDepth 100000 in
theorem bgn_take {l : List Nat} (h : Bgn l) (k : Nat) : Bgn (l.take k) := by
  unfold Bgn at *
  rw [List.take_take, Nat.min_comm 2 k, ← List.take_take, h, List.take_take, List.length_take]
set_option maxRecDepth 100000 in
theorem get_app {l : List Nat} (h : 32 ≤ l.length) (m : List Nat) : getE (l ++ m) = getE l ∧ getH (l ++ m) = getH l := by
  have e : (l ++ m).take 32 = l.take 32 := List.take_append_of_le_length h
  have h1 : ¬ (l ++ m).length < 32 := by rw [List.length_append]; omega
  have h2 : ¬ l.length < 32 := by omega
  have h3 := bgn_app (l := l) (by omega) m
  have h4 : Sm (l ++ m) ↔ Sm l := by unfold Sm; rw [e]
  unfold getE getH
  simp only [h1, h2, h3, h4, e, if_false, and_self]
set_option maxRecDepth 100000 in
theorem get_bgn {l : List Nat} (h : getE l = 0) : Bgn l ∧ 32 ≤ l.length ∧ Sm l ∧ ¬ Bad (l.take 32) ∧ getH l = hdl (l.take 32) := by
  unfold getE at h
  by_cases h1 : Bgn l
  · rw [if_neg (fun e => e h1)] at h
    by_cases h2 : l.length < 32
    · rw [if_pos h2] at h; exact absurd h (by decide)
    · rw [if_neg h2] at h
      by_cases h3 : Sm l
      · rw [if_neg (fun e => e h3)] at h
        unfold rdE at h
        by_cases h4 : Bad (l.take 32)
        · rw [if_pos h4] at h; exact absurd h (by decide)
        · refine ⟨h1, by omega, h3, h4, ?_⟩
          unfold getH
          rw [if_neg (fun e => e h1), if_neg h2, if_neg (fun e => e h3)]
          unfold rdH
          rw [if_neg h4]
      · rw [if_pos h3] at h; exact absurd h (by decide)
  · rw [if_pos h1] at h; exact absurd h (by decide)
set_option maxRecDepth 100000 in
theorem op_get {l : List Nat} (h : opE l = 0) : getE l = 0 ∧ szn l + 36 ≤ l.length ∧ Sb l (szn l) := by
  unfold opE at h
  by_cases h0 : getE l = 0
  · rw [if_neg (fun e => e h0)] at h
    by_cases h1 : l.length < szn l + 36
    · rw [if_pos h1] at h; exact absurd h (by decide)
    · rw [if_neg h1] at h
      by_cases h2 : Sb l (szn l)
      · exact ⟨h0, by omega, h2⟩
      · rw [if_pos h2] at h; exact absurd h (by decide)
  · rw [if_pos h0] at h; exact absurd h h0
set_option maxRecDepth 100000 in
theorem op_app {l : List Nat} (h : opE l = 0) (m : List Nat) : opE (l ++ m) = 0 ∧ opH (l ++ m) = opH l ∧ opP (l ++ m) = opP l ∧ opS (l ++ m) = opS l ∧ szn (l ++ m) = szn l := by
  obtain ⟨h0, h1, h2⟩ := op_get h
  obtain ⟨g1, g2⟩ := get_app (l := l) (by omega) m
  have hz : szn (l ++ m) = szn l := by unfold szn; rw [g2]
  have ht : (l ++ m).take (szn l + 32 + 4) = l.take (szn l + 32 + 4) := List.take_append_of_le_length (by omega)
  have hS : Sb (l ++ m) (szn l) := by
    unfold Sb at *
    rw [ht]
    exact h2
  have hE : opE (l ++ m) = 0 := by
    unfold opE
    rw [g1, hz, if_neg (fun e => e h0), if_neg (by rw [List.length_append]; omega), if_neg (fun e => e hS)]
  refine ⟨hE, ?_, ?_, ?_, hz⟩
  · unfold opH; rw [if_pos hE, if_pos h, g2]
  · unfold opP
    rw [if_pos hE, if_pos h, hz, List.drop_append_of_le_length (by omega), List.take_append_of_le_length (by rw [List.length_drop]; omega)]
  · unfold opS; rw [if_pos hE, if_pos h, hz, ht]
set_option maxRecDepth 100000 in
theorem op_first {l : List Nat} (h : opE l = 0) : l.getD 0 0 = 222 := by
  obtain ⟨h0, _, _⟩ := op_get h
  obtain ⟨h1, h2, _⟩ := get_bgn h0
  unfold Bgn at h1
  match l, h2 with
  | x :: y :: t, _ =>
    have e : [x, y] = [222, 92].take (t.length + 2) := h1
    rw [List.take_of_length_le (show 2 ≤ _ by omega)] at e
    have e1 : x = 222 := (List.cons.inj e).1
    subst e1
    rfl
set_option maxRecDepth 100000 in
theorem op_cut {l : List Nat} (h : opE l = 0) (hl : l.length = szn l + 36) {k : Nat} (hk : k < l.length) : opE (l.take k) = 10 := by
  obtain ⟨h0, h1, h2⟩ := op_get h
  obtain ⟨b1, b2, _⟩ := get_bgn h0
  have hlk : (l.take k).length = k := by rw [List.length_take]; omega
  by_cases h32 : k < 32
  · have hg : getE (l.take k) = 10 := by
      unfold getE
      rw [if_neg (fun e => e (bgn_take b1 k)), if_pos (by rw [hlk]; exact h32)]
    unfold opE
    rw [hg, if_pos (by decide)]
  · obtain ⟨g1, g2⟩ := get_app (l := l.take k) (by omega) (l.drop k)
    rw [List.take_append_drop] at g1 g2
    unfold opE
    rw [← g1, if_neg (fun e => e h0)]
    have hz : szn (l.take k) = szn l := by unfold szn; rw [g2]
    rw [hz, if_pos (by omega)]
set_option maxRecDepth 100000 in
theorem fd_hdl (l : List Nat) : ∀ j, j < 6 → fd (hdl l) j = fv (l.drop 4) j
  | 0, _ => rfl
  | 1, _ => rfl
  | 2, _ => rfl
  | 3, _ => rfl
  | 4, _ => rfl
  | 5, _ => rfl
set_option maxRecDepth 100000 in
theorem pre_hdl {l : List Nat} (hb : ∀ b ∈ l, b < 256) (hl : 28 ≤ l.length) (hg : l.take 2 = [222, 92]) (hla : lbb l ≤ 1) : ∀ j, j ≤ 6 → pre (hdl l) j = l.take (4 + 4 * j)
  | 0, _ => by
    have h1 : le (kb l) 1 = (l.drop 2).take 1 := Inf.le_of_lev (by rw [List.length_take, List.length_drop]; omega) (fun b hb' => hb b (List.mem_of_mem_drop (List.mem_of_mem_take hb')))
    have h2 : le (lbb l) 1 = (l.drop 3).take 1 := Inf.le_of_lev (by rw [List.length_take, List.length_drop]; omega) (fun b hb' => hb b (List.mem_of_mem_drop (List.mem_of_mem_take hb')))
    have h3 : lb (hdl l).la = lbb l := by
      show lb (decide (lbb l = 1)) = lbb l
      by_cases e : lbb l = 1
      · rw [decide_eq_true e, e]; rfl
      · rw [decide_eq_false e]
        have : lbb l = 0 := by omega
        rw [this]; rfl
    show [222, 92] ++ le (hdl l).k.toNat 1 ++ le (lb (hdl l).la) 1 = _
    rw [h3, h2, show (hdl l).k.toNat = kb l from rfl, h1, ← hg, Inf.take_more, Inf.take_more]
  | j + 1, hj => by
    have ih := pre_hdl hb hl hg hla j (by omega)
    show pre (hdl l) j ++ le (fd (hdl l) j) 4 = _
    rw [ih, fd_hdl l j (by omega)]
    have h1 : le (fv (l.drop 4) j) 4 = ((l.drop 4).drop (4 * j)).take 4 := Inf.le_of_lev (by rw [List.length_take, List.length_drop, List.length_drop]; omega) (fun b hb' => hb b (List.mem_of_mem_drop (List.mem_of_mem_drop (List.mem_of_mem_take hb'))))
    rw [h1, List.drop_drop, Inf.take_more]
    rfl
set_option maxRecDepth 100000 in
theorem hby_get {l : List Nat} (hb : ∀ b ∈ l, b < 256) (h : getE l = 0) : hby (getH l) = l.take 32 := by
  obtain ⟨h1, h2, h3, h4, h5⟩ := get_bgn h
  have hb32 : ∀ b ∈ l.take 32, b < 256 := fun b hb' => hb b (List.mem_of_mem_take hb')
  have hl32 : (l.take 32).length = 32 := by rw [List.length_take]; omega
  have hg : (l.take 32).take 2 = [222, 92] := by
    unfold Bgn at h1
    rw [List.take_take, show min 2 32 = 2 from rfl, h1]
    exact List.take_of_length_le (show 2 ≤ _ by omega)
  have hla : lbb (l.take 32) ≤ 1 := Nat.le_of_not_lt fun e => h4 (.inl e)
  have hp := pre_hdl hb32 (by omega) hg hla 6 (Nat.le_refl _)
  rw [h5]
  unfold hby smd
  rw [hp, show 4 + 4 * 6 = 28 from rfl]
  unfold Sm at h3
  rw [← h3, Inf.le_of_lev (by rw [List.length_drop]; omega) (fun b hb' => hb32 b (List.mem_of_mem_drop hb')), List.take_append_drop]
set_option maxRecDepth 100000 in
theorem seal_open {l : List Nat} (hb : ∀ b ∈ l, b < 256) (h : opE l = 0) (hl : l.length = szn l + 36) :
    szd (opH l) (opP l).length = opH l ∧ smd (blo (opH l) (opP l)) = l ∧ cs (blo (opH l) (opP l)) = opS l := by
  obtain ⟨h0, h1, h2⟩ := op_get h
  obtain ⟨_, hs, _, _⟩ := Fil.op_ok h
  have hH : opH l = getH l := by unfold opH; rw [if_pos h]
  have hP : opP l = (l.drop 32).take (szn l) := by unfold opP; rw [if_pos h]
  have hS : opS l = cs ((l.take (szn l + 32 + 4)).take (szn l + 32)) := by unfold opS; rw [if_pos h]
  have hpl : (opP l).length = szn l := by rw [hP, List.length_take, List.length_drop]; omega
  have hz : szd (opH l) (opP l).length = opH l := by
    rw [hpl]
    unfold szd
    rw [← hs]
  have hbl : blo (opH l) (opP l) = l.take (szn l + 32) := by
    unfold blo
    rw [hz, hH, hby_get hb h0, hP, Inf.take_more, Nat.add_comm]
  refine ⟨hz, ?_, ?_⟩
  · unfold smd
    rw [hbl]
    unfold Sb at h2
    rw [List.take_take, Nat.min_eq_left (by omega)] at h2
    rw [← h2, Inf.le_of_lev (by rw [List.length_drop, List.length_take]; omega) (fun b hb' => hb b (List.mem_of_mem_take (List.mem_of_mem_drop hb')))]
    have e : l.take (szn l + 32 + 4) = l := List.take_of_length_le (by omega)
    rw [e, List.take_append_drop]
  · rw [hbl, hS, List.take_take, Nat.min_eq_left (by omega)]
end Go.Proofs.Ytgcnbeigchppfaa.Head
