/- Of lists: what Build puts together, cut off at its end, comes to its end too early. Conditions: the parts are right, fewer than 2^40 bytes. -/
import Derived.Test.YthjjonbkfkpkmaaDoorY35
namespace Go.Proofs.YthjjonbkfkpkmaaDoor.Tg
open Go.RowKit Gen Fld
open Crc hiding hid

set_option maxRecDepth 100000 in
theorem nx_stop {t : TS} (h : t.F ≠ 0) (n : Int) (f : Bool) : nx t n f = ([], t) := by unfold nx; rw [if_pos h]
set_option maxRecDepth 100000 in
theorem tx_stop {t : TS} (h : t.F ≠ 0) (n : Int) : (tx t n).2 = t := by
  unfold tx
  rw [nx_stop h]
  show (if t.l.length < lev [] then _ else nx t ((lev [] : Nat) : Int) false).2 = t
  rw [if_neg (show ¬ t.l.length < lev [] from Nat.not_lt_zero _), nx_stop h]
set_option maxRecDepth 100000 in
theorem st_stop {t : TS} (h : t.F ≠ 0) : ∀ k, st t k = t
  | 0 => rfl
  | k + 1 => by
    show (tx (tx (st t k) 1).2 2).2 = t
    rw [st_stop h k, tx_stop h, tx_stop h]
set_option maxRecDepth 100000 in
theorem nx_zero {t : TS} {n : Int} {f : Bool} (h : (nx t n f).2.F = 0) : t.F = 0 := by
  by_cases h0 : t.F = 0
  · exact h0
  · rw [nx_stop h0] at h; exact h
set_option maxRecDepth 100000 in
theorem tx_zero {t : TS} {n : Int} (h : (tx t n).2.F = 0) : t.F = 0 := by
  by_cases h0 : t.F = 0
  · exact h0
  · rw [tx_stop h0] at h; exact h
set_option maxRecDepth 100000 in
theorem st_zero {t : TS} {k : Nat} (h : (st t k).F = 0) : t.F = 0 := by
  by_cases h0 : t.F = 0
  · exact h0
  · rw [st_stop h0] at h; exact h
/-- The taker of the first bytes alone: at its end, or where the other one is. -/
def Pr (t t' : TS) : Prop := t'.F = 10 ∨ (t'.F = 0 ∧ t.F = 0 ∧ t'.pos = t.pos ∧ ∃ r, t.l = t'.l ++ r)
set_option maxRecDepth 100000 in
theorem nx_pr {t t' : TS} (h : Pr t t') {n : Int} {f : Bool} (hF : (nx t n f).2.F = 0) : Pr (nx t n f).2 (nx t' n f).2 ∧ ((nx t' n f).2.F = 0 → (nx t' n f).1 = (nx t n f).1) := by
  rcases h with h | ⟨h1, h2, h3, r, h4⟩
  · have e := nx_stop (t := t') (by rw [h]; decide) n f
    rw [e]
    exact ⟨.inl h, fun h5 => by rw [h] at h5; cases h5⟩
  · unfold nx at hF ⊢
    rw [if_neg (show ¬ t.F ≠ 0 from fun e => e h2)] at hF ⊢
    rw [if_neg (show ¬ t'.F ≠ 0 from fun e => e h1)]
    by_cases hb : n < 0 ∨ (f = true ∧ (n < 1 ∨ 8 < n))
    · rw [if_pos hb] at hF; cases hF
    · rw [if_neg hb] at hF ⊢
      rw [if_neg hb]
      by_cases hl : (t.l.length : Int) < n
      · rw [if_pos hl] at hF; cases hF
      · rw [if_neg hl] at hF ⊢
        by_cases hl' : (t'.l.length : Int) < n
        · rw [if_pos hl']
          exact ⟨.inl rfl, fun h5 => by cases h5⟩
        · rw [if_neg hl']
          have hn : n.toNat ≤ t'.l.length := by omega
          refine ⟨.inr ⟨rfl, rfl, by show t'.pos + _ = t.pos + _; rw [h3], r, ?_⟩, fun _ => ?_⟩
          · show t.l.drop _ = t'.l.drop _ ++ r
            rw [h4, List.drop_append_of_le_length hn]
          · show t'.l.take _ = t.l.take _
            rw [h4, List.take_append_of_le_length hn]
set_option maxRecDepth 100000 in
theorem fst_ten {x : Nat} : Fld.fst x 10 = 0 → False := by
  unfold Fld.fst
  split <;> omega
set_option maxRecDepth 100000 in
theorem tx_pr {t t' : TS} (h : Pr t t') {n : Int} (hF : (tx t n).2.F = 0) : Pr (tx t n).2 (tx t' n).2 := by
  by_cases hc : (nx t n true).2.l.length < lev (nx t n true).1
  · exfalso
    unfold tx at hF
    rw [if_pos hc] at hF
    exact fst_ten hF
  have e1 : tx t n = nx (nx t n true).2 (lev (nx t n true).1 : Nat) false := by unfold tx; rw [if_neg hc]
  rw [e1] at hF ⊢
  obtain ⟨p, hd⟩ := nx_pr h (nx_zero hF)
  by_cases h10 : (nx t' n true).2.F = 10
  · left
    unfold tx
    split
    · show Fld.fst _ 10 = 10
      rw [h10]
      rfl
    · rw [nx_stop (by rw [h10]; decide)]
      exact h10
  · have h0 : (nx t' n true).2.F = 0 := by
      rcases p with p | p
      · exact absurd p h10
      · exact p.1
    have hd' := hd h0
    by_cases hc' : (nx t' n true).2.l.length < lev (nx t' n true).1
    · left
      unfold tx
      rw [if_pos hc']
      show Fld.fst _ 10 = 10
      rw [h0]
      rfl
    · have e2 : tx t' n = nx (nx t' n true).2 (lev (nx t' n true).1 : Nat) false := by unfold tx; rw [if_neg hc']
      rw [e2, hd']
      exact (nx_pr p hF).1
set_option maxRecDepth 100000 in
theorem st_pr {t t' : TS} (h : Pr t t') : ∀ k, (st t k).F = 0 → Pr (st t k) (st t' k)
  | 0, _ => h
  | k + 1, hF => by
    have h2 : (tx (tx (st t k) 1).2 2).2.F = 0 := hF
    have h1 := tx_zero h2
    have h0 := tx_zero h1
    exact tx_pr (tx_pr (st_pr h k h0) h1) h2
set_option maxRecDepth 100000 in
theorem bgn_take {l : List Nat} (h : Bgn l) (k : Nat) : Bgn (l.take k) := by
  unfold Bgn at *
  rw [List.take_take, Nat.min_comm 2 k, ← List.take_take, h, List.take_take, List.length_take]
set_option maxRecDepth 100000 in
theorem get_cut {T : Nat → Tag} {n : Nat} (h : (chk T n).2 = 0) {k : Nat} (hk : k < (pby (lst T n)).length) : gF ((pby (lst T n)).take k) = 10 := by
  obtain ⟨hf, _, hp⟩ := get_pby h []
  rw [List.append_nil] at hf hp
  obtain ⟨b, hb⟩ : ∃ b, pby (lst T n) = b := ⟨_, rfl⟩
  rw [hb] at hf hp hk ⊢
  have hp2 : (gX b).2.pos = b.length := by rw [← hp]; unfold gP; rw [if_pos hf]
  have hbg : Bgn b := by
    by_cases e : Bgn b
    · exact e
    · unfold gF at hf; rw [if_neg e] at hf; exact absurd hf (by decide)
  have hX : (gX b).2.F = 0 := by
    by_cases e : (gX b).2.F = 0
    · exact e
    · unfold gF at hf; rw [if_pos hbg, if_neg e] at hf; exact absurd hf (by omega)
  have hE : (gE b).F = 0 := nx_zero hX
  have h0 : (g0 b).F = 0 := st_zero hE
  have h1 : (nx ⟨0, b, 0⟩ 2 false).2.F = 0 := nx_zero h0
  have p0 : Pr ⟨0, b, 0⟩ ⟨0, b.take k, 0⟩ := .inr ⟨rfl, rfl, rfl, b.drop k, (List.take_append_drop k b).symm⟩
  obtain ⟨p1, _⟩ := nx_pr p0 h1
  obtain ⟨p2, hd2⟩ := nx_pr p1 h0
  have h10 : (gX (b.take k)).2.F = 10 := by
    by_cases e : (g0 (b.take k)).F = 0
    · have ec : gc (b.take k) = gc b := by unfold gc; rw [hd2 e]
      have p3 := st_pr p2 (gc b) hE
      obtain ⟨p4, _⟩ := nx_pr (n := 4) (f := true) p3 hX
      have e4 : (gX (b.take k)) = nx (st (g0 (b.take k)) (gc b)) 4 true := by unfold gX gE; rw [ec]
      rw [e4]
      rcases p4 with p4 | ⟨_, _, q, _⟩
      · exact p4
      · exfalso
        have hs := gX_sum (b.take k)
        rw [e4, List.length_take] at hs
        have q' : (nx (st (g0 (b.take k)) (gc b)) 4 true).2.pos = (gX b).2.pos := q
        rw [q', hp2] at hs
        omega
    · have e10 : (g0 (b.take k)).F = 10 := by
        rcases p2 with p | p
        · exact p
        · exact absurd p.1 e
      have e5 : gE (b.take k) = g0 (b.take k) := st_stop e _
      unfold gX
      rw [e5, nx_stop e]
      exact e10
  unfold gF
  rw [if_pos (bgn_take hbg k), if_neg (by rw [h10]; decide), h10]
  rfl
end Go.Proofs.YthjjonbkfkpkmaaDoor.Tg
namespace Go.Proofs.YthjjonbkfkpkmaaDoor.Inf
open Go.RowKit Gen Fld
open Crc hiding hid
set_option maxRecDepth 100000 in
theorem bgn_take {l : List Nat} (h : Bgn l) (k : Nat) : Bgn (l.take k) := by
  unfold Bgn at *
  rw [List.take_take, Nat.min_comm 4 k, ← List.take_take, h, List.take_take, List.length_take]
set_option maxRecDepth 100000 in
theorem get_cut (i : If) (hr : Rt i) {k : Nat} (hk : k < 19) : getE ((iby i).take k) = 10 := by
  obtain ⟨h, _⟩ := get_iby i hr []
  rw [List.append_nil] at h
  have hb : Bgn (iby i) := by
    by_cases e : Bgn (iby i)
    · exact e
    · unfold getE at h; rw [if_pos e] at h; exact absurd h (by decide)
  unfold getE
  rw [if_neg (fun e => e (bgn_take hb k)), if_pos (by rw [List.length_take]; omega)]
end Go.Proofs.YthjjonbkfkpkmaaDoor.Inf
namespace Go.Proofs.YthjjonbkfkpkmaaDoor.Fil
open Go.RowKit Gen
open Tl (il il_app rise TRt Tx)

set_option maxRecDepth 100000 in
theorem flat_ge {i : Inf.If} {L : Nat → List Nat} {at0 n : Nat} (hb : ber i L at0 n = 0) : ∀ k, k ≤ n → k ≤ (flat L k).length
  | 0, _ => Nat.zero_le _
  | k + 1, hk => by
    have e1 := flat_ge hb k (by omega)
    obtain ⟨_, had⟩ := ber_pre (ber_mono (k := k + 1) (n := n) (by omega) hb)
    obtain ⟨_, hl, _⟩ := ad_ok had
    show _ ≤ (flat L k ++ L k).length
    rw [List.length_append]
    omega
set_option maxRecDepth 100000 in
/-- Which block a place lies in. -/
theorem flat_find (L : Nat → List Nat) (p : Nat) : ∀ n, ∃ j, j ≤ n ∧ (flat L j).length ≤ p ∧ (j < n → p < (flat L j).length + (L j).length)
  | 0 => ⟨0, Nat.le_refl _, Nat.zero_le _, fun h => absurd h (Nat.lt_irrefl _)⟩
  | n + 1 => by
    obtain ⟨j, hj, h1, h2⟩ := flat_find L p n
    by_cases e : j < n
    · exact ⟨j, by omega, h1, fun _ => h2 e⟩
    · obtain rfl : j = n := by omega
      by_cases hp : p < (flat L j).length + (L j).length
      · exact ⟨j, by omega, h1, fun _ => hp⟩
      · refine ⟨j + 1, Nat.le_refl _, ?_, fun h => absurd h (Nat.lt_irrefl _)⟩
        show (flat L j ++ L j).length ≤ p
        rw [List.length_append]
        omega
set_option maxRecDepth 100000 in
theorem take_app {A B : List Nat} {k : Nat} (h : A.length ≤ k) : (A ++ B).take k = A ++ B.take (k - A.length) := by
  rw [List.take_append, List.take_of_length_le h]
set_option maxRecDepth 100000 in
/-- What Build puts together, cut off. -/
theorem back_cut {i : Inf.If} {T : Nat → Tg.Tag} {len : Nat} {L : Nat → List Nat} {n s : Nat} (h : bdE i T len L n = 0) (hs : s < 4294967296) (hat : (bpre i T len).length + (flat L n).length ≤ 1099511627776) (hn : n ≤ 16777216) {k : Nat} (hk : k < (bdB i T len L n s).length) :
    pfE ((bdB i T len L n s).take k) = 10 := by
  obtain ⟨hr, hc, hb⟩ := bd_ok h
  have htrt := bst_trt n hb (by omega) hn
  have hB : bdB i T len L n s = bpre i T len ++ flat L n ++ Tl.tby (bst i L (bpre i T len).length n).c s (bst i L (bpre i T len).length n).P := by
    unfold bdB
    rw [if_pos h, ← bpre_len i T len]
    rfl
  rw [hB] at hk ⊢
  obtain ⟨tb, htb⟩ : ∃ tb, Tl.tby (bst i L (bpre i T len).length n).c s (bst i L (bpre i T len).length n).P = tb := ⟨_, rfl⟩
  have htc : ∀ m, m < tb.length → Tl.tgE (tb.take m) = 10 := fun m hm => by rw [← htb] at hm ⊢; exact Tl.tby_cut _ _ _ htrt hs hm
  have htf : ∀ m, 0 < m → (tb.take m).getD 0 0 = 69 := fun m hm => by
    obtain ⟨m', rfl⟩ : ∃ m', m = m' + 1 := ⟨m - 1, by omega⟩
    rw [← htb]
    rfl
  rw [htb] at hk ⊢
  have hi0 : bpre i T len ++ flat L n ++ tb = Inf.iby i ++ (Tg.pby (Tg.lst T len) ++ (flat L n ++ tb)) := by unfold bpre; simp only [List.append_assoc]
  have hil := Inf.iby_len i
  by_cases h19 : k < 19
  · have e : (bpre i T len ++ flat L n ++ tb).take k = (Inf.iby i).take k := by rw [hi0]; exact List.take_append_of_le_length (by omega)
    rw [e]
    unfold pfE
    rw [Inf.get_cut i hr h19, if_pos (by decide)]
  have e19 : (bpre i T len ++ flat L n ++ tb).take k = Inf.iby i ++ (Tg.pby (Tg.lst T len) ++ (flat L n ++ tb)).take (k - 19) := by rw [hi0, take_app (by omega), hil]
  obtain ⟨hg1, hg2⟩ := Inf.get_iby i hr ((Tg.pby (Tg.lst T len) ++ (flat L n ++ tb)).take (k - 19))
  obtain ⟨b, hbb⟩ : ∃ b, (bpre i T len ++ flat L n ++ tb).take k = b := ⟨_, rfl⟩
  rw [← e19, hbb] at hg1 hg2
  have hd19 : b.drop 19 = (Tg.pby (Tg.lst T len) ++ (flat L n ++ tb)).take (k - 19) := by rw [← hbb, e19]; exact Inf.dp hil
  have hblen : b.length = k := by rw [← hbb, List.length_take]; omega
  rw [hbb]
  unfold pfE
  rw [hg1, if_neg (fun e => e rfl)]
  by_cases hpb : k - 19 < (Tg.pby (Tg.lst T len)).length
  · have e : b.drop 19 = (Tg.pby (Tg.lst T len)).take (k - 19) := by rw [hd19]; exact List.take_append_of_le_length (by omega)
    rw [e, Tg.get_cut hc hpb, if_pos (by decide)]
  have hd2 : b.drop 19 = Tg.pby (Tg.lst T len) ++ (flat L n ++ tb).take (k - 19 - (Tg.pby (Tg.lst T len)).length) := by rw [hd19, take_app (by omega)]
  obtain ⟨g1, g2, g3⟩ := Tg.get_pby hc ((flat L n ++ tb).take (k - 19 - (Tg.pby (Tg.lst T len)).length))
  rw [← hd2] at g1 g2 g3
  rw [g1, if_neg (fun e => e rfl)]
  have hps0 : ps0 b = bst i L (bpre i T len).length 0 := by
    unfold ps0
    rw [g3, bpre_len]
    rfl
  have hpl := bpre_len i T len
  obtain ⟨j, hj, hj1, hj2⟩ := flat_find L (k - (bpre i T len).length) n
  have ej := ber_mono (k := j) (n := n) hj hb
  have hfj := flat_len_le L hj
  obtain ⟨hbat, _⟩ := bst_ok j ej (by omega)
  have hge := flat_ge hb j hj
  -- what stands behind the first j blocks
  obtain ⟨R, hR, hRk⟩ : ∃ R, b = bpre i T len ++ flat L j ++ R ∧ R.length = k - (bst i L (bpre i T len).length j).at_ ∧ (j < n → R = (L j).take R.length) ∧ (j = n → R = tb.take R.length) := by
    by_cases hjn : j < n
    · obtain ⟨Q, hQ⟩ := flat_split L j n hjn
      have hlt := hj2 hjn
      have e : b = bpre i T len ++ flat L j ++ (L j).take (k - (bst i L (bpre i T len).length j).at_) := by
        rw [← hbb, hQ]
        have e1 : bpre i T len ++ (flat L j ++ (L j ++ Q)) ++ tb = (bpre i T len ++ flat L j) ++ (L j ++ (Q ++ tb)) := by simp only [List.append_assoc]
        rw [e1, take_app (by rw [List.length_append]; omega), List.length_append, ← hbat, List.take_append_of_le_length (by rw [hbat]; omega)]
      have hl : ((L j).take (k - (bst i L (bpre i T len).length j).at_)).length = k - (bst i L (bpre i T len).length j).at_ := by rw [List.length_take, hbat]; omega
      exact ⟨_, e, hl, fun _ => by rw [hl], fun h => absurd h (by omega)⟩
    · obtain rfl : j = n := by omega
      have e : b = bpre i T len ++ flat L j ++ tb.take (k - (bst i L (bpre i T len).length j).at_) := by
        rw [← hbb, take_app (by rw [List.length_append]; omega), List.length_append, ← hbat]
      have hl : (tb.take (k - (bst i L (bpre i T len).length j).at_)).length = k - (bst i L (bpre i T len).length j).at_ := by
        rw [List.length_take, hbat]
        simp only [List.length_append] at hk
        omega
      exact ⟨_, e, hl, fun h => absurd h (Nat.lt_irrefl _), fun _ => by rw [hl]⟩
  obtain ⟨hRl, hRa, hRb⟩ := hRk
  have hdr : b.drop (bst i L (bpre i T len).length j).at_ = R := by
    rw [hbat, hR]
    exact Inf.dp (by rw [List.length_append])
  have hgd : b.getD (bst i L (bpre i T len).length j).at_ 0 = R.getD 0 0 := by
    rw [← hdr, List.getD_eq_getElem?_getD, List.getD_eq_getElem?_getD, List.getElem?_drop, Nat.add_zero]
  have hrun := prun_bst (n := j) (rest := R) ej (by omega) j 0 (by omega) (b.length + 1) (by omega)
  rw [← hR] at hrun
  have hpsr : psR b = prun i b (b.length - j + 1) (bst i L (bpre i T len).length j) := by
    unfold psR
    rw [hg2, hps0, hrun, show b.length + 1 - j = b.length - j + 1 by omega]
  have hatk : (bst i L (bpre i T len).length j).at_ ≤ k := by rw [hbat]; omega
  by_cases hz : R.length = 0
  · rw [hpsr, prun_end (by omega), if_pos (show (10 : Int) ≠ 0 from by decide)]
  by_cases hjn : j < n
  · have hlt := hj2 hjn
    obtain ⟨_, had⟩ := ber_pre (ber_mono (k := j + 1) (n := n) (by omega) hb)
    obtain ⟨ho, hlen, _⟩ := ad_ok had
    have hRlt : R.length < (L j).length := by rw [hRl, hbat]; omega
    have ho10 : Head.opE R = 10 := by rw [hRa hjn]; exact Head.op_cut ho (by omega) hRlt
    have h222 : R.getD 0 0 = 222 := by
      rw [hRa hjn, List.getD_eq_getElem?_getD, List.getElem?_take_of_lt (by omega), ← List.getD_eq_getElem?_getD]
      exact Head.op_first ho
    have e : psR b = (bst i L (bpre i T len).length j, 10) := by
      have hrb : rbE i (bst i L (bpre i T len).length j) R = 10 := by
        unfold rbE
        rw [ho10]
        exact if_pos (show (10 : Int) ≠ 0 from by decide)
      rw [hpsr, prun_step (by omega) (by rw [hgd, h222]; decide), hdr, hrb]
      exact if_pos (show (10 : Int) ≠ 0 from by decide)
    rw [e, if_pos (show (10 : Int) ≠ 0 from by decide)]
  · obtain rfl : j = n := by omega
    have hRt := hRb rfl
    have h69 : R.getD 0 0 = 69 := by rw [hRt]; exact htf _ (by omega)
    have e : psR b = (bst i L (bpre i T len).length j, 0) := by rw [hpsr, prun_tail (by omega) (by rw [hgd, h69])]
    rw [e, if_neg (fun e => e rfl), hdr]
    unfold tlE
    have ht : Tl.tgE R = 10 := by
      rw [hRt]
      refine htc _ ?_
      rw [hRl, hbat]
      simp only [List.length_append] at hk
      omega
    rw [ht, if_pos (by decide)]
end Go.Proofs.YthjjonbkfkpkmaaDoor.Fil
