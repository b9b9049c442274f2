/- Of lists: a tail's bytes with more behind them are got as they were; of a tail that is cut short the end comes too early. Conditions: the tail is right. -/
import Derived.Test.YthjjonbkfkpkmaaDoorY12
import Derived.Test.YthjjonbkfkpkmaaDoorY10
import Derived.Test.YthjjonbkfkpkmaaDoorY34
import Derived.Test.YthjjonbkfkpkmaaDoorY29
import Derived.Test.YthjjonbkfkpkmaaDoorY25
namespace Go.Proofs.YthjjonbkfkpkmaaDoor.Tl
open Go.RowKit Gen Fld Inf
open Crc hiding hid

set_option maxRecDepth 100000 in
theorem rise_in : ∀ (p : Int) (l : List Int), rise p l → -1 ≤ p → ∀ x ∈ l, 0 ≤ x ∧ x ≤ 1099511627775
  | _, [], _, _ => fun x h => by cases h
  | p, y :: t, h, hp => fun x hx => by
    have h1 : (p + 1 ≤ y ∧ y ≤ 1099511627775) ∧ rise y t := h
    rcases List.mem_cons.1 hx with rfl | hx
    · omega
    · exact rise_in y t h1.2 (by omega) x hx
set_option maxRecDepth 100000 in
theorem tby_at (c : Int) (s : Nat) (P : List Int) (more : List Nat) : tby c s P ++ more = tpre c s P ++ (le (cs (tpre c s P)) 4 ++ more) := by unfold tby smd; rw [List.append_assoc]
set_option maxRecDepth 100000 in
theorem tbgn_tby (c : Int) (s : Nat) (P : List Int) (more : List Nat) : tBgn (tby c s P ++ more) := by
  unfold tBgn
  have h : tby c s P ++ more = [69, 78] ++ (le c.toNat 4 ++ le s 4 ++ le P.length 4 ++ pl P ++ (le (cs (tpre c s P)) 4 ++ more)) := by
    rw [tby_at]
    show thd c s P.length ++ pl P ++ _ = _
    unfold thd
    simp only [List.append_assoc]
  have hl : 2 ≤ (tby c s P ++ more).length := by rw [h, List.length_append]; show 2 ≤ 2 + _; omega
  rw [List.take_of_length_le (l := [69, 78]) hl, h]
  rfl
set_option maxRecDepth 100000 in
theorem tbgn_take {l : List Nat} (h : tBgn l) (k : Nat) : tBgn (l.take k) := by
  unfold tBgn at *
  rw [List.take_take, Nat.min_comm 2 k, ← List.take_take, h, List.take_take, List.length_take]
set_option maxRecDepth 100000 in
theorem at_cut {l : List Nat} {k j n : Nat} (h : j + n ≤ k) : at_ (l.take k) j n = at_ l j n := by
  unfold at_
  rw [List.drop_take, List.take_take, Nat.min_eq_left (by omega)]
set_option maxRecDepth 100000 in
theorem get_tby (c : Int) (s : Nat) (P : List Int) (hr : TRt c P) (hs : s < 4294967296) (more : List Nat) :
    tgE (tby c s P ++ more) = 0 ∧ np (tby c s P ++ more) = P.length ∧ (at_ (tby c s P ++ more) 2 4 : Int) = c ∧ at_ (tby c s P ++ more) 6 4 = s ∧ plc (tby c s P ++ more) P.length = P := by
  obtain ⟨⟨hc0, hc1⟩, hn, hri⟩ := hr
  have hin := rise_in (-1) P hri (by decide)
  have hlen : (tby c s P ++ more).length = 18 + 5 * P.length + more.length := by rw [List.length_append, tby_len]
  have hbg := tbgn_tby c s P more
  obtain ⟨l, hl⟩ : ∃ l, l = tby c s P ++ more := ⟨_, rfl⟩
  have h0 : l = [69, 78] ++ (le c.toNat 4 ++ (le s 4 ++ (le P.length 4 ++ (pl P ++ (le (cs (tpre c s P)) 4 ++ more))))) := by
    rw [hl, tby_at]
    show thd c s P.length ++ pl P ++ _ = _
    unfold thd
    simp only [List.append_assoc]
  have a1 : at_ l 2 4 = c.toNat := at_mid (P := [69, 78]) h0 rfl (by omega)
  have a2 : at_ l 6 4 = s := at_mid (P := [69, 78] ++ le c.toNat 4) (R := le P.length 4 ++ (pl P ++ (le (cs (tpre c s P)) 4 ++ more))) (by rw [h0]; simp only [List.append_assoc]) (by rw [List.length_append, le_len]; rfl) (by omega)
  have a3 : np l = P.length := at_mid (P := [69, 78] ++ le c.toNat 4 ++ le s 4) (R := pl P ++ (le (cs (tpre c s P)) 4 ++ more)) (by rw [h0]; simp only [List.append_assoc]) (by rw [List.length_append, List.length_append, le_len, le_len]; rfl) (by omega)
  have a4 : plc l P.length = P := by
    refine List.ext_getElem (plc_len _ _) fun j h1 h2 => ?_
    have e1 := plc_at l P.length j (by rw [plc_len] at h1; exact h1)
    rw [List.getElem?_eq_getElem h1] at e1
    rw [Option.some.inj e1]
    have hx := hin P[j] (List.getElem_mem h2)
    have e3 : P = P.take j ++ (P[j] :: P.drop (j + 1)) := by rw [← List.drop_eq_getElem_cons h2, List.take_append_drop]
    have e2 : at_ l (14 + 5 * j) 5 = P[j].toNat := by
      refine at_mid (P := [69, 78] ++ le c.toNat 4 ++ le s 4 ++ le P.length 4 ++ pl (P.take j)) (R := pl (P.drop (j + 1)) ++ (le (cs (tpre c s P)) 4 ++ more)) ?_ ?_ (by omega)
      · have e4 : pl P = pl (P.take j) ++ (le P[j].toNat 5 ++ pl (P.drop (j + 1))) := (congrArg pl e3).trans (pl_app _ _)
        rw [h0, e4]
        simp only [List.append_assoc]
      · simp only [List.length_append, le_len, pl_len, List.length_take]
        show 2 + 4 + 4 + 4 + _ = _
        omega
    rw [e2]
    omega
  have a5 : tSm l := by
    unfold tSm
    rw [a3]
    have h1 : l = tpre c s P ++ (le (cs (tpre c s P)) 4 ++ more) := by rw [hl, tby_at]
    have h2 : at_ l (14 + 5 * P.length) 4 = cs (tpre c s P) := at_mid h1 (tpre_len c s P) (cs_lt (tpre_lt c s P))
    rw [h2, h1, tk (tpre_len c s P)]
  rw [← hl] at hlen hbg ⊢
  refine ⟨?_, a3, by rw [a1]; omega, a2, a4⟩
  have hlg : lgE l = 0 := by
    unfold lgE
    rw [a3, if_neg (by omega), if_neg (by omega), if_neg (by omega)]
  unfold tgE
  rw [if_neg (fun e => e hbg), hlg, if_neg (fun e => e rfl), if_neg (fun e => e a5), a1, a3, a4, if_neg (fun e => e ⟨⟨by omega, by omega⟩, hn, hri⟩)]
set_option maxRecDepth 100000 in
theorem tby_cut (c : Int) (s : Nat) (P : List Int) (hr : TRt c P) (hs : s < 4294967296) {k : Nat} (hk : k < (tby c s P).length) : tgE ((tby c s P).take k) = 10 := by
  obtain ⟨_, hnp, _⟩ := get_tby c s P hr hs []
  rw [List.append_nil] at hnp
  have hbg := tbgn_take (by have h := tbgn_tby c s P []; rw [List.append_nil] at h; exact h) k
  have hn := hr.2.1
  rw [tby_len] at hk
  have hlk : ((tby c s P).take k).length = k := by rw [List.length_take, tby_len]; omega
  have hlg : lgE ((tby c s P).take k) = 10 := by
    unfold lgE
    rw [hlk]
    by_cases h14 : k < 14
    · rw [if_pos h14]
    · have e : np ((tby c s P).take k) = P.length := by
        rw [← hnp]
        unfold np
        exact at_cut (by omega)
      rw [if_neg h14, e, if_neg (by omega), if_pos hk]
  unfold tgE
  rw [if_neg (fun e => e hbg), hlg, if_pos (by decide)]
end Go.Proofs.YthjjonbkfkpkmaaDoor.Tl
namespace Go.Proofs.YthjjonbkfkpkmaaDoor.Fil
open Go.RowKit Gen
open Tl (il il_app rise TRt Tx)

/-- The lengths of the blocks that begin at places. -/
def psum (b : List Nat) (P : List Int) : Int := (P.map fun p => (Head.opH (b.drop p.toNat)).ln).sum
set_option maxRecDepth 100000 in
theorem psum_snoc (b : List Nat) (P : List Int) (p : Int) : psum b (P ++ [p]) = psum b P + (Head.opH (b.drop p.toNat)).ln := by
  unfold psum
  rw [List.map_append, List.sum_append]
  simp
/-- Of a state: what is counted, and that every block noted may be opened. -/
structure PI (b : List Nat) (s : Ns) : Prop where
  c : s.c = psum b s.P
  o : ∀ p ∈ s.P, ∃ a : Nat, p = (a : Int) ∧ Head.opE (b.drop a) = 0
set_option maxRecDepth 100000 in
theorem PI.next {b : List Nat} {s : Ns} {i : Inf.If} (h : PI b s) (e : Head.opE (b.drop s.at_) = 0) : PI b (s.next i (b.drop s.at_)) := by
  refine ⟨?_, fun p hp => ?_⟩
  · show s.c + (Head.opH (b.drop s.at_)).ln = psum b (s.P ++ [(s.at_ : Int)])
    rw [psum_snoc, h.c, Int.toNat_natCast]
  · rcases List.mem_append.1 (show p ∈ s.P ++ [(s.at_ : Int)] from hp) with hp | hp
    · exact h.o p hp
    · exact ⟨s.at_, by simpa using hp, e⟩
set_option maxRecDepth 100000 in
theorem prun_pi (i : Inf.If) (b : List Nat) : ∀ (f : Nat) (s : Ns), PI b s → PI b (prun i b f s).1
  | 0, _, h => h
  | f + 1, s, h => by
    unfold prun
    split
    · exact h
    split
    · exact h
    split
    · exact h
    rename_i _ _ h3
    split
    · exact h
    exact prun_pi i b f _ (h.next (Decidable.of_not_not h3))
set_option maxRecDepth 100000 in
theorem psR_pi (b : List Nat) : PI b (psR b).1 := prun_pi _ _ _ _ ⟨rfl, fun p hp => by cases hp⟩
set_option maxRecDepth 100000 in
theorem lsum_take {w : World} {b : List Nat} {P : List Int} {X : List Bv} (h : Xs w b P X) : ∀ k, k ≤ P.length → lsum X k = psum b (P.take k)
  | 0, _ => rfl
  | k + 1, hk => by
    have ih := lsum_take h k (by omega)
    have hkx : k < X.length := by rw [h.len]; omega
    obtain ⟨a, ha, hx⟩ := h.ok k X[k] (List.getElem?_eq_getElem hkx)
    have ht : P.take (k + 1) = P.take k ++ [(a : Int)] := by rw [List.take_add_one, ha]; rfl
    rw [ht, psum_snoc, ← ih, Int.toNat_natCast, ← hx.h]
    show lsum X k + lnAt X k = _
    unfold lnAt
    rw [List.getElem?_eq_getElem hkx]
    rfl
set_option maxRecDepth 100000 in
theorem lsum_all {w : World} {b : List Nat} {X : List Bv} (h : Xs w b (psR b).1.P X) (hn : (psR b).1.P.length = (psR b).1.n) : lsum X (psR b).1.n = (psR b).1.c := by
  rw [lsum_take h _ (by omega), ← hn, List.take_length, (psR_pi b).c]
set_option maxRecDepth 100000 in
theorem lens_ok {w : World} {b : List Nat} {X : List Bv} (h : Xs w b (psR b).1.P X) : ∀ x ∈ X, 1 ≤ x.h.ln ∧ x.h.ln ≤ 65536 := by
  intro x hx
  obtain ⟨j, hj⟩ := List.getElem?_of_mem hx
  obtain ⟨a, ha, k⟩ := h.ok j x hj
  obtain ⟨a', e, ho⟩ := (psR_pi b).o _ (List.mem_of_getElem? ha)
  have hr := op_ok ho
  have e2 : a = a' := by omega
  subst e2
  rw [k.h]
  have h1 := hr.1.1.2.2.1
  have h2 := hr.1.1.2.2.2.1
  exact ⟨h1, h2⟩
end Go.Proofs.YthjjonbkfkpkmaaDoor.Fil
namespace Go.Proofs.YthjjonbkfkpkmaaDoor.Tg
open Go.RowKit Gen Fld
open Crc hiding hid

set_option maxRecDepth 100000 in
theorem fi_congr {p q : Nat → Bool} : ∀ {n : Nat}, (∀ i, i < n → p i = q i) → fi p n = fi q n
  | 0, _ => rfl
  | n + 1, h => by unfold fi; rw [fi_congr (fun i hi => h i (by omega)), h n (by omega)]
set_option maxRecDepth 100000 in
theorem kd_congr {T U : Nat → Tag} {i : Nat} (h : ∀ j, j ≤ i → T j = U j) : kd T i = kd U i := by
  unfold kd
  rw [h i (Nat.le_refl _), fx_congr (q := lk U (fold (U i).k)) (fun j hj => by unfold lk; rw [h j (by omega)])]
set_option maxRecDepth 100000 in
theorem chk_congr {T U : Nat → Tag} {n : Nat} (h : ∀ j, j < n → T j = U j) : chk T n = chk U n := by
  unfold chk
  by_cases h64 : 64 < n
  · rw [if_pos h64, if_pos h64]
  · rw [if_neg h64, if_neg h64, fi_congr (q := bad U) (fun i hi => by unfold bad; rw [kd_congr (fun j hj => h j (by omega))])]
    rcases fi_cases (bad U) n with ⟨h1, _⟩ | ⟨k, h1, hk, _⟩
    · rw [h1]
    · rw [h1]
      show (_, _) = (_, _)
      rw [kd_congr (fun j hj => h j (by omega))]
set_option maxRecDepth 100000 in
theorem nx_app (m r : List Nat) (p : Nat) (n : Nat) (f : Bool) (hm : m.length = n) (hf : f = true → 1 ≤ n ∧ n ≤ 8) : nx ⟨0, m ++ r, p⟩ (n : Int) f = (m, ⟨0, r, p + n⟩) := by
  rw [nx_ok (s := ⟨0, m ++ r, p⟩) rfl hf (by show n ≤ (m ++ r).length; rw [List.length_append]; omega)]
  show ((m ++ r).take n, TS.mk 0 ((m ++ r).drop n) (p + n)) = _
  rw [← hm, List.take_left, List.drop_left]
set_option maxRecDepth 100000 in
theorem lev_lev {v n k : Nat} (hk : 2 ^ (8 * n) = k) (h : v < k) : lev (le v n) = v := by rw [lev_le, hk, Nat.mod_eq_of_lt h]
set_option maxRecDepth 100000 in
theorem tx_app (s : ByteArray) (r : List Nat) (p n k : Nat) (hn : 1 ≤ n ∧ n ≤ 8) (hk : 2 ^ (8 * n) = k) (hs : s.size < k) : tx ⟨0, le s.size n ++ (sb s ++ r), p⟩ (n : Int) = (sb s, ⟨0, r, p + n + s.size⟩) := by
  have h1 := nx_app (le s.size n) (sb s ++ r) p n true (le_len _ _) (fun _ => hn)
  have h2 := nx_app (sb s) r (p + n) s.size false (sb_len s) (fun e => by cases e)
  unfold tx
  rw [h1, lev_lev hk hs, if_neg (by show ¬ (sb s ++ r).length < s.size; rw [List.length_append, sb_len]; omega)]
  exact h2
set_option maxRecDepth 100000 in
theorem tag_app (t : Tag) (ht : Ft t) (r : List Nat) (p : Nat) : tx ⟨0, tby t ++ r, p⟩ 1 = (sb t.k, ⟨0, le t.v.size 2 ++ (sb t.v ++ r), p + 1 + t.k.size⟩) ∧ tx ⟨0, le t.v.size 2 ++ (sb t.v ++ r), p + 1 + t.k.size⟩ 2 = (sb t.v, ⟨0, r, p + (tby t).length⟩) := by
  have e1 : tby t ++ r = le t.k.size 1 ++ (sb t.k ++ (le t.v.size 2 ++ (sb t.v ++ r))) := by unfold tby; simp only [List.append_assoc]
  rw [e1, tby_len, show p + (t.k.size + t.v.size + 3) = p + 1 + t.k.size + 2 + t.v.size from by omega]
  exact ⟨tx_app t.k _ p 1 256 (by decide) (by decide) ht.1, tx_app t.v r _ 2 65536 (by decide) (by decide) ht.2⟩
set_option maxRecDepth 100000 in
theorem st_app (L : List Tag) (hL : ∀ t ∈ L, Ft t) (r : List Nat) (p : Nat) : ∀ k, k ≤ L.length → st ⟨0, tbs L ++ r, p⟩ k = ⟨0, tbs (L.drop k) ++ r, p + (tbs (L.take k)).length⟩
  | 0, _ => rfl
  | k + 1, hk => by
    have ih := st_app L hL r p k (by omega)
    have hd : L.drop k = L[k] :: L.drop (k + 1) := List.drop_eq_getElem_cons (by omega)
    have hk2 : L.take (k + 1) = L.take k ++ [L[k]] := List.take_succ_eq_append_getElem (by omega)
    have ht := hL L[k] (List.getElem_mem (by omega))
    have h1 := tag_app L[k] ht (tbs (L.drop (k + 1)) ++ r) (p + (tbs (L.take k)).length)
    show (tx (tx (st ⟨0, tbs L ++ r, p⟩ k) 1).2 2).2 = _
    rw [ih, hd]
    show (tx (tx ⟨0, (tby L[k] ++ tbs (L.drop (k + 1))) ++ r, _⟩ 1).2 2).2 = _
    rw [List.append_assoc, h1.1]
    show (tx ⟨0, _, _⟩ 2).2 = _
    rw [h1.2, hk2, tbs_app, List.length_append]
    show TS.mk 0 _ (_ + _ + (tby L[k]).length) = TS.mk 0 _ (_ + (_ + (tby L[k] ++ []).length))
    rw [List.append_nil, Nat.add_assoc]
set_option maxRecDepth 100000 in
theorem tgx_app (L : List Tag) (hL : ∀ t ∈ L, Ft t) (r : List Nat) (p : Nat) (k : Nat) (hk : k < L.length) : tgx ⟨0, tbs L ++ r, p⟩ k = L[k] := by
  have ih := st_app L hL r p k (by omega)
  have hd : L.drop k = L[k] :: L.drop (k + 1) := List.drop_eq_getElem_cons (by omega)
  have ht := hL L[k] (List.getElem_mem (by omega))
  have h1 := tag_app L[k] ht (tbs (L.drop (k + 1)) ++ r) (p + (tbs (L.take k)).length)
  unfold tgx
  rw [ih, hd]
  show Tag.mk (tos (tx ⟨0, (tby L[k] ++ tbs (L.drop (k + 1))) ++ r, _⟩ 1).1) (tos (tx (tx ⟨0, (tby L[k] ++ tbs (L.drop (k + 1))) ++ r, _⟩ 1).2 2).1) = _
  rw [List.append_assoc, h1.1]
  show Tag.mk (tos (sb L[k].k)) (tos (tx ⟨0, _, _⟩ 2).1) = _
  rw [h1.2, tos_sb]
  show Tag.mk _ (tos (sb L[k].v)) = _
  rw [tos_sb]
set_option maxRecDepth 100000 in
/-- What is read from the bytes of right tags and more. -/
theorem get_pby {T : Nat → Tag} {n : Nat} (h : (chk T n).2 = 0) (more : List Nat) : gF (pby (lst T n) ++ more) = 0 ∧ gL (pby (lst T n) ++ more) = lst T n ∧ gP (pby (lst T n) ++ more) = (pby (lst T n)).length := by
  have hn := chk_few h
  have hF : ∀ t ∈ lst T n, Ft t := fun t ht => by
    obtain ⟨i, hi⟩ := List.mem_iff_getElem?.1 ht
    have hil := (List.getElem?_eq_some_iff.1 hi).1
    rw [lst_len] at hil
    rw [lst_at T n i hil] at hi
    cases hi
    exact bad_ft (chk_zero h i hil)
  have hll := lst_len T n
  obtain ⟨L, hL⟩ : ∃ L, L = lst T n := ⟨_, rfl⟩
  rw [← hL] at hF hll ⊢
  have hTL : ∀ i (hi : i < n), L[i]'(by omega) = T i := fun i hi => by
    have := lst_at T n i hi
    rw [← hL] at this
    exact (List.getElem?_eq_some_iff.1 this).2
  obtain ⟨B, hB⟩ : ∃ B, B = pby L ++ more := ⟨_, rfl⟩
  have e1 : B = [84, 71] ++ (le n 1 ++ (tbs L ++ (le (cs (bod L)) 4 ++ more))) := by rw [hB]; unfold pby bod; rw [hll]; simp only [List.append_assoc]
  have hb0 : Bgn B := by unfold Bgn; rw [e1]; rfl
  have hbl : (bod L).length = 3 + (tbs L).length := by unfold bod; simp only [List.length_append, le_len, List.length_cons, List.length_nil]
  have n1 := nx_app [84, 71] (le n 1 ++ (tbs L ++ (le (cs (bod L)) 4 ++ more))) 0 2 false rfl (fun e => by cases e)
  have n2 := nx_app (le n 1) (tbs L ++ (le (cs (bod L)) 4 ++ more)) 2 1 true (le_len _ _) (fun _ => by decide)
  rw [← e1] at n1
  have q0 : nx (nx ⟨0, B, 0⟩ 2 false).2 1 true = (le n 1, ⟨0, tbs L ++ (le (cs (bod L)) 4 ++ more), 3⟩) := by
    rw [show ((2 : Nat) : Int) = 2 from rfl] at n1
    rw [n1]; exact n2
  have c0 : gc B = n := by unfold gc; rw [q0]; exact lev_lev (k := 256) (by decide) (by omega)
  have s0 : g0 B = ⟨0, tbs L ++ (le (cs (bod L)) 4 ++ more), 3⟩ := by unfold g0; rw [q0]
  have E0 : gE B = ⟨0, le (cs (bod L)) 4 ++ more, (bod L).length⟩ := by
    unfold gE
    rw [s0, c0, st_app L hF _ 3 n (by omega), List.drop_of_length_le (by omega), List.take_of_length_le (by omega), hbl]
    rfl
  have X0 : gX B = (le (cs (bod L)) 4, ⟨0, more, (bod L).length + 4⟩) := by
    unfold gX
    rw [E0]
    exact nx_app (le (cs (bod L)) 4) more _ 4 true (le_len _ _) (fun _ => by decide)
  have T0 : ∀ i, i < n → gT B i = T i := fun i hi => by
    unfold gT
    rw [s0, tgx_app L hF _ 3 i (by omega), hTL i hi]
  have tk : B.take (bod L).length = bod L := by
    rw [hB]; unfold pby; rw [List.append_assoc, List.take_left]
  have F0 : gF B = 0 := by
    rw [gF_chk hb0 (by rw [X0]) (by rw [X0, E0, tk]; exact lev_lev (k := 4294967296) (by decide) (cs_lt (bod_lt L))), c0, chk_congr T0, h]
  rw [← hB]
  refine ⟨F0, ?_, ?_⟩
  · unfold gL
    rw [F0, if_pos rfl, c0, hL]
    apply List.ext_getElem?
    intro i
    by_cases hi : i < n
    · rw [lst_at _ _ _ hi, lst_at _ _ _ hi, T0 i hi]
    · rw [List.getElem?_eq_none (by rw [lst_len]; omega), List.getElem?_eq_none (by rw [lst_len]; omega)]
  · unfold gP
    rw [F0, if_pos rfl, X0]
    show (bod L).length + 4 = _
    unfold pby
    rw [List.length_append, le_len]
end Go.Proofs.YthjjonbkfkpkmaaDoor.Tg
namespace Go.Proofs.YthjjonbkfkpkmaaDoor.Fil
open Go.RowKit Gen
open Tl (il il_app rise TRt Tx)

/-- The bytes ahead of the blocks. -/
def bpre (i : Inf.If) (T : Nat → Tg.Tag) (len : Nat) : List Nat := Inf.iby i ++ Tg.pby (Tg.lst T len)
set_option maxRecDepth 100000 in
theorem bpre_len (i : Inf.If) (T : Nat → Tg.Tag) (len : Nat) : (bpre i T len).length = 19 + (Tg.pby (Tg.lst T len)).length := by
  unfold bpre
  rw [List.length_append, Inf.iby_len]
set_option maxRecDepth 100000 in
theorem bd_ok {i : Inf.If} {T : Nat → Tg.Tag} {len : Nat} {L : Nat → List Nat} {n : Nat} (h : bdE i T len L n = 0) :
    Inf.Rt i ∧ (Tg.chk T len).2 = 0 ∧ ber i L (bpre i T len).length n = 0 := by
  rw [bpre_len]
  unfold bdE at h
  by_cases h1 : Inf.Rt i
  · rw [if_neg (fun e => e h1)] at h
    by_cases h2 : (Tg.chk T len).2 = 0
    · rw [if_neg (fun e => e h2)] at h
      exact ⟨h1, h2, h⟩
    · rw [if_pos h2] at h; exact absurd h h2
  · rw [if_pos h1] at h; exact absurd h (by decide)
set_option maxRecDepth 100000 in
theorem flat_split (L : Nat → List Nat) (k n : Nat) (h : k < n) : ∃ R, flat L n = flat L k ++ (L k ++ R) := by
  induction n with
  | zero => omega
  | succ n ih =>
    by_cases e : k = n
    · subst e
      exact ⟨[], by show flat L k ++ L k = _; rw [List.append_nil]⟩
    · obtain ⟨R, hR⟩ := ih (by omega)
      exact ⟨R ++ L n, by show flat L n ++ L n = _; rw [hR]; simp only [List.append_assoc]⟩
set_option maxRecDepth 100000 in
theorem flat_len_le (L : Nat → List Nat) {k n : Nat} (h : k ≤ n) : (flat L k).length ≤ (flat L n).length := by
  induction n with
  | zero => rw [show k = 0 by omega]; exact Nat.le_refl _
  | succ n ih =>
    by_cases e : k = n + 1
    · rw [e]; exact Nat.le_refl _
    · have := ih (by omega)
      show _ ≤ (flat L n ++ L n).length
      rw [List.length_append]
      omega
set_option maxRecDepth 100000 in
/-- The walk over blocks that stand one behind the other, from the first on. -/
theorem prun_bst {i : Inf.If} {L : Nat → List Nat} {n : Nat} {pre rest : List Nat} (hE : ber i L pre.length n = 0) (hat : pre.length + (flat L n).length ≤ 1099511627776) :
    ∀ (m k : Nat), k + m = n → ∀ f, m < f → prun i (pre ++ flat L n ++ rest) f (bst i L pre.length k) = prun i (pre ++ flat L n ++ rest) (f - m) (bst i L pre.length n)
  | 0, k, hk, f, _ => by rw [show k = n by omega]; rfl
  | m + 1, k, hk, f, hf => by
    have ek := ber_mono (k := k) (n := n) (by omega) hE
    have ek1 := ber_mono (k := k + 1) (n := n) (by omega) hE
    obtain ⟨_, had⟩ := ber_pre ek1
    obtain ⟨ho, hlen, hnx, _, _, _⟩ := ad_ok had
    have hfl := flat_len_le L (show k ≤ n by omega)
    obtain ⟨hbat, _⟩ := bst_ok k ek (by omega)
    obtain ⟨R, hR⟩ := flat_split L k n (by omega)
    have hb : (pre ++ flat L n ++ rest).drop (bst i L pre.length k).at_ = L k ++ (R ++ rest) := by
      rw [hbat, hR]
      have e : pre ++ (flat L k ++ (L k ++ R)) ++ rest = (pre ++ flat L k) ++ (L k ++ (R ++ rest)) := by simp only [List.append_assoc]
      rw [e]
      exact Inf.dp (by rw [List.length_append])
    obtain ⟨a1, a2, a3, a4, a5⟩ := Head.op_app ho (R ++ rest)
    have hlk : 0 < (L k).length := by omega
    have hlt : (bst i L pre.length k).at_ < (pre ++ flat L n ++ rest).length := by
      have h1 := congrArg List.length hb
      simp only [List.length_drop, List.length_append] at h1 ⊢
      omega
    have h222 : (pre ++ flat L n ++ rest).getD (bst i L pre.length k).at_ 0 = 222 := by
      have h1 : ((pre ++ flat L n ++ rest).drop (bst i L pre.length k).at_).getD 0 0 = (pre ++ flat L n ++ rest).getD (bst i L pre.length k).at_ 0 := by
        rw [List.getD_eq_getElem?_getD, List.getD_eq_getElem?_getD, List.getElem?_drop, Nat.add_zero]
      rw [← h1, hb, List.getD_eq_getElem?_getD, List.getElem?_append_left hlk, ← List.getD_eq_getElem?_getD]
      exact Head.op_first ho
    obtain ⟨f', rfl⟩ : ∃ f', f = f' + 1 := ⟨f - 1, by omega⟩
    rw [prun, if_neg (by omega), h222, if_neg (by decide), hb, a1, if_neg (fun e => e rfl), a2, bst_n, hnx, if_neg (fun e => e rfl)]
    have en : (bst i L pre.length k).next i (L k ++ (R ++ rest)) = bst i L pre.length (k + 1) := by
      show _ = (bst i L pre.length k).next i (L k)
      unfold Ns.next
      rw [a2, a5]
    rw [en, prun_bst hE hat m (k + 1) (by omega) f' (by omega)]
    rw [show f' + 1 - (m + 1) = f' - m by omega]
set_option maxRecDepth 100000 in
/-- What Build puts together, with more behind it. -/
theorem back_lists {i : Inf.If} {T : Nat → Tg.Tag} {len : Nat} {L : Nat → List Nat} {n s : Nat} (h : bdE i T len L n = 0) (hs : s < 4294967296) (hat : (bpre i T len).length + (flat L n).length ≤ 1099511627776) (hn : n ≤ 16777216) (more : List Nat) :
    Inf.getI (bdB i T len L n s ++ more) = i ∧ Tg.gL ((bdB i T len L n s ++ more).drop 19) = Tg.lst T len ∧ psR (bdB i T len L n s ++ more) = (bst i L (bpre i T len).length n, 0) ∧
      (bdB i T len L n s ++ more).drop (bst i L (bpre i T len).length n).at_ = Tl.tby (bst i L (bpre i T len).length n).c s (bst i L (bpre i T len).length n).P ++ more ∧
      pfE (bdB i T len L n s ++ more) = if more = [] then 0 else 62 := by
  obtain ⟨hr, hc, hb⟩ := bd_ok h
  obtain ⟨hbat, _⟩ := bst_ok n hb (by omega)
  have htrt := bst_trt n hb (by omega) hn
  have hbn := bst_n i L (bpre i T len).length n
  have hbP := bst_P i L (bpre i T len).length n
  obtain ⟨st, hst⟩ : ∃ st, bst i L (bpre i T len).length n = st := ⟨_, rfl⟩
  rw [hst] at hbat htrt hbn hbP
  obtain ⟨t1, t2, t3, t4, t5⟩ := Tl.get_tby st.c s st.P htrt hs more
  have hB : bdB i T len L n s ++ more = bpre i T len ++ flat L n ++ (Tl.tby st.c s st.P ++ more) := by
    have e : bdB i T len L n s = Inf.iby i ++ Tg.pby (Tg.lst T len) ++ flat L n ++ Tl.tby st.c s st.P := by
      unfold bdB
      rw [if_pos h, ← bpre_len i T len, hst]
    rw [e]
    unfold bpre
    simp only [List.append_assoc]
  obtain ⟨b, hbb⟩ : ∃ b, bdB i T len L n s ++ more = b := ⟨_, rfl⟩
  rw [hbb] at hB ⊢
  have hi0 : b = Inf.iby i ++ (Tg.pby (Tg.lst T len) ++ (flat L n ++ (Tl.tby st.c s st.P ++ more))) := by
    rw [hB]; unfold bpre; simp only [List.append_assoc]
  have hg := Inf.get_iby i hr (Tg.pby (Tg.lst T len) ++ (flat L n ++ (Tl.tby st.c s st.P ++ more)))
  rw [← hi0] at hg
  have hd19 : b.drop 19 = Tg.pby (Tg.lst T len) ++ (flat L n ++ (Tl.tby st.c s st.P ++ more)) := by rw [hi0]; exact Inf.dp (Inf.iby_len i)
  have htg := Tg.get_pby hc (flat L n ++ (Tl.tby st.c s st.P ++ more))
  rw [← hd19] at htg
  have hdr : b.drop st.at_ = Tl.tby st.c s st.P ++ more := by
    rw [hbat, hB]
    exact Inf.dp (by rw [List.length_append])
  have hlen : b.length = st.at_ + (18 + 5 * n + more.length) := by
    rw [hB, List.length_append, List.length_append, hbat, List.length_append, Tl.tby_len, hbP]
  have hps0 : ps0 b = bst i L (bpre i T len).length 0 := by
    unfold ps0
    rw [htg.2.2, bpre_len]
    rfl
  have hfl : n ≤ (flat L n).length := by
    have key : ∀ k, k ≤ n → k ≤ (flat L k).length := fun k => by
      induction k with
      | zero => intro _; exact Nat.zero_le _
      | succ k ih =>
        intro hk
        have e1 := ih (by omega)
        obtain ⟨_, had⟩ := ber_pre (ber_mono (k := k + 1) (n := n) (by omega) hb)
        obtain ⟨_, hl, _⟩ := ad_ok had
        show _ ≤ (flat L k ++ L k).length
        rw [List.length_append]
        omega
    exact key n (Nat.le_refl _)
  have hpsr : psR b = (st, 0) := by
    unfold psR
    rw [hg.2, hps0]
    have hrun := prun_bst (rest := Tl.tby st.c s st.P ++ more) hb (by omega) n 0 (by omega) (b.length + 1) (by omega)
    rw [← hB] at hrun
    rw [hrun, hst, show b.length + 1 - n = (b.length - n) + 1 by omega]
    refine prun_tail (by omega) ?_
    have h1 : (b.drop st.at_).getD 0 0 = b.getD st.at_ 0 := by
      rw [List.getD_eq_getElem?_getD, List.getD_eq_getElem?_getD, List.getElem?_drop, Nat.add_zero]
    rw [← h1, hdr]
    rfl
  refine ⟨hg.2, htg.2.1, by rw [hst]; exact hpsr, by rw [hst]; exact hdr, ?_⟩
  unfold pfE
  rw [hg.1, if_neg (fun e => e rfl), htg.1, if_neg (fun e => e rfl), hpsr, if_neg (fun e => e rfl)]
  show tlE st (b.drop st.at_) = _
  rw [hdr]
  unfold tlE
  rw [t1, if_neg (fun e => e rfl), t2, hbP, List.length_append, Tl.tby_len, hbP]
  by_cases hm : more = []
  · subst hm
    rw [if_neg (by rw [List.length_nil]; omega), if_pos rfl, t3, if_neg (fun e => e rfl), ← hbP, t5, if_neg (fun e => e rfl)]
  · have hml : 0 < more.length := List.length_pos_iff.2 hm
    rw [if_pos (by omega), if_neg hm]
end Go.Proofs.YthjjonbkfkpkmaaDoor.Fil
