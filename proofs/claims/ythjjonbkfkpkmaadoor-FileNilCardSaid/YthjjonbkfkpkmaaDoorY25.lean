/- The tags that are taken from bytes, of the program. Conditions: fewer than 2^40 bytes. -/
import Derived.Test.YthjjonbkfkpkmaaDoorY24
import Derived.Test.YthjjonbkfkpkmaaDoorY23
import Derived.Test.YthjjonbkfkpkmaaDoorY21
import Derived.Test.YthjjonbkfkpkmaaDoorY12
import Derived.Test.YthjjonbkfkpkmaaDoorY13
namespace Go.Proofs.YthjjonbkfkpkmaaDoor.Tg
open Go.RowKit Gen Fld
open Crc hiding hid

/-- The state behind so many tags. -/
def st (s : TS) : Nat → TS
  | 0 => s
  | n + 1 => (tx (tx (st s n) 1).2 2).2
/-- The tag that is taken at a place. -/
def tgx (s : TS) (i : Nat) : Tag := ⟨tos (tx (st s i) 1).1, tos (tx (tx (st s i) 1).2 2).1⟩
/-- A tag of nothing. -/
def nt : Tag := ⟨ByteArray.empty, ByteArray.empty⟩
set_option maxRecDepth 100000 in
theorem flat_rep : ∀ (n : Nat), flat (List.replicate n nt) = List.replicate (n * 2) (.string ByteArray.empty)
  | 0 => rfl
  | n + 1 => by
    rw [List.replicate_succ]
    show _ :: _ :: flat (List.replicate n nt) = _
    rw [flat_rep n, show (n + 1) * 2 = n * 2 + 1 + 1 from by omega, List.replicate_succ, List.replicate_succ]
    rfl
set_option maxRecDepth 100000 in
theorem made_two (n : Nat) : (madeCells #[.string ⟨#[]⟩, .string ⟨#[]⟩] (n * 2)).toList = List.replicate (n * 2) (.string ByteArray.empty) := by
  apply List.ext_getElem?
  intro i
  unfold madeCells
  by_cases hi : i < n * 2
  · have hm : i % 2 = 0 ∨ i % 2 = 1 := by omega
    rcases hm with hm | hm <;> simp [hi, hm] <;> rfl
  · simp [hi]
/-- The first tags, and then tags of nothing. -/
def upt (T : Nat → Tag) (k n : Nat) : List Tag := lst (fun i => if i < k then T i else nt) n
set_option maxRecDepth 100000 in
theorem upt_zero (T : Nat → Tag) (n : Nat) : upt T 0 n = List.replicate n nt := by
  apply List.ext_getElem?
  intro i
  unfold upt
  by_cases hi : i < n
  · rw [lst_at _ _ _ hi, List.getElem?_replicate, if_pos hi, if_neg (Nat.not_lt_zero _)]
  · rw [List.getElem?_eq_none (by rw [lst_len]; omega), List.getElem?_replicate, if_neg hi]
set_option maxRecDepth 100000 in
theorem upt_len (T : Nat → Tag) (k n : Nat) : (upt T k n).length = n := lst_len _ _
set_option maxRecDepth 100000 in
theorem upt_succ (T : Nat → Tag) (k n : Nat) (_h : k < n) : upt T (k + 1) n = (upt T k n).set k (T k) := by
  apply List.ext_getElem?
  intro i
  unfold upt
  by_cases hi : i < n
  · rw [lst_at _ _ _ hi, List.getElem?_set, lst_len]
    by_cases e : k = i
    · subst e; rw [if_pos (Nat.lt_succ_self _), if_pos rfl, if_pos hi]
    · rw [if_neg e, lst_at _ _ _ hi]
      by_cases e2 : i < k
      · rw [if_pos e2, if_pos (by omega)]
      · rw [if_neg e2, if_neg (by omega)]
  · rw [List.getElem?_eq_none (by rw [lst_len]; omega), List.getElem?_eq_none (by rw [List.length_set, lst_len]; omega)]
set_option maxRecDepth 100000 in
theorem upt_all (T : Nat → Tag) (n : Nat) : upt T n n = lst T n := by
  apply List.ext_getElem?
  intro i
  unfold upt
  by_cases hi : i < n
  · rw [lst_at _ _ _ hi, lst_at _ _ _ hi, if_pos hi]
  · rw [List.getElem?_eq_none (by rw [lst_len]; omega), List.getElem?_eq_none (by rw [lst_len]; omega)]
set_option maxRecDepth 100000 in
theorem fr_step {X Y : Nat → Prop} {w wr w' : World} (h : Fr X w wr) (h2 : Fr Y wr w') (hy : ∀ k, k < w.heap.size → Y k → X k) : Fr X w w' :=
  ⟨h2.os.trans h.os, h2.tape.trans h.tape, h2.output.trans h.output, Nat.le_trans h.size h2.size, fun k hk hx => (h2.block k (Nat.lt_of_lt_of_le hk h.size) (fun e => hx (hy k hk e))).trans (h.block k hk hx)⟩
set_option maxRecDepth 100000 in
theorem TkS.stay {w w' : World} {q : Nat} {s : TS} (h : TkS w q s) {X : Nat → Prop} (hf : Fr X w w') (hx : ∀ b, b ≤ q → ¬ X b) : TkS w' q s := by
  obtain ⟨a, cap, ht, h1, h2⟩ := h
  exact ⟨a, cap, ht.keep hf (hx q (Nat.le_refl _)) (fun b off e => by
    obtain ⟨b', off', e1, e2, e3⟩ := ht.spot _ e
    cases e1; exact hx b (by omega)), h1, h2⟩
/-- What taken leaves. -/
def TknP (w : World) (q n : Nat) (T : Nat → Tag) (s' : TS) (e : Ending) (w' : World) : Prop :=
  ∃ g, e = .returned (.slice (some ⟨g, 0, none⟩) n n) ∧ w.heap.size ≤ g ∧ Ow w' w.heap.size (some ⟨g, 0, none⟩) n (lst T n) ∧ TkS w' q s' ∧ Fr (fun b => b = q) w w'
set_option maxRecDepth 100000 in
theorem lev_byte {t : List Nat} (ht : ∀ b ∈ t, b < 256) (hl : t.length ≤ 1) : lev t < 256 := Nat.lt_of_lt_of_le (lev_lt t ht) (Nat.le_trans (Nat.pow_le_pow_right (by decide) (show 8 * t.length ≤ 8 by omega)) (by decide))
set_option maxRecDepth 100000 in
theorem nx_one (s : TS) : (nx s 1 true).1.length ≤ 1 := by
  rcases nx_len s 1 true with e | ⟨e, _⟩
  · rw [e]; simp
  · rw [e]; decide

set_option maxRecDepth 100000 in
set_option maxHeartbeats 4000000 in
theorem taken_any {w : World} {q : Nat} {s : TS} (h : TkS w q s) :
    Calls Tryd.prog 47 #[.pointer (some ⟨q, 0, none⟩)] w (TknP w q (lev (nx (nx s 2 false).2 1 true).1) (tgx (nx (nx s 2 false).2 1 true).2) (st (nx (nx s 2 false).2 1 true).2 (lev (nx (nx s 2 false).2 1 true).1))) := by
  obtain ⟨i0, hi, hz0, hz1, hz2⟩ := info_parts Tryd.info30
  have HR := hid (traw_any h 2)
  have HQ := hid h.lt
  obtain ⟨a0, c0, k0, _, _⟩ := h
  have HLT := hid (show ∀ W, TkS W q (nx s 2 false).2 → lev (nx (nx s 2 false).2 1 true).1 < 256 from fun W h => lev_byte (h.blt 1 true) (nx_one (nx s 2 false).2))
  have HU := hid (show ∀ W, TkS W q (nx s 2 false).2 → Calls Tryd.prog 45 #[.pointer (some ⟨q, 0, none⟩), .int .i64 1] W (Took W q (nx (nx s 2 false).2 1 true).2 (.int .u64 (lev (nx (nx s 2 false).2 1 true).1 : Int))) from fun W h => tku_any h 1)
  have HR2 := hid (show ∀ e w', RawPost w q s 2 e w' → ∃ ao n cap, e = .returned (.slice ao n cap) ∧ TkS w' q (nx s 2 false).2 ∧ Fr (fun b => b = q) w w' from fun e w' ⟨ao, cap, h1, _, h3, h4, _⟩ => ⟨ao, _, cap, h1, h3, h4⟩)
  generalize (nx s 2 false).2 = sA at *
  generalize lev (nx sA 1 true).1 = n at *
  generalize (nx sA 1 true).2 = sB at *
  clear k0
  go_enter Tryd.func47, Tryd.ntmps47
  go_wp2_with fail
  refine HR.out.mono ?_
  intro e w1 hp1
  obtain ⟨ao, n1, cp, rfl, ht1, hf1⟩ := HR2.out e w1 hp1
  have HF1 := hid hf1
  have HU1 := hid (HU.out w1 ht1)
  have hn256 := HLT.out w1 ht1
  clear hf1 ht1 HR HR2 hp1 HU HLT
  go_wp2_with fail
  refine HU1.out.mono ?_
  rintro e w2 ⟨rfl, ht2, hf2⟩
  have hmk := run_make (P := Tryd.prog) w2 26 54 i0 _ Tryd.underlying26 hi hz0 .u64 .u64 (n : Int) (n : Int) (by omega) (by omega) (by rw [hz2]; omega) (by omega)
  rw [hz1, show (n : Int).toNat = n from rfl] at hmk
  have ho0 : Ow (w2.alloc (.cells (madeCells #[.string ⟨#[]⟩, .string ⟨#[]⟩] (n * 2)) 54)) w2.heap.size (some ⟨w2.heap.size, 0, none⟩) n (upt (tgx sB) 0 n) := by
    unfold Ow
    rw [upt_len, upt_zero, flat_rep, ← made_two]
    exact World.ownsRow_lit w2 _ n (Nat.le_refl _) (by unfold maxLen; omega) (size_madeCells _ _)
  have HO0 := hid ho0
  have HT0 := hid (ht2.below (bel_new w2 (.cells (madeCells #[.string ⟨#[]⟩, .string ⟨#[]⟩] (n * 2)) 54)))
  have HF0 := hid ((HF1.out.trans hf2).alloc (.cells (madeCells #[.string ⟨#[]⟩, .string ⟨#[]⟩] (n * 2)) 54))
  have HSZ := hid (Nat.le_trans HF1.out.size hf2.size)
  have HQ2 := hid (Nat.lt_of_lt_of_le HQ.out HSZ.out)
  clear ht2 hf2 ho0 HU1 HF1
  go_wp2_with fail
  clear hmk
  generalize w2.alloc (.cells (madeCells #[.string ⟨#[]⟩, .string ⟨#[]⟩] (n * 2)) 54) = W3 at *
  generalize w2.heap.size = g at *
  go_loopg [12] n (fun gh i wr => ∃ k : Nat, k ≤ n ∧ gh = n - k ∧ i = .int .i64 k ∧ Hid (Ow wr g (some ⟨g, 0, none⟩) n (upt (tgx sB) k n)) ∧ Hid (TkS wr q (st sB k)) ∧ Hid (Fr (fun b => b = q) w wr))
  case atStart => exact ⟨0, Nat.zero_le _, rfl, rfl, HO0, HT0, HF0⟩
  case round =>
    obtain ⟨k, hk, hg, rfl, HO, HT, HF⟩ := hrel
    have HG := hid hg
    clear hg
    by_cases hlt : k < n
    · have hlt2 : (k : Int) < (n : Int) := by omega
      have HT1 := hid (ttext_any HT.out 1)
      have HK := hid (show (tgx sB k).k = tos (tx (st sB k) 1).1 from rfl)
      have HV := hid (show (tgx sB k).v = tos (tx (tx (st sB k) 1).2 2).1 from rfl)
      have HS := hid (show st sB (k + 1) = (tx (tx (st sB k) 1).2 2).2 from rfl)
      have HUP := hid (upt_succ (tgx sB) k n hlt)
      obtain ⟨tk, htk⟩ : ∃ tk, tk = tos (tx (st sB k) 1).1 := ⟨_, rfl⟩
      rw [← htk] at HT1 HK
      clear htk
      go_wp2_with fail
      refine HT1.out.mono ?_
      rintro e w5 ⟨rfl, ht5, hf5⟩
      have HT2 := hid (ttext_any ht5 2)
      obtain ⟨tv, htv⟩ : ∃ tv, tv = tos (tx (tx (st sB k) 1).2 2).1 := ⟨_, rfl⟩
      rw [← htv] at HT2 HV
      clear htv
      have HF5 := hid hf5
      clear ht5 hf5 HT1
      go_wp2_with fail
      refine HT2.out.mono ?_
      rintro e w6 ⟨rfl, ht6, hf6⟩
      have HT6 := hid ht6
      have hf56 := HF5.out.trans hf6
      have HF6 := hid (HF.out.trans hf56)
      have ho6 := HO.out
      unfold Ow at ho6
      rw [upt_len] at ho6
      have ho6 := own_block ho6 (w' := w6) (fun g' hg' => hf56.block g' (by
        rcases own_at ho6 with ⟨e9, _, _⟩ | ⟨g9, e9, _, hlt9, _⟩
        · cases e9
        · cases e9; have e8 : g = g' := by simpa [blk] using hg'
          omega) (by have e8 : g = g' := by simpa [blk] using hg'
                     have := HQ2.out; omega))
      have s1 := ho6.stored (k * 2) (.string tk)
      have s2 := s1.1.stored (k * 2 + 1) (.string tv)
      have cA := ho6.cellAt (k * 2) (by omega)
      rw [(flat_k (upt (tgx sB) k n) k nt (by unfold upt; rw [lst_at _ _ _ hlt, if_neg (Nat.lt_irrefl _)])).1] at cA
      have cB := ho6.cellAt (k * 2 + 1) (by omega)
      rw [(flat_k (upt (tgx sB) k n) k nt (by unfold upt; rw [lst_at _ _ _ hlt, if_neg (Nat.lt_irrefl _)])).2] at cB
      have fA := ho6.frozenAt (k * 2)
      have fB := ho6.frozenAt (k * 2 + 1)
      have hfg := ((Fr.refl (fun b => b = g) w6).setCell (p := ⟨g, k * 2, none⟩) rfl (.string tk)).setCell (p := ⟨g, k * 2 + 1, none⟩) rfl (.string tv)
      have HFG := hid hfg
      have HOF := hid (show Ow ((w6.setCell ⟨g, k * 2, none⟩ (.string tk)).setCell ⟨g, k * 2 + 1, none⟩ (.string tv)) g (some ⟨g, 0, none⟩) n (upt (tgx sB) (k + 1) n) by
        unfold Ow
        rw [upt_len, HUP.out, flat_set, HK.out, HV.out]
        exact s2.1)
      clear ho6 s1 s2 hf6 hf56 hfg ht6 HT2
      go_wp2_with fail
      go_roundg (n - (k + 1))
      case measure => rw [HG.out]; omega
      case rel => exact ⟨k + 1, by omega, rfl, by go_num, HOF, hid (by
          rw [HS.out]; exact TkS.stay HT6.out HFG.out (fun b hb e => by have := HQ2.out; omega)), hid (fr_step HF6.out HFG.out (fun b hb e => by have := HSZ.out; omega))⟩
    · have hge : ¬ (k : Int) < (n : Int) := by omega
      obtain rfl : k = n := by omega
      have HOF := hid (show Ow wr g (some ⟨g, 0, none⟩) k (lst (tgx sB) k) by rw [← upt_all]; exact HO.out)
      go_wp2_with fail
      go_ret
      exact ⟨g, rfl, HSZ.out, own_mono HOF.out HSZ.out, HT.out, HF.out⟩
end Go.Proofs.YthjjonbkfkpkmaaDoor.Tg
namespace Go.Proofs.YthjjonbkfkpkmaaDoor.Tg
open Go.RowKit Gen Fld
open Crc hiding hid

set_option maxRecDepth 100000 in
theorem nx_sum (s : TS) (n : Int) (f : Bool) : (nx s n f).2.pos + (nx s n f).2.l.length ≤ s.pos + s.l.length ∧ (nx s n f).1.length ≤ s.l.length := by
  unfold nx
  split
  · exact ⟨Nat.le_refl _, Nat.zero_le _⟩
  · split
    · exact ⟨by show s.pos + 0 ≤ _; omega, Nat.zero_le _⟩
    · split
      · exact ⟨by show s.pos + 0 ≤ _; omega, Nat.zero_le _⟩
      · refine ⟨?_, ?_⟩
        · show s.pos + n.toNat + (s.l.drop n.toNat).length ≤ _
          rw [List.length_drop]; omega
        · show (s.l.take n.toNat).length ≤ _
          rw [List.length_take]; omega
set_option maxRecDepth 100000 in
theorem tx_sum (s : TS) (n : Int) : (tx s n).2.pos + (tx s n).2.l.length ≤ s.pos + s.l.length ∧ (tx s n).1.length ≤ s.l.length := by
  unfold tx
  split
  · exact ⟨by show s.pos + 0 ≤ _; omega, Nat.zero_le _⟩
  · have h1 := nx_sum s n true
    have h2 := nx_sum (nx s n true).2 (lev (nx s n true).1 : Nat) false
    refine ⟨by omega, ?_⟩
    refine Nat.le_trans h2.2 ?_
    unfold nx
    split
    · exact Nat.le_refl _
    · split
      · exact Nat.zero_le _
      · split
        · exact Nat.zero_le _
        · show (s.l.drop n.toNat).length ≤ _
          rw [List.length_drop]; omega
set_option maxRecDepth 100000 in
theorem st_sum (s : TS) : ∀ n, (st s n).pos + (st s n).l.length ≤ s.pos + s.l.length
  | 0 => Nat.le_refl _
  | n + 1 => by
    have h1 := st_sum s n
    have h2 := (tx_sum (st s n) 1).1
    have h3 := (tx_sum (tx (st s n) 1).2 2).1
    show (tx (tx (st s n) 1).2 2).2.pos + (tx (tx (st s n) 1).2 2).2.l.length ≤ _
    omega
/-- The state ahead of the tags; how many there are; the state behind them; the sum. -/
def g0 (b : List Nat) : TS := (nx (nx ⟨0, b, 0⟩ 2 false).2 1 true).2
def gc (b : List Nat) : Nat := lev (nx (nx ⟨0, b, 0⟩ 2 false).2 1 true).1
def gE (b : List Nat) : TS := st (g0 b) (gc b)
def gX (b : List Nat) : List Nat × TS := nx (gE b) 4 true
def gT (b : List Nat) : Nat → Tag := tgx (g0 b)
/-- What is wrong with bytes; the tags that are read; how many bytes these have. -/
def gF (b : List Nat) : Int := if Bgn b then (if (gX b).2.F = 0 then (if lev (gX b).1 = cs (b.take (gE b).pos) then (chk (gT b) (gc b)).2 else 33) else ((gX b).2.F : Int)) else 31
def gL (b : List Nat) : List Tag := if gF b = 0 then lst (gT b) (gc b) else []
def gP (b : List Nat) : Nat := if gF b = 0 then (gX b).2.pos else 0
set_option maxRecDepth 100000 in
theorem g0_sum (b : List Nat) : (g0 b).pos + (g0 b).l.length ≤ b.length := by
  have h1 := (nx_sum ⟨0, b, 0⟩ 2 false).1
  have h2 := (nx_sum (nx ⟨0, b, 0⟩ 2 false).2 1 true).1
  show (nx (nx ⟨0, b, 0⟩ 2 false).2 1 true).2.pos + (nx (nx ⟨0, b, 0⟩ 2 false).2 1 true).2.l.length ≤ _
  have h3 : (TS.mk 0 b 0).pos + (TS.mk 0 b 0).l.length = b.length := by show 0 + b.length = _; omega
  omega
set_option maxRecDepth 100000 in
theorem gE_sum (b : List Nat) : (gE b).pos + (gE b).l.length ≤ b.length := Nat.le_trans (st_sum (g0 b) (gc b)) (g0_sum b)
set_option maxRecDepth 100000 in
theorem gX_sum (b : List Nat) : (gX b).2.pos + (gX b).2.l.length ≤ b.length := Nat.le_trans (nx_sum (gE b) 4 true).1 (gE_sum b)
set_option maxRecDepth 100000 in
theorem gT_sz (b : List Nat) (hb : b.length ≤ 549755813888) (i : Nat) : (gT b i).k.size ≤ 1099511627776 ∧ (gT b i).v.size ≤ 1099511627776 := by
  have h0 := g0_sum b
  have h1 := st_sum (g0 b) i
  have h2 := tx_sum (st (g0 b) i) 1
  have h3 := tx_sum (tx (st (g0 b) i) 1).2 2
  refine ⟨?_, ?_⟩
  · show (tos (tx (st (g0 b) i) 1).1).size ≤ _
    rw [tos_size]; omega
  · show (tos (tx (tx (st (g0 b) i) 1).2 2).1).size ≤ _
    rw [tos_size]; omega
/-- What Get leaves. -/
def GetP (w : World) (b : List Nat) (e : Ending) (w' : World) : Prop :=
  ∃ ao cap, e = .returned (.tuple #[.slice ao (gL b).length cap, .int .i64 (gP b : Int), .int .i64 (gF b)]) ∧ Ow w' w.heap.size ao cap (gL b) ∧ Below w.heap.size w w'
set_option maxRecDepth 100000 in
theorem getp_no {w w' : World} {b : List Nat} {e : Int} (he : gF b = e) (h0 : e ≠ 0) (hb : Below w.heap.size w w') : GetP w b (.returned (.tuple #[.slice none 0 0, .int .i64 0, .int .i64 e])) w' := by
  have hl : gL b = [] := by unfold gL; rw [he, if_neg h0]
  have hp : gP b = 0 := by unfold gP; rw [he, if_neg h0]
  unfold GetP
  rw [hl, hp, he]
  exact ⟨none, 0, rfl, World.ownsRow_nil _ _ _ _, hb⟩
set_option maxRecDepth 100000 in
theorem getp_ok {w w' : World} {b : List Nat} {g n p : Nat} (he : gF b = 0) (hn : gc b = n) (hp : (gX b).2.pos = p) (ho : Ow w' w.heap.size (some ⟨g, 0, none⟩) n (lst (gT b) n)) (hb : Below w.heap.size w w') : GetP w b (.returned (.tuple #[.slice (some ⟨g, 0, none⟩) n n, .int .i64 (p : Int), .int .i64 0])) w' := by
  have hl : gL b = lst (gT b) n := by unfold gL; rw [he, if_pos rfl, hn]
  have hq : gP b = p := by unfold gP; rw [he, if_pos rfl, hp]
  unfold GetP
  rw [hl, hq, he, lst_len]
  exact ⟨some ⟨g, 0, none⟩, n, rfl, ho, hb⟩
set_option maxRecDepth 100000 in
theorem gF_kind {b : List Nat} (h : ¬ Bgn b) : gF b = 31 := by unfold gF; rw [if_neg h]
set_option maxRecDepth 100000 in
theorem gF_end {b : List Nat} (h : Bgn b) {F : Nat} (e : (gX b).2.F = F) (h0 : F ≠ 0) : gF b = F := by unfold gF; rw [if_pos h, e, if_neg h0]
set_option maxRecDepth 100000 in
theorem gF_sum {b : List Nat} (h : Bgn b) (e : (gX b).2.F = 0) (hs : ¬ lev (gX b).1 = cs (b.take (gE b).pos)) : gF b = 33 := by unfold gF; rw [if_pos h, if_pos e, if_neg hs]
set_option maxRecDepth 100000 in
theorem gF_chk {b : List Nat} (h : Bgn b) (e : (gX b).2.F = 0) (hs : lev (gX b).1 = cs (b.take (gE b).pos)) : gF b = (chk (gT b) (gc b)).2 := by unfold gF; rw [if_pos h, if_pos e, if_pos hs]
set_option maxRecDepth 100000 in
theorem bel_frq {w0 w w1 : World} {r : Nat} (hb : Below w0.heap.size w0 w) (hf : Fr (fun b => b = r) w w1) (hr : w0.heap.size ≤ r) : Below w0.heap.size w0 w1 :=
  hb.trans ⟨hf.os, hf.tape, hf.output, hf.size, fun k hk => hf.block k (Nat.lt_of_lt_of_le hk hb.size) (by omega)⟩
set_option maxRecDepth 100000 in
theorem nx_mem (s : TS) (n : Int) (f : Bool) : (∀ x ∈ (nx s n f).1, x ∈ s.l) ∧ ∀ x ∈ (nx s n f).2.l, x ∈ s.l := by
  unfold nx
  split
  · exact ⟨(fun x h => by cases h), fun x h => h⟩
  · split
    · exact ⟨(fun x h => by cases h), fun x h => by cases h⟩
    · split
      · exact ⟨(fun x h => by cases h), fun x h => by cases h⟩
      · exact ⟨fun x h => List.mem_of_mem_take h, fun x h => List.mem_of_mem_drop h⟩
set_option maxRecDepth 100000 in
theorem gc_lt {b : List Nat} (hb : ∀ x ∈ b, x < 256) : gc b < 256 := lev_byte (fun x hx => hb x ((nx_mem ⟨0, b, 0⟩ 2 false).2 x ((nx_mem _ 1 true).1 x hx))) (nx_one _)

set_option maxRecDepth 100000 in
set_option maxHeartbeats 4000000 in
theorem get_any {w : World} {g : Nat} (ht : Tab w g) (hT : Tabs w) {a : Option Addr} {b : List Nat} {cap : Nat} (hb : Byts w a b) (hn : a = none → b.length = 0 ∧ cap = 0) (hc : b.length ≤ cap) (hl : b.length ≤ 549755813888) :
    Calls Tryd.prog 22 #[.pointer (some ⟨g, 0, none⟩), .slice a b.length cap] w (GetP w b) := by
  have HBG := hid (begins_any hb hc (by omega))
  have HTK := hid (take_any hb hn hl)
  have HB := hid hb
  have HTB := hid ht
  have HTS := hid hT
  have hgc := gc_lt hb.lt
  have HES := hid (gE_sum b)
  have HXS := hid (gX_sum b)
  have HZ := hid (show Sz (gT b) (gc b) from ⟨by omega, fun i _ => (gT_sz b hl i).1, fun i _ => (gT_sz b hl i).2⟩)
  have hep : (gE b).pos ≤ b.length := by have := gE_sum b; omega
  have hxp : (gX b).2.pos ≤ b.length := by have := gX_sum b; omega
  clear hb ht hT hn
  by_cases hB : Bgn b
  · have q0 : decide (Bgn b) = true := decide_eq_true hB
    rw [q0] at HBG
    have HE := hid fun F e h0 => gF_end hB (F := F) e h0
    have HSU := hid (gF_sum hB)
    have HCK := hid (gF_chk hB)
    have HTT := hid fun (W : World) (q : Nat) (h : TkS W q ⟨0, b, 0⟩) => (show Calls Tryd.prog 47 #[.pointer (some ⟨q, 0, none⟩)] W (TknP W q (gc b) (gT b) (gE b)) from taken_any h)
    have HTU := hid fun (W : World) (q : Nat) (h : TkS W q (gE b)) => (show Calls Tryd.prog 45 #[.pointer (some ⟨q, 0, none⟩), .int .i64 4] W (Took W q (gX b).2 (.int .u64 (lev (gX b).1 : Int))) from tku_any h 4)
    have HOK := hid fun (W : World) (g n p : Nat) (he : gF b = 0) (hn : gc b = n) (hp : (gX b).2.pos = p) (ho : Ow W w.heap.size (some ⟨g, 0, none⟩) n (lst (gT b) n)) (hb : Below w.heap.size w W) => getp_ok he hn hp ho hb
    have hcl := cs_lt (fun x hx => HB.out.lt x (List.mem_of_mem_take hx) : ∀ x ∈ b.take (gE b).pos, x < 256)
    have hu4 := u64_small _ hcl
    have HSM := hid fun (W : World) (hw : Below w.heap.size w W) => (show Calls Tryd.prog 31 #[.pointer (some ⟨g, 0, none⟩), .slice a (gE b).pos cap] W fun e w' => e = .returned (.int .u32 (cs (b.take (gE b).pos) : Int)) ∧ W = w' by
      have h9 := tsum_any (cap := cap) (HTB.out.keep (hw.block g HTB.out.lt)) ((HB.out.keep hw).take (gE b).pos) (by rw [List.length_take]; omega)
      rw [List.length_take, Nat.min_eq_left hep] at h9
      exact h9)
    clear HB HTB q0 hB
    obtain ⟨n, hn⟩ : ∃ n, gc b = n := ⟨_, rfl⟩
    have HN := hid hn
    rw [hn] at HTT HCK hgc HZ
    obtain ⟨sE, hE⟩ : ∃ sE, gE b = sE := ⟨_, rfl⟩
    rw [hE] at HTT HTU HSM HSU HCK hcl hu4 hep
    obtain ⟨X, hX⟩ : ∃ X, gX b = X := ⟨_, rfl⟩
    rw [hX] at HTU HE HSU HCK HOK hxp
    generalize cs (b.take sE.pos) = SM at *
    clear hn hE hX HES HXS
    go_enter Tryd.func22, Tryd.ntmps22
    go_wp2_with fail
    refine HBG.out.mono ?_
    rintro e w1 ⟨rfl, rfl⟩
    go_wp2_with fail
    refine HTK.out.mono ?_
    rintro e w2 ⟨q, rfl, hq2, ht2, hb2⟩
    have HQ := hid hq2
    have HB2 := hid hb2
    have HT3 := hid (HTT.out w2 q ht2)
    have HQ2 := hid ht2.lt
    clear hq2 hb2 ht2 HTK HBG HTT
    go_wp2_with fail
    refine HT3.out.mono ?_
    rintro e w3 ⟨g3, rfl, hg3, ho3, ht3, hf3⟩
    have HB3 := hid (bel_frq HB2.out hf3 HQ.out)
    have HO3 := hid (show Ow w3 w.heap.size (some ⟨g3, 0, none⟩) n (lst (gT b) n) from own_mono ho3 HB2.out.size)
    have HA3 := hid (tat_any ht3)
    have HU3 := hid (HTU.out w3 q ht3)
    have HG3 := hid (show q < g3 from Nat.lt_of_lt_of_le HQ2.out hg3)
    clear ho3 ht3 hf3 HT3 HTU hg3
    go_wp2_with fail
    refine HA3.out.mono ?_
    rintro e w4 ⟨rfl, rfl⟩
    go_wp2_with fail
    refine HU3.out.mono ?_
    rintro e w5 ⟨rfl, ht5, hf5⟩
    have HB5 := hid (bel_frq HB3.out hf5 HQ.out)
    have HER := hid (terr_any ht5)
    have HATK := hid fun (W : World) (hw : Below w5.heap.size w5 W) => tat_any (ht5.below hw)
    have HS5 := hid (HSM.out w5 HB5.out)
    have HO5 := hid (show Ow w5 w.heap.size (some ⟨g3, 0, none⟩) n (lst (gT b) n) from own_block HO3.out (fun g' hg' => hf5.block g' (by
      rcases own_at HO3.out with ⟨e9, _, _⟩ | ⟨g9, e9, _, hlt9, _⟩
      · cases e9
      · cases e9; have e8 : g3 = g' := by simpa [blk] using hg'
        omega) (by have e8 : g3 = g' := by simpa [blk] using hg'
                   have := HG3.out; omega)))
    clear ht5 hf5 HU3 HA3
    by_cases hF : X.2.F = 0
    · have t0 : ((X.2.F : Int) != 0) = false := by rw [hF]; rfl
      have HSF := hid (HSU.out hF)
      have HCF := hid (HCK.out hF)
      clear HSU HCK HE hF
      go_wp2_with fail
      refine HER.out.mono ?_
      rintro e w6 ⟨rfl, rfl⟩
      go_wp2_with fail
      refine HS5.out.mono ?_
      rintro e w6 ⟨rfl, rfl⟩
      by_cases hs : lev X.1 = SM
      · have t1 : ((lev X.1 : Int) != (SM : Int)) = false := by rw [hs]; simp
        have HCG := hid (HCF.out hs)
        have hon := HO5.out
        unfold Ow at hon
        rw [lst_len] at hon
        have HO6 := hid hon
        obtain ⟨b6, t6, _, _⟩ := HO5.out.tb
        rw [lst_len] at t6
        have hck := check_any _ (HTS.out.keep HB5.out) (t6.congr (fun i hi => gt_lst (gT b) n i hi)) HZ.out (cap := n) (Nat.le_refl _)
        obtain ⟨C, hC⟩ : ∃ C, chk (gT b) n = C := ⟨_, rfl⟩
        rw [hC] at hck HCG
        have HCH := hid hck
        clear hC t6 hck hon HSF HCF hs
        go_wp2_with fail
        refine HCH.out.mono ?_
        rintro e w7 ⟨rfl, hb7⟩
        have HB7 := hid (HB5.out.trans (hb7.mono HB5.out.size))
        have HO7 := hid (HO5.out.keep hb7)
        have HA7 := hid (HATK.out w7 hb7)
        clear hb7
        by_cases h0 : C.2 = 0
        · have q0 : (C.2 != 0) = false := by rw [h0]; rfl
          have HF := hid (HOK.out w7 g3 n X.2.pos (by rw [HCG.out, h0]) HN.out rfl HO7.out HB7.out)
          clear h0
          go_wp2_with fail
          refine HA7.out.mono ?_
          rintro e w8 ⟨rfl, rfl⟩
          go_wp2_with fail
          go_ret3
          exact HF.out
        · have q0 : (C.2 != 0) = true := by rw [bne_iff_ne]; exact h0
          have HF := hid (getp_no (w := w) HCG.out h0 HB7.out)
          clear h0
          go_wp2_with fail
          go_ret3
          exact HF.out
      · have t1 : ((lev X.1 : Int) != (SM : Int)) = true := by rw [bne_iff_ne]; omega
        have HF := hid (getp_no (w := w) (HSF.out hs) (by decide) HB5.out)
        clear hs HSF HCF
        go_wp2_with fail
        go_ret3
        exact HF.out
    · have t0 : ((X.2.F : Int) != 0) = true := by rw [bne_iff_ne]; omega
      have HF := hid (getp_no (w := w) (HE.out X.2.F rfl hF) (by omega) HB5.out)
      clear HSU HCK HE hF
      go_wp2_with fail
      refine HER.out.mono ?_
      rintro e w6 ⟨rfl, rfl⟩
      go_wp2_with fail
      refine HER.out.mono ?_
      rintro e w6 ⟨rfl, rfl⟩
      go_wp2_with fail
      go_ret3
      exact HF.out
  · have q0 : decide (Bgn b) = false := decide_eq_false hB
    rw [q0] at HBG
    have HF := hid (getp_no (w := w) (w' := w) (gF_kind hB) (by decide) (Below.refl _ _))
    clear HB HTB q0 hB HTK HTS HES HXS HZ
    go_enter Tryd.func22, Tryd.ntmps22
    go_wp2_with fail
    refine HBG.out.mono ?_
    rintro e w1 ⟨rfl, rfl⟩
    go_wp2_with fail
    go_ret3
    exact HF.out
end Go.Proofs.YthjjonbkfkpkmaaDoor.Tg
namespace Go.Proofs.YthjjonbkfkpkmaaDoor.Fil
open Go.RowKit Gen
open Tl (il il_app rise TRt)

section
variable {P : Program} {ops : Array Oper} {Q : Exit → Act → World → Prop} {md : Region.Mode}
set_option maxRecDepth 100000 in
/-- Two operations may come up. -/
theorem anyT_two {T : Array Bool → World → Prop} {i j : Nat} {o p : Oper} {n : Nat} {l : Array Bool} {a : Act} {w : World} (hr : Region.ready md ops l = [i, j]) (ho : ops[i]? = some o) (hp : ops[j]? = some p)
    (h : ∀ K : Act → World → Prop, Hid (∀ a' w', T (l.setIfInBounds i true) w' → Pcm.anyT P md ops Q T n (l.setIfInBounds i true) a' w' → K a' w') → if Region.wanted o (yielded ops a.tmps) = true then Oper.wp P o a w K Q else K (a.put o.dst undef) w)
    (h' : ∀ K : Act → World → Prop, Hid (∀ a' w', T (l.setIfInBounds j true) w' → Pcm.anyT P md ops Q T n (l.setIfInBounds j true) a' w' → K a' w') → if Region.wanted p (yielded ops a.tmps) = true then Oper.wp P p a w K Q else K (a.put p.dst undef) w) :
    Pcm.anyT P md ops Q T (n + 1) l a w := by
  refine ⟨fun h0 => (by rw [hr] at h0; cases h0), fun k hk => ?_⟩
  rw [hr] at hk
  rcases (show k = i ∨ k = j by simpa using hk) with rfl | rfl
  · exact wpOp_step ho fun K hK => h K (hid fun a' w' h1 h2 => hK a' w' ⟨h1, h2⟩)
  · exact wpOp_step hp fun K hK => h' K (hid fun a' w' h1 h2 => hK a' w' ⟨h1, h2⟩)
end

section
variable {P : Program} {ops : Array Oper} {o : Oper} {a : Act} {K : Act → World → Prop} {Q : Exit → Act → World → Prop}
set_option maxRecDepth 100000 in
/-- One element of several cells is appended, in a region that draws its order. -/
theorem step_append_k {w : World} {E : Prop} (hgd : o.guard = none) (s x : Operand) (t : TypeId)
    (hop : o.op = .call { callee := .builtin .append, args := #[s, x], argTypes := #[t, t] })
    (base : Nat) (e : TypeId) (i : TypeInfo) (z : Value) (size bytes : Nat) (h1 : P.underlying t = some (.slice e)) (h2 : P.info? e = some i) (h3 : i.zero = some z)
    (h4 : i.size = size) (h5 : i.bytes = bytes) (h6 : z.cells.size = size) (h0 : 0 < size)
    (ao : Option Addr) (n cap : Nat) (xs : List Value) (hs : a.eval s = .slice ao n cap) (hown : w.ownsRow base e size (.slice ao n cap) n xs)
    (ad : Addr) (c : Nat) (news : List Value) (hx : a.eval x = .slice (some ad) 1 c) (hl : news.length = size) (hc : ∀ j u, news[j]? = some u → w.cell? (ad.add j) = some u) (hu : ∀ u ∈ news, u.oneCell' = true)
    (b1 : n + 1 ≤ maxLen) (b2 : (n + 1) * bytes ≤ 140737488355328) (hbase : base ≤ w.heap.size)
    (hK : ∀ gg cap' w', w'.ownsRow base e size (.slice (some ⟨gg, 0, none⟩) (n + 1) cap') (n + 1) (xs ++ news) → w.grownBy w' (blk ao) → (blk ao = some gg ∨ w.heap.size ≤ gg) → gg < w'.heap.size → K (a.put o.dst (.slice (some ⟨gg, 0, none⟩) (n + 1) cap')) w') :
    if Region.wanted o (yielded ops a.tmps) = true then Oper.wp P o a w K Q else E := by
  refine step_append_lies w hgd s x t hop base e i z size bytes h1 h2 h3 h4 h5 h6 h0 (.slice ao n cap) n xs hs hown ad 1 c news hx (by rw [hl, Nat.one_mul]) hc hu (by decide) b1 b2 hbase w.heap.size rfl fun g cap' w' r1 r2 r3 r4 => ?_
  rw [ownBlock_slice] at r2 r3
  exact hK g cap' w' r1 r2 (r3.imp id fun h => by omega) r4
end
set_option maxRecDepth 100000 in
theorem cells_new (w : World) (l : List Value) (t : TypeId) : ∀ j u, l[j]? = some u → ((w.alloc (.cells l.toArray t)).drew).cell? ((⟨w.heap.size, 0, none⟩ : Addr).add j) = some u := by
  intro j u hj
  have h := heap_alloc_new w (.cells l.toArray t)
  rw [Addr.add_lit, Nat.zero_add]
  show World.cell? (w.alloc (.cells l.toArray t)) ⟨w.heap.size, j, none⟩ = some u
  unfold World.cell?
  rw [h]
  simpa using hj

/-- Blocks one behind the other from where the state is: the state at which they end, and 0 if a tail begins there, else why not. -/
def prun (i : Inf.If) (b : List Nat) : Nat → Ns → Ns × Int
  | 0, s => (s, 10)
  | f + 1, s => if b.length ≤ s.at_ then (s, 10) else if b.getD s.at_ 0 = 69 then (s, 0) else
      if Head.opE (b.drop s.at_) ≠ 0 then (s, Head.opE (b.drop s.at_)) else if nxt i (Head.opH (b.drop s.at_)) s.n s.sh ≠ 0 then (s, nxt i (Head.opH (b.drop s.at_)) s.n s.sh) else prun i b f (s.next i (b.drop s.at_))
set_option maxRecDepth 100000 in
theorem prun_fuel (i : Inf.If) (b : List Nat) : ∀ (f f' : Nat) (s : Ns), b.length - s.at_ < f → b.length - s.at_ < f' → prun i b f s = prun i b f' s
  | 0, _, _, h, _ => absurd h (Nat.not_lt_zero _)
  | _ + 1, 0, _, _, h => absurd h (Nat.not_lt_zero _)
  | f + 1, f' + 1, s, h, h' => by
    unfold prun
    by_cases h0 : b.length ≤ s.at_
    · rw [if_pos h0, if_pos h0]
    · rw [if_neg h0, if_neg h0]
      have ha : (s.next i (b.drop s.at_)).at_ = s.at_ + (36 + Head.szn (b.drop s.at_)) := rfl
      rw [prun_fuel i b f f' (s.next i (b.drop s.at_)) (by rw [ha]; omega) (by rw [ha]; omega)]
/-- A block as it lies in a list of blocks. -/
structure Bv where
  h : Head.Hh
  a : Option Addr
  n : Nat
  cap : Nat
  s : Nat
  at_ : Nat
def bvl (x : Bv) : List Value := [.int .i64 x.h.k, .int .i64 x.h.ix, .int .i64 x.h.ln, .int .i64 x.h.st, .int .i64 x.h.bd, .bool x.h.la, .int .u32 (x.h.lk : Int), .int .i64 x.h.sz, .slice x.a x.n x.cap, .int .u32 (x.s : Int), .int .i64 (x.at_ : Int)]
def bls : List Bv → List Value
  | [] => []
  | x :: t => bvl x ++ bls t
set_option maxRecDepth 100000 in
theorem bls_len : ∀ l : List Bv, (bls l).length = l.length * 11
  | [] => rfl
  | x :: t => by
    show (bvl x ++ bls t).length = (t.length + 1) * 11
    rw [List.length_append, bls_len t]
    show 11 + t.length * 11 = _
    omega
set_option maxRecDepth 100000 in
theorem bls_app : ∀ l m : List Bv, bls (l ++ m) = bls l ++ bls m
  | [], _ => rfl
  | x :: t, m => by show bvl x ++ bls (t ++ m) = (bvl x ++ bls t) ++ bls m; rw [bls_app t m, List.append_assoc]
set_option maxRecDepth 100000 in
theorem bvl_one (x : Bv) : ∀ u ∈ bvl x, u.oneCell' = true := by
  intro u hu
  simp only [bvl, List.mem_cons, List.not_mem_nil, or_false] at hu
  rcases hu with rfl | rfl | rfl | rfl | rfl | rfl | rfl | rfl | rfl | rfl | rfl <;> rfl
set_option maxRecDepth 100000 in
theorem bls_at : ∀ (l : List Bv) (j : Nat) (x : Bv) (i : Nat) (u : Value), l[j]? = some x → (bvl x)[i]? = some u → (bls l)[j * 11 + i]? = some u
  | [], j, x, i, u, h, _ => by simp at h
  | y :: t, 0, x, i, u, h, hi => by
    simp at h
    subst h
    show (bvl y ++ bls t)[0 * 11 + i]? = some u
    rw [Nat.zero_mul, Nat.zero_add, List.getElem?_append_left (List.getElem?_eq_some_iff.1 hi).1]
    exact hi
  | y :: t, j + 1, x, i, u, h, hi => by
    have ih := bls_at t j x i u (by simpa using h) hi
    show (bvl y ++ bls t)[(j + 1) * 11 + i]? = some u
    have hl : (bvl y).length = 11 := rfl
    rw [List.getElem?_append_right (by rw [hl]; omega), hl, show (j + 1) * 11 + i - 11 = j * 11 + i by omega]
    exact ih
/-- It is the block that begins at at_ in b. -/
structure BvOk (w : World) (b : List Nat) (x : Bv) (at_ : Nat) : Prop where
  h : x.h = Head.opH (b.drop at_)
  n : x.n = (Head.opP (b.drop at_)).length
  p : Byts w x.a (Head.opP (b.drop at_))
  s : x.s = Head.opS (b.drop at_)
  e : x.at_ = at_
/-- Blocks read so far: the lists. -/
structure Xs (w : World) (b : List Nat) (P : List Int) (X : List Bv) : Prop where
  len : X.length = P.length
  ok : ∀ (j : Nat) (x : Bv), X[j]? = some x → ∃ at_ : Nat, P[j]? = some (at_ : Int) ∧ BvOk w b x at_
set_option maxRecDepth 100000 in
theorem Xs.nil (w : World) (b : List Nat) : Xs w b [] [] := ⟨rfl, fun j x h => by simp at h⟩
set_option maxRecDepth 100000 in
theorem Xs.snoc {w : World} {b : List Nat} {P : List Int} {X : List Bv} {x : Bv} {at_ : Nat} (h : Xs w b P X) (hx : BvOk w b x at_) : Xs w b (P ++ [(at_ : Int)]) (X ++ [x]) := by
  refine ⟨by simp [h.len], fun j y hj => ?_⟩
  by_cases e : j < X.length
  · rw [List.getElem?_append_left e] at hj
    obtain ⟨a, ha, hb⟩ := h.ok j y hj
    exact ⟨a, by rw [List.getElem?_append_left (by rw [← h.len]; exact e)]; exact ha, hb⟩
  · have hjl : j = X.length := by
      have := (List.getElem?_eq_some_iff.1 hj).1
      rw [List.length_append] at this
      simp at this
      omega
    subst hjl
    simp at hj
    subst hj
    exact ⟨at_, by rw [h.len]; simp, hx⟩
/-- What the reader's state says of numbers. -/
structure NsOk (b : List Nat) (s : Ns) : Prop where
  n : s.P.length = s.n
  at_ : s.at_ ≤ b.length
  le : s.n ≤ s.at_
  c : 0 ≤ s.c ∧ s.c ≤ 65536 * (s.n : Int)
set_option maxRecDepth 100000 in
theorem NsOk.next {i : Inf.If} {b : List Nat} {s : Ns} (h : NsOk b s) (e : Head.opE (b.drop s.at_) = 0) : NsOk b (s.next i (b.drop s.at_)) := by
  obtain ⟨hr, hs, hl, hz⟩ := op_ok e
  have h1 := hr.1.2.2.1
  have h2 := hr.1.2.2.2.1
  rw [List.length_drop] at hl
  have hc := h.c
  have hn := h.n
  have hle := h.le
  refine ⟨by show (s.P ++ [_]).length = s.n + 1; rw [List.length_append, hn]; rfl, ?_, ?_, ?_⟩
  · show s.at_ + (36 + Head.szn (b.drop s.at_)) ≤ b.length; omega
  · show s.n + 1 ≤ s.at_ + (36 + _); omega
  · show 0 ≤ s.c + (Head.opH (b.drop s.at_)).ln ∧ s.c + (Head.opH (b.drop s.at_)).ln ≤ 65536 * ((s.n + 1 : Nat) : Int)
    constructor <;> omega
/-- The reader at work; w0: the world in which it was made. -/
structure RdI (w0 : World) (g t : Nat) (i : Inf.If) (b : List Nat) (ba : Option Addr) (bn bc : Nat) (s : Ns) (ap : Option Addr) (cp : Nat) (ab : Option Addr) (cb : Nat) (X : List Bv) (w : World) : Prop where
  nx : Nx w g i (s.at_ : Int) ap s.n cp s.c s.sh
  po : w.ownsRow (g + 1) 3 1 (.slice ap s.n cp) s.n (il s.P)
  c10 : w.cell? ⟨g, 10, none⟩ = some (.pointer (some ⟨t, 0, none⟩))
  c11 : w.cell? ⟨g, 11, none⟩ = some (.slice ba bn bc)
  c12 : w.cell? ⟨g, 12, none⟩ = some (.slice ab s.n cb)
  bo : w.ownsRow (g + 1) 86 11 (.slice ab s.n cb) s.n (bls X)
  xs : Xs w b s.P X
  far : ∀ (j : Nat) (x : Bv), X[j]? = some x → ∀ q, blk x.a = some q → g < q ∧ blk ap ≠ some q ∧ blk ab ≠ some q ∧ q < w.heap.size
  d : ∀ q, blk ap = some q → blk ab ≠ some q
  bel : Below g w0 w
  ok : NsOk b s
section
variable {w0 w w' : World} {g t : Nat} {i : Inf.If} {b : List Nat} {ba : Option Addr} {bn bc : Nat} {s : Ns} {ap : Option Addr} {cp : Nat} {ab : Option Addr} {cb : Nat} {X : List Bv}
set_option maxRecDepth 100000 in
theorem Xs.keep {P : List Int} (h : Xs w b P X) (hb : Below w.heap.size w w') : Xs w' b P X :=
  ⟨h.len, fun j x hj => by
    obtain ⟨a, ha, k⟩ := h.ok j x hj
    exact ⟨a, ha, k.h, k.n, k.p.keep hb, k.s, k.e⟩⟩
set_option maxRecDepth 100000 in
theorem RdI.more (h : RdI w0 g t i b ba bn bc s ap cp ab cb X w) (hb : Below w.heap.size w w') : RdI w0 g t i b ba bn bc s ap cp ab cb X w' :=
  ⟨h.nx.below hb h.nx.lt, ownsRow_block h.po fun q hq => hb.block q (own_in h.po q hq).2, (hb.cell (p := ⟨g, 10, none⟩) h.nx.lt).trans h.c10, (hb.cell (p := ⟨g, 11, none⟩) h.nx.lt).trans h.c11, (hb.cell (p := ⟨g, 12, none⟩) h.nx.lt).trans h.c12,
    ownsRow_block h.bo fun q hq => hb.block q (h.bo.lt q (by rw [ownBlock_slice]; exact hq)).2, h.xs.keep hb, fun j x hj q hq => ⟨(h.far j x hj q hq).1, (h.far j x hj q hq).2.1, (h.far j x hj q hq).2.2.1, Nat.lt_of_lt_of_le (h.far j x hj q hq).2.2.2 hb.size⟩, h.d, h.bel.trans (hb.mono (Nat.le_of_lt h.nx.lt)), h.ok⟩
end
set_option maxRecDepth 100000 in
theorem Nx.far {w : World} {g : Nat} {i : Inf.If} {at_ : Int} {a : Option Addr} {n cap : Nat} {c : Int} {sh : Bool} (h : Nx w g i at_ a n cap c sh) {j : Nat} (hj : 10 ≤ j) (u : Value) : Nx (w.setCell ⟨g, j, none⟩ u) g i at_ a n cap c sh := by
  refine ⟨?_, ?_, ?_, ?_, ?_, ?_, ?_, ?_, ?_, ?_, fun j => by rw [World.frozen?_setCell]; exact h.fz j⟩
  · rw [World.cell?_setCell_other _ _ _ _ (by intro e; injection e with e1 e2; omega)]; exact h.c0
  · rw [World.cell?_setCell_other _ _ _ _ (by intro e; injection e with e1 e2; omega)]; exact h.c1
  · rw [World.cell?_setCell_other _ _ _ _ (by intro e; injection e with e1 e2; omega)]; exact h.c2
  · rw [World.cell?_setCell_other _ _ _ _ (by intro e; injection e with e1 e2; omega)]; exact h.c3
  · rw [World.cell?_setCell_other _ _ _ _ (by intro e; injection e with e1 e2; omega)]; exact h.c4
  · rw [World.cell?_setCell_other _ _ _ _ (by intro e; injection e with e1 e2; omega)]; exact h.c5
  · rw [World.cell?_setCell_other _ _ _ _ (by intro e; injection e with e1 e2; omega)]; exact h.c6
  · rw [World.cell?_setCell_other _ _ _ _ (by intro e; injection e with e1 e2; omega)]; exact h.c7
  · rw [World.cell?_setCell_other _ _ _ _ (by intro e; injection e with e1 e2; omega)]; exact h.c8
  · rw [World.cell?_setCell_other _ _ _ _ (by intro e; injection e with e1 e2; omega)]; exact h.c9
set_option maxRecDepth 100000 in
theorem info63 : (Tryd.prog.info? 86).map (fun i => (i.zero, i.size, i.bytes)) = some (some (.agg #[.int .i64 0, .int .i64 0, .int .i64 0, .int .i64 0, .int .i64 0, .bool false, .int .u32 0, .int .i64 0, .slice none 0 0, .int .u32 0, .int .i64 0]), 11, 96) := by kernel_rfl
set_option maxRecDepth 100000 in
theorem size63 : (Tryd.prog.info? 86).map (·.size) = some 11 := by kernel_rfl
end Go.Proofs.YthjjonbkfkpkmaaDoor.Fil
