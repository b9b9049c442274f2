/- The tags that are taken from bytes, of the program. Conditions: fewer than 2^40 bytes. -/
import Derived.Test.YtfkklmklbmdlhaaDoorP4
namespace Go.Proofs.YtfkklmklbmdlhaaDoor.Tg
open Go.RowKit Gen Fld
open Crc hiding hid

/-- The state behind so many tags. -/
def st (s : TS) : Nat → TS
  | 0 => s
  | n + 1 => (tx (tx (st s n) 1).2 2).2
/-- The tag that is taken at a place. -/
def tgx (s : TS) (i : Nat) : Tag := ⟨tos (tx (st s i) 1).1, tos (tx (tx (st s i) 1).2 2).1⟩
/-- A tag of nothing. -/
def nt : Tag := ⟨ByteArray.empty, ByteArray.empty⟩
theorem flat_rep : ∀ (n : Nat), flat (List.replicate n nt) = List.replicate (n * 2) (.string ByteArray.empty)
  | 0 => rfl
  | n + 1 => by
    rw [List.replicate_succ]
    show _ :: _ :: flat (List.replicate n nt) = _
    rw [flat_rep n, show (n + 1) * 2 = n * 2 + 1 + 1 from by omega, List.replicate_succ, List.replicate_succ]
    rfl
theorem made_two (n : Nat) : (madeCells #[.string ⟨#[]⟩, .string ⟨#[]⟩] (n * 2)).toList = List.replicate (n * 2) (.string ByteArray.empty) := by
  apply List.ext_getElem?
  intro i
  unfold madeCells
  by_cases hi : i < n * 2
  · have hm : i % 2 = 0 ∨ i % 2 = 1 := by omega
    rcases hm with hm | hm <;> simp [hi, hm] <;> rfl
  · simp [hi]
/-- The first tags, and then tags of nothing. -/
def upt (T : Nat → Tag) (k n : Nat) : List Tag := lst (fun i => if i < k then T i else nt) n
theorem upt_zero (T : Nat → Tag) (n : Nat) : upt T 0 n = List.replicate n nt := by
  apply List.ext_getElem?
  intro i
  unfold upt
  by_cases hi : i < n
  · rw [lst_at _ _ _ hi, List.getElem?_replicate, if_pos hi, if_neg (Nat.not_lt_zero _)]
  · rw [List.getElem?_eq_none (by rw [lst_len]; omega), List.getElem?_replicate, if_neg hi]
theorem upt_len (T : Nat → Tag) (k n : Nat) : (upt T k n).length = n := lst_len _ _
theorem upt_succ (T : Nat → Tag) (k n : Nat) (_h : k < n) : upt T (k + 1) n = (upt T k n).set k (T k) := by
  apply List.ext_getElem?
  intro i
  unfold upt
  by_cases hi : i < n
  · rw [lst_at _ _ _ hi, List.getElem?_set, lst_len]
    by_cases e : k = i
    · subst e; rw [if_pos (Nat.lt_succ_self _), if_pos rfl, if_pos hi]
    · rw [if_neg e, lst_at _ _ _ hi]
      by_cases e2 : i < k
      · rw [if_pos e2, if_pos (by omega)]
      · rw [if_neg e2, if_neg (by omega)]
  · rw [List.getElem?_eq_none (by rw [lst_len]; omega), List.getElem?_eq_none (by rw [List.length_set, lst_len]; omega)]
theorem upt_all (T : Nat → Tag) (n : Nat) : upt T n n = lst T n := by
  apply List.ext_getElem?
  intro i
  unfold upt
  by_cases hi : i < n
  · rw [lst_at _ _ _ hi, lst_at _ _ _ hi, if_pos hi]
  · rw [List.getElem?_eq_none (by rw [lst_len]; omega), List.getElem?_eq_none (by rw [lst_len]; omega)]
theorem fr_step {X Y : Nat → Prop} {w wr w' : World} (h : Fr X w wr) (h2 : Fr Y wr w') (hy : ∀ k, k < w.heap.size → Y k → X k) : Fr X w w' :=
  ⟨h2.os.trans h.os, h2.tape.trans h.tape, h2.output.trans h.output, Nat.le_trans h.size h2.size, fun k hk hx => (h2.block k (Nat.lt_of_lt_of_le hk h.size) (fun e => hx (hy k hk e))).trans (h.block k hk hx)⟩
theorem TkS.stay {w w' : World} {q : Nat} {s : TS} (h : TkS w q s) {X : Nat → Prop} (hf : Fr X w w') (hx : ∀ b, b ≤ q → ¬ X b) : TkS w' q s := by
  obtain ⟨a, cap, ht, h1, h2⟩ := h
  exact ⟨a, cap, ht.keep hf (hx q (Nat.le_refl _)) (fun b off e => by
    obtain ⟨b', off', e1, e2, e3⟩ := ht.spot _ e
    cases e1; exact hx b (by omega)), h1, h2⟩
/-- What taken leaves. -/
def TknP (w : World) (q n : Nat) (T : Nat → Tag) (s' : TS) (e : Ending) (w' : World) : Prop :=
  ∃ g, e = .returned (.slice (some ⟨g, 0, none⟩) n n) ∧ w.heap.size ≤ g ∧ Ow w' w.heap.size (some ⟨g, 0, none⟩) n (lst T n) ∧ TkS w' q s' ∧ Fr (fun b => b = q) w w'
theorem lev_byte {t : List Nat} (ht : ∀ b ∈ t, b < 256) (hl : t.length ≤ 1) : lev t < 256 := Nat.lt_of_lt_of_le (lev_lt t ht) (Nat.le_trans (Nat.pow_le_pow_right (by decide) (show 8 * t.length ≤ 8 by omega)) (by decide))
theorem nx_one (s : TS) : (nx s 1 true).1.length ≤ 1 := by
  rcases nx_len s 1 true with e | ⟨e, _⟩
  · rw [e]; simp
  · rw [e]; decide

set_option maxRecDepth 20000 in
set_option maxHeartbeats 4000000 in
theorem taken_any {w : World} {q : Nat} {s : TS} (h : TkS w q s) :
    Calls Tryd.prog 48 #[.pointer (some ⟨q, 0, none⟩)] w (TknP w q (lev (nx (nx s 2 false).2 1 true).1) (tgx (nx (nx s 2 false).2 1 true).2) (st (nx (nx s 2 false).2 1 true).2 (lev (nx (nx s 2 false).2 1 true).1))) := by
  obtain ⟨i0, hi, hz0, hz1, hz2⟩ := info_parts Tryd.info30
  have HR := hid (traw_any h 2)
  have HQ := hid h.lt
  obtain ⟨a0, c0, k0, _, _⟩ := h
  have HLT := hid (show ∀ W, TkS W q (nx s 2 false).2 → lev (nx (nx s 2 false).2 1 true).1 < 256 from fun W h => lev_byte (h.blt 1 true) (nx_one (nx s 2 false).2))
  have HU := hid (show ∀ W, TkS W q (nx s 2 false).2 → Calls Tryd.prog 50 #[.pointer (some ⟨q, 0, none⟩), .int .i64 1] W (Took W q (nx (nx s 2 false).2 1 true).2 (.int .u64 (lev (nx (nx s 2 false).2 1 true).1 : Int))) from fun W h => tku_any h 1)
  have HR2 := hid (show ∀ e w', RawPost w q s 2 e w' → ∃ ao n cap, e = .returned (.slice ao n cap) ∧ TkS w' q (nx s 2 false).2 ∧ Fr (fun b => b = q) w w' from fun e w' ⟨ao, cap, h1, _, h3, h4, _⟩ => ⟨ao, _, cap, h1, h3, h4⟩)
  generalize (nx s 2 false).2 = sA at *
  generalize lev (nx sA 1 true).1 = n at *
  generalize (nx sA 1 true).2 = sB at *
  clear k0
  go_enter Tryd.func48, Tryd.ntmps48
  go_wp2_with fail
  refine HR.out.mono ?_
  intro e w1 hp1
  obtain ⟨ao, n1, cp, rfl, ht1, hf1⟩ := HR2.out e w1 hp1
  have HF1 := hid hf1
  have HU1 := hid (HU.out w1 ht1)
  have hn256 := HLT.out w1 ht1
  clear hf1 ht1 HR HR2 hp1 HU HLT
  go_wp2_with fail
  refine HU1.out.mono ?_
  rintro e w2 ⟨rfl, ht2, hf2⟩
  have hmk := run_make (P := Tryd.prog) w2 22 30 i0 _ Tryd.underlying22 hi hz0 .u64 .u64 (n : Int) (n : Int) (by omega) (by omega) (by rw [hz2]; omega) (by omega)
  rw [hz1, show (n : Int).toNat = n from rfl] at hmk
  have ho0 : Ow (w2.alloc (.cells (madeCells #[.string ⟨#[]⟩, .string ⟨#[]⟩] (n * 2)) 30)) w2.heap.size (some ⟨w2.heap.size, 0, none⟩) n (upt (tgx sB) 0 n) := by
    unfold Ow
    rw [upt_len, upt_zero, flat_rep, ← made_two]
    exact World.ownsRow_lit w2 _ n (Nat.le_refl _) (by unfold maxLen; omega) (size_madeCells _ _)
  have HO0 := hid ho0
  have HT0 := hid (ht2.below (bel_new w2 (.cells (madeCells #[.string ⟨#[]⟩, .string ⟨#[]⟩] (n * 2)) 30)))
  have HF0 := hid ((HF1.out.trans hf2).alloc (.cells (madeCells #[.string ⟨#[]⟩, .string ⟨#[]⟩] (n * 2)) 30))
  have HSZ := hid (Nat.le_trans HF1.out.size hf2.size)
  have HQ2 := hid (Nat.lt_of_lt_of_le HQ.out HSZ.out)
  clear ht2 hf2 ho0 HU1 HF1
  go_wp2_with fail
  clear hmk
  generalize w2.alloc (.cells (madeCells #[.string ⟨#[]⟩, .string ⟨#[]⟩] (n * 2)) 30) = W3 at *
  generalize w2.heap.size = g at *
  go_loopg [12] n (fun gh i wr => ∃ k : Nat, k ≤ n ∧ gh = n - k ∧ i = .int .i64 k ∧ Hid (Ow wr g (some ⟨g, 0, none⟩) n (upt (tgx sB) k n)) ∧ Hid (TkS wr q (st sB k)) ∧ Hid (Fr (fun b => b = q) w wr))
  case atStart => exact ⟨0, Nat.zero_le _, rfl, rfl, HO0, HT0, HF0⟩
  case round =>
    obtain ⟨k, hk, hg, rfl, HO, HT, HF⟩ := hrel
    have HG := hid hg
    clear hg
    by_cases hlt : k < n
    · have hlt2 : (k : Int) < (n : Int) := by omega
      have HT1 := hid (ttext_any HT.out 1)
      have HK := hid (show (tgx sB k).k = tos (tx (st sB k) 1).1 from rfl)
      have HV := hid (show (tgx sB k).v = tos (tx (tx (st sB k) 1).2 2).1 from rfl)
      have HS := hid (show st sB (k + 1) = (tx (tx (st sB k) 1).2 2).2 from rfl)
      have HUP := hid (upt_succ (tgx sB) k n hlt)
      obtain ⟨tk, htk⟩ : ∃ tk, tk = tos (tx (st sB k) 1).1 := ⟨_, rfl⟩
      rw [← htk] at HT1 HK
      clear htk
      go_wp2_with fail
      refine HT1.out.mono ?_
      rintro e w5 ⟨rfl, ht5, hf5⟩
      have HT2 := hid (ttext_any ht5 2)
      obtain ⟨tv, htv⟩ : ∃ tv, tv = tos (tx (tx (st sB k) 1).2 2).1 := ⟨_, rfl⟩
      rw [← htv] at HT2 HV
      clear htv
      have HF5 := hid hf5
      clear ht5 hf5 HT1
      go_wp2_with fail
      refine HT2.out.mono ?_
      rintro e w6 ⟨rfl, ht6, hf6⟩
      have HT6 := hid ht6
      have hf56 := HF5.out.trans hf6
      have HF6 := hid (HF.out.trans hf56)
      have ho6 := HO.out
      unfold Ow at ho6
      rw [upt_len] at ho6
      have ho6 := own_block ho6 (w' := w6) (fun g' hg' => hf56.block g' (by
        rcases own_at ho6 with ⟨e9, _, _⟩ | ⟨g9, e9, _, hlt9, _⟩
        · cases e9
        · cases e9; have e8 : g = g' := by simpa [blk] using hg'
          omega) (by have e8 : g = g' := by simpa [blk] using hg'
                     have := HQ2.out; omega))
      have s1 := ho6.stored (k * 2) (.string tk)
      have s2 := s1.1.stored (k * 2 + 1) (.string tv)
      have cA := ho6.cellAt (k * 2) (by omega)
      rw [(flat_k (upt (tgx sB) k n) k nt (by unfold upt; rw [lst_at _ _ _ hlt, if_neg (Nat.lt_irrefl _)])).1] at cA
      have cB := ho6.cellAt (k * 2 + 1) (by omega)
      rw [(flat_k (upt (tgx sB) k n) k nt (by unfold upt; rw [lst_at _ _ _ hlt, if_neg (Nat.lt_irrefl _)])).2] at cB
      have fA := ho6.frozenAt (k * 2)
      have fB := ho6.frozenAt (k * 2 + 1)
      have hfg := ((Fr.refl (fun b => b = g) w6).setCell (p := ⟨g, k * 2, none⟩) rfl (.string tk)).setCell (p := ⟨g, k * 2 + 1, none⟩) rfl (.string tv)
      have HFG := hid hfg
      have HOF := hid (show Ow ((w6.setCell ⟨g, k * 2, none⟩ (.string tk)).setCell ⟨g, k * 2 + 1, none⟩ (.string tv)) g (some ⟨g, 0, none⟩) n (upt (tgx sB) (k + 1) n) by
        unfold Ow
        rw [upt_len, HUP.out, flat_set, HK.out, HV.out]
        exact s2.1)
      clear ho6 s1 s2 hf6 hf56 hfg ht6 HT2
      go_wp2_with fail
      go_roundg (n - (k + 1))
      case measure => rw [HG.out]; omega
      case rel => exact ⟨k + 1, by omega, rfl, by go_num, HOF, hid (by
          rw [HS.out]; exact TkS.stay HT6.out HFG.out (fun b hb e => by have := HQ2.out; omega)), hid (fr_step HF6.out HFG.out (fun b hb e => by have := HSZ.out; omega))⟩
    · have hge : ¬ (k : Int) < (n : Int) := by omega
      obtain rfl : k = n := by omega
      have HOF := hid (show Ow wr g (some ⟨g, 0, none⟩) k (lst (tgx sB) k) by rw [← upt_all]; exact HO.out)
      go_wp2_with fail
      go_ret
      exact ⟨g, rfl, HSZ.out, own_mono HOF.out HSZ.out, HT.out, HF.out⟩
end Go.Proofs.YtfkklmklbmdlhaaDoor.Tg
