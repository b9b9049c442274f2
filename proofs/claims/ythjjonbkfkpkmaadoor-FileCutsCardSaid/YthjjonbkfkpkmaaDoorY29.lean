/- Parse of the program: a file is taken apart, or refused. Conditions: at most 2^30 bytes; the two tables of unicode/utf8 lie as their initialisers lay them. -/
import Derived.Test.YthjjonbkfkpkmaaDoorY28
import Derived.Test.YthjjonbkfkpkmaaDoorY08
import Derived.Test.YthjjonbkfkpkmaaDoorY27
import Derived.Deep.MidRow
namespace Go.Proofs.YthjjonbkfkpkmaaDoor.Fil
open Go.RowKit Gen
open Tl (il il_app rise TRt Tx)
attribute [local go_sem] Oper.semAt_some

set_option maxRecDepth 100000 in
theorem tl_ok {s : Ns} {r : List Nat} (h : tlE s r = 0) : Tl.tgE r = 0 ∧ r.length ≤ 18 + 5 * Tl.np r ∧ (Inf.at_ r 2 4 : Int) = s.c ∧ Tl.plc r (Tl.np r) = s.P := by
  unfold tlE at h
  by_cases h1 : Tl.tgE r = 0
  · rw [if_neg (fun e => e h1)] at h
    by_cases h2 : 18 + 5 * Tl.np r < r.length
    · rw [if_pos h2] at h; exact absurd h (by decide)
    · rw [if_neg h2] at h
      by_cases h3 : (Inf.at_ r 2 4 : Int) = s.c
      · rw [if_neg (fun e => e h3)] at h
        by_cases h4 : Tl.plc r (Tl.np r) = s.P
        · exact ⟨h1, by omega, h3, h4⟩
        · rw [if_pos h4] at h; exact absurd h (by decide)
      · rw [if_pos h3] at h; exact absurd h (by decide)
  · rw [if_pos h1] at h; exact absurd h h1
/-- Where the blocks begin. -/
def ps0 (b : List Nat) : Ns := ⟨19 + Tg.gP (b.drop 19), 0, [], 0, false⟩
/-- What is noted of the blocks, and why they end. -/
def psR (b : List Nat) : Ns × Int := prun (Inf.getI b) b (b.length + 1) (ps0 b)
/-- Why bytes are no file. -/
def pfE (b : List Nat) : Int :=
  if Inf.getE b ≠ 0 then Inf.getE b else if Tg.gF (b.drop 19) ≠ 0 then Tg.gF (b.drop 19) else if (psR b).2 ≠ 0 then (psR b).2 else tlE (psR b).1 (b.drop (psR b).1.at_)
abbrev fz : Array Value := #[.int .i64 0, .int .i64 0, .int .i64 0, .int .i64 0, .int .i64 0, .int .i64 0, .slice none 0 0, .slice none 0 0, .int .i64 0, .int .u32 0, .slice none 0 0]
/-- A file's cells. -/
abbrev fcl (i : Inf.If) (a1 : Option Addr) (n1 c1 : Nat) (a2 : Option Addr) (n2 c2 : Nat) (ct : Int) (sm : Nat) (a3 : Option Addr) (n3 c3 : Nat) : Array Value :=
  #[.int .i64 i.k, .int .i64 i.f.ch, .int .i64 i.f.bits, .int .i64 i.f.rate, .int .i64 i.bk, .int .i64 i.sh, .slice a1 n1 c1, .slice a2 n2 c2, .int .i64 ct, .int .u32 (sm : Int), .slice a3 n3 c3]
/-- A file lies in memory: its tags, blocks, places. -/
structure FileAt (w : World) (b : List Nat) (B ty : Nat) (a1 : Option Addr) (c1 : Nat) (a2 : Option Addr) (c2 : Nat) (X : List Bv) (a3 : Option Addr) (c3 : Nat) : Prop where
  tg : Tg.Ow w B a1 c1 (Tg.gL (b.drop 19))
  bo : w.ownsRow B ty 11 (.slice a2 (psR b).1.n c2) (psR b).1.n (bls X)
  xs : Xs w b (psR b).1.P X
  pl : Tl.Nts w a3 (psR b).1.P
  c3 : (psR b).1.n ≤ c3
  ok : NsOk b (psR b).1
set_option maxRecDepth 100000 in
theorem own_mono {w : World} {base base' : Nat} {e : TypeId} {size : Nat} {v : Value} {n : Nat} {xs : List Value} (h : w.ownsRow base e size v n xs) (hb : base' ≤ base) : w.ownsRow base' e size v n xs := by
  refine ⟨h.1, ?_⟩
  rcases h.2 with h2 | ⟨g, c, cur, hv, q1, q2⟩
  · exact .inl h2
  · exact .inr ⟨g, c, cur, hv, Nat.le_trans hb q1, q2⟩
def ParseP (w : World) (b : List Nat) (ty : Nat) (e : Ending) (w' : World) : Prop :=
  Below w.heap.size w w' ∧ ((pfE b ≠ 0 ∧ e = .returned (.tuple #[.agg fz, .int .i64 (pfE b)])) ∨
    (pfE b = 0 ∧ ∃ a1 c1 a2 c2 X a3 c3, e = .returned (.tuple #[.agg (fcl (Inf.getI b) a1 (Tg.gL (b.drop 19)).length c1 a2 (psR b).1.n c2 (psR b).1.c (Inf.at_ (b.drop (psR b).1.at_) 6 4) a3 (psR b).1.n c3), .int .i64 0]) ∧ FileAt w' b w.heap.size ty a1 c1 a2 c2 X a3 c3))
set_option maxRecDepth 100000 in
theorem size45 : (Tryd.prog.info? 43).map (·.size) = some 11 := by kernel_rfl
set_option maxRecDepth 100000 in
theorem gF_nil : Tg.gF [] ≠ 0 := by decide
set_option maxRecDepth 100000 in
theorem gP_le (b : List Nat) : Tg.gP b ≤ b.length := by
  unfold Tg.gP
  split
  · have := Tg.gX_sum b; omega
  · exact Nat.zero_le _
set_option maxRecDepth 100000 in
theorem info_len {b : List Nat} (h : Inf.getE b = 0) : 19 ≤ b.length := by
  by_cases hl : b.length < 19
  · exfalso
    unfold Inf.getE at h
    split at h
    · exact absurd h (by decide)
    · exact absurd h (by decide)
  · omega

set_option maxHeartbeats 4000000 in
set_option maxRecDepth 100000 in
theorem parse_any {w : World} {t : Nat} (ht : Crc.Tab w t) (hT : Tg.Tabs w) {ba : Option Addr} {b : List Nat} {bn bc : Nat} (hb : Byts w ba b) (hbn : b.length = bn) (hbc : bn ≤ bc) (hnn : ba = none → bc = 0) (hm : bn ≤ 1073741824) :
    Calls Tryd.prog 10 #[.pointer (some ⟨t, 0, none⟩), .slice ba bn bc] w (ParseP w b 86) := by
  have hbw := Inf.below_new w (.cells #[.int .i64 0, .int .i64 0, .int .i64 0, .int .i64 0, .int .i64 0, .int .i64 0, .slice none 0 0, .slice none 0 0, .int .i64 0, .int .u32 0, .slice none 0 0] 43)
  have HZ := hid (heap_alloc_new w (.cells #[.int .i64 0, .int .i64 0, .int .i64 0, .int .i64 0, .int .i64 0, .int .i64 0, .slice none 0 0, .slice none 0 0, .int .i64 0, .int .u32 0, .slice none 0 0] 43))
  have HTB := hid (ht.keep (hbw.block t ht.lt))
  have HTT := hid (hT.keep hbw)
  have HBY := hid (hb.keep hbw)
  have HB0 := hid hbw
  have HTL := hid ht.lt
  have HIG := hid (hbn ▸ Inf.get_any (cap := bc) HTB.out HBY.out (by omega) (by omega) : Calls Tryd.prog 21 #[.pointer (some ⟨t, 0, none⟩), .slice ba bn bc] (w.alloc (.cells #[.int .i64 0, .int .i64 0, .int .i64 0, .int .i64 0, .int .i64 0, .int .i64 0, .slice none 0 0, .slice none 0 0, .int .i64 0, .int .u32 0, .slice none 0 0] 43)) (Inf.InfP (w.alloc (.cells #[.int .i64 0, .int .i64 0, .int .i64 0, .int .i64 0, .int .i64 0, .int .i64 0, .slice none 0 0, .slice none 0 0, .int .i64 0, .int .u32 0, .slice none 0 0] 43)) (Inf.getI b) (Inf.getE b)))
  have HBN := hid (And.intro hbn (And.intro hbc hm))
  clear ht hT hb hbw hbn
  obtain ⟨E, hE⟩ : ∃ E, pfE b = E := ⟨_, rfl⟩
  unfold ParseP
  rw [hE]
  have HE := hid hE
  have HIL := hid fun h => info_len (b := b) h
  clear hE
  obtain ⟨i, hi⟩ : ∃ i, Inf.getI b = i := ⟨_, rfl⟩
  obtain ⟨ie, hie⟩ : ∃ ie, Inf.getE b = ie := ⟨_, rfl⟩
  rw [hi] at HIG ⊢
  rw [hie] at HIG HIL
  have HI := hid hi
  have HIE := hid hie
  clear hi hie
  go_enter Tryd.func10, Tryd.ntmps10
  go_wp2_with fail
  refine HIG.out.mono ?_
  rintro e w1 ⟨rfl, hb1⟩
  rw [show Inf.iv i = .agg (Inf.ivl i) from rfl]
  have HZ1 := hid ((hb1.block w.heap.size (World.block_lt_of_cell? _ _ (Inf.row_cell HZ.out 0 rfl))).trans HZ.out)
  have HTB1 := hid (HTB.out.keep (hb1.block t HTB.out.lt))
  have HTT1 := hid (HTT.out.keep hb1)
  have HBY1 := hid (HBY.out.keep hb1)
  have HB1 := hid (HB0.out.trans (hb1.mono HB0.out.size))
  have HAN := hid (heap_alloc_new w1 (.cells #[.int .i64 0, .int .i64 0, .int .i64 0, .int .i64 0, .int .i64 0, .int .i64 0] 25))
  have hb2 : Below w1.heap.size w1 ((w1.alloc (.cells #[.int .i64 0, .int .i64 0, .int .i64 0, .int .i64 0, .int .i64 0, .int .i64 0] 25)).setRow w1.heap.size (Inf.ivl i)) := Inf.fr_rowBelow (Inf.below_new w1 _) (Nat.le_refl _)
  have HX2 := hid (show Inf.Bx ((w1.alloc (.cells #[.int .i64 0, .int .i64 0, .int .i64 0, .int .i64 0, .int .i64 0, .int .i64 0] 25)).setRow w1.heap.size (Inf.ivl i)) w1.heap.size i from ⟨setRow_heap _ _ _ _ _ _ HAN.out⟩)
  have HZ2 := hid ((hb2.block w.heap.size (World.block_lt_of_cell? _ _ (Inf.row_cell HZ1.out 0 rfl))).trans HZ1.out)
  have HTB2 := hid (HTB1.out.keep (hb2.block t HTB1.out.lt))
  have HTT2 := hid (HTT1.out.keep hb2)
  have HBY2 := hid (HBY1.out.keep hb2)
  have HB2 := hid (HB1.out.trans (hb2.mono HB1.out.size))
  clear hb1 hb2 HZ HZ1 HTB HTB1 HTT HTT1 HBY HBY1 HB0 HB1 HIG
  by_cases hie : ie = 0
  rotate_left 1
  · have hX : E = ie := by rw [← HE.out]; unfold pfE; rw [HIE.out, if_pos hie]
    have hie' : (ie != 0) = true := bne_iff_ne.2 hie
    go_wp2_with (first
      | (refine wpList_store_row rfl 25 _ _ rfl w1.heap.size (Inf.ivl i) rfl rfl 25 #[.int .i64 0, .int .i64 0, .int .i64 0, .int .i64 0, .int .i64 0, .int .i64 0] HAN.out (Inf.ivl_size i) rfl (by simp [Inf.ivl, Value.oneCell']) ?_)
      | (refine wpList_store_row rfl 43 _ _ rfl w.heap.size #[.int .i64 0, .int .i64 0, .int .i64 0, .int .i64 0, .int .i64 0, .int .i64 0, .slice none 0 0, .slice none 0 0, .int .i64 0, .int .u32 0, .slice none 0 0] rfl rfl 43 #[.int .i64 0, .int .i64 0, .int .i64 0, .int .i64 0, .int .i64 0, .int .i64 0, .slice none 0 0, .slice none 0 0, .int .i64 0, .int .u32 0, .slice none 0 0] HZ2.out size45 rfl (by simp [Value.oneCell']) ?_))
    refine bodyPost_ret (Head.res_ct (p := 4) (u := 5) (ty := 43) (by kernel_rfl) _ _ w.heap.size 43 #[.int .i64 0, .int .i64 0, .int .i64 0, .int .i64 0, .int .i64 0, .int .i64 0, .slice none 0 0, .slice none 0 0, .int .i64 0, .int .u32 0, .slice none 0 0] (0, 0) _ rfl (setRow_heap _ _ _ _ _ _ HZ2.out) Tryd.underlying43 rfl size45 rfl) rfl ?_
    exact ⟨Inf.fr_rowBelow HB2.out (Nat.le_refl _), .inl ⟨by rw [hX]; exact hie, by rw [hX]; rfl⟩⟩
  subst hie
  have HE1 := hid (show E = if Tg.gF (b.drop 19) ≠ 0 then Tg.gF (b.drop 19) else if (psR b).2 ≠ 0 then (psR b).2 else tlE (psR b).1 (b.drop (psR b).1.at_) from by rw [← HE.out]; unfold pfE; rw [HIE.out, if_neg (fun h => h rfl)])
  have h19 : 19 ≤ bn := by rw [← HBN.out.1]; exact HIL.out rfl
  obtain ⟨bq, bo, rfl⟩ : ∃ bq bo, ba = some ⟨bq, bo, none⟩ := by
    obtain ⟨q, off, e, _⟩ := HBY2.out.at_ 0 _ (List.getElem?_eq_getElem (by rw [HBN.out.1]; omega))
    exact ⟨q, off, e⟩
  have hdl : (b.drop 19).length = bn - 19 := by rw [List.length_drop, HBN.out.1]
  have HBQ := hid (show bq < ((w1.alloc (.cells #[.int .i64 0, .int .i64 0, .int .i64 0, .int .i64 0, .int .i64 0, .int .i64 0] 25)).setRow w1.heap.size (Inf.ivl i)).heap.size from by
    obtain ⟨q, off, e, hc⟩ := HBY2.out.at_ 0 _ (List.getElem?_eq_getElem (by rw [HBN.out.1]; omega))
    cases e
    exact World.block_lt_of_cell? _ _ hc)
  have h19i : (19 : Int) ≤ (bn : Int) := by omega
  have h19c : 19 ≤ bc := by omega
  by_cases hcap : bc = 19
  · -- nothing behind the info
    have hbn19 : bn = 19 := by omega
    subst hcap
    subst hbn19
    have hd0 : b.drop 19 = [] := List.eq_nil_of_length_eq_zero (by rw [hdl])
    have hX : E = Tg.gF (b.drop 19) := by rw [HE1.out, if_pos (by rw [hd0]; exact gF_nil)]
    rw [hd0] at hX
    have HTG := hid fun (a : Option Addr) => Tg.get_any (w := ((w1.alloc (.cells #[.int .i64 0, .int .i64 0, .int .i64 0, .int .i64 0, .int .i64 0, .int .i64 0] 25)).setRow w1.heap.size (Inf.ivl i))) (g := t) (a := a) (b := []) (cap := 0) HTB2.out HTT2.out (Byts.nil _ _) (fun _ => ⟨rfl, rfl⟩) (Nat.le_refl _) (Nat.zero_le _)
    go_wp2_with (refine wpList_store_row rfl 25 _ _ rfl w1.heap.size (Inf.ivl i) rfl rfl 25 #[.int .i64 0, .int .i64 0, .int .i64 0, .int .i64 0, .int .i64 0, .int .i64 0] HAN.out (Inf.ivl_size i) rfl (by simp [Inf.ivl, Value.oneCell']) ?_)
    refine (HTG.out _).mono ?_
    rintro e w3 ⟨at3, ct3, rfl, ho3, hb3⟩
    have HZ3 := hid ((hb3.block w.heap.size (World.block_lt_of_cell? _ _ (Inf.row_cell HZ2.out 0 rfl))).trans HZ2.out)
    have HB3 := hid (HB2.out.trans (hb3.mono HB2.out.size))
    have hg' : (Tg.gF [] != 0) = true := bne_iff_ne.2 gF_nil
    have hgx := gF_nil
    rw [← hX] at hg' hgx ⊢
    clear hb3 ho3
    go_wp2_with (refine wpList_store_row rfl 43 _ _ rfl w.heap.size #[.int .i64 0, .int .i64 0, .int .i64 0, .int .i64 0, .int .i64 0, .int .i64 0, .slice none 0 0, .slice none 0 0, .int .i64 0, .int .u32 0, .slice none 0 0] rfl rfl 43 #[.int .i64 0, .int .i64 0, .int .i64 0, .int .i64 0, .int .i64 0, .int .i64 0, .slice none 0 0, .slice none 0 0, .int .i64 0, .int .u32 0, .slice none 0 0] HZ3.out size45 rfl (by simp [Value.oneCell']) ?_)
    refine bodyPost_ret (Head.res_ct (p := 4) (u := 5) (ty := 43) (by kernel_rfl) _ _ w.heap.size 43 #[.int .i64 0, .int .i64 0, .int .i64 0, .int .i64 0, .int .i64 0, .int .i64 0, .slice none 0 0, .slice none 0 0, .int .i64 0, .int .u32 0, .slice none 0 0] (0, 0) _ rfl (setRow_heap _ _ _ _ _ _ HZ3.out) Tryd.underlying43 rfl size45 rfl) rfl ?_
    exact ⟨Inf.fr_rowBelow HB3.out (Nat.le_refl _), .inl ⟨hgx, by rw [hX]; rfl⟩⟩
  have hne : ¬ bc = 19 := hcap
  have HTG := hid (hdl ▸ Tg.get_any (w := ((w1.alloc (.cells #[.int .i64 0, .int .i64 0, .int .i64 0, .int .i64 0, .int .i64 0, .int .i64 0] 25)).setRow w1.heap.size (Inf.ivl i))) (g := t) (a := some ⟨bq, bo + 19, none⟩) (b := b.drop 19) (cap := bc - 19) HTB2.out HTT2.out (HBY2.out.drop 19) (fun e => by cases e) (by omega) (by omega) : Calls Tryd.prog 22 #[.pointer (some ⟨t, 0, none⟩), .slice (some ⟨bq, bo + 19, none⟩) (bn - 19) (bc - 19)] ((w1.alloc (.cells #[.int .i64 0, .int .i64 0, .int .i64 0, .int .i64 0, .int .i64 0, .int .i64 0] 25)).setRow w1.heap.size (Inf.ivl i)) (Tg.GetP ((w1.alloc (.cells #[.int .i64 0, .int .i64 0, .int .i64 0, .int .i64 0, .int .i64 0, .int .i64 0] 25)).setRow w1.heap.size (Inf.ivl i)) (b.drop 19)))
  have HGP := hid (gP_le (b.drop 19))
  obtain ⟨gf, hgf⟩ : ∃ gf, Tg.gF (b.drop 19) = gf := ⟨_, rfl⟩
  obtain ⟨gp, hgp⟩ : ∃ gp, Tg.gP (b.drop 19) = gp := ⟨_, rfl⟩
  rw [hgp, hdl] at HGP
  rw [hgf] at HE1
  unfold Tg.GetP at HTG
  rw [hgf, hgp] at HTG
  have HGF := hid hgf
  have HGQ := hid hgp
  have HDL := hid hdl
  clear hgf hgp hdl hcap
  go_wp2_with (refine wpList_store_row rfl 25 _ _ rfl w1.heap.size (Inf.ivl i) rfl rfl 25 #[.int .i64 0, .int .i64 0, .int .i64 0, .int .i64 0, .int .i64 0, .int .i64 0] HAN.out (Inf.ivl_size i) rfl (by simp [Inf.ivl, Value.oneCell']) ?_)
  refine HTG.out.mono ?_
  rintro e w3 ⟨at3, ct3, rfl, ho3, hb3⟩
  have HZ3 := hid ((hb3.block w.heap.size (World.block_lt_of_cell? _ _ (Inf.row_cell HZ2.out 0 rfl))).trans HZ2.out)
  have HX3 := hid (HX2.out.below hb3 HX2.out.lt)
  have HTB3 := hid (HTB2.out.keep (hb3.block t HTB2.out.lt))
  have HBY3 := hid (HBY2.out.keep hb3)
  have HB3 := hid (HB2.out.trans (hb3.mono HB2.out.size))
  have HO3 := hid ho3
  have HBQ3 := hid (Nat.lt_of_lt_of_le HBQ.out hb3.size)
  have HZLW := hid (show w.heap.size < ((w1.alloc (.cells #[.int .i64 0, .int .i64 0, .int .i64 0, .int .i64 0, .int .i64 0, .int .i64 0] 25)).setRow w1.heap.size (Inf.ivl i)).heap.size from World.block_lt_of_cell? _ _ (Inf.row_cell HZ2.out 0 rfl))
  have HB23 := hid (show w.heap.size ≤ ((w1.alloc (.cells #[.int .i64 0, .int .i64 0, .int .i64 0, .int .i64 0, .int .i64 0, .int .i64 0] 25)).setRow w1.heap.size (Inf.ivl i)).heap.size from HB2.out.size)
  clear hb3 ho3 HTG HZ2 HX2 HTB2 HTT2 HBY2 HB2 HBQ
  by_cases hgf0 : gf = 0
  rotate_left 1
  · have hX : E = gf := HE1.out.trans (if_pos hgf0)
    have hg' : (gf != 0) = true := bne_iff_ne.2 hgf0
    go_wp2_with (refine wpList_store_row rfl 43 _ _ rfl w.heap.size #[.int .i64 0, .int .i64 0, .int .i64 0, .int .i64 0, .int .i64 0, .int .i64 0, .slice none 0 0, .slice none 0 0, .int .i64 0, .int .u32 0, .slice none 0 0] rfl rfl 43 #[.int .i64 0, .int .i64 0, .int .i64 0, .int .i64 0, .int .i64 0, .int .i64 0, .slice none 0 0, .slice none 0 0, .int .i64 0, .int .u32 0, .slice none 0 0] HZ3.out size45 rfl (by simp [Value.oneCell']) ?_)
    refine bodyPost_ret (Head.res_ct (p := 4) (u := 5) (ty := 43) (by kernel_rfl) _ _ w.heap.size 43 #[.int .i64 0, .int .i64 0, .int .i64 0, .int .i64 0, .int .i64 0, .int .i64 0, .slice none 0 0, .slice none 0 0, .int .i64 0, .int .u32 0, .slice none 0 0] (0, 0) _ rfl (setRow_heap _ _ _ _ _ _ HZ3.out) Tryd.underlying43 rfl size45 rfl) rfl ?_
    exact ⟨Inf.fr_rowBelow HB3.out (Nat.le_refl _), .inl ⟨by rw [hX]; exact hgf0, by rw [hX]; rfl⟩⟩
  subst hgf0
  have HE2 := hid (HE1.out.trans (if_neg (fun h => h rfl)))
  have x0 := HX3.out.c0
  have x1 := HX3.out.c1
  have x2 := HX3.out.c2
  have x3 := HX3.out.c3
  have x4 := HX3.out.c4
  have x5 := HX3.out.c5
  have hgpl : gp ≤ bn - 19 := HGP.out
  have hu : wrap64 (19 + (gp : Int)) = 19 + (gp : Int) := IntWalk.wrap64_in _ (by omega)
  have hbn30 : bn ≤ 1073741824 := HBN.out.2.2
  clear HE1
  go_wp2_with fail
  have HNN := hid (heap_alloc_new w3 (.cells #[.int .i64 i.k, .int .i64 i.f.ch, .int .i64 i.f.bits, .int .i64 i.f.rate, .int .i64 i.bk, .int .i64 i.sh, .int .i64 (19 + (gp : Int)), .slice none 0 0, .int .i64 0, .bool false, .pointer (some ⟨t, 0, none⟩), .slice (some ⟨bq, bo, none⟩) bn bc, .slice none 0 0] 76))
  have hbw4 := Inf.below_new w3 (.cells #[.int .i64 i.k, .int .i64 i.f.ch, .int .i64 i.f.bits, .int .i64 i.f.rate, .int .i64 i.bk, .int .i64 i.sh, .int .i64 (19 + (gp : Int)), .slice none 0 0, .int .i64 0, .bool false, .pointer (some ⟨t, 0, none⟩), .slice (some ⟨bq, bo, none⟩) bn bc, .slice none 0 0] 76)
  have hz4 : (w3.alloc (.cells #[.int .i64 i.k, .int .i64 i.f.ch, .int .i64 i.f.bits, .int .i64 i.f.rate, .int .i64 i.bk, .int .i64 i.sh, .int .i64 (19 + (gp : Int)), .slice none 0 0, .int .i64 0, .bool false, .pointer (some ⟨t, 0, none⟩), .slice (some ⟨bq, bo, none⟩) bn bc, .slice none 0 0] 76)).heap.size = w3.heap.size + 1 := Array.size_push _
  have HZ4 := hid ((hbw4.block w.heap.size (World.block_lt_of_cell? _ _ (Inf.row_cell HZ3.out 0 rfl))).trans HZ3.out)
  have HX4 := hid (HX3.out.below hbw4 HX3.out.lt)
  have HTB4 := hid (HTB3.out.keep (hbw4.block t HTB3.out.lt))
  have HBY4 := hid (HBY3.out.keep hbw4)
  have HB4 := hid (HB3.out.trans (hbw4.mono HB3.out.size))
  have HO4 := hid (HO3.out.keep hbw4)
  have HTG4 := hid (show t < w3.heap.size from HTB3.out.lt)
  have HXL := hid HX3.out.lt
  have HOL := hid (show ∀ q, blk at3 = some q → ((w1.alloc (.cells #[.int .i64 0, .int .i64 0, .int .i64 0, .int .i64 0, .int .i64 0, .int .i64 0] 25)).setRow w1.heap.size (Inf.ivl i)).heap.size ≤ q ∧ q < w3.heap.size from fun q hq => HO3.out.lt q (by rw [ownBlock_slice]; exact hq))
  have HZL := hid (World.block_lt_of_cell? _ _ (Inf.row_cell HZ3.out 0 rfl))
  have HSZ4 := hid hz4
  have HWW := hid HB3.out.size
  clear x0 x1 x2 x3 x4 x5 hu hbw4 hz4 HZ3 HX3 HTB3 HBY3 HB3 HO3
  generalize w3.alloc (.cells #[.int .i64 i.k, .int .i64 i.f.ch, .int .i64 i.f.bits, .int .i64 i.f.rate, .int .i64 i.bk, .int .i64 i.sh, .int .i64 (19 + (gp : Int)), .slice none 0 0, .int .i64 0, .bool false, .pointer (some ⟨t, 0, none⟩), .slice (some ⟨bq, bo, none⟩) bn bc, .slice none 0 0] 76) = w4 at *
  generalize w3.heap.size = g at *
  have HRD := hid (show RdI w4 g t i b (some ⟨bq, bo, none⟩) bn bc (ps0 b) none 0 none 0 [] w4 from by
    have hr := HNN.out
    have e0 : (ps0 b).at_ = 19 + gp := by show 19 + Tg.gP (b.drop 19) = _; rw [HGQ.out]
    refine ⟨⟨Inf.row_cell hr 0 rfl, Inf.row_cell hr 1 rfl, Inf.row_cell hr 2 rfl, Inf.row_cell hr 3 rfl, Inf.row_cell hr 4 rfl, Inf.row_cell hr 5 rfl, ?_, Inf.row_cell hr 7 rfl, Inf.row_cell hr 8 rfl, Inf.row_cell hr 9 rfl, Inf.row_frozen hr⟩, World.ownsRow_nil _ _ _ _, Inf.row_cell hr 10 rfl, Inf.row_cell hr 11 rfl, Inf.row_cell hr 12 rfl, World.ownsRow_nil _ _ _ _, Xs.nil _ _, (fun j x h => by simp at h), (fun q h => by cases h), Below.refl _ _, ⟨rfl, ?_, Nat.zero_le _, Int.le_refl _, Int.le_refl _⟩⟩
    · rw [e0, show ((19 + gp : Nat) : Int) = 19 + (gp : Int) by omega]; exact Inf.row_cell hr 6 rfl
    · rw [e0, HBN.out.1]; omega)
  have HRB := hid (rdblocks_any HRD.out HTB4.out HBY4.out HBN.out.1 HBN.out.2.1 hbn30 HTG4.out (fun q off e => by cases e; exact HBQ3.out))
  have hRR : prun i b (bn + 1) (ps0 b) = psR b := by unfold psR; rw [HI.out, HBN.out.1]
  rw [hRR] at HRB
  clear hRR
  go_wp2_with fail
  refine HRB.out.mono ?_
  rintro e w5 ⟨rfl, hb5, hgood⟩
  have hgz : w.heap.size < g := HZL.out
  have HZ5 := hid ((hb5.block w.heap.size hgz).trans HZ4.out)
  have HX5 := hid (HX4.out.below hb5 HXL.out)
  have HTB5 := hid (HTB4.out.keep (hb5.block t HTG4.out))
  have HBY5 := hid (HBY4.out.stay (below_fr hb5) (fun q off e => by cases e; have := HBQ3.out; omega))
  have HB5 := hid (HB4.out.trans (hb5.mono (Nat.le_of_lt hgz)))
  have HO5 := hid (show Tg.Ow w5 ((w1.alloc (.cells #[.int .i64 0, .int .i64 0, .int .i64 0, .int .i64 0, .int .i64 0, .int .i64 0] 25)).setRow w1.heap.size (Inf.ivl i)).heap.size at3 ct3 (Tg.gL (b.drop 19)) from ownsRow_block HO4.out fun q hq => hb5.block q (HOL.out q hq).2)
  have HG5 := hid (show g + 1 ≤ w5.heap.size from by have := hb5.size; have := HSZ4.out; omega)
  clear hb5 HRB HZ4 HX4 HTB4 HBY4 HB4 HO4 HRD
  obtain ⟨R2, hR2⟩ : ∃ R2, (psR b).2 = R2 := ⟨_, rfl⟩
  rw [hR2] at HE2 hgood ⊢
  clear hR2
  by_cases hr0 : R2 = 0
  rotate_left 1
  · have hX : E = R2 := HE2.out.trans (if_pos hr0)
    have hr' : (R2 != 0) = true := bne_iff_ne.2 hr0
    clear hgood
    go_wp2_with (refine wpList_store_row rfl 43 _ _ rfl w.heap.size #[.int .i64 0, .int .i64 0, .int .i64 0, .int .i64 0, .int .i64 0, .int .i64 0, .slice none 0 0, .slice none 0 0, .int .i64 0, .int .u32 0, .slice none 0 0] rfl rfl 43 #[.int .i64 0, .int .i64 0, .int .i64 0, .int .i64 0, .int .i64 0, .int .i64 0, .slice none 0 0, .slice none 0 0, .int .i64 0, .int .u32 0, .slice none 0 0] HZ5.out size45 rfl (by simp [Value.oneCell']) ?_)
    refine bodyPost_ret (Head.res_ct (p := 4) (u := 5) (ty := 43) (by kernel_rfl) _ _ w.heap.size 43 #[.int .i64 0, .int .i64 0, .int .i64 0, .int .i64 0, .int .i64 0, .int .i64 0, .slice none 0 0, .slice none 0 0, .int .i64 0, .int .u32 0, .slice none 0 0] (0, 0) _ rfl (setRow_heap _ _ _ _ _ _ HZ5.out) Tryd.underlying43 rfl size45 rfl) rfl ?_
    exact ⟨Inf.fr_rowBelow HB5.out (Nat.le_refl _), .inl ⟨by rw [hX]; exact hr0, by rw [hX]; rfl⟩⟩
  subst hr0
  have HE3 := hid (HE2.out.trans (if_neg (fun h => h rfl)))
  obtain ⟨ap, cp, ab, cb, X, hrd, hlt⟩ := hgood rfl
  have HRD5 := hid hrd
  have HRT := hid (rdtail_any hrd HTB5.out HBY5.out HBN.out.1 HBN.out.2.1 hbn30 hlt)
  clear hgood hrd HE2
  unfold TlP at HRT
  obtain ⟨te, hte⟩ : ∃ te, tlE (psR b).1 (b.drop (psR b).1.at_) = te := ⟨_, rfl⟩
  rw [hte] at HE3 HRT
  have HTE := hid hte
  clear hte
  go_wp2_with fail
  refine HRT.out.mono ?_
  rintro e w6 ⟨hb6, hres⟩
  have HZ6 := hid ((hb6.block w.heap.size (World.block_lt_of_cell? _ _ (Inf.row_cell HZ5.out 0 rfl))).trans HZ5.out)
  have HX6 := hid (HX5.out.below hb6 HX5.out.lt)
  have HB6 := hid (HB5.out.trans (hb6.mono HB5.out.size))
  have HO6 := hid (HO5.out.keep hb6)
  have HRD6 := hid (HRD5.out.more hb6)
  have HAN6 := hid (heap_alloc_new w6 (.cells tz 41))
  have HG6 := hid (Nat.le_trans HG5.out hb6.size)
  have HG5L := hid (show w.heap.size < w5.heap.size from by have h1 := HG5.out; have h2 := HZL.out; omega)
  clear hb6 HZ5 HX5 HB5 HO5 HRD5 HBY5 HTB5 HRT HG5
  rcases hres with ⟨hte0, rfl⟩ | ⟨hte0, ax, cx, rfl, hnt, hnc, hnn, hnw⟩
  · have hX : E = te := HE3.out
    have hte' : (te != 0) = true := bne_iff_ne.2 hte0
    have hb7 : Below w6.heap.size w6 ((w6.alloc (.cells #[.int .i64 0, .int .u32 0, .slice none 0 0] 41)).setRow w6.heap.size #[.int .i64 0, .int .u32 0, .slice none 0 0]) := Inf.fr_rowBelow (Inf.below_new w6 _) (Nat.le_refl _)
    have HZ7 := hid ((hb7.block w.heap.size (World.block_lt_of_cell? _ _ (Inf.row_cell HZ6.out 0 rfl))).trans HZ6.out)
    have HB7 := hid (HB6.out.trans (hb7.mono HB6.out.size))
    clear hb7
    go_wp2_with (first
      | (refine wpList_store_row rfl 41 _ _ rfl w6.heap.size #[.int .i64 0, .int .u32 0, .slice none 0 0] rfl rfl 41 #[.int .i64 0, .int .u32 0, .slice none 0 0] HAN6.out Tl.Tryd.size41 rfl (by simp [Value.oneCell']) ?_)
      | (refine wpList_store_row rfl 43 _ _ rfl w.heap.size #[.int .i64 0, .int .i64 0, .int .i64 0, .int .i64 0, .int .i64 0, .int .i64 0, .slice none 0 0, .slice none 0 0, .int .i64 0, .int .u32 0, .slice none 0 0] rfl rfl 43 #[.int .i64 0, .int .i64 0, .int .i64 0, .int .i64 0, .int .i64 0, .int .i64 0, .slice none 0 0, .slice none 0 0, .int .i64 0, .int .u32 0, .slice none 0 0] HZ7.out size45 rfl (by simp [Value.oneCell']) ?_))
    refine bodyPost_ret (Head.res_ct (p := 4) (u := 5) (ty := 43) (by kernel_rfl) _ _ w.heap.size 43 #[.int .i64 0, .int .i64 0, .int .i64 0, .int .i64 0, .int .i64 0, .int .i64 0, .slice none 0 0, .slice none 0 0, .int .i64 0, .int .u32 0, .slice none 0 0] (0, 0) _ rfl (setRow_heap _ _ _ _ _ _ HZ7.out) Tryd.underlying43 rfl size45 rfl) rfl ?_
    exact ⟨Inf.fr_rowBelow HB7.out (Nat.le_refl _), .inl ⟨by rw [hX]; exact hte0, by rw [hX]; rfl⟩⟩
  have hX : E = 0 := HE3.out.trans hte0
  subst hX
  obtain ⟨_, _, hcc, hpp⟩ := tl_ok (HTE.out.trans hte0)
  have hmn : Tl.np (b.drop (psR b).1.at_) = (psR b).1.n := by rw [← Tl.plc_len (b.drop (psR b).1.at_) (Tl.np (b.drop (psR b).1.at_)), hpp, HRD6.out.ok.n]
  rw [hpp] at hnt
  have HNT := hid hnt
  have HNC := hid (And.intro hnc hnw)
  obtain ⟨m, hm1⟩ : ∃ m, Tl.np (b.drop (psR b).1.at_) = m := ⟨_, rfl⟩
  obtain ⟨n1, hn1⟩ : ∃ n1, Inf.at_ (b.drop (psR b).1.at_) 2 4 = n1 := ⟨_, rfl⟩
  obtain ⟨n2, hn2⟩ : ∃ n2, Inf.at_ (b.drop (psR b).1.at_) 6 4 = n2 := ⟨_, rfl⟩
  rw [hm1] at hmn HNC ⊢
  rw [hn1] at hcc ⊢
  rw [hn2]
  have HEQ := hid (And.intro hmn (And.intro hcc hn2))
  clear hnt hnc hnn hnw hcc hpp hmn hm1 hn1 hn2 hte0 HTE HE3
  have hb7 : Below w6.heap.size w6 ((w6.alloc (.cells #[.int .i64 0, .int .u32 0, .slice none 0 0] 41)).setRow w6.heap.size #[.int .i64 (n1 : Int), .int .u32 (n2 : Int), .slice ax m cx]) := Inf.fr_rowBelow (Inf.below_new w6 _) (Nat.le_refl _)
  have HZ7 := hid ((hb7.block w.heap.size (World.block_lt_of_cell? _ _ (Inf.row_cell HZ6.out 0 rfl))).trans HZ6.out)
  have HX7 := hid (HX6.out.below hb7 HX6.out.lt)
  have HB7 := hid (HB6.out.trans (hb7.mono HB6.out.size))
  have HO7 := hid (HO6.out.keep hb7)
  have HRD7 := hid (HRD6.out.more hb7)
  have HNT7 := hid (HNT.out.keep hb7)
  have HTR7 := hid (setRow_heap (w6.alloc (.cells #[.int .i64 0, .int .u32 0, .slice none 0 0] 41)) w6.heap.size #[.int .i64 0, .int .u32 0, .slice none 0 0] #[.int .i64 (n1 : Int), .int .u32 (n2 : Int), .slice ax m cx] 41 (0, 0) HAN6.out)
  clear hb7
  go_wp2_with (refine wpList_store_row rfl 41 _ _ rfl w6.heap.size #[.int .i64 (n1 : Int), .int .u32 (n2 : Int), .slice ax m cx] rfl rfl 41 #[.int .i64 0, .int .u32 0, .slice none 0 0] HAN6.out Tl.Tryd.size41 rfl (by simp [Value.oneCell']) ?_)
  generalize (w6.alloc (.cells #[.int .i64 0, .int .u32 0, .slice none 0 0] 41)).setRow w6.heap.size #[.int .i64 (n1 : Int), .int .u32 (n2 : Int), .slice ax m cx] = w7 at *
  have x0 := HX7.out.c0
  have x1 := HX7.out.c1
  have x2 := HX7.out.c2
  have x3 := HX7.out.c3
  have x4 := HX7.out.c4
  have x5 := HX7.out.c5
  have y0 : w7.cell? ⟨w6.heap.size, 0, none⟩ = some (.int .i64 (n1 : Int)) := Inf.row_cell HTR7.out 0 rfl
  have y1 : w7.cell? ⟨w6.heap.size, 1, none⟩ = some (.int .u32 (n2 : Int)) := Inf.row_cell HTR7.out 1 rfl
  have y2 : w7.cell? ⟨w6.heap.size, 2, none⟩ = some (.slice ax m cx) := Inf.row_cell HTR7.out 2 rfl
  have e12 := HRD7.out.c12
  go_still_tail 8, (by kernel_rfl)
  clear x0 x1 x2 x3 x4 x5 y0 y1 y2 e12
  have hb8 : Below w7.heap.size w7 w7.drew := (Below.refl _ _).drew
  have HZ8 := hid ((hb8.block w.heap.size (World.block_lt_of_cell? _ _ (Inf.row_cell HZ7.out 0 rfl))).trans HZ7.out)
  have HB8 := hid (HB7.out.trans (hb8.mono HB7.out.size))
  have HO8 := hid (HO7.out.keep hb8)
  have HRD8 := hid (HRD7.out.more hb8)
  have HNT8 := hid (HNT7.out.keep hb8)
  clear hb8 HZ7 HB7 HO7 HRD7 HNT7 HX7 HTR7 HZ6 HB6 HO6 HRD6 HX6 HAN6 HAN HNT
  change wpList _ _ _ _ _ w7.drew
  generalize w7.drew = w8 at *
  go_wp2_with (refine wpList_store_row rfl 43 _ _ rfl w.heap.size #[.int .i64 i.k, .int .i64 i.f.ch, .int .i64 i.f.bits, .int .i64 i.f.rate, .int .i64 i.bk, .int .i64 i.sh, .slice at3 (Tg.gL (b.drop 19)).length ct3, .slice ab (psR b).1.n cb, .int .i64 (n1 : Int), .int .u32 (n2 : Int), .slice ax m cx] rfl rfl 43 #[.int .i64 0, .int .i64 0, .int .i64 0, .int .i64 0, .int .i64 0, .int .i64 0, .slice none 0 0, .slice none 0 0, .int .i64 0, .int .u32 0, .slice none 0 0] HZ8.out size45 rfl (by simp [Value.oneCell']) ?_)
  refine bodyPost_ret (Head.res_ct (p := 4) (u := 5) (ty := 43) (by kernel_rfl) _ _ w.heap.size 43 #[.int .i64 i.k, .int .i64 i.f.ch, .int .i64 i.f.bits, .int .i64 i.f.rate, .int .i64 i.bk, .int .i64 i.sh, .slice at3 (Tg.gL (b.drop 19)).length ct3, .slice ab (psR b).1.n cb, .int .i64 (n1 : Int), .int .u32 (n2 : Int), .slice ax m cx] (0, 0) _ rfl (setRow_heap _ _ _ _ _ _ HZ8.out) Tryd.underlying43 rfl size45 rfl) rfl ?_
  have hfs := Inf.fr_setRow w8 w.heap.size #[.int .i64 i.k, .int .i64 i.f.ch, .int .i64 i.f.bits, .int .i64 i.f.rate, .int .i64 i.bk, .int .i64 i.sh, .slice at3 (Tg.gL (b.drop 19)).length ct3, .slice ab (psR b).1.n cb, .int .i64 (n1 : Int), .int .u32 (n2 : Int), .slice ax m cx]
  have hzg : w.heap.size < g := HZL.out
  refine ⟨Inf.fr_rowBelow HB8.out (Nat.le_refl _), at3, ct3, ab, cb, X, ax, cx, ?_, ⟨?_, ?_, ⟨HRD8.out.xs.len, fun j x hj => ?_⟩, ?_, ?_, HRD8.out.ok⟩⟩
  · rw [HEQ.out.2.2, ← HEQ.out.2.1, ← HEQ.out.1]; rfl
  · exact own_mono (ownsRow_block HO8.out fun q hq => hfs.block q (HO8.out.lt q (by rw [ownBlock_slice]; exact hq)).2 (fun e => by have h1 := (HOL.out q hq).1; have h2 := HZLW.out; omega)) HB23.out
  · exact own_mono (ownsRow_block HRD8.out.bo fun q hq => hfs.block q (HRD8.out.bo.lt q (by rw [ownBlock_slice]; exact hq)).2 (fun e => by have h1 := (HRD8.out.bo.lt q (by rw [ownBlock_slice]; exact hq)).1; omega)) (by omega)
  · obtain ⟨a_, ha, k⟩ := HRD8.out.xs.ok j x hj
    exact ⟨a_, ha, k.h, k.n, k.p.stay hfs (fun q off e hq => by have := (HRD8.out.far j x hj q (by rw [e]; rfl)).1; omega), k.s, k.e⟩
  · exact HNT8.out.stay hfs (fun q off e hq => by have h1 := HNC.out.2 q off e; have h2 := HG5L.out; omega)
  · rw [← HEQ.out.1]; exact HNC.out.1
end Go.Proofs.YthjjonbkfkpkmaaDoor.Fil
namespace Go.Proofs.YthjjonbkfkpkmaaDoor.Fil
open Go.RowKit Gen
open Tl (il il_app rise TRt Tx)

set_option maxRecDepth 100000 in
theorem info102 : (Tryd.prog.info? 85).map (fun i => (i.zero, i.size, i.bytes)) = some (some (.agg #[.int .i64 0, .int .i64 0, .int .i64 0, .int .i64 0, .int .i64 0, .bool false, .int .u32 0, .int .i64 0, .slice none 0 0, .int .u32 0, .int .i64 0]), 11, 96) := by kernel_rfl
set_option maxRecDepth 100000 in
theorem size102 : (Tryd.prog.info? 85).map (·.size) = some 11 := by kernel_rfl
set_option maxRecDepth 100000 in
theorem size50 : (Tryd.prog.info? 50).map (·.size) = some 11 := by kernel_rfl
end Go.Proofs.YthjjonbkfkpkmaaDoor.Fil
namespace Go.Proofs.YthjjonbkfkpkmaaDoor.Fil
open Go.RowKit Gen
open Tl (il il_app rise TRt Tx)

set_option maxRecDepth 100000 in
theorem cells_new1 (w : World) (l : List Value) (t : TypeId) : ∀ j u, l[j]? = some u → (w.alloc (.cells l.toArray t)).cell? ((⟨w.heap.size, 0, none⟩ : Addr).add j) = some u := fun j u h => cells_new w l t j u h
set_option maxRecDepth 100000 in
theorem cell_newp {w : World} (u : Value) (t : TypeId) : (w.alloc (.cells #[u] t)).cell? ⟨w.heap.size, 0, none⟩ = some u := by
  have h := heap_alloc_new w (.cells #[u] t)
  unfold World.cell?
  rw [h]
  rfl
set_option maxRecDepth 100000 in
theorem wr_2 {a : Nat} (h : a ≤ 1073741824) : wrap64 ((a : Int) + 36) = (a : Int) + 36 := IntWalk.wrap64_in _ (by omega)
set_option maxRecDepth 100000 in
theorem wr_3 {a z : Nat} (h : a ≤ 1073741824) (hz : z ≤ 1073741824) : wrap64 ((a : Int) + 36 + (z : Int)) = (a : Int) + 36 + (z : Int) := IntWalk.wrap64_in _ (by omega)
set_option maxRecDepth 100000 in
theorem wr_4 {a : Nat} (h : a ≤ 1073741824) : wrap64 ((a : Int) + 1) = (a : Int) + 1 := IntWalk.wrap64_in _ (by omega)
set_option maxRecDepth 100000 in
theorem wr_1 {c l : Int} {n : Nat} (h : 0 ≤ c ∧ c ≤ 65536 * (n : Int)) (hn : n ≤ 1073741824) (h1 : 1 ≤ l) (h2 : l ≤ 65536) : wrap64 (c + l) = c + l := IntWalk.wrap64_in _ (by omega)
end Go.Proofs.YthjjonbkfkpkmaaDoor.Fil
namespace Go.Proofs.YthjjonbkfkpkmaaDoor.Fil
open Go.RowKit Gen
open Tl (il il_app rise TRt Tx)
attribute [local go_sem] Oper.semAt_some

/-- A list of blocks lies in memory. -/
structure BsAt (w : World) (a : Option Addr) (X : List Bv) : Prop where
  c : ∀ (j : Nat) (x : Bv), X[j]? = some x → ∃ g, a = some ⟨g, 0, none⟩ ∧ w.rangeAt g (j * 11) (bvl x)
set_option maxRecDepth 100000 in
theorem BsAt.keep {w w' : World} {a : Option Addr} {X : List Bv} (h : BsAt w a X) (hb : Below w.heap.size w w') : BsAt w' a X :=
  ⟨fun j x hj => by
    obtain ⟨g, ha, hc⟩ := h.c j x hj
    exact ⟨g, ha, fun m u hu => (hb.cell (p := ⟨g, j * 11 + m, none⟩) (World.block_lt_of_cell? w _ (hc m u hu))).trans (hc m u hu)⟩⟩
set_option maxRecDepth 100000 in
theorem BsAt.of_row {w : World} {B ty n c : Nat} {a : Option Addr} {X : List Bv} (h : w.ownsRow B ty 11 (.slice a n c) n (bls X)) : BsAt w a X :=
  ⟨fun j x hj => by
    rcases Tg.own_at h with ⟨_, hn, _⟩ | ⟨g, ha, _⟩
    · exfalso
      have h1 := h.1
      rw [bls_len, hn] at h1
      have h2 := (List.getElem?_eq_some_iff.1 hj).1
      omega
    · subst ha
      exact ⟨g, rfl, fun m u hu => by
        have h1 := h.cells (g := g) rfl (j * 11 + m) u (bls_at X j x m u hj hu)
        rw [Addr.add_lit, Nat.zero_add] at h1
        exact h1⟩⟩
def lnAt (X : List Bv) (k : Nat) : Int := ((X[k]?).map (·.h.ln)).getD 0
def lsum (X : List Bv) : Nat → Int
  | 0 => 0
  | k + 1 => lsum X k + lnAt X k
set_option maxRecDepth 100000 in
theorem lsum_in {X : List Bv} (h : ∀ x ∈ X, 1 ≤ x.h.ln ∧ x.h.ln ≤ 65536) : ∀ k, 0 ≤ lsum X k ∧ lsum X k ≤ 65536 * (k : Int)
  | 0 => ⟨Int.le_refl _, Int.le_refl _⟩
  | k + 1 => by
    have ih := lsum_in h k
    have h1 : 0 ≤ lnAt X k ∧ lnAt X k ≤ 65536 := by
      unfold lnAt
      by_cases hk : k < X.length
      · rw [List.getElem?_eq_getElem hk]
        have := h X[k] (List.getElem_mem hk)
        show 0 ≤ (X[k]).h.ln ∧ (X[k]).h.ln ≤ 65536
        omega
      · rw [List.getElem?_eq_none (by omega)]
        exact ⟨Int.le_refl _, by decide⟩
    show 0 ≤ lsum X k + lnAt X k ∧ lsum X k + lnAt X k ≤ 65536 * ((k + 1 : Nat) : Int)
    omega
set_option maxRecDepth 100000 in
theorem cells_fcl (w : World) (ty : TypeId) (i : Inf.If) (a1 : Option Addr) (n1 c1 : Nat) (a2 : Option Addr) (n2 c2 : Nat) (ct : Int) (sm : Nat) (a3 : Option Addr) (n3 c3 : Nat) :
    (w.alloc (.cells (fcl i a1 n1 c1 a2 n2 c2 ct sm a3 n3 c3) ty)).heap[w.heap.size]? = some (.cells (fcl i a1 n1 c1 a2 n2 c2 ct sm a3 n3 c3) ty (0, 0)) := heap_alloc_new _ _

end Go.Proofs.YthjjonbkfkpkmaaDoor.Fil
