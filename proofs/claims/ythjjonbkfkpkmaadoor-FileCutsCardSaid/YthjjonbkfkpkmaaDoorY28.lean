/- Whether two tails are the same, by the program and by the document. Conditions: their places lie in memory. -/
import Derived.Test.YthjjonbkfkpkmaaDoorY27
import Derived.Test.YthjjonbkfkpkmaaDoorY10
namespace Go.Proofs.YthjjonbkfkpkmaaDoor.Tl
open Go.RowKit Gen Fld Inf
open Crc hiding hid

set_option maxRecDepth 100000 in
set_option maxHeartbeats 2000000 in
theorem tsame_any {w : World} {a a' : Option Addr} {P P' : List Int} {n n' cap cap' s s' : Nat} {c c' : Int} (hn : P.length = n) (hn' : P'.length = n') (h : Nts w a P) (h' : Nts w a' P') (hm : n ≤ 9223372036854775807) (hm' : n' ≤ 9223372036854775807) :
    Calls Tryd.prog 51 #[.agg #[.int .i64 c, .int .u32 (s : Int), .slice a n cap], .agg #[.int .i64 c', .int .u32 (s' : Int), .slice a' n' cap']] w fun e w' => e = .returned (.bool (decide (c = c' ∧ s = s' ∧ P = P'))) ∧ Below w.heap.size w w' := by
  have HB1 := hid (below_new w (.cells #[.int .i64 c, .int .u32 (s : Int), .slice a n cap] 41))
  have HX0 := hid (Tx.new w c s a n cap)
  have HN1 := hid (h.keep HB1.out)
  have HN1' := hid (h'.keep HB1.out)
  have hs1 : (w.alloc (.cells #[.int .i64 c, .int .u32 (s : Int), .slice a n cap] 41)).heap.size = w.heap.size + 1 := Deep.nblk_alloc _ _
  have HB2 := hid (below_new (w.alloc (.cells #[.int .i64 c, .int .u32 (s : Int), .slice a n cap] 41)) (.cells #[.int .i64 c', .int .u32 (s' : Int), .slice a' n' cap'] 41))
  have HY := hid (Tx.new (w.alloc (.cells #[.int .i64 c, .int .u32 (s : Int), .slice a n cap] 41)) c' s' a' n' cap')
  have HX := hid (HX0.out.below HB2.out HX0.out.lt)
  have HN := hid (HN1.out.keep HB2.out)
  have HN' := hid (HN1'.out.keep HB2.out)
  have HB := hid (HB1.out.trans (HB2.out.mono (by rw [hs1]; omega)))
  rw [hs1] at HY
  generalize hR : decide (c = c' ∧ s = s' ∧ P = P') = R
  have HR := hid hR
  clear h h' HB1 HB2 HX0 HN1 HN1' hs1 hR
  by_cases h1 : c = c'
  · subst h1
    have x0 := HX.out.c0
    have x1 := HX.out.c1
    have x2 := HX.out.c2
    have y0 := HY.out.c0
    have y1 := HY.out.c1
    have y2 := HY.out.c2
    by_cases h2 : s = s'
    · subst h2
      have HD := hid (show R = decide (P = P') from HR.out.symm.trans (by rw [decide_eq_decide]; exact ⟨fun h => h.2.2, fun h => ⟨rfl, rfl, h⟩⟩))
      have HE := hid fun (w' : World) (hb : Nts w' a P) (hb' : Nts w' a' P') => equal_any (cap := cap) (cap' := cap') hn hn' hb hb' hm hm'
      clear HR
      go_enter Tryd.func51, Tryd.ntmps51
      go_wp2_with fail
      refine (HE.out _ HN.out HN'.out).mono ?_
      rintro e w2 ⟨rfl, hf⟩
      rw [← HD.out]
      go_wp2_with fail
      go_ret
      exact ⟨rfl, HB.out.trans ⟨hf.os, hf.tape, hf.output, hf.size, fun k hk => hf.block k (Nat.lt_of_lt_of_le hk HB.out.size) (fun x => x)⟩⟩
    · have HD := hid (show R = false from HR.out.symm.trans (decide_eq_false fun h => h2 h.2.1))
      have e2 : ((s : Int) == (s' : Int)) = false := beq_eq_false_iff_ne.2 (by omega)
      clear HR h2
      go_enter Tryd.func51, Tryd.ntmps51
      go_wp2_with fail
      go_ret
      exact ⟨by rw [HD.out]; rfl, HB.out⟩
  · have HD := hid (show R = false from HR.out.symm.trans (decide_eq_false fun h => h1 h.1))
    have e1 : (c == c') = false := beq_eq_false_iff_ne.2 h1
    have x0 := HX.out.c0
    have x1 := HX.out.c1
    have x2 := HX.out.c2
    have y0 := HY.out.c0
    have y1 := HY.out.c1
    have y2 := HY.out.c2
    clear HR h1
    go_enter Tryd.func51, Tryd.ntmps51
    go_wp2_with fail
    go_ret
    exact ⟨by rw [HD.out]; rfl, HB.out⟩
set_option maxRecDepth 100000 in
set_option maxHeartbeats 2000000 in
theorem trsame_any {w : World} {a a' : Option Addr} {P P' : List Int} {n n' cap cap' s s' : Nat} {c c' : Int} (hn : P.length = n) (hn' : P'.length = n') (h : Nts w a P) (h' : Nts w a' P') (hm : n ≤ 9223372036854775807) (hm' : n' ≤ 9223372036854775807) :
    Calls Tryd.prog 26 #[.agg #[.int .i64 c, .int .u32 (s : Int), .slice a n cap], .agg #[.int .i64 c', .int .u32 (s' : Int), .slice a' n' cap']] w fun e w' => e = .returned (.bool (decide (c = c' ∧ s = s' ∧ P = P'))) ∧ Below w.heap.size w w' := by
  have HB1 := hid (below_new w (.cells #[.int .i64 c, .int .u32 (s : Int), .slice a n cap] 41))
  have HX0 := hid (Tx.new w c s a n cap)
  have HN1 := hid (h.keep HB1.out)
  have HN1' := hid (h'.keep HB1.out)
  have hs1 : (w.alloc (.cells #[.int .i64 c, .int .u32 (s : Int), .slice a n cap] 41)).heap.size = w.heap.size + 1 := Deep.nblk_alloc _ _
  have HB2 := hid (below_new (w.alloc (.cells #[.int .i64 c, .int .u32 (s : Int), .slice a n cap] 41)) (.cells #[.int .i64 c', .int .u32 (s' : Int), .slice a' n' cap'] 41))
  have HY := hid (Tx.new (w.alloc (.cells #[.int .i64 c, .int .u32 (s : Int), .slice a n cap] 41)) c' s' a' n' cap')
  have HX := hid (HX0.out.below HB2.out HX0.out.lt)
  have HN := hid (HN1.out.keep HB2.out)
  have HN' := hid (HN1'.out.keep HB2.out)
  have HB := hid (HB1.out.trans (HB2.out.mono (by rw [hs1]; omega)))
  rw [hs1] at HY
  generalize hR : decide (c = c' ∧ s = s' ∧ P = P') = R
  have HR := hid hR
  clear h h' HB1 HB2 HX0 HN1 HN1' hs1 hR
  by_cases h1 : c = c'
  · subst h1
    have x0 := HX.out.c0
    have x1 := HX.out.c1
    have x2 := HX.out.c2
    have y0 := HY.out.c0
    have y1 := HY.out.c1
    have y2 := HY.out.c2
    by_cases h2 : s = s'
    · subst h2
      have HD := hid (show R = decide (P = P') from HR.out.symm.trans (by rw [decide_eq_decide]; exact ⟨fun h => h.2.2, fun h => ⟨rfl, rfl, h⟩⟩))
      have HE := hid fun (w' : World) (hb : Nts w' a P) (hb' : Nts w' a' P') => ints_any (cap := cap) (cap' := cap') hn hn' hb hb' hm hm'
      clear HR
      go_enter Tryd.func26, Tryd.ntmps26
      go_wp2_with fail
      refine (HE.out _ HN.out HN'.out).mono ?_
      rintro e w2 ⟨rfl, hf⟩
      rw [← HD.out]
      go_wp2_with fail
      go_ret
      exact ⟨rfl, HB.out.trans ⟨hf.os, hf.tape, hf.output, hf.size, fun k hk => hf.block k (Nat.lt_of_lt_of_le hk HB.out.size) (fun x => x)⟩⟩
    · have HD := hid (show R = false from HR.out.symm.trans (decide_eq_false fun h => h2 h.2.1))
      have e2 : ((s : Int) == (s' : Int)) = false := beq_eq_false_iff_ne.2 (by omega)
      clear HR h2
      go_enter Tryd.func26, Tryd.ntmps26
      go_wp2_with fail
      go_ret
      exact ⟨by rw [HD.out]; rfl, HB.out⟩
  · have HD := hid (show R = false from HR.out.symm.trans (decide_eq_false fun h => h1 h.1))
    have e1 : (c == c') = false := beq_eq_false_iff_ne.2 h1
    have x0 := HX.out.c0
    have x1 := HX.out.c1
    have x2 := HX.out.c2
    have y0 := HY.out.c0
    have y1 := HY.out.c1
    have y2 := HY.out.c2
    clear HR h1
    go_enter Tryd.func26, Tryd.ntmps26
    go_wp2_with fail
    go_ret
    exact ⟨by rw [HD.out]; rfl, HB.out⟩
end Go.Proofs.YthjjonbkfkpkmaaDoor.Tl
namespace Go.Proofs.YthjjonbkfkpkmaaDoor.Fil
open Go.RowKit Gen
open Tl (il il_app rise TRt Tx)
attribute [local go_sem] Oper.semAt_some

/-- Why a tail is refused behind what was noted. -/
def tlE (s : Ns) (r : List Nat) : Int :=
  if Tl.tgE r ≠ 0 then Tl.tgE r else if 18 + 5 * Tl.np r < r.length then 62 else if (Inf.at_ r 2 4 : Int) ≠ s.c then 61 else if Tl.plc r (Tl.np r) ≠ s.P then 60 else 0
def TlP (w : World) (s : Ns) (r : List Nat) (e : Ending) (w' : World) : Prop :=
  Below w.heap.size w w' ∧ ((tlE s r ≠ 0 ∧ e = .returned (.tuple #[.agg #[.int .i64 0, .int .u32 0, .slice none 0 0], .int .i64 (tlE s r)])) ∨
    (tlE s r = 0 ∧ ∃ a cap, e = .returned (.tuple #[.agg #[.int .i64 (Inf.at_ r 2 4 : Int), .int .u32 (Inf.at_ r 6 4 : Int), .slice a (Tl.np r) cap], .int .i64 0]) ∧ Tl.Nts w' a (Tl.plc r (Tl.np r)) ∧ Tl.np r ≤ cap ∧ (a = none → Tl.np r = 0 ∧ cap = 0) ∧ ∀ b off, a = some ⟨b, off, none⟩ → w.heap.size ≤ b))
abbrev tz : Array Value := #[.int .i64 0, .int .u32 0, .slice none 0 0]

set_option maxHeartbeats 4000000 in
set_option maxRecDepth 100000 in
theorem rdtail_any {w0 w : World} {g t : Nat} {i : Inf.If} {b : List Nat} {ba : Option Addr} {bn bc : Nat} {s : Ns} {ap : Option Addr} {cp : Nat} {ab : Option Addr} {cb : Nat} {X : List Bv}
    (h : RdI w0 g t i b ba bn bc s ap cp ab cb X w) (ht : Crc.Tab w t) (hb : Byts w ba b) (hbn : b.length = bn) (hbc : bn ≤ bc) (hm : bn ≤ 1073741824) (hlt : s.at_ < bn) :
    Calls Tryd.prog 24 #[.pointer (some ⟨g, 0, none⟩)] w (TlP w s (b.drop s.at_)) := by
  obtain ⟨bq, bo, rfl⟩ : ∃ bq bo, ba = some ⟨bq, bo, none⟩ := by
    obtain ⟨q, off, e, _⟩ := hb.at_ 0 _ (List.getElem?_eq_getElem (by omega))
    exact ⟨q, off, e⟩
  have hdl : (b.drop s.at_).length = bn - s.at_ := by rw [List.length_drop, hbn]
  have hbw := Inf.below_new w (.cells tz 41)
  have HZ := hid (Tx.new w 0 0 none 0 0)
  have HRD := hid (h.more hbw)
  have HTB := hid (ht.keep (hbw.block t ht.lt))
  have HBY := hid (hb.keep hbw)
  have HB0 := hid hbw
  have HPL := hid h.ok
  have hltc : s.at_ ≤ bc := by omega
  have hlti : (s.at_ : Int) ≤ (bn : Int) := by omega
  have hne : ¬ bc = s.at_ := by omega
  have HNUM := hid (And.intro hbn (And.intro hbc hm))
  clear h ht hb hbw
  obtain ⟨r, hr⟩ : ∃ r, r = b.drop s.at_ := ⟨_, rfl⟩
  unfold TlP
  rw [← hr] at hdl ⊢
  have HR := hid hr
  clear hr
  obtain ⟨E, hE⟩ : ∃ E, tlE s r = E := ⟨_, rfl⟩
  rw [hE]
  have HE := hid hE
  clear hE
  go_enter Tryd.func24, Tryd.ntmps24
  go_wp2_with fail
  generalize w.alloc (.cells #[.int .i64 0, .int .u32 0, .slice none 0 0] 41) = w1 at *
  have e6 := HRD.out.nx.c6
  have e11 := HRD.out.c11
  go_quiet (fail)
  have hbq : Below w1.heap.size w1 (w1.drewN nq) := ⟨rfl, rfl, rfl, Nat.le_refl _, fun _ _ => rfl⟩
  have HRD1 := hid (HRD.out.more hbq)
  have HZ1 := hid (HZ.out.below hbq HZ.out.lt)
  have HTB1 := hid (HTB.out.keep (hbq.block t HTB.out.lt))
  have HBY1 := hid ((HBY.out.keep hbq).drop s.at_)
  have HB1 := hid (HB0.out.trans (hbq.mono HB0.out.size))
  clear e6 e11 hbq HRD HZ HTB HBY HB0 hltc hlti hne
  generalize w1.drewN nq = w2 at *
  rw [← HR.out] at HBY1
  have HTG := hid (Tl.tget_any (cap := bc - s.at_) HTB1.out hdl HBY1.out (by have := HNUM.out.2.1; omega) (by omega))
  have e10 := HRD1.out.c10
  go_wp2_with fail
  refine HTG.out.mono ?_
  rintro e w3 ⟨hb3, hres⟩
  have HRD3 := hid (HRD1.out.more hb3)
  have HZ3 := hid (HZ1.out.below hb3 HZ1.out.lt)
  have HB3 := hid (HB1.out.trans (hb3.mono HB1.out.size))
  have HAN := hid (heap_alloc_new w3 (.cells tz 41))
  have HZW := hid HZ1.out.lt
  clear hb3 HRD1 HZ1 HB1 HBY1 HTB1 HTG e10
  rcases hres with ⟨hE1, rfl⟩ | ⟨hE0, ax, cx, rfl, hnt, hnc, hcm, hnn, hnw⟩
  · have hX : E = Tl.tgE r := by rw [← HE.out]; unfold tlE; rw [if_pos hE1]
    rw [← hX] at hE1 ⊢
    have hb4 : Below w3.heap.size w3 ((w3.alloc (.cells #[.int .i64 0, .int .u32 0, .slice none 0 0] 41)).setRow w3.heap.size #[.int .i64 0, .int .u32 0, .slice none 0 0]) := Inf.fr_rowBelow (Inf.below_new w3 _) (Nat.le_refl _)
    have HZ4 := hid (HZ3.out.below hb4 HZ3.out.lt)
    have HB4 := hid (HB3.out.trans (hb4.mono HB3.out.size))
    have HRD4 := hid (HRD3.out.more hb4)
    have HX4 := hid (setRow_heap (w3.alloc (.cells #[.int .i64 0, .int .u32 0, .slice none 0 0] 41)) w3.heap.size #[.int .i64 0, .int .u32 0, .slice none 0 0] #[.int .i64 0, .int .u32 0, .slice none 0 0] 41 (0, 0) HAN.out)
    clear hb4
    have hE' : (E != 0) = true := bne_iff_ne.2 hE1
    go_wp2_with (first
      | (refine wpList_store_row rfl 41 _ _ rfl w3.heap.size #[.int .i64 0, .int .u32 0, .slice none 0 0] rfl rfl 41 #[.int .i64 0, .int .u32 0, .slice none 0 0] HAN.out Tl.Tryd.size41 rfl (by simp [Value.oneCell']) ?_)
      | (refine wpList_store_row rfl 41 _ _ rfl w.heap.size #[.int .i64 0, .int .u32 0, .slice none 0 0] rfl rfl 41 #[.int .i64 0, .int .u32 0, .slice none 0 0] HZ4.out.row Tl.Tryd.size41 rfl (by simp [Value.oneCell']) ?_))
    refine bodyPost_ret (Head.res_ct (p := 2) (u := 3) (ty := 41) (by kernel_rfl) _ _ w.heap.size 41 #[.int .i64 0, .int .u32 0, .slice none 0 0] (0, 0) _ rfl (setRow_heap _ _ _ _ _ _ HZ4.out.row) Tryd.underlying41 rfl Tl.Tryd.size41 rfl) rfl ?_
    exact ⟨Inf.fr_rowBelow HB4.out (Nat.le_refl _), .inl ⟨hE1, by rw [hX]; rfl⟩⟩
  have hE1 : E = if 18 + 5 * Tl.np r < r.length then 62 else if (Inf.at_ r 2 4 : Int) ≠ s.c then 61 else if Tl.plc r (Tl.np r) ≠ s.P then 60 else 0 := by rw [← HE.out]; unfold tlE; rw [if_neg (fun h => h hE0)]
  have HPL0 := hid (Tl.plc_len r (Tl.np r))
  rw [hdl] at hE1
  have HNT := hid hnt
  have HNC := hid (And.intro hnc (And.intro hnn hcm))
  have HE2 := hid hE1
  have HNW := hid (show ∀ b off, ax = some ⟨b, off, none⟩ → w.heap.size < b from fun q off e => Nat.lt_of_lt_of_le HZW.out (hnw q off e))
  clear hE0 hE1 hnt hnc hcm hnn hnw HE
  obtain ⟨pls, hpls⟩ : ∃ pls, Tl.plc r (Tl.np r) = pls := ⟨_, rfl⟩
  rw [hpls] at HNT HPL0 HE2
  obtain ⟨m, hmm⟩ : ∃ m, Tl.np r = m := ⟨_, rfl⟩
  obtain ⟨n1, hn1⟩ : ∃ n1, Inf.at_ r 2 4 = n1 := ⟨_, rfl⟩
  obtain ⟨n2, hn2⟩ : ∃ n2, Inf.at_ r 6 4 = n2 := ⟨_, rfl⟩
  rw [hmm] at HPL0 HNC HE2 hpls ⊢
  rw [hn1] at HE2 ⊢
  rw [hn2]
  have HEQ := hid (And.intro hmm (And.intro hn1 (And.intro hn2 hpls)))
  clear hpls hmm hn1 hn2
  have hb4 : Below w3.heap.size w3 ((w3.alloc (.cells #[.int .i64 0, .int .u32 0, .slice none 0 0] 41)).setRow w3.heap.size #[.int .i64 (n1 : Int), .int .u32 (n2 : Int), .slice ax m cx]) := Inf.fr_rowBelow (Inf.below_new w3 _) (Nat.le_refl _)
  have HZ4 := hid (HZ3.out.below hb4 HZ3.out.lt)
  have HB4 := hid (HB3.out.trans (hb4.mono HB3.out.size))
  have HRD4 := hid (HRD3.out.more hb4)
  have HX4 := hid (setRow_heap (w3.alloc (.cells #[.int .i64 0, .int .u32 0, .slice none 0 0] 41)) w3.heap.size #[.int .i64 0, .int .u32 0, .slice none 0 0] #[.int .i64 (n1 : Int), .int .u32 (n2 : Int), .slice ax m cx] 41 (0, 0) HAN.out)
  have HNT4 := hid (HNT.out.keep hb4)
  clear hb4
  by_cases hmo : 18 + 5 * m < bn - s.at_
  · have hX : E = 62 := HE2.out.trans (if_pos hmo)
    have hcm : ((18 + 5 * m : Nat) : Int) < ((bn - s.at_ : Nat) : Int) := by omega
    subst hX
    clear HE2 hmo
    go_wp2_with (first
      | (refine wpList_store_row rfl 41 _ _ rfl w3.heap.size #[.int .i64 (n1 : Int), .int .u32 (n2 : Int), .slice ax m cx] rfl rfl 41 #[.int .i64 0, .int .u32 0, .slice none 0 0] HAN.out Tl.Tryd.size41 rfl (by simp [Value.oneCell']) ?_)
      | (refine wpList_store_row rfl 41 _ _ rfl w.heap.size #[.int .i64 0, .int .u32 0, .slice none 0 0] rfl rfl 41 #[.int .i64 0, .int .u32 0, .slice none 0 0] HZ4.out.row Tl.Tryd.size41 rfl (by simp [Value.oneCell']) ?_))
    refine bodyPost_ret (Head.res_ct (p := 2) (u := 3) (ty := 41) (by kernel_rfl) _ _ w.heap.size 41 #[.int .i64 0, .int .u32 0, .slice none 0 0] (0, 0) _ rfl (setRow_heap _ _ _ _ _ _ HZ4.out.row) Tryd.underlying41 rfl Tl.Tryd.size41 rfl) rfl ?_
    exact ⟨Inf.fr_rowBelow HB4.out (Nat.le_refl _), .inl ⟨by decide, rfl⟩⟩
  have hcm : ¬ ((18 + 5 * m : Nat) : Int) < ((bn - s.at_ : Nat) : Int) := by omega
  have HE3 := hid (HE2.out.trans (if_neg hmo))
  have HSL := hid HRD3.out.nx.lt
  have hsw : s.n ≤ 1073741824 := by have h1 := HPL.out.le; have h2 := HPL.out.at_; have h3 := HNUM.out; omega
  clear HE2 hmo
  go_wp2_with (refine wpList_store_row rfl 41 _ _ rfl w3.heap.size #[.int .i64 (n1 : Int), .int .u32 (n2 : Int), .slice ax m cx] rfl rfl 41 #[.int .i64 0, .int .u32 0, .slice none 0 0] HAN.out Tl.Tryd.size41 rfl (by simp [Value.oneCell']) ?_)
  have k0 := Inf.row_cell HX4.out 0 rfl
  have e8 := HRD4.out.nx.c8
  generalize (w3.alloc (.cells #[.int .i64 0, .int .u32 0, .slice none 0 0] 41)).setRow w3.heap.size #[.int .i64 (n1 : Int), .int .u32 (n2 : Int), .slice ax m cx] = w4 at *
  obtain ⟨bc8, hb8⟩ : ∃ b8, ((n1 : Int) != s.c) = b8 := ⟨_, rfl⟩
  go_quiet (fail)
  have hbq : Below w4.heap.size w4 (w4.drewN nq) := ⟨rfl, rfl, rfl, Nat.le_refl _, fun _ _ => rfl⟩
  have HRD5 := hid (HRD4.out.more hbq)
  have HZ5 := hid (HZ4.out.below hbq HZ4.out.lt)
  have HB5 := hid (HB4.out.trans (hbq.mono HB4.out.size))
  have HNT5 := hid (HNT4.out.keep hbq)
  have HX5 := hid (show (w4.drewN nq).heap[w3.heap.size]? = some (.cells #[.int .i64 (n1 : Int), .int .u32 (n2 : Int), .slice ax m cx] 41 (0, 0)) from HX4.out)
  clear k0 e8 hbq HRD4 HZ4 HB4 HNT4 HX4 HAN
  generalize w4.drewN nq = w5 at *
  by_cases hc : (n1 : Int) = s.c
  rotate_left 1
  · have hb : bc8 = true := by rw [← hb8]; exact bne_iff_ne.2 hc
    have hX : E = 61 := HE3.out.trans (if_pos hc)
    subst hb
    subst hX
    clear HE3 hb8
    go_wp2_with (refine wpList_store_row rfl 41 _ _ rfl w.heap.size #[.int .i64 0, .int .u32 0, .slice none 0 0] rfl rfl 41 #[.int .i64 0, .int .u32 0, .slice none 0 0] HZ5.out.row Tl.Tryd.size41 rfl (by simp [Value.oneCell']) ?_)
    refine bodyPost_ret (Head.res_ct (p := 2) (u := 3) (ty := 41) (by kernel_rfl) _ _ w.heap.size 41 #[.int .i64 0, .int .u32 0, .slice none 0 0] (0, 0) _ rfl (setRow_heap _ _ _ _ _ _ HZ5.out.row) Tryd.underlying41 rfl Tl.Tryd.size41 rfl) rfl ?_
    exact ⟨Inf.fr_rowBelow HB5.out (Nat.le_refl _), .inl ⟨by decide, rfl⟩⟩
  have hb : bc8 = false := by rw [← hb8, hc]; simp
  subst hb
  have HE4 := hid (HE3.out.trans (if_neg (fun h => h hc)))
  have HC := hid hc
  clear HE3 hb8 hc
  go_wp2_with fail
  have kk : ∀ p : Head.Kp w5, p.w'.heap[w3.heap.size]? = some (.cells #[.int .i64 (n1 : Int), .int .u32 (n2 : Int), .slice ax m cx] 41 (0, 0)) := fun p => ((Head.below_of_fr p.h).block w3.heap.size (World.block_lt_of_cell? _ _ (Inf.row_cell HX5.out 0 rfl))).trans HX5.out
  have k0 := fun p => Inf.row_cell (kk p) 0 rfl
  have k1 := fun p => Inf.row_cell (kk p) 1 rfl
  have k2 := fun p => Inf.row_cell (kk p) 2 rfl
  have HTL := hid fun p : Head.Kp w5 => ntail_any (HRD5.out.more (Head.below_of_fr p.h)).nx n2
  have HSM := hid fun p : Head.Kp w5 => Tl.tsame_any (w := p.w') (a := ax) (a' := ap) (P := pls) (P' := s.P) (n := m) (n' := s.n) (cap := cx) (cap' := cp) (s := n2) (s' := n2) (c := (n1 : Int)) (c' := s.c) HPL0.out HPL.out.n (HNT5.out.keep (Head.below_of_fr p.h)) (nts_ints (HRD5.out.more (Head.below_of_fr p.h)).po) (by have h1 := HNC.out.1; have h2 := HNC.out.2.2; omega) (by omega)
  clear kk
  by_cases hp : pls = s.P
  · have hX : E = 0 := HE4.out.trans (if_neg (fun h => h hp))
    rw [decide_eq_true (show (n1 : Int) = s.c ∧ n2 = n2 ∧ pls = s.P from ⟨HC.out, rfl, hp⟩)] at HSM
    subst hX
    clear HE4 hp
    refine Head.wp_region_quiet_kp (by kernel_rfl) (by kernel_rfl) ?_
    repeat (first | go_big_quiet_step ((first | (go_at_call 18; exact Head.kp_below (HTL.out _)) | (go_at_call 51; exact Head.kp_below (HSM.out _)))) | fail)
    refine wpQuiet_nil ?_
    intro w6 hw'
    obtain ⟨⟨wq, hq⟩, hw''⟩ := hw'
    subst hw''
    have hb6 := Head.below_of_fr hq
    have HZ6 := hid (HZ5.out.below hb6 HZ5.out.lt)
    have HB6 := hid (HB5.out.trans (hb6.mono HB5.out.size))
    have HNT6 := hid (HNT5.out.keep hb6)
    have HX6 := hid ((hb6.block w3.heap.size (World.block_lt_of_cell? _ _ (Inf.row_cell HX5.out 0 rfl))).trans HX5.out)
    clear hb6 hq k0 k1 k2 HTL HSM HZ5 HB5 HNT5 HX5 HRD5
    have q0 : w6.cell? ⟨w3.heap.size, 0, none⟩ = some (.int .i64 (n1 : Int)) := Inf.row_cell HX6.out 0 rfl
    have q1 : w6.cell? ⟨w3.heap.size, 1, none⟩ = some (.int .u32 (n2 : Int)) := Inf.row_cell HX6.out 1 rfl
    have q2 : w6.cell? ⟨w3.heap.size, 2, none⟩ = some (.slice ax m cx) := Inf.row_cell HX6.out 2 rfl
    go_wp2_with (first
      | (refine wpList_store_row rfl 41 _ _ rfl w.heap.size #[.int .i64 (n1 : Int), .int .u32 (n2 : Int), .slice ax m cx] rfl rfl 41 #[.int .i64 0, .int .u32 0, .slice none 0 0] HZ6.out.row Tl.Tryd.size41 rfl (by simp [Value.oneCell']) ?_))
    refine bodyPost_ret (Head.res_ct (p := 2) (u := 3) (ty := 41) (by kernel_rfl) _ _ w.heap.size 41 #[.int .i64 (n1 : Int), .int .u32 (n2 : Int), .slice ax m cx] (0, 0) _ rfl (setRow_heap _ _ _ _ _ _ HZ6.out.row) Tryd.underlying41 rfl Tl.Tryd.size41 rfl) rfl ?_
    refine ⟨Inf.fr_rowBelow HB6.out (Nat.le_refl _), ax, cx, ?_, ?_, ?_, ?_, fun q off e => Nat.le_of_lt (HNW.out q off e)⟩
    · rw [HEQ.out.1, HEQ.out.2.1, HEQ.out.2.2.1]; rfl
    · have hpl := HEQ.out.2.2.2
      rw [HEQ.out.1]
      rw [hpl]
      exact HNT6.out.stay (Inf.fr_setRow _ _ _) (fun q off e hq => by have := HNW.out q off e; omega)
    · rw [HEQ.out.1]; exact HNC.out.1
    · rw [HEQ.out.1]; exact HNC.out.2.1
  · have hX : E = 60 := HE4.out.trans (if_pos hp)
    rw [decide_eq_false (show ¬ ((n1 : Int) = s.c ∧ n2 = n2 ∧ pls = s.P) from fun h => hp h.2.2)] at HSM
    subst hX
    clear HE4 hp
    refine Head.wp_region_quiet_kp (by kernel_rfl) (by kernel_rfl) ?_
    repeat (first | go_big_quiet_step ((first | (go_at_call 18; exact Head.kp_below (HTL.out _)) | (go_at_call 51; exact Head.kp_below (HSM.out _)))) | fail)
    refine wpQuiet_nil ?_
    intro w6 hw'
    obtain ⟨⟨wq, hq⟩, hw''⟩ := hw'
    subst hw''
    have hb6 := Head.below_of_fr hq
    have HZ6 := hid (HZ5.out.below hb6 HZ5.out.lt)
    have HB6 := hid (HB5.out.trans (hb6.mono HB5.out.size))
    have HNT6 := hid (HNT5.out.keep hb6)
    have HX6 := hid ((hb6.block w3.heap.size (World.block_lt_of_cell? _ _ (Inf.row_cell HX5.out 0 rfl))).trans HX5.out)
    clear hb6 hq k0 k1 k2 HTL HSM HZ5 HB5 HNT5 HX5 HRD5
    go_wp2_with (refine wpList_store_row rfl 41 _ _ rfl w.heap.size #[.int .i64 0, .int .u32 0, .slice none 0 0] rfl rfl 41 #[.int .i64 0, .int .u32 0, .slice none 0 0] HZ6.out.row Tl.Tryd.size41 rfl (by simp [Value.oneCell']) ?_)
    refine bodyPost_ret (Head.res_ct (p := 2) (u := 3) (ty := 41) (by kernel_rfl) _ _ w.heap.size 41 #[.int .i64 0, .int .u32 0, .slice none 0 0] (0, 0) _ rfl (setRow_heap _ _ _ _ _ _ HZ6.out.row) Tryd.underlying41 rfl Tl.Tryd.size41 rfl) rfl ?_
    exact ⟨Inf.fr_rowBelow HB6.out (Nat.le_refl _), .inl ⟨by decide, rfl⟩⟩
end Go.Proofs.YthjjonbkfkpkmaaDoor.Fil
