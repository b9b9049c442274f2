/- TagsPuts' walk: any tags are laid as the document's bytes, or refused; and read from these as they were. Conditions: the memory's own form, and the two tables of unicode/utf8. -/
import Derived.Test.YtfkklmklbmdlhaaDoorP8
import Derived.Test.YtfkklmklbmdlhaaDoorTk
import Derived.Deep.RegionHeld3
namespace Go.Proofs.YtfkklmklbmdlhaaDoor.Tg
open Go.RowKit Gen Fld
open Crc hiding hid

theorem nl_start (w : World) : NL w none 0 [] w := ⟨World.ownsRow_nil _ _ _ _, Below.refl _ _, fun _ h => by cases h⟩
theorem below_grown {w w' : World} (hg : w.grownBy w' none) : Below w.heap.size w w' := ⟨hg.os, hg.tape, hg.output, hg.size, fun k hk => hg.block k hk (fun e => by cases e)⟩
theorem byts_lt {w : World} {a : Option Addr} {l : List Nat} (h : Byts w a l) (h0 : 0 < l.length) : ∀ b, blk a = some b → b < w.heap.size := fun b e => by
  obtain ⟨b', off, ea, hc⟩ := h.at_ 0 l[0] (List.getElem?_eq_getElem h0)
  have := World.block_lt_of_cell? w _ hc
  rw [ea] at e
  have e8 : b' = b := by simpa [blk] using e
  rw [← e8]; exact this
theorem nl_none {w w' : World} {ao : Option Addr} {cap : Nat} {l : List Nat} (h : NL w ao cap l w') : ao = none → l.length = 0 ∧ cap = 0 := h.nil
theorem byts_grow2 {w5 w6 w7 : World} {a ao : Option Addr} {m l : List Nat} {c : Nat} (h : Byts w6 a m) (hn : NL w5 ao c l w6) (hg : w6.grownBy w7 (blk ao)) (ha : ∀ b, blk a = some b → b < w5.heap.size) : Byts w7 a m :=
  byts_grown h hg (fun b e1 e2 => by have h1 := (hn.own.lt b (by rw [ownBlock_slice]; exact e1)).1; have h2 := ha b e2; omega) (fun b e => Nat.lt_of_lt_of_le (ha b e) hn.bel.size)

set_option maxRecDepth 20000 in
set_option maxHeartbeats 20000000 in
theorem puts_walk (w : World) (hT : Tabs w) {a : Option Addr} {len b off : Nat} {T : Nat → Tag} (h : Tb w a len b off T) (hm : len ≤ 9223372036854775807) {cap : Nat} (hc : len ≤ cap)
    {a' : Option Addr} {n' cap' : Nat} {M : List Nat} (hM : M.length = n') (hb : Byts w a' M) (hn : a' = none → n' = 0 ∧ cap' = 0) :
    Calls Tryd.prog 6 #[.slice a len cap, .slice a' n' cap'] w fun e w' => e = .returned (.bool true) ∧ Below w.heap.size w w' := by
  have HK := hid known_true
  have HF := hid (few_any w h hm cap)
  by_cases f1 : Fw T len
  · rw [decide_eq_true f1] at HF
    by_cases hbig : 100 < n'
    · have hbi : (100 : Int) < (n' : Int) := by omega
      clear h hT hm hM hb hn f1 hc hbig
      go_enter Tryd.func6, Tryd.ntmps6
      go_wp2_with fail
      refine HF.out.mono ?_
      rintro e w1 ⟨rfl, hb1⟩
      have HB1 := hid hb1
      clear hb1
      go_wp2_with fail
      refine (HK.out _).mono ?_
      rintro e w8 ⟨rfl, hb8⟩
      have HB8 := hid (HB1.out.trans (hb8.mono HB1.out.size))
      clear hb8
      go_wp2_with fail
      go_ret
      exact ⟨rfl, HB8.out⟩
    · have hbi : ¬ (100 : Int) < (n' : Int) := by omega
      obtain ⟨i0, hi, hz0, hz1, hz2⟩ := info_parts Tryd.info5
      have HZ := hid f1.sz
      have HT := hid hT
      have H := hid h
      have HPT := hid fun (w' : World) (g : Nat) (ht : Tab w' g) (hb : Below w.heap.size w w') => put_any ht (hT.keep hb) (h.keep hb) f1.sz hc
      have HCH := hid fun (w' : World) (hb : Below w.heap.size w w') => rcheck_any w' (h.keep hb) f1.sz hc
      have HGB := hid fun (h : (chk T len).2 = 0) => get_pby h M
      have HRP := hid fun (h0 : (chk T len).2 = 0) (w' : World) (hb : Below w.heap.size w w') => rput_any (h.keep hb) h0 (cap := cap)
      have hlay := hid fun (h : (chk T len).2 = 0) => (show lay T len = pby (lst T len) by unfold lay; rw [if_pos h])
      have hlay0 := hid fun (h : ¬ (chk T len).2 = 0) => (show lay T len = [] by unfold lay; rw [if_neg h])
      have HPL := hid fun (h : (chk T len).2 = 0) => (show (pby (lst T len)).length ≤ 5000000 by
        have h1 := tbs_lst_le h len (Nat.le_refl _)
        unfold pby bod
        simp only [List.length_append, le_len, List.length_cons, List.length_nil]
        omega)
      have hlen70 : len ≤ 70 := f1.2
      have HM := hid hb
      have HLS := hid (lst_len T len)
      have HRS := hid fun (w' : World) (hb : Below w.heap.size w w') (ao : Option Addr) (c b1 : Nat) (tb : Tb w' ao len b1 0 T) => (show Calls Tryd.prog 14 #[.slice a len cap, .slice ao len c] w' fun e w'' => e = .returned (.bool true) ∧ Below w'.heap.size w' w'' by
        have h9 := rsame_any w' (h.keep hb) tb f1.sz.n cap c
        rw [decide_eq_true (Eqs.refl T len)] at h9
        exact h9)
      clear hT h f1 hb hbig hm hc
      generalize lay T len = LY at *
      generalize hCC : chk T len = C at *
      clear hCC
      have q1 : (C.2 != C.2) = false := bne_self_eq_false _
      go_enter Tryd.func6, Tryd.ntmps6
      go_wp2_with fail
      refine HF.out.mono ?_
      rintro e w1 ⟨rfl, hb1⟩
      have HB1 := hid hb1
      clear hb1
      go_wp2_with fail
      refine (make_any _).mono ?_
      rintro e w2 ⟨rfl, ht2, hb2⟩
      have HB2 := hid (HB1.out.trans (hb2.mono HB1.out.size))
      have HT2 := hid ht2
      clear hb2 ht2
      go_wp2_with fail
      refine (HPT.out _ _ HT2.out HB2.out).mono ?_
      rintro e w3 ⟨ao, c, rfl, hnl⟩
      have HB3 := hid (HB2.out.trans (hnl.bel.mono HB2.out.size))
      have HT3 := hid (HT2.out.keep (hnl.bel.block _ HT2.out.lt))
      have HN3 := hid hnl
      clear hnl HT2 HPT
      go_wp2_with fail
      refine (HCH.out _ HB3.out).mono ?_
      rintro e w4 ⟨rfl, hb4⟩
      have HB4 := hid (HB3.out.trans (hb4.mono HB3.out.size))
      have HT4 := hid (HT3.out.keep (hb4.block _ HT3.out.lt))
      have HY4 := hid (HN3.out.byts.keep hb4)
      have HBL4 := hid (show ∀ b, blk ao = some b → b < w4.heap.size from fun b e => Nat.lt_of_lt_of_le (HN3.out.own.lt b (by rw [ownBlock_slice]; exact e)).2 hb4.size)
      clear hb4 HT3 HCH
      have hnn := HN3.out.nil
      by_cases h0 : C.2 = 0
      · have q0 : (C.2 != 0) = false := by rw [h0]; rfl
        obtain rfl := hlay.out h0
        obtain ⟨G1, G2, G3⟩ := HGB.out h0
        have hpl := HPL.out h0
        have HRQ := hid (HRP.out h0)
        clear hlay hlay0 HPL HGB HRP h0
        obtain ⟨P, hP⟩ : ∃ P, P = pby (lst T len) := ⟨_, rfl⟩
        rw [← hP] at G1 G2 G3 hpl HRQ HN3 HY4 hnn ⊢
        have HG1 := hid G1
        have HG2 := hid G2
        have HG3 := hid G3
        clear hP G1 G2 G3
        have hM4 := HM.out.keep HB4.out
        have HM4 := hid hM4
        have hnm := hn
        have HPC := hid HY4.out.cells
        have hs4 := HB4.out.size
        clear hM4
        go_wp2_with (at_builtin; (refine (wpList_append_list w4 (by rfl) _ _ _ (by rfl) w4.heap.size 5 i0 _ 1 Tryd.underlying40 hi hz0 hz1 hz2 rfl none 0 0 [] (by rfl) (World.ownsRow_nil _ _ _ _) ao P.length c (bl P) (by rfl) (bl_len _) hnn HPC.out (bl_one _) (by unfold maxLen; omega) (by omega) (Nat.le_refl _) ?_)))
        intro ao5 c5 w5 ho5 hg5 hat5
        have hn5 := NL.app (m := P) (nl_start w4) HY4.out.lt (by rw [show ([] : List Nat).length + P.length = P.length from Nat.zero_add _]; exact ho5) hg5
        have HN5 := hid (show NL w4 ao5 c5 P w5 from hn5)
        have HB5 := hid (HB4.out.trans (hn5.bel.mono HB4.out.size))
        have HT5 := hid (HT4.out.keep (hn5.bel.block _ HT4.out.lt))
        have HM5 := hid (HM4.out.keep (below_grown hg5))
        have HY5 := hid (HY4.out.keep (below_grown hg5))
        have HO5 := hid HN5.out.own
        have hs5 := HN5.out.bel.size
        clear ho5 hg5 hat5 hn5 HM4 HPC
        have HMC := hid HM5.out.cells
        go_wp2_with (at_builtin; (refine (wpList_append_list w5 (by rfl) _ _ _ (by rfl) w4.heap.size 5 i0 _ 1 Tryd.underlying40 hi hz0 hz1 hz2 rfl ao5 P.length c5 (bl P) (by rfl) HO5.out a' n' cap' (bl M) (by rfl) ((bl_len _).trans hM) hn HMC.out (bl_one _) (by unfold maxLen; omega) (by omega) hs5 ?_)))
        intro ao6 c6 w6 ho6 hg6 hat6
        rw [← hM] at ho6
        have HN6 := hid (NL.app HN5.out HM5.out.lt ho6 hg6)
        have HB6 := hid (HB4.out.trans (HN6.out.bel.mono HB4.out.size))
        have HT6 := hid (HT4.out.keep (HN6.out.bel.block _ HT4.out.lt))
        have HY6 := hid (byts_grow2 HY5.out HN5.out hg6 HBL4.out)
        clear ho6 hg6 hat6 HO5 HMC
        have hl6 : (P ++ M).length = P.length + n' := by rw [List.length_append]; omega
        obtain ⟨A, hA⟩ : ∃ A, A = P ++ M := ⟨_, rfl⟩
        rw [← hA] at HG1 HG2 HG3 HN6 hl6
        have hgt := get_any HT6.out (HT.out.keep HB6.out) HN6.out.byts HN6.out.nil HN6.out.cap (by omega)
        rw [hl6] at hgt
        have HGT := hid hgt
        clear hl6 hA hgt
        go_wp2_with fail
        refine HGT.out.mono ?_
        intro e w7 hgp
        unfold GetP at hgp
        rw [HG1.out, HG2.out, HG3.out, HLS.out] at hgp
        obtain ⟨ao7, c7, rfl, ho7, hb7⟩ := hgp
        have HB7 := hid (HB6.out.trans (hb7.mono HB6.out.size))
        have HY7 := hid (HY6.out.keep hb7)
        obtain ⟨b7, t7, _, _⟩ := ho7.tb
        rw [HLS.out] at t7
        have HTB7 := hid (t7.congr (fun i hi => gt_lst T len i hi))
        clear ho7 hb7 t7 HGT HN6 HM5 HN5 HY5 HY6
        have bd7 : Below w7.heap.size w7 w7.drew := ⟨rfl, rfl, rfl, Nat.le_refl _, fun _ _ => rfl⟩
        have b8 := HB7.out.trans (bd7.mono HB7.out.size)
        have y8 := HY7.out.keep bd7
        have t8 := HTB7.out.keep bd7
        have cv8 := y8.conv c
        have qs : ((tos P).toList == (tos P).toList) = true := beq_self_eq_true _
        have ql : ((P.length : Int) == (P.length : Int)) = true := beq_self_eq_true _
        go_wp2_with fail
        clear HTB7 HY7 HB7 hnn hnm hs4 hs5 hn hM hbi q0 q1 hlen70 hpl HF HZ HT H HM HBL4 HT4 HB4 HY4 HN3 HB3 HB2 HB1 HT5 HT6 HB5 HB6 HG1 HG2 HG3 hi hz0 hz1 hz2
        refine wp_region_noPanic ?_
        refine wp_region_held_drew (S := (fun w' => (convert 40 9 (.slice ao P.length c)).run Tryd.prog w' = .ok (.string (tos P)) w')) (by kernel_rfl) cv8 (fun hHeld => ?_)
        refine' wpAnyH_take (i := 0) (v := ?v0) rfl (by kernel_rfl) (by kernel_rfl) (by kernel_rfl) (fun _ _ _ h => h) (Or.inl ⟨by rfl, ?hy0⟩) (by assumption) ?rest0
        case hy0 => (intro w hSw; (try dsimp only at hSw); go_simp; try (with_reducible rfl))
        try simp only [Act.put, List.getElem_toArray, List.getElem_cons_zero, List.setIfInBounds_toArray, List.set_cons_zero, List.set_cons_succ]
        refine' wpAnyH_take (i := 1) (v := ?v1) rfl (by kernel_rfl) (by kernel_rfl) (by kernel_rfl) (fun _ _ _ h => h) (Or.inl ⟨by rfl, ?hy1⟩) (by assumption) ?rest1
        case hy1 => (intro w hSw; (try dsimp only at hSw); go_simp; try (with_reducible rfl))
        try simp only [Act.put, List.getElem_toArray, List.getElem_cons_zero, List.getElem_cons_succ, List.setIfInBounds_toArray, List.set_cons_zero, List.set_cons_succ]
        refine' wpAnyH_take (i := 2) (v := ?v2) rfl (by kernel_rfl) (by kernel_rfl) (by kernel_rfl) (fun _ _ _ h => h) (Or.inl ⟨by rfl, ?hy2⟩) (by assumption) ?rest2
        case hy2 => (intro w hSw; (try dsimp only at hSw); go_simp; try (with_reducible rfl))
        try simp only [Act.put, List.getElem_toArray, List.getElem_cons_zero, List.getElem_cons_succ, List.setIfInBounds_toArray, List.set_cons_zero, List.set_cons_succ]
        refine wpAnyH_ready (rs := [3]) (by kernel_rfl) (by simp) ?_
        refine AllReadyH.cons rfl (fun K hK => ?_) AllReadyH.nil
        go_simp
        refine (HRQ.out _ b8).mono ?_
        rintro e w9 ⟨a9, c9, rfl, hl9⟩
        have b9 := b8.trans (hl9.bel.mono b8.size)
        have y9 := y8.keep hl9.bel
        have t9 := t8.keep hl9.bel
        have cv9 := y9.conv c
        have dv9 := hl9.byts.conv c9
        go_wp2_with fail
        refine hK.out _ _ ?_ (fun hHeld => ?_)
        · exact cv9
        clear hK K
        try simp only [Act.put, List.getElem_toArray, List.getElem_cons_zero, List.getElem_cons_succ, List.setIfInBounds_toArray, List.set_cons_zero, List.set_cons_succ]
        refine wpAnyH_ready (rs := [4]) (by kernel_rfl) (by simp) ?_
        refine AllReadyH.cons rfl (fun K hK => ?_) AllReadyH.nil
        go_simp
        refine hK.out _ _ ?_ (fun hHeld => ?_)
        · exact cv9
        clear hK K
        try simp only [Act.put, List.getElem_toArray, List.getElem_cons_zero, List.getElem_cons_succ, List.setIfInBounds_toArray, List.set_cons_zero, List.set_cons_succ]
        refine' wpAnyH_take (i := 5) (v := ?v5) rfl (by kernel_rfl) (by kernel_rfl) (by kernel_rfl) (fun _ _ _ h => h) (Or.inl ⟨by rfl, ?hy5⟩) (by assumption) ?rest5
        case hy5 => (intro w hSw; (try dsimp only at hSw); go_simp; try (with_reducible rfl))
        try simp only [Act.put, List.getElem_toArray, List.getElem_cons_zero, List.getElem_cons_succ, List.setIfInBounds_toArray, List.set_cons_zero, List.set_cons_succ]
        refine' wpAnyH_take (i := 6) (v := ?v6) rfl (by kernel_rfl) (by kernel_rfl) (by kernel_rfl) (fun _ _ _ h => h) (Or.inl ⟨by rfl, ?hy6⟩) (by assumption) ?rest6
        case hy6 => (intro w hSw; (try dsimp only at hSw); go_simp; try (with_reducible rfl))
        try simp only [Act.put, List.getElem_toArray, List.getElem_cons_zero, List.getElem_cons_succ, List.setIfInBounds_toArray, List.set_cons_zero, List.set_cons_succ]
        refine' wpAnyH_take (i := 7) (v := ?v7) rfl (by kernel_rfl) (by kernel_rfl) (by kernel_rfl) (fun _ _ _ h => h) (Or.inl ⟨by rfl, ?hy7⟩) (by assumption) ?rest7
        case hy7 => (intro w hSw; (try dsimp only at hSw); go_simp; try (with_reducible rfl))
        try simp only [Act.put, List.getElem_toArray, List.getElem_cons_zero, List.getElem_cons_succ, List.setIfInBounds_toArray, List.set_cons_zero, List.set_cons_succ]
        refine' wpAnyH_take (i := 8) (v := ?v8) rfl (by kernel_rfl) (by kernel_rfl) (by kernel_rfl) (fun _ _ _ h => h) (Or.inl ⟨by rfl, ?hy8⟩) (by assumption) ?rest8
        case hy8 => (intro w hSw; (try dsimp only at hSw); go_simp; try (with_reducible rfl))
        try simp only [Act.put, List.getElem_toArray, List.getElem_cons_zero, List.getElem_cons_succ, List.setIfInBounds_toArray, List.set_cons_zero, List.set_cons_succ]
        refine' wpAnyH_take (i := 9) (v := ?v9) rfl (by kernel_rfl) (by kernel_rfl) (by kernel_rfl) (fun _ _ _ h => h) (Or.inl ⟨by rfl, ?hy9⟩) (by assumption) ?rest9
        case hy9 => (intro w hSw; (try dsimp only at hSw); go_simp; try (with_reducible rfl))
        try simp only [Act.put, List.getElem_toArray, List.getElem_cons_zero, List.getElem_cons_succ, List.setIfInBounds_toArray, List.set_cons_zero, List.set_cons_succ]
        refine' wpAnyH_take (i := 10) (v := ?v10) rfl (by kernel_rfl) (by kernel_rfl) (by kernel_rfl) (fun _ _ _ h => h) (Or.inl ⟨by rfl, ?hy10⟩) (by assumption) ?rest10
        case hy10 => (intro w hSw; (try dsimp only at hSw); go_simp; try (with_reducible rfl))
        try simp only [Act.put, List.getElem_toArray, List.getElem_cons_zero, List.getElem_cons_succ, List.setIfInBounds_toArray, List.set_cons_zero, List.set_cons_succ]
        refine' wpAnyH_take (i := 11) (v := ?v11) rfl (by kernel_rfl) (by kernel_rfl) (by kernel_rfl) (fun _ _ _ h => h) (Or.inl ⟨by rfl, ?hy11⟩) (by assumption) ?rest11
        case hy11 => (intro w hSw; (try dsimp only at hSw); go_simp; try (with_reducible rfl))
        try simp only [Act.put, List.getElem_toArray, List.getElem_cons_zero, List.getElem_cons_succ, List.setIfInBounds_toArray, List.set_cons_zero, List.set_cons_succ]
        refine' wpAnyH_take (i := 12) (v := ?v12) rfl (by kernel_rfl) (by kernel_rfl) (by kernel_rfl) (fun _ _ _ h => h) (Or.inl ⟨by rfl, ?hy12⟩) (by assumption) ?rest12
        case hy12 => (intro w hSw; (try dsimp only at hSw); go_simp; try (with_reducible rfl))
        try simp only [Act.put, List.getElem_toArray, List.getElem_cons_zero, List.getElem_cons_succ, List.setIfInBounds_toArray, List.set_cons_zero, List.set_cons_succ]
        refine' wpAnyH_take (i := 13) (v := ?v13) rfl (by kernel_rfl) (by kernel_rfl) (by kernel_rfl) (fun _ _ _ h => h) (Or.inl ⟨by rfl, ?hy13⟩) (by assumption) ?rest13
        case hy13 => (intro w hSw; (try dsimp only at hSw); go_simp; try (with_reducible rfl))
        try simp only [Act.put, List.getElem_toArray, List.getElem_cons_zero, List.getElem_cons_succ, List.setIfInBounds_toArray, List.set_cons_zero, List.set_cons_succ]
        refine' wpAnyH_take (i := 14) (v := ?v14) rfl (by kernel_rfl) (by kernel_rfl) (by kernel_rfl) (fun _ _ _ h => h) (Or.inl ⟨by rfl, ?hy14⟩) (by assumption) ?rest14
        case hy14 => (intro w hSw; (try dsimp only at hSw); go_simp; try (with_reducible rfl))
        try simp only [Act.put, List.getElem_toArray, List.getElem_cons_zero, List.getElem_cons_succ, List.setIfInBounds_toArray, List.set_cons_zero, List.set_cons_succ]
        refine' wpAnyH_take (i := 15) (v := ?v15) rfl (by kernel_rfl) (by kernel_rfl) (by kernel_rfl) (fun _ _ _ h => h) (Or.inl ⟨by rfl, ?hy15⟩) (by assumption) ?rest15
        case hy15 => (intro w hSw; (try dsimp only at hSw); go_simp; try (with_reducible rfl))
        try simp only [Act.put, List.getElem_toArray, List.getElem_cons_zero, List.getElem_cons_succ, List.setIfInBounds_toArray, List.set_cons_zero, List.set_cons_succ]
        refine' wpAnyH_take (i := 16) (v := ?v16) rfl (by kernel_rfl) (by kernel_rfl) (by kernel_rfl) (fun _ _ _ h => h) (Or.inl ⟨by rfl, ?hy16⟩) (by assumption) ?rest16
        case hy16 => (intro w hSw; (try dsimp only at hSw); go_simp; try (with_reducible rfl))
        try simp only [Act.put, List.getElem_toArray, List.getElem_cons_zero, List.getElem_cons_succ, List.setIfInBounds_toArray, List.set_cons_zero, List.set_cons_succ]
        refine' wpAnyH_take (i := 17) (v := ?v17) rfl (by kernel_rfl) (by kernel_rfl) (by kernel_rfl) (fun _ _ _ h => h) (Or.inl ⟨by rfl, ?hy17⟩) (by assumption) ?rest17
        case hy17 => (intro w hSw; (try dsimp only at hSw); go_simp; try (with_reducible rfl))
        try simp only [Act.put, List.getElem_toArray, List.getElem_cons_zero, List.getElem_cons_succ, List.setIfInBounds_toArray, List.set_cons_zero, List.set_cons_succ]
        refine' wpAnyH_take (i := 18) (v := ?v18) rfl (by kernel_rfl) (by kernel_rfl) (by kernel_rfl) (fun _ _ _ h => h) (Or.inl ⟨by rfl, ?hy18⟩) (by assumption) ?rest18
        case hy18 => (intro w hSw; (try dsimp only at hSw); go_simp; try (with_reducible rfl))
        try simp only [Act.put, List.getElem_toArray, List.getElem_cons_zero, List.getElem_cons_succ, List.setIfInBounds_toArray, List.set_cons_zero, List.set_cons_succ]
        refine wpAnyH_ready (rs := [19]) (by kernel_rfl) (by simp) ?_
        refine AllReadyH.cons rfl (fun K hK => ?_) AllReadyH.nil
        go_simp
        refine (HRS.out _ b9 _ _ _ t9).mono ?_
        rintro e w10 ⟨rfl, hb10⟩
        have b10 := b9.trans (hb10.mono b9.size)
        have y10 := y9.keep hb10
        have cv10 := y10.conv c
        go_wp2_with fail
        refine hK.out _ _ ?_ (fun hHeld => ?_)
        · exact cv10
        clear hK K
        try simp only [Act.put, List.getElem_toArray, List.getElem_cons_zero, List.getElem_cons_succ, List.setIfInBounds_toArray, List.set_cons_zero, List.set_cons_succ]
        refine' wpAnyH_take (i := 20) (v := ?v20) rfl (by kernel_rfl) (by kernel_rfl) (by kernel_rfl) (fun _ _ _ h => h) (Or.inl ⟨by rfl, ?hy20⟩) (by assumption) ?rest20
        case hy20 => (intro w hSw; (try dsimp only at hSw); go_simp; try (with_reducible rfl))
        try simp only [Act.put, List.getElem_toArray, List.getElem_cons_zero, List.getElem_cons_succ, List.setIfInBounds_toArray, List.set_cons_zero, List.set_cons_succ]
        refine' wpAnyH_take (i := 21) (v := ?v21) rfl (by kernel_rfl) (by kernel_rfl) (by kernel_rfl) (fun _ _ _ h => h) (Or.inl ⟨by rfl, ?hy21⟩) (by assumption) ?rest21
        case hy21 => (intro w hSw; (try dsimp only at hSw); go_simp; try (with_reducible rfl))
        try simp only [Act.put, List.getElem_toArray, List.getElem_cons_zero, List.getElem_cons_succ, List.setIfInBounds_toArray, List.set_cons_zero, List.set_cons_succ]
        refine wpAnyH_ready (rs := [22]) (by kernel_rfl) (by simp) ?_
        refine AllReadyH.cons rfl (fun K hK => ?_) AllReadyH.nil
        go_simp
        refine (HK.out _).mono ?_
        rintro e w11 ⟨rfl, hb11⟩
        have b11 := b10.trans (hb11.mono b10.size)
        have y11 := y10.keep hb11
        have cv11 := y11.conv c
        go_wp2_with fail
        refine hK.out _ _ ?_ (fun hHeld => ?_)
        · exact cv11
        clear hK K
        try simp only [Act.put, List.getElem_toArray, List.getElem_cons_zero, List.getElem_cons_succ, List.setIfInBounds_toArray, List.set_cons_zero, List.set_cons_succ]
        refine' wpAnyH_take (i := 23) (v := ?v23) rfl (by kernel_rfl) (by kernel_rfl) (by kernel_rfl) (fun _ _ _ h => h) (Or.inl ⟨by rfl, ?hy23⟩) (by assumption) ?rest23
        case hy23 => (intro w hSw; (try dsimp only at hSw); go_simp; try (with_reducible rfl))
        try simp only [Act.put, List.getElem_toArray, List.getElem_cons_zero, List.getElem_cons_succ, List.setIfInBounds_toArray, List.set_cons_zero, List.set_cons_succ]
        refine' wpAnyH_take (i := 24) (v := ?v24) rfl (by kernel_rfl) (by kernel_rfl) (by kernel_rfl) (fun _ _ _ h => h) (Or.inl ⟨by rfl, ?hy24⟩) (by assumption) ?rest24
        case hy24 => (intro w hSw; (try dsimp only at hSw); go_simp; try (with_reducible rfl))
        try simp only [Act.put, List.getElem_toArray, List.getElem_cons_zero, List.getElem_cons_succ, List.setIfInBounds_toArray, List.set_cons_zero, List.set_cons_succ]
        refine wpAnyH_done (by kernel_rfl) ?_ _
        refine NoPanic.normal ?_
        have hfin := b11
        clear b8 b9 b10 b11 y8 y9 y10 y11 t8 t9 cv8 cv9 cv10 cv11 dv9 hl9 hb10 hb11 bd7
        go_wp2_with fail
        go_ret
        exact ⟨rfl, hfin⟩
      · have q0 : (C.2 != 0) = true := by rw [bne_iff_ne]; exact h0
        obtain rfl := hlay0.out h0
        clear hlay hlay0 HPL HGB HRP h0
        go_wp2_with fail
        refine (HK.out _).mono ?_
        rintro e w8 ⟨rfl, hb8⟩
        have HB8 := hid (HB4.out.trans (hb8.mono HB4.out.size))
        clear hb8
        go_wp2_with fail
        go_ret
        exact ⟨rfl, HB8.out⟩
  · rw [decide_eq_false f1] at HF
    clear h hT hm hM hb hn f1 hc
    go_enter Tryd.func6, Tryd.ntmps6
    go_wp2_with fail
    refine HF.out.mono ?_
    rintro e w1 ⟨rfl, hb1⟩
    have HB1 := hid hb1
    clear hb1
    go_wp2_with fail
    refine (HK.out _).mono ?_
    rintro e w8 ⟨rfl, hb8⟩
    have HB8 := hid (HB1.out.trans (hb8.mono HB1.out.size))
    clear hb8
    go_wp2_with fail
    go_ret
    exact ⟨rfl, HB8.out⟩
end Go.Proofs.YtfkklmklbmdlhaaDoor.Tg
