/- Get of the document: what it answers to bytes that begin as tags do. Conditions: fewer than 2^39 bytes. -/
import Derived.Test.YthjjonbkfkpkmaaGreatDoorY37
namespace Go.Proofs.YthjjonbkfkpkmaaGreatDoor.Tg
open Go.RowKit Gen Fld
open Crc hiding hid

set_option maxRecDepth 100000 in
theorem i64_small (n : Nat) (h : n < 4294967296) : wrap64 (n : Int) = n := by unfold wrap64; omega
set_option maxRecDepth 100000 in
theorem getp_ok2 {w w' : World} {b : List Nat} {ao : Option Addr} {n p c : Nat} (he : gF b = 0) (hn : gc b = n) (hp : (gX b).2.pos = p) (ho : w'.ownsRow w.heap.size 65 2 (.slice ao n c) n (flat (lst (gT b) n))) (hb : Below w.heap.size w w') : GetP w b (.returned (.tuple #[.slice ao n c, .int .i64 (p : Int), .int .i64 0])) w' := by
  have hl : gL b = lst (gT b) n := by unfold gL; rw [he, if_pos rfl, hn]
  have hq : gP b = p := by unfold gP; rw [he, if_pos rfl, hp]
  unfold GetP
  rw [hl, hq, he, lst_len]
  exact ⟨ao, c, rfl, by unfold Ow; rw [lst_len]; exact ho, hb⟩
set_option maxRecDepth 100000 in
theorem rta_new (w : World) (a : Option Addr) (cap : Nat) (L : List Nat) (h3 : 3 ≤ L.length) : RtA (w.alloc (.cells #[.slice a L.length cap, .int .i64 3, .int .i64 0] 148)) w.heap.size a cap L 0 3 := by
  refine ⟨?_, ?_, ?_, ?_, ?_, h3⟩
  · simp
  · simp
  · simp
  · simp
  · simp

set_option maxRecDepth 100000 in
set_option maxHeartbeats 6000000 in
theorem rget_long {w : World} {a : Option Addr} {n len : Nat} {r : List Nat} {cap : Nat} (hb : Byts w a (84 :: 71 :: n :: r)) (hn : a = none → cap = 0) (hl : (84 :: 71 :: n :: r).length = len) (hc : len ≤ cap) (hcm : cap ≤ 9223372036854775807) (hm : len ≤ 549755813888) :
    Calls Tryz.prog 39 #[.slice a len cap] w (GetP w (84 :: 71 :: n :: r)) := by
  obtain ⟨i0, hi, hz0, hz1, hz2⟩ := info_parts Tryz.info30
  obtain ⟨bb, off, rfl, hc0⟩ := hb.at_ 0 84 rfl
  have hc1 : w.cell? ⟨bb, off + 1, none⟩ = some (.int .u8 71) := by
    obtain ⟨b9, o9, e9, h9⟩ := hb.at_ 1 71 rfl
    cases e9; exact h9
  have hc2 : w.cell? ⟨bb, off + 2, none⟩ = some (.int .u8 (n : Int)) := by
    obtain ⟨b9, o9, e9, h9⟩ := hb.at_ 2 n rfl
    cases e9; exact h9
  rw [Nat.add_zero] at hc0
  have hn256 : n < 256 := hb.lt n (by simp)
  have hbl := World.block_lt_of_cell? w _ hc0
  have h3 : 3 ≤ len := by rw [← hl]; simp
  obtain ⟨g1, g2⟩ := g0_long 84 71 n r
  have hB : Bgn (84 :: 71 :: n :: r) := bgn_two.2 ⟨rfl, rfl⟩
  have HE := hid fun F e h0 => gF_end hB (F := F) e h0
  have HSU := hid (gF_sum hB)
  have hck0 := gF_chk hB
  have HOK := hid fun (W : World) (ao : Option Addr) (p c : Nat) (he : gF (84 :: 71 :: n :: r) = 0) (hp : (gX (84 :: 71 :: n :: r)).2.pos = p) (ho : W.ownsRow w.heap.size 65 2 (.slice ao n c) n (flat (lst (gT (84 :: 71 :: n :: r)) n))) (hb : Below w.heap.size w W) => getp_ok2 (ao := ao) (c := c) he g2 hp ho hb
  have HNO := hid fun (W : World) (e : Int) (he : gF (84 :: 71 :: n :: r) = e) (h0 : e ≠ 0) (hb : Below w.heap.size w W) => getp_no (w := w) he h0 hb
  have HST := hid (show gE (84 :: 71 :: n :: r) = st ⟨0, r, 3⟩ n by unfold gE; rw [g1, g2])
  have HGX := hid (show gX (84 :: 71 :: n :: r) = nx (gE (84 :: 71 :: n :: r)) 4 true from rfl)
  have HGT := hid (show ∀ k, gT (84 :: 71 :: n :: r) k = ⟨tos (tx (st ⟨0, r, 3⟩ k) 1).1, tos (tx (tx (st ⟨0, r, 3⟩ k) 1).2 2).1⟩ from fun k => by unfold gT; rw [g1]; rfl)
  rw [g2] at hck0
  have HCK := hid hck0
  have hdr : (84 :: 71 :: n :: r).drop 3 = r := rfl
  have HZ := hid (show Sz (gT (84 :: 71 :: n :: r)) n from ⟨by omega, fun i _ => (gT_sz _ (by rw [hl]; exact hm) i).1, fun i _ => (gT_sz _ (by rw [hl]; exact hm) i).2⟩)
  have hep : (gE (84 :: 71 :: n :: r)).pos ≤ len := by have := gE_sum (84 :: 71 :: n :: r); omega
  have hxp : (gX (84 :: 71 :: n :: r)).2.pos ≤ len := by have := gX_sum (84 :: 71 :: n :: r); omega
  have HX8 := hid (show (gX (84 :: 71 :: n :: r)).1.length ≤ 8 from nx_len8 _ 4)
  generalize gF (84 :: 71 :: n :: r) = GF at *
  obtain ⟨sE, hE⟩ : ∃ sE, gE (84 :: 71 :: n :: r) = sE := ⟨_, rfl⟩
  rw [hE] at HST HGX HSU HCK hep
  obtain ⟨X, hX⟩ : ∃ X, gX (84 :: 71 :: n :: r) = X := ⟨_, rfl⟩
  rw [hX] at HGX HE HSU HCK HOK HX8 hxp
  obtain ⟨T, hTT⟩ : ∃ T, gT (84 :: 71 :: n :: r) = T := ⟨_, rfl⟩
  rw [hTT] at HGT HCK HOK HZ
  clear hE hX hTT hB g1 g2 hck0
  obtain ⟨L, hLL⟩ : ∃ L, 84 :: 71 :: n :: r = L := ⟨_, rfl⟩
  rw [hLL] at hb hl HSU HCK HOK HNO hdr ⊢
  have HB := hid hb
  have HS := hid (show Src w (some ⟨bb, off, none⟩) cap L from ⟨hb, fun ad e _ => ⟨bb, off, (Option.some.inj e).symm⟩, by omega, hcm, (fun e => by cases e), by omega⟩)
  have hcl := cs_lt (fun x hx => hb.lt x (List.mem_of_mem_take hx) : ∀ x ∈ L.take sE.pos, x < 256)
  have hu4 := u64_small _ hcl
  have HSM := hid fun (W : World) (hw : Below w.heap.size w W) => (show Calls Tryz.prog 45 #[.slice (some ⟨bb, off, none⟩) sE.pos cap] W fun e w' => e = .returned (.int .u32 (cs (L.take sE.pos) : Int)) ∧ W = w' by
    have h9 := rcsum_any (cap := cap) ((hb.keep hw).take sE.pos) (by rw [List.length_take]; omega)
    rw [List.length_take, Nat.min_eq_left (by omega)] at h9
    exact h9)
  have HC2 := hid fun (W : World) (hw : Below w.heap.size w W) => (World.cell?_of_block (a := ⟨bb, off + 2, none⟩) (hw.block bb hbl)).trans hc2
  have HR0 := hid (show RtS (w.alloc (.cells #[.slice (some ⟨bb, off, none⟩) len cap, .int .i64 3, .int .i64 0] 148)) w.heap.size (some ⟨bb, off, none⟩) cap L (st ⟨0, r, 3⟩ 0) from ⟨by
    have h9 := rta_new w (some ⟨bb, off, none⟩) cap L (by omega)
    rw [hl] at h9
    exact h9, by rw [← hdr]; rfl⟩)
  have HB0 := hid (bel_new w (.cells #[.slice (some ⟨bb, off, none⟩) len cap, .int .i64 3, .int .i64 0] 148))
  have hw0 := i64_small n (by omega)
  have h0l : (0 : Int) < (len : Int) := by omega
  have h1l : (1 : Int) < (len : Int) := by omega
  have h2l : (2 : Int) < (len : Int) := by omega
  have h3l : ¬ (len : Int) < 3 := by omega
  generalize cs (L.take sE.pos) = SM at *
  clear hb hdr hLL hl
  go_enter Tryz.func39, Tryz.ntmps39
  go_wp2_with fail
  have hgw : ∀ w', w' = (w.alloc (.cells #[.slice (some ⟨bb, off, none⟩) len cap, .int .i64 3, .int .i64 0] 148)) → w'.heap.size = w.heap.size + 1 := fun w' e => by rw [e]; exact Deep.nblk_alloc _ _
  have HGW := hid (hgw _ rfl)
  clear hgw
  generalize w.alloc (.cells #[.slice (some ⟨bb, off, none⟩) len cap, .int .i64 3, .int .i64 0] 148) = W at *
  go_loopg [6, 7] n (fun gh v i wr => ∃ (k : Nat) (ao : Option Addr) (c : Nat), k ≤ n ∧ gh = n - k ∧ i = .int .i64 k ∧ v = .slice ao k c ∧ Hid (wr.ownsRow (w.heap.size + 1) 65 2 (.slice ao k c) k (flat (lst T k))) ∧ Hid (RtS wr w.heap.size (some ⟨bb, off, none⟩) cap L (st ⟨0, r, 3⟩ k)) ∧ Hid (Below w.heap.size w wr) ∧ w.heap.size + 1 ≤ wr.heap.size)
  case atStart => exact ⟨0, none, 0, Nat.zero_le _, rfl, rfl, rfl, hid (World.ownsRow_nil _ _ _ _), HR0, HB0, by rw [HGW.out]; exact Nat.le_refl _⟩
  case round =>
    obtain ⟨k, ao, c, hk, hg, rfl, rfl, HO, HR, HBW, hsz⟩ := hrel
    have HG := hid hg
    have hcc := HC2.out wr HBW.out
    clear hg hc0 hc1 hc2 HR0 HB0 HGW
    by_cases hlt : k < n
    · have hlt2 : (k : Int) < (n : Int) := by omega
      have HT1 := hid (rtext_take HS.out HR.out HBW.out (Nat.le_refl _) 1)
      have HTK := hid (show (T k).k = tos (tx (st ⟨0, r, 3⟩ k) 1).1 by rw [HGT.out])
      have HTV := hid (show (T k).v = tos (tx (tx (st ⟨0, r, 3⟩ k) 1).2 2).1 by rw [HGT.out])
      have HSS := hid (show st ⟨0, r, 3⟩ (k + 1) = (tx (tx (st ⟨0, r, 3⟩ k) 1).2 2).2 from rfl)
      obtain ⟨tk, htk⟩ : ∃ tk, tk = tos (tx (st ⟨0, r, 3⟩ k) 1).1 := ⟨_, rfl⟩
      rw [← htk] at HT1 HTK
      clear htk
      go_wp2_with fail
      refine HT1.out.mono ?_
      rintro e w5 ⟨rfl, hr5, hf5⟩
      have hb5 := bel_fr HBW.out hf5 (Nat.le_refl _)
      have HT2 := hid (rtext_take HS.out hr5 hb5 (Nat.le_refl _) 2)
      obtain ⟨tv, htv⟩ : ∃ tv, tv = tos (tx (tx (st ⟨0, r, 3⟩ k) 1).2 2).1 := ⟨_, rfl⟩
      rw [← htv] at HT2 HTV
      clear htv
      have HF5 := hid hf5
      have HB5 := hid hb5
      clear hr5 hf5 hb5 HT1 hcc
      go_wp2_with fail
      refine HT2.out.mono ?_
      rintro e w6 ⟨rfl, hr6, hf6⟩
      have HR6 := hid hr6
      have HB6 := hid (bel_fr HB5.out hf6 (Nat.le_refl _))
      have hf56 := HF5.out.trans hf6
      have hs6 : w.heap.size + 1 ≤ w6.heap.size := Nat.le_trans hsz hf56.size
      have ho6 := own_block HO.out (w' := w6) (fun g' hg' => by
        have h9 := HO.out.lt g' (by rw [ownBlock_slice]; exact hg')
        exact hf56.block g' h9.2 (by omega))
      have HN7 := hid (World.news_of_block (w := w6.alloc (.cells #[.string tk, .string tv] 65)) (cs := #[.string tk, .string tv]) (t := 65) (fr := (0, 0)) (heap_alloc_new w6 _))
      have HO7 := hid (own_block (w' := w6.alloc (.cells #[.string tk, .string tv] 65)) ho6 (fun g' hg' => (bel_new w6 _).block g' (ho6.lt g' (by rw [ownBlock_slice]; exact hg')).2))
      have hs7 : w.heap.size + 1 ≤ (w6.alloc (.cells #[.string tk, .string tv] 65)).heap.size := Nat.le_trans hs6 (bel_new w6 _).size
      have HF7 := hid (((Fr.refl (fun b => w.heap.size < b) w6).alloc (.cells #[.string tk, .string tv] 65)))
      clear hr6 hf6 hf56 ho6 HT2 HF5
      go_wp2_with (at_builtin; (refine (wpList_append_rows (w6.alloc (.cells #[.string tk, .string tv] 65)) (by rfl) _ _ _ (by rfl) (w.heap.size + 1) 65 i0 _ 2 32 Tryz.underlying26 hi hz0 hz1 hz2 rfl (by decide) ao k c (flat (lst T k)) (by rfl) HO7.out (some ⟨w6.heap.size, 0, none⟩) 1 1 [.string tk, .string tv] (by rfl) rfl (fun e => by cases e) (fun ad e => by cases e; exact HN7.out) (by simp [Value.oneCell']) (by unfold maxLen; omega) (by omega) hs7 ?_)))
      intro ao8 c8 w8 ho8 hg8 hat8
      have hfl : flat (lst T (k + 1)) = flat (lst T k) ++ [.string tk, .string tv] := by
        rw [lst_succ, flat_app]
        show flat (lst T k) ++ [Value.string (T k).k, Value.string (T k).v] = _
        rw [HTK.out, HTV.out]
      rw [← hfl] at ho8
      have HO8 := hid ho8
      have hf8 := HF7.out.grown hg8 (fun g' hg' _ => by
        have h9 := HO7.out.lt g' (by rw [ownBlock_slice]; exact hg')
        omega)
      have HR8 := hid (show RtS w8 w.heap.size (some ⟨bb, off, none⟩) cap L (st ⟨0, r, 3⟩ (k + 1)) by rw [HSS.out]; exact HR6.out.keep hf8 (by omega))
      have HB8 := hid (show Below w.heap.size w w8 from HB6.out.trans ⟨hf8.os, hf8.tape, hf8.output, hf8.size, fun j hj => hf8.block j (by have := HB6.out.size; omega) (by omega)⟩)
      have hs8 : w.heap.size + 1 ≤ w8.heap.size := Nat.le_trans hs6 hf8.size
      clear ho8 hg8 hat8 hf8 hfl
      go_wp2_with fail
      go_roundg (n - (k + 1))
      case measure => rw [HG.out]; omega
      case rel => exact ⟨k + 1, ao8, c8, by omega, rfl, by go_num, rfl, HO8, HR8, HB8, hs8⟩
    · have hge : ¬ (k : Int) < (n : Int) := by omega
      obtain rfl : k = n := by omega
      have HRE := hid (show RtS wr w.heap.size (some ⟨bb, off, none⟩) cap L sE by rw [HST.out]; exact HR.out)
      have c1 := HRE.out.1.c1
      have HNX := hid (rnext_any HS.out HRE.out 4 true)
      clear HR HST
      go_wp2_with fail
      refine HNX.out.mono ?_
      intro e w5 hp5
      unfold RNext at hp5
      rw [← HGX.out] at hp5
      obtain ⟨a5, c5, rfl, hby5, hr5, hf5⟩ := hp5
      have HB5 := hid (bel_fr HBW.out hf5 (Nat.le_refl _))
      have HV5 := hid (Fld.rvalue_any (c := c5) (hby5.keep HB5.out) HX8.out)
      have HR5 := hid hr5
      have HO5 := hid (own_block HO.out (w' := w5) (fun g' hg' => by
        have h9 := HO.out.lt g' (by rw [ownBlock_slice]; exact hg')
        exact hf5.block g' h9.2 (by omega)))
      clear hby5 hr5 hf5 c1 HNX HO hcc
      go_wp2_with fail
      refine HV5.out.mono ?_
      rintro e w6 ⟨rfl, rfl⟩
      have c2 := HR5.out.1.c2
      have c1 := HR5.out.1.c1
      by_cases hF : X.2.F = 0
      · have t0 : ((X.2.F : Int) != 0) = false := by rw [hF]; rfl
        have HSF := hid (HSU.out hF)
        have HCF := hid (HCK.out hF)
        have HS5 := hid (HSM.out w5 HB5.out)
        have hep2 : (sE.pos : Int) ≤ (cap : Int) := by omega
        clear HSU HCK HE hF
        go_wp2_with fail
        refine HS5.out.mono ?_
        rintro e w6 ⟨rfl, rfl⟩
        by_cases hs : lev X.1 = SM
        · have t1 : ((lev X.1 : Int) != (SM : Int)) = false := by rw [hs]; simp
          have HCG := hid (HCF.out hs)
          have hoo := HO5.out
          have hOw : Ow w5 (w.heap.size + 1) ao c (lst T k) := by unfold Ow; rw [lst_len]; exact hoo
          obtain ⟨b6, t6, _, _⟩ := hOw.tb
          have hcap := hOw.cap
          rw [lst_len] at t6 hcap
          have hck := rcheck_any _ (t6.congr (fun i hi => gt_lst T k i hi)) HZ.out hcap
          obtain ⟨C, hC⟩ : ∃ C, chk T k = C := ⟨_, rfl⟩
          rw [hC] at hck HCG
          have HCH := hid hck
          clear hC t6 hck hOw hoo HSF HCF hs c1 c2
          go_wp2_with fail
          refine HCH.out.mono ?_
          rintro e w7 ⟨rfl, hb7⟩
          have HB7 := hid (HB5.out.trans (hb7.mono HB5.out.size))
          have HO7 := hid (own_block HO5.out (w' := w7) (fun g' hg' => hb7.block g' (HO5.out.lt g' (by rw [ownBlock_slice]; exact hg')).2))
          have c1 : w7.cell? ⟨w.heap.size, 1, none⟩ = some (.int .i64 (X.2.pos : Int)) := (World.cell?_of_block (a := ⟨w.heap.size, 1, none⟩) (hb7.block w.heap.size HR5.out.1.lt)).trans HR5.out.1.c1
          clear hb7
          by_cases h0 : C.2 = 0
          · have q0 : (C.2 != 0) = false := by rw [h0]; rfl
            have HF := hid fun (nq : Nat) => HOK.out (w7.drewN nq) ao X.2.pos c (by rw [HCG.out, h0]) rfl (own_mono (show (w7.drewN nq).ownsRow (w.heap.size + 1) 65 2 (.slice ao k c) k (flat (lst T k)) from HO7.out) (Nat.le_succ _)) (bel_drew HB7.out nq)
            clear h0
            go_wp2_with fail
            go_quiet (fail)
            go_wp2_with fail
            go_ret3
            exact HF.out _
          · have q0 : (C.2 != 0) = true := by rw [bne_iff_ne]; exact h0
            have HF := hid (HNO.out w7 C.2 HCG.out h0 HB7.out)
            clear h0
            go_wp2_with fail
            go_ret3
            exact HF.out
        · have t1 : ((lev X.1 : Int) != (SM : Int)) = true := by rw [bne_iff_ne]; omega
          have HF := hid (HNO.out w5 33 (HSF.out hs) (by decide) HB5.out)
          clear hs HSF HCF
          go_wp2_with fail
          go_ret3
          exact HF.out
      · have t0 : ((X.2.F : Int) != 0) = true := by rw [bne_iff_ne]; omega
        have HF := hid fun (nq : Nat) => HNO.out (w5.drewN nq) X.2.F (HE.out X.2.F rfl hF) (by omega) (bel_drew HB5.out nq)
        clear HSU HCK HE hF
        go_wp2_with fail
        go_quiet (fail)
        go_wp2_with fail
        go_ret3
        exact HF.out _
end Go.Proofs.YthjjonbkfkpkmaaGreatDoor.Tg
