/- Get of the document. Conditions: bytes in memory. -/
import Derived.Test.YthjjonbkfkpkmaaGreatDoorY08
import Derived.Deep.RegionHeld3
import Derived.Deep.DeepCutAuto
import Derived.BigQuiet
import Derived.Deep.QuietTactic
namespace Go.Proofs.YthjjonbkfkpkmaaGreatDoor.Inf
open Go.RowKit Gen Fld
open Crc hiding hid

set_option maxRecDepth 100000 in
theorem Lp.start (w : World) {a : Option Addr} {l : List Nat} (h : Byts w a l) : Lp w a l ((w.alloc (.cells (ivl iz) 25)).alloc (.cells #[.int .u8 68, .int .u8 83, .int .u8 67, .int .u8 49] 5)) :=
  have hb : Below w.heap.size w ((w.alloc (.cells (ivl iz) 25)).alloc (.cells #[.int .u8 68, .int .u8 83, .int .u8 67, .int .u8 49] 5)) := (below_new w _).alloc (below_new w _).size _
  ⟨(Bx.new w iz).below (below_new _ _) (Bx.new w iz).lt, alloc2_at _ _ _, h.keep hb, hb⟩
set_option maxRecDepth 100000 in
theorem Lp.more {w wr w' : World} {a : Option Addr} {l : List Nat} (h : Lp w a l wr) (hb : Below wr.heap.size wr w') : Lp w a l w' :=
  ⟨h.z.below hb h.z.lt, (hb.block _ (World.block_lt_of_cell? _ _ (row_cell h.m 0 rfl))).trans h.m, h.y.keep hb, h.b.trans (hb.mono h.b.size)⟩
set_option maxRecDepth 100000 in
theorem u8_at {w : World} {b off : Nat} {l : List Nat} (h : Byts w (some ⟨b, off, none⟩) l) (j : Nat) (hj : j < l.length) : w.cell? ⟨b, off + j, none⟩ = some (.int .u8 (l[j] : Int)) := by
  obtain ⟨b', off', e, hc⟩ := h.at_ j l[j] (List.getElem?_eq_getElem hj)
  cases e
  exact hc
set_option maxRecDepth 100000 in
theorem drew_below (w : World) (n : Nat) : Below w.heap.size w (w.drewN n) := ⟨rfl, rfl, rfl, Nat.le_refl _, fun _ _ => rfl⟩
set_option maxRecDepth 100000 in
theorem drew1 (w : World) : Below w.heap.size w w.drew := ⟨rfl, rfl, rfl, Nat.le_refl _, fun _ _ => rfl⟩
set_option maxRecDepth 100000 in
theorem byts_get {w : World} {b off : Nat} {l : List Nat} (hb : Byts w (some ⟨b, off, none⟩) l) (j : Nat) (hj : j < l.length) : w.cell? ⟨b, off + j, none⟩ = some (.int .u8 (at_ l j 1 : Int)) ∧ at_ l j 1 < 256 := by
  unfold at_
  have e : (l.drop j).take 1 = [l[j]] := by rw [List.drop_eq_getElem_cons hj]; rfl
  have e2 : lev [l[j]] = l[j] := by show l[j] + 256 * 0 = l[j]; omega
  rw [e, e2]
  obtain ⟨b', off', e3, hc⟩ := hb.at_ j (l[j]) (List.getElem?_eq_getElem hj)
  cases e3
  exact ⟨hc, hb.lt _ (List.getElem_mem hj)⟩
set_option maxRecDepth 100000 in
theorem i64w_small (n : Nat) (h : n < 256) : IntKind.i64.wrap (n : Int) = n := IntWalk.i64_in _ (by omega)
/-- A format in a box. -/
structure Fx (w : World) (g : Nat) (ch bits rate : Nat) : Prop where
  row : w.heap[g]? = some (.cells #[.int .i64 (ch : Int), .int .i64 (bits : Int), .int .i64 (rate : Int)] 23 (0, 0))
def Rin (w : World) (l : List Nat) (e : Ending) (w' : World) : Prop := InfP w (getI l) (getE l) e w'
set_option maxRecDepth 100000 in
theorem rin_bad {w : World} {l : List Nat} (x : Int) (h : getE l = x) (hx : x ≠ 0) {w' : World} (hb : Below w.heap.size w w') : Rin w l (.returned (.tuple #[.agg (ivl iz), .int .i64 x])) w' := by
  unfold Rin InfP getI
  rw [h, if_neg hx]
  exact ⟨rfl, hb⟩
set_option maxRecDepth 100000 in
set_option maxHeartbeats 4000000 in
theorem rget_any {w : World} {a : Option Addr} {l : List Nat} {N cap : Nat} (hN : l.length = N) (hb : Byts w a l) (hc : N ≤ cap) (hm : N ≤ 1099511627776) :
    Calls Tryz.prog 38 #[.slice a N cap] w (Rin w l) := by
  have HL := hid (Lp.start w hb)
  have HLN := hid hN
  have HGE := hid (show getE l = if ¬ Bgn l then 31 else if l.length < 19 then 10 else if ¬ Sm l then 33 else if ¬ Rt (inl l) then 32 else 0 from rfl)
  clear hb hN
  go_enter Tryz.func38, Tryz.ntmps38
  go_wp2_with fail
  go_loopg [5] 4 (fun gg k wr => ∃ j : Nat, j ≤ 4 ∧ j ≤ N ∧ gg = 4 - j ∧ k = .int .i64 j ∧ Pr l j ∧ Lp w a l wr)
  case atStart => exact ⟨0, by decide, by omega, rfl, rfl, fun _ h => by omega, HL.out⟩
  case round =>
    obtain ⟨j, hj, hjN, hg, rfl, hpr, hlp⟩ := hrel
    have HG := hid hg
    have HPR := hid hpr
    have HLP := hid hlp
    clear hg HL hpr hlp
    have hx : j = 0 ∨ j = 1 ∨ j = 2 ∨ j = 3 ∨ j = 4 := by omega
    rcases hx with rfl | rfl | rfl | rfl | rfl
    · by_cases hlen : N = 0
      · have HE := hid (show getE l = 10 from by rw [HGE.out, if_neg (fun h => h (pr_bgn HPR.out (.inr ⟨by decide, by rw [HLN.out]; omega⟩))), if_pos (by rw [HLN.out]; omega)])
        subst hlen
        clear HPR HGE
        go_wp2_with (refine wpList_store_row rfl 25 _ _ rfl w.heap.size (ivl iz) rfl rfl 25 (ivl iz) HLP.out.z.row (ivl_size _) rfl (ivl_one _) ?_)
        refine bodyPost_ret (res_ct (p := 2) (u := 3) (ty := 25) (by kernel_rfl) _ _ w.heap.size 25 (ivl iz) (0, 0) _ rfl (setRow_heap _ _ _ _ _ _ HLP.out.z.row) Tryz.underlying25 rfl (ivl_size _) rfl) rfl ?_
        exact rin_bad 10 HE.out (by decide) (fr_rowBelow HLP.out.b (Nat.le_refl _))
      · have hjl : 0 < l.length := by rw [HLN.out]; omega
        obtain ⟨b, off, rfl⟩ := byts_at HLP.out.y (by omega)
        have cb := u8_at HLP.out.y 0 hjl
        simp only [Nat.add_zero] at cb
        have cm := row_cell HLP.out.m 0 (v := .int .u8 68) rfl
        have hNi : (0 : Int) < (N : Int) := by omega
        have he := List.getElem?_eq_getElem hjl
        have HXE := hid he
        clear he
        generalize l[0] = x at *
        by_cases hxm : x = 68
        · have hne : ((x : Int) != 68) = false := by rw [hxm]; rfl
          have HPS := hid (pr_succ HPR.out (show l[0]? = mk4[0]? from by rw [HXE.out, hxm]; rfl))
          clear hxm HPR HGE HXE hlen
          go_wp2_with fail
          go_quiet (fail)
          go_wp2_with fail
          go_roundg 3
          case measure => rw [HG.out]; omega
          case rel => exact ⟨1, by decide, by omega, rfl, rfl, HPS.out, HLP.out.more (drew_below _ nq)⟩
        · have hne : ((x : Int) != 68) = true := by rw [bne_iff_ne]; omega
          have HE := hid (show getE l = 31 from by rw [HGE.out, if_pos (fun h => by have := bgn_pr h 0 (by decide) hjl; rw [HXE.out] at this; exact hxm (Option.some.inj this))])
          clear hxm HPR HGE HXE hlen hjl
          go_wp2_with fail
          go_quiet (fail)
          have HLP := hid (HLP.out.more (drew_below _ nq))
          go_wp2_with (refine wpList_store_row rfl 25 _ _ rfl w.heap.size (ivl iz) rfl rfl 25 (ivl iz) HLP.out.z.row (ivl_size _) rfl (ivl_one _) ?_)
          refine bodyPost_ret (res_ct (p := 2) (u := 3) (ty := 25) (by kernel_rfl) _ _ w.heap.size 25 (ivl iz) (0, 0) _ rfl (setRow_heap _ _ _ _ _ _ HLP.out.z.row) Tryz.underlying25 rfl (ivl_size _) rfl) rfl ?_
          exact rin_bad 31 HE.out (by decide) (fr_rowBelow HLP.out.b (Nat.le_refl _))
    · by_cases hlen : N = 1
      · have HE := hid (show getE l = 10 from by rw [HGE.out, if_neg (fun h => h (pr_bgn HPR.out (.inr ⟨by decide, by rw [HLN.out]; omega⟩))), if_pos (by rw [HLN.out]; omega)])
        subst hlen
        clear HPR HGE
        go_wp2_with (refine wpList_store_row rfl 25 _ _ rfl w.heap.size (ivl iz) rfl rfl 25 (ivl iz) HLP.out.z.row (ivl_size _) rfl (ivl_one _) ?_)
        refine bodyPost_ret (res_ct (p := 2) (u := 3) (ty := 25) (by kernel_rfl) _ _ w.heap.size 25 (ivl iz) (0, 0) _ rfl (setRow_heap _ _ _ _ _ _ HLP.out.z.row) Tryz.underlying25 rfl (ivl_size _) rfl) rfl ?_
        exact rin_bad 10 HE.out (by decide) (fr_rowBelow HLP.out.b (Nat.le_refl _))
      · have hjl : 1 < l.length := by rw [HLN.out]; omega
        obtain ⟨b, off, rfl⟩ := byts_at HLP.out.y (by omega)
        have cb := u8_at HLP.out.y 1 hjl
        have cb := cb
        have cm := row_cell HLP.out.m 1 (v := .int .u8 83) rfl
        have hNi : (1 : Int) < (N : Int) := by omega
        have he := List.getElem?_eq_getElem hjl
        have HXE := hid he
        clear he
        generalize l[1] = x at *
        by_cases hxm : x = 83
        · have hne : ((x : Int) != 83) = false := by rw [hxm]; rfl
          have HPS := hid (pr_succ HPR.out (show l[1]? = mk4[1]? from by rw [HXE.out, hxm]; rfl))
          clear hxm HPR HGE HXE hlen
          go_wp2_with fail
          go_quiet (fail)
          go_wp2_with fail
          go_roundg 2
          case measure => rw [HG.out]; omega
          case rel => exact ⟨2, by decide, by omega, rfl, rfl, HPS.out, HLP.out.more (drew_below _ nq)⟩
        · have hne : ((x : Int) != 83) = true := by rw [bne_iff_ne]; omega
          have HE := hid (show getE l = 31 from by rw [HGE.out, if_pos (fun h => by have := bgn_pr h 1 (by decide) hjl; rw [HXE.out] at this; exact hxm (Option.some.inj this))])
          clear hxm HPR HGE HXE hlen hjl
          go_wp2_with fail
          go_quiet (fail)
          have HLP := hid (HLP.out.more (drew_below _ nq))
          go_wp2_with (refine wpList_store_row rfl 25 _ _ rfl w.heap.size (ivl iz) rfl rfl 25 (ivl iz) HLP.out.z.row (ivl_size _) rfl (ivl_one _) ?_)
          refine bodyPost_ret (res_ct (p := 2) (u := 3) (ty := 25) (by kernel_rfl) _ _ w.heap.size 25 (ivl iz) (0, 0) _ rfl (setRow_heap _ _ _ _ _ _ HLP.out.z.row) Tryz.underlying25 rfl (ivl_size _) rfl) rfl ?_
          exact rin_bad 31 HE.out (by decide) (fr_rowBelow HLP.out.b (Nat.le_refl _))
    · by_cases hlen : N = 2
      · have HE := hid (show getE l = 10 from by rw [HGE.out, if_neg (fun h => h (pr_bgn HPR.out (.inr ⟨by decide, by rw [HLN.out]; omega⟩))), if_pos (by rw [HLN.out]; omega)])
        subst hlen
        clear HPR HGE
        go_wp2_with (refine wpList_store_row rfl 25 _ _ rfl w.heap.size (ivl iz) rfl rfl 25 (ivl iz) HLP.out.z.row (ivl_size _) rfl (ivl_one _) ?_)
        refine bodyPost_ret (res_ct (p := 2) (u := 3) (ty := 25) (by kernel_rfl) _ _ w.heap.size 25 (ivl iz) (0, 0) _ rfl (setRow_heap _ _ _ _ _ _ HLP.out.z.row) Tryz.underlying25 rfl (ivl_size _) rfl) rfl ?_
        exact rin_bad 10 HE.out (by decide) (fr_rowBelow HLP.out.b (Nat.le_refl _))
      · have hjl : 2 < l.length := by rw [HLN.out]; omega
        obtain ⟨b, off, rfl⟩ := byts_at HLP.out.y (by omega)
        have cb := u8_at HLP.out.y 2 hjl
        have cb := cb
        have cm := row_cell HLP.out.m 2 (v := .int .u8 67) rfl
        have hNi : (2 : Int) < (N : Int) := by omega
        have he := List.getElem?_eq_getElem hjl
        have HXE := hid he
        clear he
        generalize l[2] = x at *
        by_cases hxm : x = 67
        · have hne : ((x : Int) != 67) = false := by rw [hxm]; rfl
          have HPS := hid (pr_succ HPR.out (show l[2]? = mk4[2]? from by rw [HXE.out, hxm]; rfl))
          clear hxm HPR HGE HXE hlen
          go_wp2_with fail
          go_quiet (fail)
          go_wp2_with fail
          go_roundg 1
          case measure => rw [HG.out]; omega
          case rel => exact ⟨3, by decide, by omega, rfl, rfl, HPS.out, HLP.out.more (drew_below _ nq)⟩
        · have hne : ((x : Int) != 67) = true := by rw [bne_iff_ne]; omega
          have HE := hid (show getE l = 31 from by rw [HGE.out, if_pos (fun h => by have := bgn_pr h 2 (by decide) hjl; rw [HXE.out] at this; exact hxm (Option.some.inj this))])
          clear hxm HPR HGE HXE hlen hjl
          go_wp2_with fail
          go_quiet (fail)
          have HLP := hid (HLP.out.more (drew_below _ nq))
          go_wp2_with (refine wpList_store_row rfl 25 _ _ rfl w.heap.size (ivl iz) rfl rfl 25 (ivl iz) HLP.out.z.row (ivl_size _) rfl (ivl_one _) ?_)
          refine bodyPost_ret (res_ct (p := 2) (u := 3) (ty := 25) (by kernel_rfl) _ _ w.heap.size 25 (ivl iz) (0, 0) _ rfl (setRow_heap _ _ _ _ _ _ HLP.out.z.row) Tryz.underlying25 rfl (ivl_size _) rfl) rfl ?_
          exact rin_bad 31 HE.out (by decide) (fr_rowBelow HLP.out.b (Nat.le_refl _))
    · by_cases hlen : N = 3
      · have HE := hid (show getE l = 10 from by rw [HGE.out, if_neg (fun h => h (pr_bgn HPR.out (.inr ⟨by decide, by rw [HLN.out]; omega⟩))), if_pos (by rw [HLN.out]; omega)])
        subst hlen
        clear HPR HGE
        go_wp2_with (refine wpList_store_row rfl 25 _ _ rfl w.heap.size (ivl iz) rfl rfl 25 (ivl iz) HLP.out.z.row (ivl_size _) rfl (ivl_one _) ?_)
        refine bodyPost_ret (res_ct (p := 2) (u := 3) (ty := 25) (by kernel_rfl) _ _ w.heap.size 25 (ivl iz) (0, 0) _ rfl (setRow_heap _ _ _ _ _ _ HLP.out.z.row) Tryz.underlying25 rfl (ivl_size _) rfl) rfl ?_
        exact rin_bad 10 HE.out (by decide) (fr_rowBelow HLP.out.b (Nat.le_refl _))
      · have hjl : 3 < l.length := by rw [HLN.out]; omega
        obtain ⟨b, off, rfl⟩ := byts_at HLP.out.y (by omega)
        have cb := u8_at HLP.out.y 3 hjl
        have cb := cb
        have cm := row_cell HLP.out.m 3 (v := .int .u8 49) rfl
        have hNi : (3 : Int) < (N : Int) := by omega
        have he := List.getElem?_eq_getElem hjl
        have HXE := hid he
        clear he
        generalize l[3] = x at *
        by_cases hxm : x = 49
        · have hne : ((x : Int) != 49) = false := by rw [hxm]; rfl
          have HPS := hid (pr_succ HPR.out (show l[3]? = mk4[3]? from by rw [HXE.out, hxm]; rfl))
          clear hxm HPR HGE HXE hlen
          go_wp2_with fail
          go_quiet (fail)
          go_wp2_with fail
          go_roundg 0
          case measure => rw [HG.out]; omega
          case rel => exact ⟨4, by decide, by omega, rfl, rfl, HPS.out, HLP.out.more (drew_below _ nq)⟩
        · have hne : ((x : Int) != 49) = true := by rw [bne_iff_ne]; omega
          have HE := hid (show getE l = 31 from by rw [HGE.out, if_pos (fun h => by have := bgn_pr h 3 (by decide) hjl; rw [HXE.out] at this; exact hxm (Option.some.inj this))])
          clear hxm HPR HGE HXE hlen hjl
          go_wp2_with fail
          go_quiet (fail)
          have HLP := hid (HLP.out.more (drew_below _ nq))
          go_wp2_with (refine wpList_store_row rfl 25 _ _ rfl w.heap.size (ivl iz) rfl rfl 25 (ivl iz) HLP.out.z.row (ivl_size _) rfl (ivl_one _) ?_)
          refine bodyPost_ret (res_ct (p := 2) (u := 3) (ty := 25) (by kernel_rfl) _ _ w.heap.size 25 (ivl iz) (0, 0) _ rfl (setRow_heap _ _ _ _ _ _ HLP.out.z.row) Tryz.underlying25 rfl (ivl_size _) rfl) rfl ?_
          exact rin_bad 31 HE.out (by decide) (fr_rowBelow HLP.out.b (Nat.le_refl _))
    · have hbg := pr_bgn HPR.out (.inl rfl)
      by_cases hl : N < 19
      · have HE := hid (show getE l = 10 from by rw [HGE.out, if_neg (fun h => h hbg), if_pos (by rw [HLN.out]; exact hl)])
        have hli : (N : Int) < 19 := by omega
        clear hbg HPR HGE
        go_wp2_with (refine wpList_store_row rfl 25 _ _ rfl w.heap.size (ivl iz) rfl rfl 25 (ivl iz) HLP.out.z.row (ivl_size _) rfl (ivl_one _) ?_)
        refine bodyPost_ret (res_ct (p := 2) (u := 3) (ty := 25) (by kernel_rfl) _ _ w.heap.size 25 (ivl iz) (0, 0) _ rfl (setRow_heap _ _ _ _ _ _ HLP.out.z.row) Tryz.underlying25 rfl (ivl_size _) rfl) rfl ?_
        exact rin_bad 10 HE.out (by decide) (fr_rowBelow HLP.out.b (Nat.le_refl _))
      · have hli : ¬ (N : Int) < 19 := by omega
        have hln : 19 ≤ l.length := by rw [HLN.out]; omega
        have hcap : 19 ≤ cap := by omega
        have hge : getE l = if ¬ Sm l then 33 else if ¬ Rt (inl l) then 32 else 0 := by rw [HGE.out, if_neg (fun h => h hbg), if_neg (by omega)]
        obtain ⟨b, off, rfl⟩ := byts_at HLP.out.y (by omega)
        have hl15 : (l.take 15).length = 15 := by rw [List.length_take]; omega
        have HCS := hid fun (n : Nat) (c : Nat) => rcsum_any (cap := c) (l := l.take 15) ((HLP.out.more (drew_below _ n)).y.take 15) (by omega)
        rw [hl15] at HCS
        have HV := hid fun (n : Nat) (c : Nat) => value_any (cap := c) (n := 4) (l := (l.drop 15).take 4) (((HLP.out.more (drew_below _ n)).y.drop 15).take 4) (by rw [List.length_take, List.length_drop]; omega) (by decide)
        have hcl := cs_lt (l := l.take 15) (fun x hx => HLP.out.y.lt x (List.mem_of_mem_take hx))
        have uc : IntKind.u64.wrap (cs (l.take 15) : Int) = cs (l.take 15) := u64_small _ hcl
        have hsm : (((cs (l.take 15) : Nat) : Int) != ((lev ((l.drop 15).take 4) : Nat) : Int)) = !(decide (Sm l)) := by
          rw [show decide (Sm l) = decide (lev ((l.drop 15).take 4) = cs (l.take 15)) from rfl, Bool.eq_iff_iff]
          simp only [bne_iff_ne, Bool.not_eq_true', decide_eq_false_iff_not]
          omega
        have HGE2 := hid hge
        have HYL := hid hln
        clear hl15 hcl hbg HPR HGE hl hge hln
        by_cases h3 : Sm l
        · rw [decide_eq_true h3] at hsm
          simp only [Bool.not_true] at hsm
          have HGE := hid (show getE l = if ¬ Rt (inl l) then 32 else 0 from by rw [HGE2.out, if_neg (fun h => h h3)])
          clear h3 HGE2
          generalize lev ((l.drop 15).take 4) = n4 at *
          generalize cs (l.take 15) = sv at *
          go_wp2_with fail
          go_quiet (first | (go_at_call 45; exact Calls.quiet_of_same ((HCS.out _ _).mono fun _ _ ⟨a, b⟩ => ⟨a, b.symm⟩)) | (go_at_call 80; exact Calls.quiet_of_same ((HV.out _ _).mono fun _ _ ⟨a, b⟩ => ⟨a, b.symm⟩)))
          have HLP := hid (HLP.out.more (drew_below _ nq))
          clear HCS HV hsm uc
          generalize wr.drewN nq = W at *
          go_wp2_with fail
          have ha8 : ∀ (w' : World) (c : Nat), Byts w' (some ⟨b, off, none⟩) l → Calls Tryz.prog 80 #[.slice (some ⟨b, off + 8, none⟩) 3 c] w' fun e w'' => e = .returned (.int .u64 (at_ l 8 3 : Int)) ∧ w' = w'' := fun w' c hb' => value_any ((hb'.drop 8).take 3) (by rw [List.length_take, List.length_drop]; have := HYL.out; omega) (by decide)
          have ha11 : ∀ (w' : World) (c : Nat), Byts w' (some ⟨b, off, none⟩) l → Calls Tryz.prog 80 #[.slice (some ⟨b, off + 11, none⟩) 4 c] w' fun e w'' => e = .returned (.int .u64 (at_ l 11 4 : Int)) ∧ w' = w'' := fun w' c hb' => value_any ((hb'.drop 11).take 4) (by rw [List.length_take, List.length_drop]; have := HYL.out; omega) (by decide)
          have hg4 : ∀ w', Byts w' (some ⟨b, off, none⟩) l → w'.cell? ⟨b, off + 4, none⟩ = some (.int .u8 (at_ l 4 1 : Int)) := fun w' hb' => (byts_get hb' 4 (by have := HYL.out; omega)).1
          have hg5 : ∀ w', Byts w' (some ⟨b, off, none⟩) l → w'.cell? ⟨b, off + 5, none⟩ = some (.int .u8 (at_ l 5 1 : Int)) := fun w' hb' => (byts_get hb' 5 (by have := HYL.out; omega)).1
          have hg6 : ∀ w', Byts w' (some ⟨b, off, none⟩) l → w'.cell? ⟨b, off + 6, none⟩ = some (.int .u8 (at_ l 6 1 : Int)) := fun w' hb' => (byts_get hb' 6 (by have := HYL.out; omega)).1
          have hg7 : ∀ w', Byts w' (some ⟨b, off, none⟩) l → w'.cell? ⟨b, off + 7, none⟩ = some (.int .u8 (at_ l 7 1 : Int)) := fun w' hb' => (byts_get hb' 7 (by have := HYL.out; omega)).1
          have k4 : at_ l 4 1 < 256 := (byts_get HLP.out.y 4 (by have := HYL.out; omega)).2
          have k5 : at_ l 5 1 < 256 := (byts_get HLP.out.y 5 (by have := HYL.out; omega)).2
          have k6 : at_ l 6 1 < 256 := (byts_get HLP.out.y 6 (by have := HYL.out; omega)).2
          have k7 : at_ l 7 1 < 256 := (byts_get HLP.out.y 7 (by have := HYL.out; omega)).2
          have v4 := i64_small _ (show at_ l 4 1 < 4294967296 by omega); have v5 := i64_small _ (show at_ l 5 1 < 4294967296 by omega); have v6 := i64_small _ (show at_ l 6 1 < 4294967296 by omega); have v7 := i64_small _ (show at_ l 7 1 < 4294967296 by omega)
          have v8 := i64_small _ (at_lt HLP.out.y.lt 8 3 (by decide)); have v11 := i64_small _ (at_lt HLP.out.y.lt 11 4 (by decide))
          have x4 := i64w_small _ k4; have x5 := i64w_small _ k5; have x6 := i64w_small _ k6; have x7 := i64w_small _ k7
          have HA8 := hid ha8; have HA11 := hid ha11; have HG4 := hid hg4; have HG5 := hid hg5; have HG6 := hid hg6; have HG7 := hid hg7
          have HII := hid (show inl l = ⟨(at_ l 4 1 : Int), ⟨(at_ l 5 1 : Int), (at_ l 6 1 : Int), (at_ l 8 3 : Int)⟩, (at_ l 11 4 : Int), (at_ l 7 1 : Int)⟩ from rfl)
          have n4i : (4 : Int) < (N : Int) := by omega
          have n5i : (5 : Int) < (N : Int) := by omega
          have n6i : (6 : Int) < (N : Int) := by omega
          have n7i : (7 : Int) < (N : Int) := by omega
          have x8 : IntKind.i64.wrap (at_ l 8 3 : Int) = at_ l 8 3 := IntWalk.i64_in _ (by have := at_lt HLP.out.y.lt 8 3 (by decide); omega)
          have x11 : IntKind.i64.wrap (at_ l 11 4 : Int) = at_ l 11 4 := IntWalk.i64_in _ (by have := at_lt HLP.out.y.lt 11 4 (by decide); omega)
          have c11 : 11 ≤ cap := by omega
          have c15 : 15 ≤ cap := by omega
          have c8 : ¬ cap = 8 := by omega
          have c1 : ¬ cap = 11 := by omega
          have c11i : (11 : Int) ≤ (cap : Int) := by omega
          have c15i : (15 : Int) ≤ (cap : Int) := by omega
          have z8 : (0 : Int) ≤ 8 := by decide
          have z11 : (8 : Int) ≤ 11 := by decide
          clear ha8 ha11 hg4 hg5 hg6 hg7 k4 k5 k6 k7
          generalize at_ l 4 1 = m4 at *
          generalize at_ l 5 1 = m5 at *
          generalize at_ l 6 1 = m6 at *
          generalize at_ l 7 1 = m7 at *
          generalize at_ l 8 3 = m8 at *
          generalize at_ l 11 4 = m11 at *
          go_cut [6] (fun p wx => p = .pointer (some ⟨W.heap.size, 0, none⟩) ∧ Fx wx W.heap.size m5 m6 m8 ∧ Lp w (some ⟨b, off, none⟩) l wx)
          case first =>
            have hb1 : Byts W.drew (some ⟨b, off, none⟩) l := HLP.out.y.keep (drew1 _)
            have hb2 : Byts (W.alloc (.cells #[.int .i64 0, .int .i64 0, .int .i64 0] 23)).drew (some ⟨b, off, none⟩) l := HLP.out.y.keep (below_new _ _).drew
            have HSW := hid fun o => (show (W.alloc o).drew.cell? ⟨b, off + 5, none⟩ = some (.int .u8 (m5 : Int)) ∧ (W.alloc o).drew.cell? ⟨b, off + 6, none⟩ = some (.int .u8 (m6 : Int)) from ⟨HG5.out _ (HLP.out.y.keep (below_new _ _).drew), HG6.out _ (HLP.out.y.keep (below_new _ _).drew)⟩)
            have S1 := And.intro (HG5.out _ hb1) (HG6.out _ hb1)
            have S2 := And.intro (HG5.out _ hb2) (HG6.out _ hb2)
            go_region_held3 (fun w' => w'.cell? ⟨b, off + 5, none⟩ = some (.int .u8 (m5 : Int)) ∧ w'.cell? ⟨b, off + 6, none⟩ = some (.int .u8 (m6 : Int)))
              (first | with_reducible exact S1 | with_reducible exact S2 | with_reducible exact HSW.out _ | go_keep)
              ((first
                | (go_at_call 80; (with_reducible refine (HA8.out _ _ ‹Byts _ _ _›).mono ?_); rintro e w' ⟨rfl, rfl⟩)))
            all_goals
              clear hb1 hb2 S1 S2
              go_wp2_with fail
              go_meet
              exact ⟨rfl, ⟨heap_alloc_new _ _⟩, HLP.out.more (below_new _ _).drew⟩
          case rest =>
            obtain ⟨rfl, hfx, hlp⟩ := hcut
            have HFX := hid hfx
            have HLP := hid hlp
            clear hfx hlp HA8 HG5 HG6
            have HGF := hid (show W.heap.size < wc.heap.size from World.block_lt_of_cell? _ _ (row_cell HFX.out.row 0 rfl))
            generalize W.heap.size = gf at *
            have f0 := row_cell HFX.out.row 0 rfl; have f1 := row_cell HFX.out.row 1 rfl; have f2 := row_cell HFX.out.row 2 rfl
            go_wp2_with fail
            obtain ⟨gi, hgi⟩ : ∃ gi, gi = wc.heap.size := ⟨_, rfl⟩
            have HGQ := hid hgi
            clear hgi
            go_cut [7] (fun p wx => p = .pointer (some ⟨gi, 0, none⟩) ∧ Bx wx gi (inl l) ∧ Lp w (some ⟨b, off, none⟩) l wx)
            case first =>
              have hb1 : Byts wc.drew (some ⟨b, off, none⟩) l := HLP.out.y.keep (drew1 _)
              have hb2 : Byts (wc.alloc (.cells #[.int .i64 0, .int .i64 0, .int .i64 0, .int .i64 0, .int .i64 0, .int .i64 0] 25)).drew (some ⟨b, off, none⟩) l := HLP.out.y.keep (below_new _ _).drew
              have HSF := hid fun (w' : World) (hb : Below wc.heap.size wc w') => (show w'.cell? ⟨b, off + 4, none⟩ = some (.int .u8 (m4 : Int)) ∧ w'.cell? ⟨b, off + 7, none⟩ = some (.int .u8 (m7 : Int)) ∧ w'.cell? ⟨gf, 0, none⟩ = some (.int .i64 (m5 : Int)) ∧ w'.cell? ⟨gf, 1, none⟩ = some (.int .i64 (m6 : Int)) ∧ w'.cell? ⟨gf, 2, none⟩ = some (.int .i64 (m8 : Int)) from
                ⟨HG4.out _ (HLP.out.y.keep hb), HG7.out _ (HLP.out.y.keep hb), row_cell ((hb.block gf HGF.out).trans HFX.out.row) 0 rfl, row_cell ((hb.block gf HGF.out).trans HFX.out.row) 1 rfl, row_cell ((hb.block gf HGF.out).trans HFX.out.row) 2 rfl⟩)
              have HSW := hid fun o => HSF.out (wc.alloc o).drew (below_new _ _).drew
              have S1 := HSF.out wc.drew (drew1 _)
              have S2 := HSW.out (.cells #[.int .i64 0, .int .i64 0, .int .i64 0, .int .i64 0, .int .i64 0, .int .i64 0] 25)
              clear HSF f0 f1 f2
              go_region_held3 (fun w' => w'.cell? ⟨b, off + 4, none⟩ = some (.int .u8 (m4 : Int)) ∧ w'.cell? ⟨b, off + 7, none⟩ = some (.int .u8 (m7 : Int)) ∧ w'.cell? ⟨gf, 0, none⟩ = some (.int .i64 (m5 : Int)) ∧ w'.cell? ⟨gf, 1, none⟩ = some (.int .i64 (m6 : Int)) ∧ w'.cell? ⟨gf, 2, none⟩ = some (.int .i64 (m8 : Int)))
                (first | with_reducible exact S1 | with_reducible exact S2 | with_reducible exact HSW.out _ | go_keep)
                ((first
                  | (go_at_call 80; (with_reducible refine (HA11.out _ _ ‹Byts _ _ _›).mono ?_); rintro e w' ⟨rfl, rfl⟩)))
              all_goals
                clear hb1 hb2 S1 S2
                go_wp2_with fail
                go_meet
                refine ⟨by rw [HGQ.out], ⟨by rw [HII.out, HGQ.out]; exact heap_alloc_new _ _⟩, HLP.out.more (below_new _ _).drew⟩
            case rest =>
              obtain ⟨rfl, hbx, hlp⟩ := hcut
              have HBX := hid hbx
              have HLP := hid hlp
              clear hbx hlp HA11 HG4 HG7 f0 f1 f2 HFX HGF HII HGQ
              have HR := hid fun (w' : World) => (show Calls Tryz.prog 27 #[.agg (ivl (inl l))] w' _ from rright_any (inl l) w')
              by_cases h4 : Rt (inl l)
              · have HE := hid (show getE l = 0 from by rw [HGE.out, if_neg (fun h => h h4)])
                rw [decide_eq_true h4] at HR
                clear h4 HGE
                go_wp2_with (refine wpList_load_row rfl 25 _ rfl gi rfl 25 (ivl (inl l)) (0, 0) _ HBX.out.row Tryz.underlying25 rfl (ivl_size _) ?_)
                refine (HR.out _).mono ?_
                rintro e w5 ⟨rfl, hb5⟩
                have HLP := hid (HLP.out.more hb5)
                have HBX := hid (HBX.out.below hb5 HBX.out.lt)
                clear hb5
                go_wp2_with (first
                  | (refine wpList_load_row rfl 25 _ rfl gi rfl 25 (ivl (inl l)) (0, 0) _ HBX.out.row Tryz.underlying25 rfl (ivl_size _) ?_)
                  | (refine wpList_store_row rfl 25 _ _ rfl w.heap.size (ivl (inl l)) rfl rfl 25 (ivl iz) HLP.out.z.row (ivl_size _) rfl (ivl_one _) ?_))
                refine bodyPost_ret (res_ct (p := 2) (u := 3) (ty := 25) (by kernel_rfl) _ _ w.heap.size 25 (ivl (inl l)) (0, 0) _ rfl (setRow_heap _ _ _ _ _ _ HLP.out.z.row) Tryz.underlying25 rfl (ivl_size _) rfl) rfl ?_
                unfold Rin InfP getI
                rw [HE.out, if_pos rfl]
                exact ⟨rfl, fr_rowBelow HLP.out.b (Nat.le_refl _)⟩
              · have HE := hid (show getE l = 32 from by rw [HGE.out, if_pos h4])
                rw [decide_eq_false h4] at HR
                clear h4 HGE
                go_wp2_with (refine wpList_load_row rfl 25 _ rfl gi rfl 25 (ivl (inl l)) (0, 0) _ HBX.out.row Tryz.underlying25 rfl (ivl_size _) ?_)
                refine (HR.out _).mono ?_
                rintro e w5 ⟨rfl, hb5⟩
                have HLP := hid (HLP.out.more hb5)
                clear hb5
                go_wp2_with (refine wpList_store_row rfl 25 _ _ rfl w.heap.size (ivl iz) rfl rfl 25 (ivl iz) HLP.out.z.row (ivl_size _) rfl (ivl_one _) ?_)
                refine bodyPost_ret (res_ct (p := 2) (u := 3) (ty := 25) (by kernel_rfl) _ _ w.heap.size 25 (ivl iz) (0, 0) _ rfl (setRow_heap _ _ _ _ _ _ HLP.out.z.row) Tryz.underlying25 rfl (ivl_size _) rfl) rfl ?_
                exact rin_bad 32 HE.out (by decide) (fr_rowBelow HLP.out.b (Nat.le_refl _))
        · rw [decide_eq_false h3] at hsm
          simp only [Bool.not_false] at hsm
          have HE := hid (show getE l = 33 from by rw [HGE2.out, if_pos h3])
          clear h3 HGE2
          generalize lev ((l.drop 15).take 4) = n4 at *
          generalize cs (l.take 15) = sv at *
          go_wp2_with fail
          go_quiet (first | (go_at_call 45; exact Calls.quiet_of_same ((HCS.out _ _).mono fun _ _ ⟨a, b⟩ => ⟨a, b.symm⟩)) | (go_at_call 80; exact Calls.quiet_of_same ((HV.out _ _).mono fun _ _ ⟨a, b⟩ => ⟨a, b.symm⟩)))
          have HLP := hid (HLP.out.more (drew_below _ nq))
          clear HCS HV
          go_wp2_with (refine wpList_store_row rfl 25 _ _ rfl w.heap.size (ivl iz) rfl rfl 25 (ivl iz) HLP.out.z.row (ivl_size _) rfl (ivl_one _) ?_)
          refine bodyPost_ret (res_ct (p := 2) (u := 3) (ty := 25) (by kernel_rfl) _ _ w.heap.size 25 (ivl iz) (0, 0) _ rfl (setRow_heap _ _ _ _ _ _ HLP.out.z.row) Tryz.underlying25 rfl (ivl_size _) rfl) rfl ?_
          exact rin_bad 33 HE.out (by decide) (fr_rowBelow HLP.out.b (Nat.le_refl _))
end Go.Proofs.YthjjonbkfkpkmaaGreatDoor.Inf
