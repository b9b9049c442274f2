/- Get of the document, of bytes with the right sum. Conditions: bytes in memory. -/
import Derived.Test.YtgcnbeigchppfaaIu
import Derived.Deep.RegionHeld3
import Derived.Deep.DeepCutAuto
namespace Go.Proofs.Ytgcnbeigchppfaa.Head
open Go.RowKit Gen Fld
open Crc hiding hid

set_option maxRecDepth 100000 in
theorem fv_at (l : List Nat) (i : Nat) (hi : i ≤ 6) : fv ((l.take 32).drop 4) i = lev ((l.drop (4 + 4 * i)).take 4) := by
  unfold fv
  rw [List.drop_drop, List.drop_take, List.take_take, Nat.min_eq_left (by omega)]
set_option maxRecDepth 100000 in
theorem kb_at (l : List Nat) : kb (l.take 32) = lev ((l.drop 2).take 1) := by
  unfold kb
  rw [List.drop_take, List.take_take]
  rfl
set_option maxRecDepth 100000 in
theorem lbb_at (l : List Nat) : lbb (l.take 32) = lev ((l.drop 3).take 1) := by
  unfold lbb
  rw [List.drop_take, List.take_take]
  rfl
set_option maxRecDepth 100000 in
theorem i64w_small (n : Nat) (h : n < 256) : IntKind.i64.wrap (n : Int) = n := IntWalk.i64_in _ (by omega)
set_option maxRecDepth 100000 in
set_option maxHeartbeats 4000000 in
theorem rget_full {w : World} {b off cap N : Nat} {l : List Nat} (hb : Byts w (some ⟨b, off, none⟩) l) (hN : l.length = N) (hN3 : 32 ≤ N) (hcap : N ≤ cap) (h0 : lev ((l.drop 0).take 1) = 222) (h1 : lev ((l.drop 1).take 1) = 92) (hs : Sm l) : Calls Try.prog 37 #[.slice (some ⟨b, off, none⟩) N cap] w (HeadP w (rdH (l.take 32)) (rdE (l.take 32))) := by
  have hz0 : (w.alloc (.cells (hvl hz) 38)).heap[w.heap.size]? = some (.cells (hvl hz) 38 (0, 0)) := heap_alloc_new _ _
  have HZ := hid hz0
  have HB0 := hid (below_new w (.cells (hvl hz) 38))
  have hb' := hb.keep HB0.out
  have hc' : (w.alloc (.cells #[.int .i64 0, .int .i64 0, .int .i64 0, .int .i64 0, .int .i64 0, .bool false, .int .u32 0, .int .i64 0] 38)).cell? ⟨b, off, none⟩ = some (.int .u8 222) := by
    have := (byts_get hb' 0 (by omega)).1
    rw [h0] at this
    exact this
  have hd' : (w.alloc (.cells #[.int .i64 0, .int .i64 0, .int .i64 0, .int .i64 0, .int .i64 0, .bool false, .int .u32 0, .int .i64 0] 38)).cell? ⟨b, off + 1, none⟩ = some (.int .u8 92) := by
    have := (byts_get hb' 1 (by omega)).1
    rw [h1] at this
    exact this
  have hl28 : (l.take 28).length = 28 := by rw [List.length_take]; omega
  have HCS := hid fun c => rcsum_any (cap := c) (hb'.take 28) (by omega)
  rw [hl28] at HCS
  have HAT := hid (rat_any (cap := cap) (N := N) (at_ := 28) hb' (by omega) (by omega) (by decide))
  rw [sm_iff] at hs
  have hcl := cs_lt (l := l.take 28) (fun x hx => hb.lt x (List.mem_of_mem_take hx))
  have hwr := i64_small _ hcl
  rw [hs] at HAT
  have ha4 : ∀ w', Byts w' (some ⟨b, off, none⟩) l → Calls Try.prog 39 #[.slice (some ⟨b, off, none⟩) N cap, .int .i64 4] w' fun e w'' => e = .returned (.int .i64 (fv ((l.take 32).drop 4) 0 : Int)) ∧ w' = w'' := fun w' hb' => by
    rw [fv_at l 0 (by decide)]
    exact rat_any (cap := cap) (N := N) (at_ := 4) hb' (by omega) (by omega) (by decide)
  have HA4 := hid ha4
  have ha8 : ∀ w', Byts w' (some ⟨b, off, none⟩) l → Calls Try.prog 39 #[.slice (some ⟨b, off, none⟩) N cap, .int .i64 8] w' fun e w'' => e = .returned (.int .i64 (fv ((l.take 32).drop 4) 1 : Int)) ∧ w' = w'' := fun w' hb' => by
    rw [fv_at l 1 (by decide)]
    exact rat_any (cap := cap) (N := N) (at_ := 8) hb' (by omega) (by omega) (by decide)
  have HA8 := hid ha8
  have ha12 : ∀ w', Byts w' (some ⟨b, off, none⟩) l → Calls Try.prog 39 #[.slice (some ⟨b, off, none⟩) N cap, .int .i64 12] w' fun e w'' => e = .returned (.int .i64 (fv ((l.take 32).drop 4) 2 : Int)) ∧ w' = w'' := fun w' hb' => by
    rw [fv_at l 2 (by decide)]
    exact rat_any (cap := cap) (N := N) (at_ := 12) hb' (by omega) (by omega) (by decide)
  have HA12 := hid ha12
  have ha16 : ∀ w', Byts w' (some ⟨b, off, none⟩) l → Calls Try.prog 39 #[.slice (some ⟨b, off, none⟩) N cap, .int .i64 16] w' fun e w'' => e = .returned (.int .i64 (fv ((l.take 32).drop 4) 3 : Int)) ∧ w' = w'' := fun w' hb' => by
    rw [fv_at l 3 (by decide)]
    exact rat_any (cap := cap) (N := N) (at_ := 16) hb' (by omega) (by omega) (by decide)
  have HA16 := hid ha16
  have ha20 : ∀ w', Byts w' (some ⟨b, off, none⟩) l → Calls Try.prog 39 #[.slice (some ⟨b, off, none⟩) N cap, .int .i64 20] w' fun e w'' => e = .returned (.int .i64 (fv ((l.take 32).drop 4) 4 : Int)) ∧ w' = w'' := fun w' hb' => by
    rw [fv_at l 4 (by decide)]
    exact rat_any (cap := cap) (N := N) (at_ := 20) hb' (by omega) (by omega) (by decide)
  have HA20 := hid ha20
  have ha24 : ∀ w', Byts w' (some ⟨b, off, none⟩) l → Calls Try.prog 39 #[.slice (some ⟨b, off, none⟩) N cap, .int .i64 24] w' fun e w'' => e = .returned (.int .i64 (fv ((l.take 32).drop 4) 5 : Int)) ∧ w' = w'' := fun w' hb' => by
    rw [fv_at l 5 (by decide)]
    exact rat_any (cap := cap) (N := N) (at_ := 24) hb' (by omega) (by omega) (by decide)
  have HA24 := hid ha24
  have hg2 : ∀ w', Byts w' (some ⟨b, off, none⟩) l → w'.cell? ⟨b, off + 2, none⟩ = some (.int .u8 (kb (l.take 32) : Int)) := fun w' hb' => by rw [kb_at]; exact (byts_get hb' 2 (by omega)).1
  have hg3 : ∀ w', Byts w' (some ⟨b, off, none⟩) l → w'.cell? ⟨b, off + 3, none⟩ = some (.int .u8 (lbb (l.take 32) : Int)) := fun w' hb' => by rw [lbb_at]; exact (byts_get hb' 3 (by omega)).1
  have HG2 := hid hg2
  have HG3 := hid hg3
  have hk2 : kb (l.take 32) < 256 := by rw [kb_at]; exact (byts_get hb 2 (by omega)).2
  have hfl := fun i => fv_lt (l := (l.take 32).drop 4) (fun x hx => hb.lt x (List.mem_of_mem_take (List.mem_of_mem_drop hx))) i
  have HFL := hid hfl
  have hwk := i64_small (kb (l.take 32)) (by omega)
  have hwk2 : IntKind.i64.wrap (kb (l.take 32) : Int) = kb (l.take 32) := i64w_small _ hk2
  have hN' : (0 : Int) < (N : Int) := by omega
  have hN1 : (1 : Int) < (N : Int) := by omega
  have hN2 : ¬ (N : Int) < 32 := by omega
  have hc28 : 28 ≤ cap := by omega
  have hn2 : (2 : Int) < (N : Int) := by omega
  have hn3 : (3 : Int) < (N : Int) := by omega
  have hR := fun w => rright_any (hdl (l.take 32)) w
  have hhd : hdl (l.take 32) = ⟨kb (l.take 32), fv ((l.take 32).drop 4) 0, fv ((l.take 32).drop 4) 1, fv ((l.take 32).drop 4) 2, fv ((l.take 32).drop 4) 3, decide (lbb (l.take 32) = 1), fv ((l.take 32).drop 4) 4, fv ((l.take 32).drop 4) 5⟩ := rfl
  rw [hhd] at hR
  have HR := hid hR
  have HHD := hid hhd
  have hle : rdE (l.take 32) = if Bad (l.take 32) then 32 else 0 := rfl
  have hlh : rdH (l.take 32) = if Bad (l.take 32) then hz else hdl (l.take 32) := rfl
  have hbad : Bad (l.take 32) ↔ (1 < lbb (l.take 32) ∨ ¬ Rt (hdl (l.take 32))) := Iff.rfl
  have HBAD := hid hbad
  have HLE := hid hle
  have HLH := hid hlh
  have hpo : ∀ e w', HeadP w (rdH (l.take 32)) (rdE (l.take 32)) e w' = (e = .returned (.tuple #[hv (rdH (l.take 32)), .int .i64 (rdE (l.take 32))]) ∧ Below w.heap.size w w') := fun _ _ => rfl
  have HPO := hid hpo
  have HBY := hid hb'
  have hxe : (((lbb (l.take 32) : Nat) : Int) == 1) = decide (lbb (l.take 32) = 1) := by rw [Bool.eq_iff_iff]; simp; omega
  have u4 : IntKind.u32.wrap (fv ((l.take 32).drop 4) 4 : Int) = fv ((l.take 32).drop 4) 4 := by have := hfl 4; rw [wrap_u32n]; omega
  clear hz0 h0 h1 hs hl28 hb hb' hk2 hfl hR hhd hle hlh hbad hpo hg2 hg3 ha4 ha8 ha12 ha16 ha20 ha24
  generalize decide (lbb (l.take 32) = 1) = bx at *
  generalize rdE (l.take 32) = ee at *
  generalize rdH (l.take 32) = hh at *
  generalize kb (l.take 32) = k at *
  generalize lbb (l.take 32) = x at *
  generalize hdl (l.take 32) = hd at *
  generalize fv ((l.take 32).drop 4) = f at *
  generalize cs (l.take 28) = s at *
  go_enter Try.func37, Try.ntmps37
  go_wp2_with fail
  refine (HCS.out _).mono ?_
  rintro e w' ⟨rfl, rfl⟩
  go_wp2_with fail
  refine HAT.out.mono ?_
  rintro e w' ⟨rfl, rfl⟩
  go_wp2_with fail
  clear hc' hd' HCS HAT
  generalize w.alloc (.cells (hvl hz) 38) = W0 at *
  have hzl := World.block_lt_of_cell? _ _ (row_cell HZ.out 0 rfl)
  have HZL := hid hzl
  clear hzl
  go_cut [4] (fun p wx => p = .pointer (some ⟨W0.heap.size, 0, none⟩) ∧ Bx wx W0.heap.size hd ∧ wx.heap[w.heap.size]? = some (.cells (hvl hz) 38 (0, 0)) ∧ Below w.heap.size w wx ∧ Byts wx (some ⟨b, off, none⟩) l)
  case first =>
    have hb1 : Byts W0.drew (some ⟨b, off, none⟩) l := HBY.out.keep ⟨rfl, rfl, rfl, Nat.le_refl _, fun _ _ => rfl⟩
    have hb2 : Byts (W0.alloc (.cells #[.int .i64 0, .int .i64 0, .int .i64 0, .int .i64 0, .int .i64 0, .bool false, .int .u32 0, .int .i64 0] 38)).drew (some ⟨b, off, none⟩) l := HBY.out.keep (below_new _ _).drew
    have HSW := hid fun o => (show (W0.alloc o).drew.cell? ⟨b, off + 2, none⟩ = some (.int .u8 (k : Int)) ∧ (W0.alloc o).drew.cell? ⟨b, off + 3, none⟩ = some (.int .u8 (x : Int)) from ⟨HG2.out _ (HBY.out.keep (below_new _ _).drew), HG3.out _ (HBY.out.keep (below_new _ _).drew)⟩)
    have S1 := And.intro (HG2.out _ hb1) (HG3.out _ hb1)
    have S2 := And.intro (HG2.out _ hb2) (HG3.out _ hb2)
    go_region_held3 (fun w' => w'.cell? ⟨b, off + 2, none⟩ = some (.int .u8 (k : Int)) ∧ w'.cell? ⟨b, off + 3, none⟩ = some (.int .u8 (x : Int)))
      (first | with_reducible exact S1 | with_reducible exact S2 | with_reducible exact HSW.out _ | go_keep)
      ((first
        | (go_at_call 39; (with_reducible refine (HA4.out _ ‹Byts _ _ _›).mono ?_); rintro e w' ⟨rfl, rfl⟩)
        | (go_at_call 39; (with_reducible refine (HA8.out _ ‹Byts _ _ _›).mono ?_); rintro e w' ⟨rfl, rfl⟩)
        | (go_at_call 39; (with_reducible refine (HA12.out _ ‹Byts _ _ _›).mono ?_); rintro e w' ⟨rfl, rfl⟩)
        | (go_at_call 39; (with_reducible refine (HA16.out _ ‹Byts _ _ _›).mono ?_); rintro e w' ⟨rfl, rfl⟩)
        | (go_at_call 39; (with_reducible refine (HA20.out _ ‹Byts _ _ _›).mono ?_); rintro e w' ⟨rfl, rfl⟩)
        | (go_at_call 39; (with_reducible refine (HA24.out _ ‹Byts _ _ _›).mono ?_); rintro e w' ⟨rfl, rfl⟩)))
    all_goals
      clear hb1 hb2 S1 S2
      go_wp2_with fail
      go_meet
      refine ⟨rfl, ⟨?_⟩, ?_, HB0.out.trans ((below_new _ _).drew.mono HB0.out.size), HBY.out.keep (below_new _ _).drew⟩
      · rw [HHD.out]; exact heap_alloc_new _ _
      · exact (Deep.blk_alloc_lt W0 _ _ HZL.out).trans HZ.out
  case rest =>
    obtain ⟨rfl, hbx, hz7, hb7, hby7⟩ := hcut
    have g3 := HG3.out _ hby7
    have c0 := hbx.c0; have c1 := hbx.c1; have c2 := hbx.c2; have c3 := hbx.c3; have c4 := hbx.c4; have c5 := hbx.c5; have c6 := hbx.c6; have c7 := hbx.c7
    have HZ7 := hid hz7
    have HB7 := hid hb7
    have HBX := hid hbx
    clear hbx hz7 hb7 hby7 HA4 HA8 HA12 HA16 HA20 HA24 HZ HB0 HBY
    rw [← HHD.out] at HR
    by_cases hx1 : 1 < x
    · have hb1 := HBAD.out.2 (.inl hx1)
      have HE := hid (HLE.out.trans (if_pos hb1))
      have HH := hid (HLH.out.trans (if_pos hb1))
      have hx2 : (1 : Int) < (x : Int) := by omega
      clear hb1 hx1
      go_wp2_with (refine wpList_store_row rfl 38 _ _ rfl w.heap.size (hvl hz) rfl rfl 38 (hvl hz) HZ7.out (hvl_size hz) rfl (hvl_one hz) ?_)
      refine bodyPost_ret (res_ct (p := 2) (u := 3) (ty := 38) (by kernel_rfl) _ _ w.heap.size 38 (hvl hz) (0, 0) _ rfl (setRow_heap _ _ _ _ _ _ HZ7.out) Try.underlying38 rfl (hvl_size hz) rfl) rfl ?_
      rw [HPO.out, HE.out, HH.out]
      exact ⟨rfl, fr_rowBelow HB7.out (Nat.le_refl _)⟩
    · have hx2 : ¬ (1 : Int) < (x : Int) := by omega
      go_wp2_with fail
      refine (HR.out _).mono ?_
      rintro e w8 ⟨rfl, hb8⟩
      have HZ8 := hid ((hb8.block _ (World.block_lt_of_cell? _ _ (row_cell HZ7.out 0 rfl))).trans HZ7.out)
      have HB8 := hid (HB7.out.trans (hb8.mono HB7.out.size))
      have HBX8 := hid (HBX.out.below hb8 HBX.out.lt)
      clear hb8 c0 c1 c2 c3 c4 c5 c6 c7
      by_cases hr : Rt hd
      · have hb1 : ¬ Bad (l.take 32) := fun h => (HBAD.out.1 h).elim hx1 (fun h => h hr)
        have HE := hid (HLE.out.trans (if_neg hb1))
        have HH := hid (HLH.out.trans (if_neg hb1))
        rw [decide_eq_true hr]
        clear hb1 hx1 hr
        go_wp2_with (first
          | (refine wpList_load_row rfl 38 _ rfl W0.heap.size rfl 38 (hvl hd) (0, 0) _ HBX8.out.row Try.underlying38 rfl (hvl_size hd) ?_)
          | (refine wpList_store_row rfl 38 _ _ rfl w.heap.size (hvl hd) rfl rfl 38 (hvl hz) HZ8.out (hvl_size hd) rfl (hvl_one hd) ?_))
        refine bodyPost_ret (res_ct (p := 2) (u := 3) (ty := 38) (by kernel_rfl) _ _ w.heap.size 38 (hvl hd) (0, 0) _ rfl (setRow_heap _ _ _ _ _ _ HZ8.out) Try.underlying38 rfl (hvl_size hd) rfl) rfl ?_
        rw [HPO.out, HE.out, HH.out]
        exact ⟨rfl, fr_rowBelow HB8.out (Nat.le_refl _)⟩
      · have hb1 := HBAD.out.2 (.inr hr)
        have HE := hid (HLE.out.trans (if_pos hb1))
        have HH := hid (HLH.out.trans (if_pos hb1))
        rw [decide_eq_false hr]
        clear hb1 hx1 hr
        go_wp2_with (refine wpList_store_row rfl 38 _ _ rfl w.heap.size (hvl hz) rfl rfl 38 (hvl hz) HZ8.out (hvl_size hz) rfl (hvl_one hz) ?_)
        refine bodyPost_ret (res_ct (p := 2) (u := 3) (ty := 38) (by kernel_rfl) _ _ w.heap.size 38 (hvl hz) (0, 0) _ rfl (setRow_heap _ _ _ _ _ _ HZ8.out) Try.underlying38 rfl (hvl_size hz) rfl) rfl ?_
        rw [HPO.out, HE.out, HH.out]
        exact ⟨rfl, fr_rowBelow HB8.out (Nat.le_refl _)⟩
end Go.Proofs.Ytgcnbeigchppfaa.Head
