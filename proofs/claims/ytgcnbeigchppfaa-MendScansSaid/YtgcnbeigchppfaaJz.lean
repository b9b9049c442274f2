/- Open of the document, of a block. Conditions: bytes in memory. -/
import Derived.Test.YtgcnbeigchppfaaJy
namespace Go.Proofs.Ytgcnbeigchppfaa.Head
open Go.RowKit Gen Fld
open Crc hiding hid

set_option maxRecDepth 100000 in
set_option maxHeartbeats 16000000 in
theorem ropenq_ok {w : World} {b off : Nat} {l : List Nat} {cap N : Nat} (hb : Byts w (some ⟨b, off, none⟩) l) (hN : l.length = N) (hc : N ≤ cap) (hg : getE l = 0) (hl : szn l + 32 + 4 ≤ N) (hs : Sb l (szn l)) :
    Calls Try.prog 23 #[.slice (some ⟨b, off, none⟩) N cap] w (ROpenQ w (some ⟨b, off, none⟩) (getH l) ((l.drop 32).take (szn l)) (cs ((l.take (szn l + 32 + 4)).take (szn l + 32))) 0) := by
  obtain ⟨hrt, h32, hgh, _, _, _⟩ := get_ok hg
  have hszn : szn l ≤ 16777216 := by unfold szn; have := hrt.1.2.2.2.2.2.2.2.2; omega
  have hsz : (getH l).sz = (szn l : Int) := by unfold szn; have := hrt.1.2.2.2.2.2.2.2.2.1; omega
  have hz0 : (w.alloc (.cells (hvl hz) 38)).heap[w.heap.size]? = some (.cells (hvl hz) 38 (0, 0)) := heap_alloc_new _ _
  have HB0 := hid (below_new w (.cells (hvl hz) 38))
  have HZ := hid hz0
  have HG := hid (rget_any (cap := cap) (hb.keep HB0.out) (by omega))
  rw [hN, hg] at HG
  have HBY := hid hb
  have hcc : cs ((l.take (szn l + 32 + 4)).take (szn l + 32)) = cs (l.take (szn l + 32)) := by rw [List.take_take, Nat.min_eq_left (by omega)]
  rw [hcc]
  have hpl : ((l.drop 32).take (szn l)).length = szn l := by rw [List.length_take, List.length_drop]; omega
  have HPL := hid hpl
  have HBP := hid fun (w' : World) (hb' : Byts w' (some ⟨b, off, none⟩) l) => (hb'.drop 32).take (szn l)
  have hpo : ∀ e w', ROpenQ w (some ⟨b, off, none⟩) (getH l) ((l.drop 32).take (szn l)) (cs (l.take (szn l + 32))) 0 e w' = ∃ ao cap, e = .returned (.tuple #[hv (getH l), .slice ao ((l.drop 32).take (szn l)).length cap, .int .u32 (cs (l.take (szn l + 32)) : Int), .int .i64 0]) ∧ Byts w' ao ((l.drop 32).take (szn l)) ∧ Below w.heap.size w w' ∧ ∀ q, blk ao = some q → blk (some ⟨b, off, none⟩) = some q := fun _ _ => rfl
  have HPO := hid hpo
  clear hpo hpl hcc
  generalize (l.drop 32).take (szn l) = pl at *
  rw [sb_iff] at hs
  generalize szn l = n at *
  have hlt : (l.take (n + 32)).length = n + 32 := by rw [List.length_take]; omega
  have HCS := hid fun (w' : World) (hb' : Byts w' (some ⟨b, off, none⟩) l) (c : Nat) => rcsum_any (cap := c) (hb'.take (n + 32)) (by omega)
  rw [hlt] at HCS
  have HAT := hid fun (w' : World) (hb' : Byts w' (some ⟨b, off, none⟩) l) => rat_any (cap := cap) (N := N) (at_ := n + 32) hb' (by omega) (by omega) (by omega)
  have hcl := cs_lt (l := l.take (n + 32)) (fun x hx => hb.lt x (List.mem_of_mem_take hx))
  have hws := i64_small _ hcl
  have HEQ := hid hs
  clear hrt h32 hgh hz0 hb hg hs hlt
  generalize getH l = h at *
  rw [HEQ.out] at HAT
  clear HEQ
  generalize cs (l.take (n + 32)) = s at *
  obtain ⟨M, hM⟩ : ∃ M, M = n + 32 := ⟨_, rfl⟩
  rw [← hM] at HCS HAT
  have hL : ¬ (N : Int) < 36 + (n : Int) := by omega
  have hMi : 32 + (n : Int) = (M : Int) := by omega
  have hMc : M ≤ cap := by omega
  have hMn : M - 32 = n := by omega
  have h32M : 32 ≤ M := by omega
  have h32i : ¬ (M : Int) < 32 := by omega
  have hc32 : ¬ cap = 32 := by omega
  clear hM
  go_enter Try.func23, Try.ntmps23
  go_wp2_with fail
  refine HG.out.mono ?_
  rintro e w1 ⟨rfl, hb1⟩
  have HZ1 := hid ((hb1.block w.heap.size (World.block_lt_of_cell? _ _ (row_cell HZ.out 0 rfl))).trans HZ.out)
  have HB1 := hid (HB0.out.trans (hb1.mono HB0.out.size))
  have hz1 : w.heap.size < w1.heap.size := World.block_lt_of_cell? _ _ (row_cell HZ1.out 0 rfl)
  have HA1 := hid (heap_alloc_new w1 (.cells (hvl hz) 38))
  clear hb1 HZ
  rw [show hv h = .agg (hvl h) from rfl]
  have hb2 : Below w1.heap.size w1 ((w1.alloc (.cells (hvl hz) 38)).setRow w1.heap.size (hvl h)) := fr_rowBelow (below_new w1 _) (Nat.le_refl _)
  have hbx2 : Bx ((w1.alloc (.cells (hvl hz) 38)).setRow w1.heap.size (hvl h)) w1.heap.size h := ⟨setRow_heap _ _ _ _ _ _ HA1.out⟩
  have hz2 := (hb2.block w.heap.size hz1).trans HZ1.out
  have HB2 := hid (HB1.out.trans (hb2.mono HB1.out.size))
  have HX2 := hid hbx2
  have HZ2 := hid hz2
  have HY2 := hid (HBY.out.keep HB2.out)
  have c7 : ((w1.alloc (.cells #[.int .i64 0, .int .i64 0, .int .i64 0, .int .i64 0, .int .i64 0, .bool false, .int .u32 0, .int .i64 0] 38)).setRow w1.heap.size (hvl h)).cell? ⟨w1.heap.size, 7, none⟩ = some (.int .i64 (n : Int)) := by
    have := hbx2.c7
    rw [hsz] at this
    exact this
  have c7' : ((w1.alloc (.cells (hvl hz) 38)).setRow w1.heap.size (hvl h)).cell? ⟨w1.heap.size, 7, none⟩ = some (.int .i64 (n : Int)) := by
    have := hbx2.c7
    rw [hsz] at this
    exact this
  clear hb2 hbx2 hz2 HB1 HZ1
  go_wp2_with (refine wpList_store_row rfl 38 _ _ rfl w1.heap.size (hvl h) rfl rfl 38 (hvl hz) HA1.out (hvl_size h) rfl (hvl_one h) ?_)
  refine (HCS.out _ HY2.out _).mono ?_
  rintro e w' ⟨rfl, rfl⟩
  go_wp2_with fail
  refine (HAT.out _ HY2.out).mono ?_
  rintro e w' ⟨rfl, rfl⟩
  go_wp2_with fail
  generalize (w1.alloc (.cells (hvl hz) 38)).setRow w1.heap.size (hvl h) = w2 at *
  have hxd : w2.drew.heap[w1.heap.size]? = some (.cells (hvl h) 38 (0, 0)) := HX2.out.row
  have hzd : w2.drew.heap[w.heap.size]? = some (.cells (hvl hz) 38 (0, 0)) := HZ2.out
  have HXD := hid hxd
  have HZD := hid hzd
  have HBD := hid (HB2.out.drew)

  have HLB := hid (show b < w.heap.size from World.block_lt_of_cell? _ _ (byts_get HBY.out 0 (by omega)).1)
  have HYD := hid (HBP.out _ ((HY2.out.keep ⟨rfl, rfl, rfl, Nat.le_refl _, fun _ _ => rfl⟩ : Byts w2.drew (some ⟨b, off, none⟩) l)))
  have HC7 := hid (show (w2.drew.setRow w.heap.size (hvl h)).cell? ⟨w1.heap.size, 7, none⟩ = some (.int .i64 (n : Int)) from (World.cell?_of_block (setRow_other _ _ _ _ (Nat.ne_of_gt hz1))).trans c7')
  clear hxd hzd hz1 HX2 HZ2 HB2 HY2 c7
  refine wp_region_any (by kernel_rfl) ?_
  change wpAny _ _ _ _ _ _ _ (World.drew _)
  refine wpAny_take (i := 1) (v := .slice (some ⟨b, off, none⟩) N cap) rfl (by kernel_rfl) (by kernel_rfl) (by kernel_rfl) (fun _ _ _ h => h) (Or.inl ⟨by rfl, ?_⟩) ?_
  · intro w; go_simp
  refine wpAny_take (i := 2) (v := .pointer (some ⟨w1.heap.size, 7, none⟩)) rfl (by kernel_rfl) (by kernel_rfl) (by kernel_rfl) (fun _ _ _ h => h) (Or.inl ⟨by rfl, ?_⟩) ?_
  · intro w; go_simp
  refine wpAny_take (i := 6) (v := .int .u32 (s : Int)) rfl (by kernel_rfl) (by kernel_rfl) (by kernel_rfl) (fun _ _ _ h => h) (Or.inl ⟨by rfl, ?_⟩) ?_
  · intro w; go_simp
  refine wpAny_ready (rs := [0, 3]) (by kernel_rfl) (by simp) ?_
  refine AllReady.cons rfl (fun K hK => ?_) (AllReady.cons rfl (fun K hK => ?_) AllReady.nil)
  · skip
    refine step_load_row rfl 38 _ rfl w1.heap.size rfl 38 (hvl h) (0, 0) _ HXD.out Try.underlying38 rfl (hvl_size h) ?_
    refine hK _ _ ?_
    clear hK K
    refine wpAny_ready (rs := [3, 7]) (by kernel_rfl) (by simp) ?_
    refine AllReady.cons rfl (fun K hK => ?_) (AllReady.cons rfl (fun K hK => ?_) AllReady.nil)
    · skip
      go_simp
      refine hK _ _ ?_
      clear hK K
      refine wpAny_take (i := 4) (v := .int .i64 (M : Int)) rfl (by kernel_rfl) (by kernel_rfl) (by kernel_rfl) (fun _ _ _ h => h) (Or.inl ⟨by rfl, ?_⟩) ?_
      · intro w; go_simp; exact IntWalk.i64_in _ (by omega)
      refine wpAny_take (i := 5) (v := .slice (some ⟨b, off + 32, none⟩) n (cap - 32)) rfl (by kernel_rfl) (by kernel_rfl) (by kernel_rfl) (fun _ _ _ h => h) (Or.inl ⟨by rfl, ?_⟩) ?_
      · intro w; go_simp
      refine wpAny_ready (rs := [7]) (by kernel_rfl) (by simp) ?_
      refine AllReady.cons rfl (fun K hK => ?_) AllReady.nil
      refine step_store_row rfl 38 _ _ rfl w.heap.size (hvl h) rfl rfl 38 (hvl hz) HZD.out (hvl_size h) rfl (hvl_one h) ?_
      refine hK _ _ ?_
      clear hK K
      refine wpAny_take (i := 8) (v := .slice (some ⟨b, off + 32, none⟩) n (cap - 32)) rfl (by kernel_rfl) (by kernel_rfl) (by kernel_rfl) (fun _ _ _ h => h) (Or.inl ⟨by rfl, ?_⟩) ?_
      · intro w; go_simp
      refine wpAny_take (i := 9) (v := .int .u32 (s : Int)) rfl (by kernel_rfl) (by kernel_rfl) (by kernel_rfl) (fun _ _ _ h => h) (Or.inl ⟨by rfl, ?_⟩) ?_
      · intro w; go_simp
      refine wpAny_take (i := 10) (v := .int .i64 0) rfl (by kernel_rfl) (by kernel_rfl) (by kernel_rfl) (fun _ _ _ h => h) (Or.inl ⟨by rfl, ?_⟩) ?_
      · intro w; go_simp
      refine wpAny_done (by kernel_rfl) ?_ _
      go_wp2_with fail
      refine bodyPost_ret (res_ct4 (p := 2) (u1 := 3) (u2 := 4) (u3 := 5) (ty := 38) (by kernel_rfl) _ _ w.heap.size 38 (hvl h) (0, 0) _ rfl (setRow_heap _ _ _ _ _ _ HZD.out) Try.underlying38 rfl (hvl_size h) rfl rfl rfl) rfl ?_
      rw [HPO.out]
      refine ⟨some ⟨b, off + 32, none⟩, cap - 32, by rw [HPL.out]; rfl, HYD.out.stay (fr_setRow _ _ _) (fun b' off' e => ?_), fr_rowBelow HBD.out (Nat.le_refl _), fun q hq => hq⟩
      cases e
      exact Nat.ne_of_lt HLB.out
    · skip
      have c7s := HC7.out
      refine step_store_row rfl 38 _ _ rfl w.heap.size (hvl h) rfl rfl 38 (hvl hz) HZD.out (hvl_size h) rfl (hvl_one h) ?_
      refine hK _ _ ?_
      clear hK K
      refine wpAny_ready (rs := [3]) (by kernel_rfl) (by simp) ?_
      refine AllReady.cons rfl (fun K hK => ?_) AllReady.nil
      go_simp
      refine hK _ _ ?_
      clear hK K
      refine wpAny_take (i := 4) (v := .int .i64 (M : Int)) rfl (by kernel_rfl) (by kernel_rfl) (by kernel_rfl) (fun _ _ _ h => h) (Or.inl ⟨by rfl, ?_⟩) ?_
      · intro w; go_simp; exact IntWalk.i64_in _ (by omega)
      refine wpAny_take (i := 5) (v := .slice (some ⟨b, off + 32, none⟩) n (cap - 32)) rfl (by kernel_rfl) (by kernel_rfl) (by kernel_rfl) (fun _ _ _ h => h) (Or.inl ⟨by rfl, ?_⟩) ?_
      · intro w; go_simp
      refine wpAny_take (i := 8) (v := .slice (some ⟨b, off + 32, none⟩) n (cap - 32)) rfl (by kernel_rfl) (by kernel_rfl) (by kernel_rfl) (fun _ _ _ h => h) (Or.inl ⟨by rfl, ?_⟩) ?_
      · intro w; go_simp
      refine wpAny_take (i := 9) (v := .int .u32 (s : Int)) rfl (by kernel_rfl) (by kernel_rfl) (by kernel_rfl) (fun _ _ _ h => h) (Or.inl ⟨by rfl, ?_⟩) ?_
      · intro w; go_simp
      refine wpAny_take (i := 10) (v := .int .i64 0) rfl (by kernel_rfl) (by kernel_rfl) (by kernel_rfl) (fun _ _ _ h => h) (Or.inl ⟨by rfl, ?_⟩) ?_
      · intro w; go_simp
      refine wpAny_done (by kernel_rfl) ?_ _
      go_wp2_with fail
      refine bodyPost_ret (res_ct4 (p := 2) (u1 := 3) (u2 := 4) (u3 := 5) (ty := 38) (by kernel_rfl) _ _ w.heap.size 38 (hvl h) (0, 0) _ rfl (setRow_heap _ _ _ _ _ _ HZD.out) Try.underlying38 rfl (hvl_size h) rfl rfl rfl) rfl ?_
      rw [HPO.out]
      refine ⟨some ⟨b, off + 32, none⟩, cap - 32, by rw [HPL.out]; rfl, HYD.out.stay (fr_setRow _ _ _) (fun b' off' e => ?_), fr_rowBelow HBD.out (Nat.le_refl _), fun q hq => hq⟩
      cases e
      exact Nat.ne_of_lt HLB.out
  · skip
    go_simp
    refine hK _ _ ?_
    clear hK K
    refine wpAny_take (i := 4) (v := .int .i64 (M : Int)) rfl (by kernel_rfl) (by kernel_rfl) (by kernel_rfl) (fun _ _ _ h => h) (Or.inl ⟨by rfl, ?_⟩) ?_
    · intro w; go_simp; exact IntWalk.i64_in _ (by omega)
    refine wpAny_take (i := 5) (v := .slice (some ⟨b, off + 32, none⟩) n (cap - 32)) rfl (by kernel_rfl) (by kernel_rfl) (by kernel_rfl) (fun _ _ _ h => h) (Or.inl ⟨by rfl, ?_⟩) ?_
    · intro w; go_simp
    refine wpAny_ready (rs := [0]) (by kernel_rfl) (by simp) ?_
    refine AllReady.cons rfl (fun K hK => ?_) AllReady.nil
    refine step_load_row rfl 38 _ rfl w1.heap.size rfl 38 (hvl h) (0, 0) _ HXD.out Try.underlying38 rfl (hvl_size h) ?_
    refine hK _ _ ?_
    clear hK K
    refine wpAny_ready (rs := [7]) (by kernel_rfl) (by simp) ?_
    refine AllReady.cons rfl (fun K hK => ?_) AllReady.nil
    refine step_store_row rfl 38 _ _ rfl w.heap.size (hvl h) rfl rfl 38 (hvl hz) HZD.out (hvl_size h) rfl (hvl_one h) ?_
    refine hK _ _ ?_
    clear hK K
    refine wpAny_take (i := 8) (v := .slice (some ⟨b, off + 32, none⟩) n (cap - 32)) rfl (by kernel_rfl) (by kernel_rfl) (by kernel_rfl) (fun _ _ _ h => h) (Or.inl ⟨by rfl, ?_⟩) ?_
    · intro w; go_simp
    refine wpAny_take (i := 9) (v := .int .u32 (s : Int)) rfl (by kernel_rfl) (by kernel_rfl) (by kernel_rfl) (fun _ _ _ h => h) (Or.inl ⟨by rfl, ?_⟩) ?_
    · intro w; go_simp
    refine wpAny_take (i := 10) (v := .int .i64 0) rfl (by kernel_rfl) (by kernel_rfl) (by kernel_rfl) (fun _ _ _ h => h) (Or.inl ⟨by rfl, ?_⟩) ?_
    · intro w; go_simp
    refine wpAny_done (by kernel_rfl) ?_ _
    go_wp2_with fail
    refine bodyPost_ret (res_ct4 (p := 2) (u1 := 3) (u2 := 4) (u3 := 5) (ty := 38) (by kernel_rfl) _ _ w.heap.size 38 (hvl h) (0, 0) _ rfl (setRow_heap _ _ _ _ _ _ HZD.out) Try.underlying38 rfl (hvl_size h) rfl rfl rfl) rfl ?_
    rw [HPO.out]
    refine ⟨some ⟨b, off + 32, none⟩, cap - 32, by rw [HPL.out]; rfl, HYD.out.stay (fr_setRow _ _ _) (fun b' off' e => ?_), fr_rowBelow HBD.out (Nat.le_refl _), fun q hq => hq⟩
    cases e
    exact Nat.ne_of_lt HLB.out
set_option maxRecDepth 100000 in
theorem ropenq_any {w : World} {a : Option Addr} {l : List Nat} {cap : Nat} (hb : Byts w a l) (hc : l.length ≤ cap) (hm : l.length ≤ 1099511627776) :
    Calls Try.prog 23 #[.slice a l.length cap] w (ROpenQ w a (opH l) (opP l) (opS l) (opE l)) := by
  by_cases h0 : getE l = 0
  · obtain ⟨hrt, h32, hgh, _, _, _⟩ := get_ok h0
    obtain ⟨b, off, rfl⟩ := byts_at hb (by omega)
    by_cases h1 : l.length < szn l + 36
    · have hE : opE l = 10 := by unfold opE; rw [if_neg (fun h => h h0), if_pos h1]
      unfold opH opP opS
      rw [hE, if_neg (by decide), if_neg (by decide), if_neg (by decide)]
      exact ropenq_end hb rfl hc h0 (by omega)
    · by_cases h2 : Sb l (szn l)
      · have hE : opE l = 0 := by unfold opE; rw [if_neg (fun h => h h0), if_neg h1, if_neg (fun h => h h2)]
        unfold opH opP opS
        rw [hE, if_pos rfl, if_pos rfl, if_pos rfl]
        exact ropenq_ok hb rfl hc h0 (by omega) h2
      · have hE : opE l = 33 := by unfold opE; rw [if_neg (fun h => h h0), if_neg h1, if_pos h2]
        unfold opH opP opS
        rw [hE, if_neg (by decide), if_neg (by decide), if_neg (by decide)]
        exact ropenq_sum hb rfl hc h0 (by omega) h2
  · have hE : opE l = getE l := by unfold opE; rw [if_pos h0]
    unfold opH opP opS
    rw [hE, if_neg h0, if_neg h0, if_neg h0]
    have hB0 := below_new w (.cells (hvl hz) 38)
    exact ropenq_err _ _ _ h0 (rget_any (hb.keep hB0) hc)
end Go.Proofs.Ytgcnbeigchppfaa.Head
