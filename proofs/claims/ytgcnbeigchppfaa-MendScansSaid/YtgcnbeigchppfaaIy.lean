/- Open of the document. Conditions: bytes in memory. -/
import Derived.Test.YtgcnbeigchppfaaIv
import Derived.Test.YtgcnbeigchppfaaIx
namespace Go.Proofs.Ytgcnbeigchppfaa.Head
open Go.RowKit Gen Fld
open Crc hiding hid

set_option maxRecDepth 100000 in
theorem lev_one (x : Nat) : lev [x] = x := by show x + 256 * 0 = x; omega
set_option maxRecDepth 100000 in
theorem rget_any {w : World} {a : Option Addr} {l : List Nat} {cap : Nat} (hb : Byts w a l) (hc : l.length ≤ cap) : Calls Try.prog 37 #[.slice a l.length cap] w (HeadP w (getH l) (getE l)) := by
  match l, hb, hc with
  | [], _, _ => exact rget_zero
  | [x], hb, hc =>
    obtain ⟨b, off, rfl⟩ := byts_at hb (by simp)
    have hx := (byts_get hb 0 (by simp)).1
    rw [show ([x].drop 0).take 1 = [x] from rfl, lev_one] at hx
    by_cases h : x = 222
    · subst h
      exact rget_one hx
    · have hn : ¬ Bgn [x] := by unfold Bgn; simp [h]
      unfold getE getH
      rw [if_pos hn, if_pos hn]
      exact rget_x (N := 1) (by decide) h hx
  | x :: y :: t, hb, hc =>
    obtain ⟨b, off, rfl⟩ := byts_at hb (by simp)
    have hx := (byts_get hb 0 (by simp)).1
    have hy := (byts_get hb 1 (by simp)).1
    rw [show ((x :: y :: t).drop 0).take 1 = [x] from rfl, lev_one] at hx
    rw [show ((x :: y :: t).drop 1).take 1 = [y] from rfl, lev_one] at hy
    by_cases h : x = 222
    · by_cases h' : y = 92
      · subst h h'
        have hn : Bgn (222 :: 92 :: t) := by unfold Bgn; simp
        by_cases h2 : (222 :: 92 :: t).length < 32
        · have e1 : getE (222 :: 92 :: t) = 10 := by unfold getE; rw [if_neg (fun h => h hn), if_pos h2]
          have e2 : getH (222 :: 92 :: t) = hz := by unfold getH; rw [if_neg (fun h => h hn), if_pos h2]
          rw [e1, e2]
          exact rget_few (by simp) h2 hx hy
        · by_cases h3 : Sm (222 :: 92 :: t)
          · have e1 : getE (222 :: 92 :: t) = rdE ((222 :: 92 :: t).take 32) := by unfold getE; rw [if_neg (fun h => h hn), if_neg h2, if_neg (fun h => h h3)]
            have e2 : getH (222 :: 92 :: t) = rdH ((222 :: 92 :: t).take 32) := by unfold getH; rw [if_neg (fun h => h hn), if_neg h2, if_neg (fun h => h h3)]
            rw [e1, e2]
            exact rget_full hb rfl (by omega) hc (lev_one 222) (lev_one 92) h3
          · have e1 : getE (222 :: 92 :: t) = 33 := by unfold getE; rw [if_neg (fun h => h hn), if_neg h2, if_pos h3]
            have e2 : getH (222 :: 92 :: t) = hz := by unfold getH; rw [if_neg (fun h => h hn), if_neg h2, if_pos h3]
            rw [e1, e2]
            exact rget_sum hb rfl (by omega) hc (lev_one 222) (lev_one 92) h3
      · subst h
        have hn : ¬ Bgn (222 :: y :: t) := by unfold Bgn; simp [h']
        unfold getE getH
        rw [if_pos hn, if_pos hn]
        exact rget_y (by simp) h' hx hy
    · have hn : ¬ Bgn (x :: y :: t) := by unfold Bgn; simp [h]
      unfold getE getH
      rw [if_pos hn, if_pos hn]
      exact rget_x (by simp) h hx
def ROpenP (w : World) (h : Hh) (p : List Nat) (s : Nat) (x : Int) (e : Ending) (w' : World) : Prop :=
  ∃ ao cap, e = .returned (.tuple #[hv h, .slice ao p.length cap, .int .u32 (s : Int), .int .i64 x]) ∧ Byts w' ao p ∧ Below w.heap.size w w'
set_option maxRecDepth 100000 in
theorem ropenp_none {w w' : World} (x : Int) (h : Below w.heap.size w w') : ROpenP w hz [] 0 x (.returned (.tuple #[hv hz, .slice none 0 0, .int .u32 0, .int .i64 x])) w' := ⟨none, 0, rfl, Byts.nil _ _, h⟩
set_option maxRecDepth 100000 in
theorem sb_iff (l : List Nat) (n : Nat) : Sb l n ↔ lev ((l.drop (n + 32)).take 4) = cs (l.take (n + 32)) := by
  unfold Sb
  rw [List.drop_take, List.take_take, Nat.add_sub_cancel_left, Nat.min_eq_left (by omega)]
set_option maxRecDepth 100000 in
theorem ropen_err {w : World} (b : Value) (h : Hh) (x : Int) (hx : x ≠ 0) (hg : Calls Try.prog 37 #[b] (w.alloc (.cells (hvl hz) 38)) (HeadP (w.alloc (.cells (hvl hz) 38)) h x)) : Calls Try.prog 23 #[b] w (ROpenP w hz [] 0 x) := by
  have hz0 : (w.alloc (.cells (hvl hz) 38)).heap[w.heap.size]? = some (.cells (hvl hz) 38 (0, 0)) := heap_alloc_new _ _
  have HB0 := hid (below_new w (.cells (hvl hz) 38))
  have HZ := hid hz0
  have HG := hid hg
  have HF := hid fun w' => ropenp_none (w := w) (w' := w') x
  have hx' : (x != 0) = true := bne_iff_ne.2 hx
  clear hz0 hg hx
  go_enter Try.func23, Try.ntmps23
  go_wp2_with fail
  refine HG.out.mono ?_
  rintro e w1 ⟨rfl, hb1⟩
  have HZ1 := hid ((hb1.block w.heap.size (World.block_lt_of_cell? _ _ (row_cell HZ.out 0 rfl))).trans HZ.out)
  have HB1 := hid (HB0.out.trans (hb1.mono HB0.out.size))
  have hz1 : w.heap.size < w1.heap.size := World.block_lt_of_cell? _ _ (row_cell HZ1.out 0 rfl)
  have HA1 := hid (heap_alloc_new w1 (.cells (hvl hz) 38))
  clear hb1 HZ
  rw [show hv h = .agg (hvl h) from rfl]
  have hb2 : Below w1.heap.size w1 ((w1.alloc (.cells (hvl hz) 38)).setRow w1.heap.size (hvl h)) := fr_rowBelow (below_new w1 _) (Nat.le_refl _)
  have hz2 := (hb2.block w.heap.size hz1).trans HZ1.out
  have HB2 := hid (HB1.out.trans (hb2.mono HB1.out.size))
  have HZ2 := hid hz2
  clear hb2 hz2 HB1 HZ1 hz1
  go_wp2_with (first
    | (refine wpList_store_row rfl 38 _ _ rfl w1.heap.size (hvl h) rfl rfl 38 (hvl hz) HA1.out (hvl_size h) rfl (hvl_one h) ?_)
    | (refine wpList_store_row rfl 38 _ _ rfl w.heap.size (hvl hz) rfl rfl 38 (hvl hz) HZ2.out (hvl_size hz) rfl (hvl_one hz) ?_))
  refine bodyPost_ret (res_ct4 (p := 2) (u1 := 3) (u2 := 4) (u3 := 5) (ty := 38) (by kernel_rfl) _ _ w.heap.size 38 (hvl hz) (0, 0) _ rfl (setRow_heap _ _ _ _ _ _ HZ2.out) Try.underlying38 rfl (hvl_size hz) rfl rfl rfl) rfl ?_
  exact HF.out _ (fr_rowBelow HB2.out (Nat.le_refl _))
set_option maxRecDepth 100000 in
set_option maxHeartbeats 1000000 in
theorem ropen_end {w : World} {b off : Nat} {l : List Nat} {cap N : Nat} (hb : Byts w (some ⟨b, off, none⟩) l) (hN : l.length = N) (hc : N ≤ cap) (hg : getE l = 0) (hl : N < szn l + 32 + 4) :
    Calls Try.prog 23 #[.slice (some ⟨b, off, none⟩) N cap] w (ROpenP w hz [] 0 10) := by
  obtain ⟨hrt, h32, hgh, _, _, _⟩ := get_ok hg
  have hszn : szn l ≤ 16777216 := by unfold szn; have := hrt.1.2.2.2.2.2.2.2.2; omega
  have hsz : (getH l).sz = (szn l : Int) := by unfold szn; have := hrt.1.2.2.2.2.2.2.2.2.1; omega
  have hz0 : (w.alloc (.cells (hvl hz) 38)).heap[w.heap.size]? = some (.cells (hvl hz) 38 (0, 0)) := heap_alloc_new _ _
  have HB0 := hid (below_new w (.cells (hvl hz) 38))
  have HZ := hid hz0
  have HG := hid (rget_any (cap := cap) (hb.keep HB0.out) (by omega))
  rw [hN, hg] at HG
  have HBY := hid hb
  have HF := hid fun w' => ropenp_none (w := w) (w' := w') 10
  clear hrt h32 hgh hz0 hb hg
  generalize getH l = h at *
  generalize szn l = n at *
  have hL : (N : Int) < 36 + (n : Int) := by omega
  go_enter Try.func23, Try.ntmps23
  go_wp2_with fail
  refine HG.out.mono ?_
  rintro e w1 ⟨rfl, hb1⟩
  have HZ1 := hid ((hb1.block w.heap.size (World.block_lt_of_cell? _ _ (row_cell HZ.out 0 rfl))).trans HZ.out)
  have HB1 := hid (HB0.out.trans (hb1.mono HB0.out.size))
  have hz1 : w.heap.size < w1.heap.size := World.block_lt_of_cell? _ _ (row_cell HZ1.out 0 rfl)
  have HA1 := hid (heap_alloc_new w1 (.cells (hvl hz) 38))
  clear hb1 HZ
  rw [show hv h = .agg (hvl h) from rfl]
  have hb2 : Below w1.heap.size w1 ((w1.alloc (.cells (hvl hz) 38)).setRow w1.heap.size (hvl h)) := fr_rowBelow (below_new w1 _) (Nat.le_refl _)
  have hbx2 : Bx ((w1.alloc (.cells (hvl hz) 38)).setRow w1.heap.size (hvl h)) w1.heap.size h := ⟨setRow_heap _ _ _ _ _ _ HA1.out⟩
  have hz2 := (hb2.block w.heap.size hz1).trans HZ1.out
  have HB2 := hid (HB1.out.trans (hb2.mono HB1.out.size))
  have HX2 := hid hbx2
  have HZ2 := hid hz2
  have HY2 := hid (HBY.out.keep HB2.out)
  have c7 : ((w1.alloc (.cells #[.int .i64 0, .int .i64 0, .int .i64 0, .int .i64 0, .int .i64 0, .bool false, .int .u32 0, .int .i64 0] 38)).setRow w1.heap.size (hvl h)).cell? ⟨w1.heap.size, 7, none⟩ = some (.int .i64 (n : Int)) := by
    have := hbx2.c7
    rw [hsz] at this
    exact this
  clear hb2 hbx2 hz2 HB1 HZ1
  go_wp2_with (first
    | (refine wpList_store_row rfl 38 _ _ rfl w1.heap.size (hvl h) rfl rfl 38 (hvl hz) HA1.out (hvl_size h) rfl (hvl_one h) ?_)
    | (refine wpList_store_row rfl 38 _ _ rfl w.heap.size (hvl hz) rfl rfl 38 (hvl hz) HZ2.out (hvl_size hz) rfl (hvl_one hz) ?_))
  refine bodyPost_ret (res_ct4 (p := 2) (u1 := 3) (u2 := 4) (u3 := 5) (ty := 38) (by kernel_rfl) _ _ w.heap.size 38 (hvl hz) (0, 0) _ rfl (setRow_heap _ _ _ _ _ _ HZ2.out) Try.underlying38 rfl (hvl_size hz) rfl rfl rfl) rfl ?_
  exact HF.out _ (fr_rowBelow HB2.out (Nat.le_refl _))
set_option maxRecDepth 100000 in
set_option maxHeartbeats 1000000 in
theorem ropen_sum {w : World} {b off : Nat} {l : List Nat} {cap N : Nat} (hb : Byts w (some ⟨b, off, none⟩) l) (hN : l.length = N) (hc : N ≤ cap) (hg : getE l = 0) (hl : szn l + 32 + 4 ≤ N) (hs : ¬ Sb l (szn l)) :
    Calls Try.prog 23 #[.slice (some ⟨b, off, none⟩) N cap] w (ROpenP w hz [] 0 33) := by
  obtain ⟨hrt, h32, hgh, _, _, _⟩ := get_ok hg
  have hszn : szn l ≤ 16777216 := by unfold szn; have := hrt.1.2.2.2.2.2.2.2.2; omega
  have hsz : (getH l).sz = (szn l : Int) := by unfold szn; have := hrt.1.2.2.2.2.2.2.2.2.1; omega
  have hz0 : (w.alloc (.cells (hvl hz) 38)).heap[w.heap.size]? = some (.cells (hvl hz) 38 (0, 0)) := heap_alloc_new _ _
  have HB0 := hid (below_new w (.cells (hvl hz) 38))
  have HZ := hid hz0
  have HG := hid (rget_any (cap := cap) (hb.keep HB0.out) (by omega))
  rw [hN, hg] at HG
  have HBY := hid hb
  have HF := hid fun w' => ropenp_none (w := w) (w' := w') 33
  rw [sb_iff] at hs
  generalize szn l = n at *
  have hlt : (l.take (n + 32)).length = n + 32 := by rw [List.length_take]; omega
  have HCS := hid fun (w' : World) (hb' : Byts w' (some ⟨b, off, none⟩) l) (c : Nat) => rcsum_any (cap := c) (hb'.take (n + 32)) (by omega)
  rw [hlt] at HCS
  have HAT := hid fun (w' : World) (hb' : Byts w' (some ⟨b, off, none⟩) l) => rat_any (cap := cap) (N := N) (at_ := n + 32) hb' (by omega) (by omega) (by omega)
  have hcl := cs_lt (l := l.take (n + 32)) (fun x hx => hb.lt x (List.mem_of_mem_take hx))
  have hws := i64_small _ hcl
  have hne : ((cs (l.take (n + 32)) : Int) != (lev ((l.drop (n + 32)).take 4) : Int)) = true := by rw [bne_iff_ne]; omega
  clear hrt h32 hgh hz0 hb hg hs hlt
  generalize getH l = h at *
  generalize cs (l.take (n + 32)) = s at *
  generalize lev ((l.drop (n + 32)).take 4) = v at *
  obtain ⟨M, hM⟩ : ∃ M, M = n + 32 := ⟨_, rfl⟩
  rw [← hM] at HCS HAT
  have hL : ¬ (N : Int) < 36 + (n : Int) := by omega
  have hMi : 32 + (n : Int) = (M : Int) := by omega
  have hMc : M ≤ cap := by omega
  clear hM
  go_enter Try.func23, Try.ntmps23
  go_wp2_with fail
  refine HG.out.mono ?_
  rintro e w1 ⟨rfl, hb1⟩
  have HZ1 := hid ((hb1.block w.heap.size (World.block_lt_of_cell? _ _ (row_cell HZ.out 0 rfl))).trans HZ.out)
  have HB1 := hid (HB0.out.trans (hb1.mono HB0.out.size))
  have hz1 : w.heap.size < w1.heap.size := World.block_lt_of_cell? _ _ (row_cell HZ1.out 0 rfl)
  have HA1 := hid (heap_alloc_new w1 (.cells (hvl hz) 38))
  clear hb1 HZ
  rw [show hv h = .agg (hvl h) from rfl]
  have hb2 : Below w1.heap.size w1 ((w1.alloc (.cells (hvl hz) 38)).setRow w1.heap.size (hvl h)) := fr_rowBelow (below_new w1 _) (Nat.le_refl _)
  have hbx2 : Bx ((w1.alloc (.cells (hvl hz) 38)).setRow w1.heap.size (hvl h)) w1.heap.size h := ⟨setRow_heap _ _ _ _ _ _ HA1.out⟩
  have hz2 := (hb2.block w.heap.size hz1).trans HZ1.out
  have HB2 := hid (HB1.out.trans (hb2.mono HB1.out.size))
  have HX2 := hid hbx2
  have HZ2 := hid hz2
  have HY2 := hid (HBY.out.keep HB2.out)
  have c7 : ((w1.alloc (.cells #[.int .i64 0, .int .i64 0, .int .i64 0, .int .i64 0, .int .i64 0, .bool false, .int .u32 0, .int .i64 0] 38)).setRow w1.heap.size (hvl h)).cell? ⟨w1.heap.size, 7, none⟩ = some (.int .i64 (n : Int)) := by
    have := hbx2.c7
    rw [hsz] at this
    exact this
  have c7' : ((w1.alloc (.cells (hvl hz) 38)).setRow w1.heap.size (hvl h)).cell? ⟨w1.heap.size, 7, none⟩ = some (.int .i64 (n : Int)) := by
    have := hbx2.c7
    rw [hsz] at this
    exact this
  clear hb2 hbx2 hz2 HB1 HZ1
  go_wp2_with (refine wpList_store_row rfl 38 _ _ rfl w1.heap.size (hvl h) rfl rfl 38 (hvl hz) HA1.out (hvl_size h) rfl (hvl_one h) ?_)
  refine (HCS.out _ HY2.out _).mono ?_
  rintro e w' ⟨rfl, rfl⟩
  go_wp2_with fail
  refine (HAT.out _ HY2.out).mono ?_
  rintro e w' ⟨rfl, rfl⟩
  go_wp2_with (refine wpList_store_row rfl 38 _ _ rfl w.heap.size (hvl hz) rfl rfl 38 (hvl hz) HZ2.out (hvl_size hz) rfl (hvl_one hz) ?_)
  refine bodyPost_ret (res_ct4 (p := 2) (u1 := 3) (u2 := 4) (u3 := 5) (ty := 38) (by kernel_rfl) _ _ w.heap.size 38 (hvl hz) (0, 0) _ rfl (setRow_heap _ _ _ _ _ _ HZ2.out) Try.underlying38 rfl (hvl_size hz) rfl rfl rfl) rfl ?_
  exact HF.out _ (fr_rowBelow HB2.out (Nat.le_refl _))
end Go.Proofs.Ytgcnbeigchppfaa.Head
