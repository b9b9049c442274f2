/- Open of the program, where it refuses; Open of any bytes. Conditions: a table, bytes in memory. -/
import Derived.Test.YtgcnbeigchppfaaIp
namespace Go.Proofs.Ytgcnbeigchppfaa.Head
open Go.RowKit Gen Fld
open Crc hiding hid

set_option maxRecDepth 100000 in
theorem open_err {w : World} (t b : Value) (h : Hh) (x : Int) (hx : x ≠ 0) (hg : Calls Try.prog 60 #[t, b] (w.alloc (.cells (hvl hz) 38)) (HeadP (w.alloc (.cells (hvl hz) 38)) h x)) : Calls Try.prog 47 #[t, b] w (OpenP w hz [] 0 x) := by
  have hz0 : (w.alloc (.cells (hvl hz) 38)).heap[w.heap.size]? = some (.cells (hvl hz) 38 (0, 0)) := heap_alloc_new _ _
  have HB0 := hid (below_new w (.cells (hvl hz) 38))
  have HZ := hid hz0
  have HG := hid hg
  have HF := hid fun w' => openp_none (w := w) (w' := w') x
  have hx' : (x != 0) = true := bne_iff_ne.2 hx
  clear hz0 hg hx
  go_enter Try.func47, Try.ntmps47
  go_wp2_with fail
  refine HG.out.mono ?_
  rintro e w1 ⟨rfl, hb1⟩
  have HZ1 := hid ((hb1.block w.heap.size (World.block_lt_of_cell? _ _ (row_cell HZ.out 0 rfl))).trans HZ.out)
  have HB1 := hid (HB0.out.trans (hb1.mono HB0.out.size))
  have hz1 : w.heap.size < w1.heap.size := World.block_lt_of_cell? _ _ (row_cell HZ1.out 0 rfl)
  have HA1 := hid (heap_alloc_new w1 (.cells (hvl hz) 38))
  clear hb1 HZ
  rw [show hv h = .agg (hvl h) from rfl]
  have hb2 : Below w1.heap.size w1 ((w1.alloc (.cells (hvl hz) 38)).setRow w1.heap.size (hvl h)) := fr_rowBelow (below_new w1 _) (Nat.le_refl _)
  have hz2 := (hb2.block w.heap.size hz1).trans HZ1.out
  have HB2 := hid (HB1.out.trans (hb2.mono HB1.out.size))
  have HZ2 := hid hz2
  clear hb2 hz2 HB1 HZ1 hz1
  go_wp2_with (first
    | (refine wpList_store_row rfl 38 _ _ rfl w1.heap.size (hvl h) rfl rfl 38 (hvl hz) HA1.out (hvl_size h) rfl (hvl_one h) ?_)
    | (refine wpList_store_row rfl 38 _ _ rfl w.heap.size (hvl hz) rfl rfl 38 (hvl hz) HZ2.out (hvl_size hz) rfl (hvl_one hz) ?_))
  refine bodyPost_ret (res_ct4 (p := 4) (u1 := 5) (u2 := 6) (u3 := 7) (ty := 38) (by kernel_rfl) _ _ w.heap.size 38 (hvl hz) (0, 0) _ rfl (setRow_heap _ _ _ _ _ _ HZ2.out) Try.underlying38 rfl (hvl_size hz) rfl rfl rfl) rfl ?_
  exact HF.out _ (fr_rowBelow HB2.out (Nat.le_refl _))
set_option maxRecDepth 100000 in
set_option maxHeartbeats 1000000 in
theorem open_sum {w : World} {g : Nat} (ht : Tab w g) {b off : Nat} {l : List Nat} {cap N : Nat} (hb : Byts w (some ⟨b, off, none⟩) l) (hN : l.length = N) (hc : N ≤ cap) (hm : N ≤ 1099511627776) (hg : getE l = 0) (hl : szn l + 32 + 4 ≤ N) (hs : ¬ Sb l (szn l)) :
    Calls Try.prog 47 #[.pointer (some ⟨g, 0, none⟩), .slice (some ⟨b, off, none⟩) N cap] w (OpenP w hz [] 0 33) := by
  obtain ⟨hrt, h32, hgh, _, _, _⟩ := get_ok hg
  have hszn : szn l ≤ 16777216 := by unfold szn; have := hrt.1.2.2.2.2.2.2.2.2; omega
  have hsz : (getH l).sz = (szn l : Int) := by unfold szn; have := hrt.1.2.2.2.2.2.2.2.2.1; omega
  have hz0 : (w.alloc (.cells (hvl hz) 38)).heap[w.heap.size]? = some (.cells (hvl hz) 38 (0, 0)) := heap_alloc_new _ _
  have HB0 := hid (below_new w (.cells (hvl hz) 38))
  have HZ := hid hz0
  have HG := hid (get_any (cap := cap) (ht.keep (HB0.out.block g ht.lt)) (hb.keep HB0.out) (by omega) (by omega))
  rw [hN, hg] at HG
  have hll : ((l.take (szn l + 32 + 4)).length) = szn l + 32 + 4 := by rw [List.length_take]; omega
  have HSU := hid (fun (w' : World) (ht' : Tab w' g) (hb' : Byts w' (some ⟨b, off, none⟩) (l.take (szn l + 32 + 4))) => sumof_any (m := szn l + 32) (cap := cap) ht' hb' hll (by omega) (by omega))
  have hsd : decide (lev ((l.take (szn l + 32 + 4)).drop (szn l + 32)) = cs ((l.take (szn l + 32 + 4)).take (szn l + 32))) = false := decide_eq_false hs
  rw [hsd] at HSU
  have HLO := hid fun w => long_any (getH l) w
  rw [if_pos hrt, hsz] at HLO
  have HTB := hid ht
  have HBY := hid hb
  have HF := hid fun w' => openp_none (w := w) (w' := w') 33
  clear hrt h32 hgh hz0 ht hb hll hsd hg hs hsz
  generalize cs ((l.take (szn l + 32 + 4)).take (szn l + 32)) = s at *
  generalize getH l = h at *
  have hex : ∀ w', Byts w' (some ⟨b, off, none⟩) l → Byts w' (some ⟨b, off, none⟩) (l.take (szn l + 32 + 4)) := fun w' hb' => hb'.take _
  have HEX := hid hex
  clear hex
  generalize szn l = n at *
  have e36 : (36 : Int) + (n : Int) = ((n + 32 + 4 : Nat) : Int) := by omega
  rw [e36] at HLO
  clear e36
  obtain ⟨L, hL⟩ : ∃ L, L = n + 32 + 4 := ⟨_, rfl⟩
  rw [← hL] at HLO HSU HEX hl
  have hcL : L ≤ cap := by omega
  have hLN : ¬ (N : Int) < (L : Int) := by omega
  obtain ⟨M, hM⟩ : ∃ M, M = n + 32 := ⟨_, rfl⟩
  have hL4 : (L : Int) - 4 = (M : Int) := by omega
  have hMn : M - 32 = n := by omega
  have h32M : 32 ≤ M := by omega
  have hMc : M ≤ cap := by omega
  clear hL hM
  go_enter Try.func47, Try.ntmps47
  go_wp2_with fail
  refine HG.out.mono ?_
  rintro e w1 ⟨rfl, hb1⟩
  have HZ1 := hid ((hb1.block w.heap.size (World.block_lt_of_cell? _ _ (row_cell HZ.out 0 rfl))).trans HZ.out)
  have HB1 := hid (HB0.out.trans (hb1.mono HB0.out.size))
  have hz1 : w.heap.size < w1.heap.size := World.block_lt_of_cell? _ _ (row_cell HZ1.out 0 rfl)
  have HA1 := hid (heap_alloc_new w1 (.cells (hvl hz) 38))
  clear hb1 HZ
  rw [show hv h = .agg (hvl h) from rfl]
  have hb2 : Below w1.heap.size w1 ((w1.alloc (.cells (hvl hz) 38)).setRow w1.heap.size (hvl h)) := fr_rowBelow (below_new w1 _) (Nat.le_refl _)
  have hbx2 : Bx ((w1.alloc (.cells (hvl hz) 38)).setRow w1.heap.size (hvl h)) w1.heap.size h := ⟨setRow_heap _ _ _ _ _ _ HA1.out⟩
  have hz2 := (hb2.block w.heap.size hz1).trans HZ1.out
  have HB2 := hid (HB1.out.trans (hb2.mono HB1.out.size))
  have HX2 := hid hbx2
  have HZ2 := hid hz2
  clear hb2 hbx2 hz2 HB1 HZ1
  go_wp2_with (first
    | (refine wpList_load_row rfl 38 _ rfl w1.heap.size rfl 38 (hvl h) (0, 0) _ HX2.out.row Try.underlying38 rfl (hvl_size h) ?_)
    | (refine wpList_store_row rfl 38 _ _ rfl w1.heap.size (hvl h) rfl rfl 38 (hvl hz) HA1.out (hvl_size h) rfl (hvl_one h) ?_))
  refine (HLO.out _).mono ?_
  rintro e w3 ⟨rfl, hb3⟩
  have HX3 := hid (HX2.out.below hb3 HX2.out.lt)
  have hz2l := World.block_lt_of_cell? _ _ (row_cell HZ2.out 0 rfl)
  have HZ3 := hid ((hb3.block w.heap.size hz2l).trans HZ2.out)
  have HB3 := hid (HB2.out.trans (hb3.mono HB2.out.size))
  have HSU3 := hid (HSU.out w3 (HTB.out.keep (HB3.out.block g HTB.out.lt)) (HEX.out w3 (HBY.out.keep HB3.out)))
  clear hb3 hz2l HX2 HZ2 HB2 HA1
  go_wp2_with fail
  refine HSU3.out.mono ?_
  rintro e w4 ⟨rfl, hb4⟩
  have HX4 := hid (HX3.out.below hb4 HX3.out.lt)
  have hz3l := World.block_lt_of_cell? _ _ (row_cell HZ3.out 0 rfl)
  have HZ4 := hid ((hb4.block w.heap.size hz3l).trans HZ3.out)
  have HB4 := hid (HB3.out.trans (hb4.mono HB3.out.size))
  clear hb4 hz3l HX3 HZ3 HB3 HSU3
  go_wp2_with (refine wpList_store_row rfl 38 _ _ rfl w.heap.size (hvl hz) rfl rfl 38 (hvl hz) HZ4.out (hvl_size hz) rfl (hvl_one hz) ?_)
  refine bodyPost_ret (res_ct4 (p := 4) (u1 := 5) (u2 := 6) (u3 := 7) (ty := 38) (by kernel_rfl) _ _ w.heap.size 38 (hvl hz) (0, 0) _ rfl (setRow_heap _ _ _ _ _ _ HZ4.out) Try.underlying38 rfl (hvl_size hz) rfl rfl rfl) rfl ?_
  exact HF.out _ (fr_rowBelow HB4.out (Nat.le_refl _))
set_option maxRecDepth 100000 in
set_option maxHeartbeats 1000000 in
theorem open_end {w : World} {g : Nat} (ht : Tab w g) {b off : Nat} {l : List Nat} {cap N : Nat} (hb : Byts w (some ⟨b, off, none⟩) l) (hN : l.length = N) (hc : N ≤ cap) (hm : N ≤ 1099511627776) (hg : getE l = 0) (hl : N < szn l + 32 + 4) :
    Calls Try.prog 47 #[.pointer (some ⟨g, 0, none⟩), .slice (some ⟨b, off, none⟩) N cap] w (OpenP w hz [] 0 10) := by
  obtain ⟨hrt, h32, hgh, _, _, _⟩ := get_ok hg
  have hszn : szn l ≤ 16777216 := by unfold szn; have := hrt.1.2.2.2.2.2.2.2.2; omega
  have hsz : (getH l).sz = (szn l : Int) := by unfold szn; have := hrt.1.2.2.2.2.2.2.2.2.1; omega
  have hz0 : (w.alloc (.cells (hvl hz) 38)).heap[w.heap.size]? = some (.cells (hvl hz) 38 (0, 0)) := heap_alloc_new _ _
  have HB0 := hid (below_new w (.cells (hvl hz) 38))
  have HZ := hid hz0
  have HG := hid (get_any (cap := cap) (ht.keep (HB0.out.block g ht.lt)) (hb.keep HB0.out) (by omega) (by omega))
  rw [hN, hg] at HG
  have HLO := hid fun w => long_any (getH l) w
  rw [if_pos hrt, hsz] at HLO
  have HF := hid fun w' => openp_none (w := w) (w' := w') 10
  clear hrt h32 hgh hz0 ht hb hg hsz
  generalize getH l = h at *
  generalize szn l = n at *
  have e36 : (36 : Int) + (n : Int) = ((n + 32 + 4 : Nat) : Int) := by omega
  rw [e36] at HLO
  clear e36
  obtain ⟨L, hL⟩ : ∃ L, L = n + 32 + 4 := ⟨_, rfl⟩
  rw [← hL] at HLO hl
  have hLN : (N : Int) < (L : Int) := by omega
  clear hL
  go_enter Try.func47, Try.ntmps47
  go_wp2_with fail
  refine HG.out.mono ?_
  rintro e w1 ⟨rfl, hb1⟩
  have HZ1 := hid ((hb1.block w.heap.size (World.block_lt_of_cell? _ _ (row_cell HZ.out 0 rfl))).trans HZ.out)
  have HB1 := hid (HB0.out.trans (hb1.mono HB0.out.size))
  have hz1 : w.heap.size < w1.heap.size := World.block_lt_of_cell? _ _ (row_cell HZ1.out 0 rfl)
  have HA1 := hid (heap_alloc_new w1 (.cells (hvl hz) 38))
  clear hb1 HZ
  rw [show hv h = .agg (hvl h) from rfl]
  have hb2 : Below w1.heap.size w1 ((w1.alloc (.cells (hvl hz) 38)).setRow w1.heap.size (hvl h)) := fr_rowBelow (below_new w1 _) (Nat.le_refl _)
  have hbx2 : Bx ((w1.alloc (.cells (hvl hz) 38)).setRow w1.heap.size (hvl h)) w1.heap.size h := ⟨setRow_heap _ _ _ _ _ _ HA1.out⟩
  have hz2 := (hb2.block w.heap.size hz1).trans HZ1.out
  have HB2 := hid (HB1.out.trans (hb2.mono HB1.out.size))
  have HX2 := hid hbx2
  have HZ2 := hid hz2
  clear hb2 hbx2 hz2 HB1 HZ1
  go_wp2_with (first
    | (refine wpList_load_row rfl 38 _ rfl w1.heap.size rfl 38 (hvl h) (0, 0) _ HX2.out.row Try.underlying38 rfl (hvl_size h) ?_)
    | (refine wpList_store_row rfl 38 _ _ rfl w1.heap.size (hvl h) rfl rfl 38 (hvl hz) HA1.out (hvl_size h) rfl (hvl_one h) ?_))
  refine (HLO.out _).mono ?_
  rintro e w3 ⟨rfl, hb3⟩
  have HX3 := hid (HX2.out.below hb3 HX2.out.lt)
  have hz2l := World.block_lt_of_cell? _ _ (row_cell HZ2.out 0 rfl)
  have HZ3 := hid ((hb3.block w.heap.size hz2l).trans HZ2.out)
  have HB3 := hid (HB2.out.trans (hb3.mono HB2.out.size))
  clear hb3 hz2l HX2 HZ2 HB2 HA1 HX3
  go_wp2_with (refine wpList_store_row rfl 38 _ _ rfl w.heap.size (hvl hz) rfl rfl 38 (hvl hz) HZ3.out (hvl_size hz) rfl (hvl_one hz) ?_)
  refine bodyPost_ret (res_ct4 (p := 4) (u1 := 5) (u2 := 6) (u3 := 7) (ty := 38) (by kernel_rfl) _ _ w.heap.size 38 (hvl hz) (0, 0) _ rfl (setRow_heap _ _ _ _ _ _ HZ3.out) Try.underlying38 rfl (hvl_size hz) rfl rfl rfl) rfl ?_
  exact HF.out _ (fr_rowBelow HB3.out (Nat.le_refl _))
set_option maxRecDepth 100000 in
theorem open_any {w : World} {g : Nat} (ht : Tab w g) {a : Option Addr} {l : List Nat} {cap : Nat} (hb : Byts w a l) (hc : l.length ≤ cap) (hm : l.length ≤ 1099511627776) :
    Calls Try.prog 47 #[.pointer (some ⟨g, 0, none⟩), .slice a l.length cap] w (OpenP w (opH l) (opP l) (opS l) (opE l)) := by
  by_cases h0 : getE l = 0
  · obtain ⟨hrt, h32, hgh, _, _, _⟩ := get_ok h0
    obtain ⟨b, off, rfl⟩ := byts_at hb (by omega)
    by_cases h1 : l.length < szn l + 36
    · have hE : opE l = 10 := by unfold opE; rw [if_neg (fun h => h h0), if_pos h1]
      unfold opH opP opS
      rw [hE, if_neg (by decide), if_neg (by decide), if_neg (by decide)]
      exact open_end ht hb rfl hc hm h0 (by omega)
    · by_cases h2 : Sb l (szn l)
      · have hE : opE l = 0 := by unfold opE; rw [if_neg (fun h => h h0), if_neg h1, if_neg (fun h => h h2)]
        unfold opH opP opS
        rw [hE, if_pos rfl, if_pos rfl, if_pos rfl]
        exact open_ok ht hb rfl hc hm h0 (by omega) h2
      · have hE : opE l = 33 := by unfold opE; rw [if_neg (fun h => h h0), if_neg h1, if_pos h2]
        unfold opH opP opS
        rw [hE, if_neg (by decide), if_neg (by decide), if_neg (by decide)]
        exact open_sum ht hb rfl hc hm h0 (by omega) h2
  · have hE : opE l = getE l := by unfold opE; rw [if_pos h0]
    unfold opH opP opS
    rw [hE, if_neg h0, if_neg h0, if_neg h0]
    have hB0 := below_new w (.cells (hvl hz) 38)
    exact open_err _ _ _ _ h0 (get_any (ht.keep (hB0.block g ht.lt)) (hb.keep hB0) hc hm)
set_option maxRecDepth 100000 in
theorem open_nil (v : Value) (w : World) : Calls Try.prog 47 #[.pointer none, v] w (OpenP w hz [] 0 2) :=
  open_err _ _ _ _ (by decide) (get_nil v _)
end Go.Proofs.Ytgcnbeigchppfaa.Head
