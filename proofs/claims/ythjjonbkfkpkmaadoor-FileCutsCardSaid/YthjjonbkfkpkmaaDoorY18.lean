/- Open of the program, where it refuses; Open of any bytes. Conditions: a table, bytes in memory. -/
import Derived.Test.YthjjonbkfkpkmaaDoorYxIp
import Derived.Test.YthjjonbkfkpkmaaDoorY13
import Derived.Test.YthjjonbkfkpkmaaDoorY11
import Derived.Test.YthjjonbkfkpkmaaDoorY01
import Derived.Deep.OwnRows
import Derived.Lib.TrimUEq
import Derived.Deep.LoopGhost
import Derived.LoopTactic
namespace Go.Proofs.YthjjonbkfkpkmaaDoor.Head
open Go.RowKit Gen Fld
open Crc hiding hid

set_option maxRecDepth 100000 in
theorem open_err {w : World} (t b : Value) (h : Hh) (x : Int) (hx : x ≠ 0) (hg : Calls Tryd.prog 66 #[t, b] (w.alloc (.cells (hvl hz) 83)) (HeadP (w.alloc (.cells (hvl hz) 83)) h x)) : Calls Tryd.prog 34 #[t, b] w (OpenP w hz [] 0 x) := by
  have hz0 : (w.alloc (.cells (hvl hz) 83)).heap[w.heap.size]? = some (.cells (hvl hz) 83 (0, 0)) := heap_alloc_new _ _
  have HB0 := hid (below_new w (.cells (hvl hz) 83))
  have HZ := hid hz0
  have HG := hid hg
  have HF := hid fun w' => openp_none (w := w) (w' := w') x
  have hx' : (x != 0) = true := bne_iff_ne.2 hx
  clear hz0 hg hx
  go_enter Tryd.func34, Tryd.ntmps34
  go_wp2_with fail
  refine HG.out.mono ?_
  rintro e w1 ⟨rfl, hb1⟩
  have HZ1 := hid ((hb1.block w.heap.size (World.block_lt_of_cell? _ _ (row_cell HZ.out 0 rfl))).trans HZ.out)
  have HB1 := hid (HB0.out.trans (hb1.mono HB0.out.size))
  have hz1 : w.heap.size < w1.heap.size := World.block_lt_of_cell? _ _ (row_cell HZ1.out 0 rfl)
  have HA1 := hid (heap_alloc_new w1 (.cells (hvl hz) 83))
  clear hb1 HZ
  rw [show hv h = .agg (hvl h) from rfl]
  have hb2 : Below w1.heap.size w1 ((w1.alloc (.cells (hvl hz) 83)).setRow w1.heap.size (hvl h)) := fr_rowBelow (below_new w1 _) (Nat.le_refl _)
  have hz2 := (hb2.block w.heap.size hz1).trans HZ1.out
  have HB2 := hid (HB1.out.trans (hb2.mono HB1.out.size))
  have HZ2 := hid hz2
  clear hb2 hz2 HB1 HZ1 hz1
  go_wp2_with (first
    | (refine wpList_store_row rfl 83 _ _ rfl w1.heap.size (hvl h) rfl rfl 83 (hvl hz) HA1.out (hvl_size h) rfl (hvl_one h) ?_)
    | (refine wpList_store_row rfl 83 _ _ rfl w.heap.size (hvl hz) rfl rfl 83 (hvl hz) HZ2.out (hvl_size hz) rfl (hvl_one hz) ?_))
  refine bodyPost_ret (res_ct4 (p := 4) (u1 := 5) (u2 := 6) (u3 := 7) (ty := 83) (by kernel_rfl) _ _ w.heap.size 83 (hvl hz) (0, 0) _ rfl (setRow_heap _ _ _ _ _ _ HZ2.out) Tryd.underlying83 rfl (hvl_size hz) rfl rfl rfl) rfl ?_
  exact HF.out _ (fr_rowBelow HB2.out (Nat.le_refl _))
set_option maxRecDepth 100000 in
set_option maxHeartbeats 1000000 in
theorem open_sum {w : World} {g : Nat} (ht : Tab w g) {b off : Nat} {l : List Nat} {cap N : Nat} (hb : Byts w (some ⟨b, off, none⟩) l) (hN : l.length = N) (hc : N ≤ cap) (hm : N ≤ 1099511627776) (hg : getE l = 0) (hl : szn l + 32 + 4 ≤ N) (hs : ¬ Sb l (szn l)) :
    Calls Tryd.prog 34 #[.pointer (some ⟨g, 0, none⟩), .slice (some ⟨b, off, none⟩) N cap] w (OpenP w hz [] 0 33) := by
  obtain ⟨hrt, h32, hgh, _, _, _⟩ := get_ok hg
  have hszn : szn l ≤ 16777216 := by unfold szn; have := hrt.1.2.2.2.2.2.2.2.2; omega
  have hsz : (getH l).sz = (szn l : Int) := by unfold szn; have := hrt.1.2.2.2.2.2.2.2.2.1; omega
  have hz0 : (w.alloc (.cells (hvl hz) 83)).heap[w.heap.size]? = some (.cells (hvl hz) 83 (0, 0)) := heap_alloc_new _ _
  have HB0 := hid (below_new w (.cells (hvl hz) 83))
  have HZ := hid hz0
  have HG := hid (get_any (cap := cap) (ht.keep (HB0.out.block g ht.lt)) (hb.keep HB0.out) (by omega) (by omega))
  rw [hN, hg] at HG
  have hll : ((l.take (szn l + 32 + 4)).length) = szn l + 32 + 4 := by rw [List.length_take]; omega
  have HSU := hid (fun (w' : World) (ht' : Tab w' g) (hb' : Byts w' (some ⟨b, off, none⟩) (l.take (szn l + 32 + 4))) => sumof_any (m := szn l + 32) (cap := cap) ht' hb' hll (by omega) (by omega))
  have hsd : decide (lev ((l.take (szn l + 32 + 4)).drop (szn l + 32)) = cs ((l.take (szn l + 32 + 4)).take (szn l + 32))) = false := decide_eq_false hs
  rw [hsd] at HSU
  have HLO := hid fun w => long_any (getH l) w
  rw [if_pos hrt, hsz] at HLO
  have HTB := hid ht
  have HBY := hid hb
  have HF := hid fun w' => openp_none (w := w) (w' := w') 33
  clear hrt h32 hgh hz0 ht hb hll hsd hg hs hsz
  generalize cs ((l.take (szn l + 32 + 4)).take (szn l + 32)) = s at *
  generalize getH l = h at *
  have hex : ∀ w', Byts w' (some ⟨b, off, none⟩) l → Byts w' (some ⟨b, off, none⟩) (l.take (szn l + 32 + 4)) := fun w' hb' => hb'.take _
  have HEX := hid hex
  clear hex
  generalize szn l = n at *
  have e36 : (36 : Int) + (n : Int) = ((n + 32 + 4 : Nat) : Int) := by omega
  rw [e36] at HLO
  clear e36
  obtain ⟨L, hL⟩ : ∃ L, L = n + 32 + 4 := ⟨_, rfl⟩
  rw [← hL] at HLO HSU HEX hl
  have hcL : L ≤ cap := by omega
  have hLN : ¬ (N : Int) < (L : Int) := by omega
  obtain ⟨M, hM⟩ : ∃ M, M = n + 32 := ⟨_, rfl⟩
  have hL4 : (L : Int) - 4 = (M : Int) := by omega
  have hMn : M - 32 = n := by omega
  have h32M : 32 ≤ M := by omega
  have hMc : M ≤ cap := by omega
  clear hL hM
  go_enter Tryd.func34, Tryd.ntmps34
  go_wp2_with fail
  refine HG.out.mono ?_
  rintro e w1 ⟨rfl, hb1⟩
  have HZ1 := hid ((hb1.block w.heap.size (World.block_lt_of_cell? _ _ (row_cell HZ.out 0 rfl))).trans HZ.out)
  have HB1 := hid (HB0.out.trans (hb1.mono HB0.out.size))
  have hz1 : w.heap.size < w1.heap.size := World.block_lt_of_cell? _ _ (row_cell HZ1.out 0 rfl)
  have HA1 := hid (heap_alloc_new w1 (.cells (hvl hz) 83))
  clear hb1 HZ
  rw [show hv h = .agg (hvl h) from rfl]
  have hb2 : Below w1.heap.size w1 ((w1.alloc (.cells (hvl hz) 83)).setRow w1.heap.size (hvl h)) := fr_rowBelow (below_new w1 _) (Nat.le_refl _)
  have hbx2 : Bx ((w1.alloc (.cells (hvl hz) 83)).setRow w1.heap.size (hvl h)) w1.heap.size h := ⟨setRow_heap _ _ _ _ _ _ HA1.out⟩
  have hz2 := (hb2.block w.heap.size hz1).trans HZ1.out
  have HB2 := hid (HB1.out.trans (hb2.mono HB1.out.size))
  have HX2 := hid hbx2
  have HZ2 := hid hz2
  clear hb2 hbx2 hz2 HB1 HZ1
  go_wp2_with (first
    | (refine wpList_load_row rfl 83 _ rfl w1.heap.size rfl 83 (hvl h) (0, 0) _ HX2.out.row Tryd.underlying83 rfl (hvl_size h) ?_)
    | (refine wpList_store_row rfl 83 _ _ rfl w1.heap.size (hvl h) rfl rfl 83 (hvl hz) HA1.out (hvl_size h) rfl (hvl_one h) ?_))
  refine (HLO.out _).mono ?_
  rintro e w3 ⟨rfl, hb3⟩
  have HX3 := hid (HX2.out.below hb3 HX2.out.lt)
  have hz2l := World.block_lt_of_cell? _ _ (row_cell HZ2.out 0 rfl)
  have HZ3 := hid ((hb3.block w.heap.size hz2l).trans HZ2.out)
  have HB3 := hid (HB2.out.trans (hb3.mono HB2.out.size))
  have HSU3 := hid (HSU.out w3 (HTB.out.keep (HB3.out.block g HTB.out.lt)) (HEX.out w3 (HBY.out.keep HB3.out)))
  clear hb3 hz2l HX2 HZ2 HB2 HA1
  go_wp2_with fail
  refine HSU3.out.mono ?_
  rintro e w4 ⟨rfl, hb4⟩
  have HX4 := hid (HX3.out.below hb4 HX3.out.lt)
  have hz3l := World.block_lt_of_cell? _ _ (row_cell HZ3.out 0 rfl)
  have HZ4 := hid ((hb4.block w.heap.size hz3l).trans HZ3.out)
  have HB4 := hid (HB3.out.trans (hb4.mono HB3.out.size))
  clear hb4 hz3l HX3 HZ3 HB3 HSU3
  go_wp2_with (refine wpList_store_row rfl 83 _ _ rfl w.heap.size (hvl hz) rfl rfl 83 (hvl hz) HZ4.out (hvl_size hz) rfl (hvl_one hz) ?_)
  refine bodyPost_ret (res_ct4 (p := 4) (u1 := 5) (u2 := 6) (u3 := 7) (ty := 83) (by kernel_rfl) _ _ w.heap.size 83 (hvl hz) (0, 0) _ rfl (setRow_heap _ _ _ _ _ _ HZ4.out) Tryd.underlying83 rfl (hvl_size hz) rfl rfl rfl) rfl ?_
  exact HF.out _ (fr_rowBelow HB4.out (Nat.le_refl _))
set_option maxRecDepth 100000 in
set_option maxHeartbeats 1000000 in
theorem open_end {w : World} {g : Nat} (ht : Tab w g) {b off : Nat} {l : List Nat} {cap N : Nat} (hb : Byts w (some ⟨b, off, none⟩) l) (hN : l.length = N) (hc : N ≤ cap) (hm : N ≤ 1099511627776) (hg : getE l = 0) (hl : N < szn l + 32 + 4) :
    Calls Tryd.prog 34 #[.pointer (some ⟨g, 0, none⟩), .slice (some ⟨b, off, none⟩) N cap] w (OpenP w hz [] 0 10) := by
  obtain ⟨hrt, h32, hgh, _, _, _⟩ := get_ok hg
  have hszn : szn l ≤ 16777216 := by unfold szn; have := hrt.1.2.2.2.2.2.2.2.2; omega
  have hsz : (getH l).sz = (szn l : Int) := by unfold szn; have := hrt.1.2.2.2.2.2.2.2.2.1; omega
  have hz0 : (w.alloc (.cells (hvl hz) 83)).heap[w.heap.size]? = some (.cells (hvl hz) 83 (0, 0)) := heap_alloc_new _ _
  have HB0 := hid (below_new w (.cells (hvl hz) 83))
  have HZ := hid hz0
  have HG := hid (get_any (cap := cap) (ht.keep (HB0.out.block g ht.lt)) (hb.keep HB0.out) (by omega) (by omega))
  rw [hN, hg] at HG
  have HLO := hid fun w => long_any (getH l) w
  rw [if_pos hrt, hsz] at HLO
  have HF := hid fun w' => openp_none (w := w) (w' := w') 10
  clear hrt h32 hgh hz0 ht hb hg hsz
  generalize getH l = h at *
  generalize szn l = n at *
  have e36 : (36 : Int) + (n : Int) = ((n + 32 + 4 : Nat) : Int) := by omega
  rw [e36] at HLO
  clear e36
  obtain ⟨L, hL⟩ : ∃ L, L = n + 32 + 4 := ⟨_, rfl⟩
  rw [← hL] at HLO hl
  have hLN : (N : Int) < (L : Int) := by omega
  clear hL
  go_enter Tryd.func34, Tryd.ntmps34
  go_wp2_with fail
  refine HG.out.mono ?_
  rintro e w1 ⟨rfl, hb1⟩
  have HZ1 := hid ((hb1.block w.heap.size (World.block_lt_of_cell? _ _ (row_cell HZ.out 0 rfl))).trans HZ.out)
  have HB1 := hid (HB0.out.trans (hb1.mono HB0.out.size))
  have hz1 : w.heap.size < w1.heap.size := World.block_lt_of_cell? _ _ (row_cell HZ1.out 0 rfl)
  have HA1 := hid (heap_alloc_new w1 (.cells (hvl hz) 83))
  clear hb1 HZ
  rw [show hv h = .agg (hvl h) from rfl]
  have hb2 : Below w1.heap.size w1 ((w1.alloc (.cells (hvl hz) 83)).setRow w1.heap.size (hvl h)) := fr_rowBelow (below_new w1 _) (Nat.le_refl _)
  have hbx2 : Bx ((w1.alloc (.cells (hvl hz) 83)).setRow w1.heap.size (hvl h)) w1.heap.size h := ⟨setRow_heap _ _ _ _ _ _ HA1.out⟩
  have hz2 := (hb2.block w.heap.size hz1).trans HZ1.out
  have HB2 := hid (HB1.out.trans (hb2.mono HB1.out.size))
  have HX2 := hid hbx2
  have HZ2 := hid hz2
  clear hb2 hbx2 hz2 HB1 HZ1
  go_wp2_with (first
    | (refine wpList_load_row rfl 83 _ rfl w1.heap.size rfl 83 (hvl h) (0, 0) _ HX2.out.row Tryd.underlying83 rfl (hvl_size h) ?_)
    | (refine wpList_store_row rfl 83 _ _ rfl w1.heap.size (hvl h) rfl rfl 83 (hvl hz) HA1.out (hvl_size h) rfl (hvl_one h) ?_))
  refine (HLO.out _).mono ?_
  rintro e w3 ⟨rfl, hb3⟩
  have HX3 := hid (HX2.out.below hb3 HX2.out.lt)
  have hz2l := World.block_lt_of_cell? _ _ (row_cell HZ2.out 0 rfl)
  have HZ3 := hid ((hb3.block w.heap.size hz2l).trans HZ2.out)
  have HB3 := hid (HB2.out.trans (hb3.mono HB2.out.size))
  clear hb3 hz2l HX2 HZ2 HB2 HA1 HX3
  go_wp2_with (refine wpList_store_row rfl 83 _ _ rfl w.heap.size (hvl hz) rfl rfl 83 (hvl hz) HZ3.out (hvl_size hz) rfl (hvl_one hz) ?_)
  refine bodyPost_ret (res_ct4 (p := 4) (u1 := 5) (u2 := 6) (u3 := 7) (ty := 83) (by kernel_rfl) _ _ w.heap.size 83 (hvl hz) (0, 0) _ rfl (setRow_heap _ _ _ _ _ _ HZ3.out) Tryd.underlying83 rfl (hvl_size hz) rfl rfl rfl) rfl ?_
  exact HF.out _ (fr_rowBelow HB3.out (Nat.le_refl _))
set_option maxRecDepth 100000 in
theorem open_any {w : World} {g : Nat} (ht : Tab w g) {a : Option Addr} {l : List Nat} {cap : Nat} (hb : Byts w a l) (hc : l.length ≤ cap) (hm : l.length ≤ 1099511627776) :
    Calls Tryd.prog 34 #[.pointer (some ⟨g, 0, none⟩), .slice a l.length cap] w (OpenP w (opH l) (opP l) (opS l) (opE l)) := by
  by_cases h0 : getE l = 0
  · obtain ⟨hrt, h32, hgh, _, _, _⟩ := get_ok h0
    obtain ⟨b, off, rfl⟩ := byts_at hb (by omega)
    by_cases h1 : l.length < szn l + 36
    · have hE : opE l = 10 := by unfold opE; rw [if_neg (fun h => h h0), if_pos h1]
      unfold opH opP opS
      rw [hE, if_neg (by decide), if_neg (by decide), if_neg (by decide)]
      exact open_end ht hb rfl hc hm h0 (by omega)
    · by_cases h2 : Sb l (szn l)
      · have hE : opE l = 0 := by unfold opE; rw [if_neg (fun h => h h0), if_neg h1, if_neg (fun h => h h2)]
        unfold opH opP opS
        rw [hE, if_pos rfl, if_pos rfl, if_pos rfl]
        exact open_ok ht hb rfl hc hm h0 (by omega) h2
      · have hE : opE l = 33 := by unfold opE; rw [if_neg (fun h => h h0), if_neg h1, if_pos h2]
        unfold opH opP opS
        rw [hE, if_neg (by decide), if_neg (by decide), if_neg (by decide)]
        exact open_sum ht hb rfl hc hm h0 (by omega) h2
  · have hE : opE l = getE l := by unfold opE; rw [if_pos h0]
    unfold opH opP opS
    rw [hE, if_neg h0, if_neg h0, if_neg h0]
    have hB0 := below_new w (.cells (hvl hz) 83)
    exact open_err _ _ _ _ h0 (get_any (ht.keep (hB0.block g ht.lt)) (hb.keep hB0) hc hm)
set_option maxRecDepth 100000 in
theorem open_nil (v : Value) (w : World) : Calls Tryd.prog 34 #[.pointer none, v] w (OpenP w hz [] 0 2) :=
  open_err _ _ _ _ (by decide) (get_nil v _)
end Go.Proofs.YthjjonbkfkpkmaaDoor.Head
namespace Go.Proofs.YthjjonbkfkpkmaaDoor.Fil
open Go.RowKit Gen
open Tl (il il_app)
attribute [local go_sem] Oper.semAt_some

set_option maxHeartbeats 1000000 in
set_option maxRecDepth 100000 in
theorem ntail_any {w : World} {g : Nat} {i : Inf.If} {at_ : Int} {a : Option Addr} {n cap : Nat} {c : Int} {sh : Bool} (h : Nx w g i at_ a n cap c sh) (s : Nat) :
    Calls Tryd.prog 18 #[.pointer (some ⟨g, 0, none⟩), .int .u32 (s : Int)] w fun e w' => e = .returned (.agg #[.int .i64 c, .int .u32 (s : Int), .slice a n cap]) ∧ Below w.heap.size w w' := by
  have HZ := hid (Tl.Tx.new w 0 0 none 0 0)
  have hb0 := Inf.below_new w (.cells #[.int .i64 0, .int .u32 0, .slice none 0 0] 41)
  have HN := hid (h.below hb0 h.lt)
  have HB := hid hb0
  clear hb0 h
  have e7 := HN.out.c7
  have e8 := HN.out.c8
  go_enter Tryd.func18, Tryd.ntmps18
  go_wp2_with fail
  generalize w.alloc (.cells #[.int .i64 0, .int .u32 0, .slice none 0 0] 41) = w0 at *
  go_still_tail 10, (by kernel_rfl)
  have HZ1 := hid (show Tl.Tx w0.drew w.heap.size 0 0 none 0 0 from ⟨HZ.out.row⟩)
  have HB1 := hid HB.out.drew
  clear HZ HB e7 e8 HN
  change wpList _ _ _ _ _ w0.drew
  generalize w0.drew = w1 at *
  go_wp2_with (refine wpList_store_row rfl 41 _ _ rfl w.heap.size #[.int .i64 c, .int .u32 (s : Int), .slice a n cap] rfl rfl 41 #[.int .i64 0, .int .u32 0, .slice none 0 0] HZ1.out.row Tl.Tryd.size41 rfl (by simp [Value.oneCell']) ?_)
  refine bodyPost_ret (results_cell_row (p := 4) (ty := 41) (by kernel_rfl) _ _ w.heap.size 41 #[.int .i64 c, .int .u32 (s : Int), .slice a n cap] (0, 0) _ rfl (setRow_heap _ _ _ _ _ _ HZ1.out.row) Tryd.underlying41 rfl Tl.Tryd.size41) rfl ?_
  exact ⟨rfl, Inf.fr_rowBelow HB1.out (Nat.le_refl _)⟩

/-- Why bytes may not be added as a block. -/
def adE (i : Inf.If) (n : Nat) (sh : Bool) (c : Int) (l : List Nat) : Int :=
  if Head.opE l ≠ 0 then Head.opE l else if Head.szn l + 36 < l.length then 62 else if nxt i (Head.opH l) n sh ≠ 0 then nxt i (Head.opH l) n sh else if 4294967295 < c + (Head.opH l).ln then 61 else 0
set_option maxRecDepth 100000 in
theorem op_ok {l : List Nat} (h : Head.opE l = 0) : Head.Rt (Head.opH l) ∧ (Head.opH l).sz = (Head.szn l : Int) ∧ Head.szn l + 36 ≤ l.length ∧ Head.szn l ≤ 16777216 := by
  have hg : Head.getE l = 0 := by
    by_cases h0 : Head.getE l = 0
    · exact h0
    · unfold Head.opE at h
      rw [if_pos h0] at h
      exact h
  obtain ⟨hrt, _, _⟩ := Head.get_ok hg
  have hl : Head.szn l + 36 ≤ l.length := by
    by_cases hl : l.length < Head.szn l + 36
    · unfold Head.opE at h
      rw [if_neg (fun e => e hg), if_pos hl] at h
      cases h
    · omega
  have hz := hrt.1.2.2.2.2.2.2.2.2
  have eh : Head.opH l = Head.getH l := by unfold Head.opH; rw [if_pos h]
  rw [eh]
  have es : Head.szn l = (Head.getH l).sz.toNat := rfl
  exact ⟨hrt, by omega, hl, by omega⟩
/-- What add answers, and leaves; t: the table. -/
def AddP (w : World) (B g t : Nat) (i : Inf.If) (at_ : Nat) (a : Option Addr) (n : Nat) (c : Int) (sh : Bool) (P : List Int) (l : List Nat) (e : Ending) (w' : World) : Prop :=
  e = .returned (.int .i64 (adE i n sh c l)) ∧ Fr (fun b => b = g ∨ blk a = some b) w w' ∧
  (adE i n sh c l = 0 → ∃ a' cap', Nx w' g i ((at_ + (36 + Head.szn l) : Nat) : Int) a' (n + 1) cap' (c + (Head.opH l).ln) (decide ((Head.opH l).ln < i.bk)) ∧ w'.ownsRow B 3 1 (.slice a' (n + 1) cap') (n + 1) (il (P ++ [(at_ : Int)])) ∧ blk a' ≠ some g ∧ (blk a' = blk a ∨ ∀ k, blk a' = some k → w.heap.size ≤ k) ∧ w'.cell? ⟨g, 10, none⟩ = some (.pointer (some ⟨t, 0, none⟩)))

set_option maxHeartbeats 2000000 in
set_option maxRecDepth 100000 in
theorem add_any {w : World} {B g t : Nat} {i : Inf.If} {at_ : Nat} {a : Option Addr} {n cap : Nat} {c : Int} {sh : Bool} {P : List Int} (h : Nx w g i (at_ : Int) a n cap c sh)
    (own : w.ownsRow B 3 1 (.slice a n cap) n (il P)) (far : blk a ≠ some g) (hB : B ≤ w.heap.size) (ht : Crc.Tab w t) (hct : w.cell? ⟨g, 10, none⟩ = some (.pointer (some ⟨t, 0, none⟩)))
    {ab : Option Addr} {l : List Nat} {N capb : Nat} (hN : l.length = N) (hb : Byts w ab l) (hcb : N ≤ capb) (hm : N ≤ 1099511627776) (hat : at_ ≤ 1125899906842624) (hc : 0 ≤ c ∧ c ≤ 1125899906842624) (hn : n ≤ 1099511627776) :
    Calls Tryd.prog 16 #[.pointer (some ⟨g, 0, none⟩), .slice ab N capb] w (AddP w B g t i at_ a n c sh P l) := by
  have HOP := hid (hN ▸ Head.open_any (cap := capb) ht hb (by omega) (by omega) : Calls Tryd.prog 34 #[.pointer (some ⟨t, 0, none⟩), .slice ab N capb] w (Head.OpenP w (Head.opH l) (Head.opP l) (Head.opS l) (Head.opE l)))
  have HNX := hid h
  have HOW := hid own
  have HA0 := hid (show Head.opE l ≠ 0 → adE i n sh c l = Head.opE l from fun e => by unfold adE; rw [if_pos e])
  have HA1 := hid (show Head.opE l = 0 → adE i n sh c l = if Head.szn l + 36 < l.length then 62 else if nxt i (Head.opH l) n sh ≠ 0 then nxt i (Head.opH l) n sh else if 4294967295 < c + (Head.opH l).ln then 61 else 0 from fun e => by unfold adE; rw [if_neg (fun h => h e)])
  have HOK := hid (fun e => op_ok (l := l) e)
  clear h own ht hb
  unfold AddP
  generalize adE i n sh c l = X at *
  generalize Head.opE l = E at *
  generalize Head.opP l = pl at *
  generalize Head.opS l = sm at *
  generalize Head.opH l = hd at *
  generalize Head.szn l = z at *
  go_enter Tryd.func16, Tryd.ntmps16
  go_wp2_with fail
  refine HOP.out.mono ?_
  rintro e w1 ⟨ao, co, rfl, hnl⟩
  rw [show Head.hv hd = .agg (Head.hvl hd) from rfl]
  have hb1 := hnl.bel
  have HNX1 := hid (HNX.out.below hb1 HNX.out.lt)
  have HOW1 := hid (ownsRow_block HOW.out fun g' hg' => hb1.block g' (HOW.out.lt g' (by rw [ownBlock_slice]; exact hg')).2)
  have HC1 := hid ((hb1.cell (p := ⟨g, 10, none⟩) HNX.out.lt).trans hct)
  have HB1 := hid hb1
  have HAN := hid (heap_alloc_new w1 (.cells (Head.hvl Head.hz) 83))
  have hb2 : Below w1.heap.size w1 ((w1.alloc (.cells (Head.hvl Head.hz) 83)).setRow w1.heap.size (Head.hvl hd)) := Head.fr_rowBelow (Head.below_new w1 _) (Nat.le_refl _)
  have HX2 := hid (show Head.Bx ((w1.alloc (.cells (Head.hvl Head.hz) 83)).setRow w1.heap.size (Head.hvl hd)) w1.heap.size hd from ⟨setRow_heap _ _ _ _ _ _ HAN.out⟩)
  have HB2 := hid hb2
  have HBT := hid (hb1.trans (hb2.mono hb1.size))
  have hgl : g < w.heap.size := HNX.out.lt
  have HCT := hid hct
  clear hnl hb1 hb2 hct HOP
  by_cases hE : E = 0
  · subst hE
    obtain ⟨hrt, hsz, hle, hzl⟩ := HOK.out rfl
    have HX := hid (HA1.out rfl)
    have HLO := hid fun w => Head.long_any hd w
    rw [if_pos hrt, hsz] at HLO
    have HR := hid hrt
    have HSZ := hid hsz
    clear HA0 HA1 HOK hrt hsz
    by_cases hmo : z + 36 < N
    · have hX : X = 62 := HX.out.trans (if_pos (by rw [hN]; exact hmo))
      have hcm : 36 + (z : Int) < (N : Int) := by omega
      clear HX hle hmo
      go_wp2_with (first
        | (refine wpList_load_row rfl 83 _ rfl w1.heap.size rfl 83 (Head.hvl hd) (0, 0) _ HX2.out.row Tryd.underlying83 rfl (Head.hvl_size hd) ?_)
        | (refine wpList_store_row rfl 83 _ _ rfl w1.heap.size (Head.hvl hd) rfl rfl 83 (Head.hvl Head.hz) HAN.out (Head.hvl_size hd) rfl (Head.hvl_one hd) ?_))
      refine (HLO.out _).mono ?_
      rintro e w3 ⟨rfl, hb3⟩
      have HB3 := hid (HBT.out.trans (hb3.mono HBT.out.size))
      clear hb3
      go_wp2_with fail
      go_ret
      exact ⟨by rw [hX]; rfl, (below_fr HB3.out).mono (fun k hk hk2 => by omega), fun e => by rw [hX] at e; cases e⟩
    · have HX2' := hid (HX.out.trans (if_neg (by rw [hN]; exact hmo)))
      have hcm : ¬ 36 + (z : Int) < (N : Int) := by omega
      clear HX hmo
      go_wp2_with (first
        | (refine wpList_load_row rfl 83 _ rfl w1.heap.size rfl 83 (Head.hvl hd) (0, 0) _ HX2.out.row Tryd.underlying83 rfl (Head.hvl_size hd) ?_)
        | (refine wpList_store_row rfl 83 _ _ rfl w1.heap.size (Head.hvl hd) rfl rfl 83 (Head.hvl Head.hz) HAN.out (Head.hvl_size hd) rfl (Head.hvl_one hd) ?_))
      refine (HLO.out _).mono ?_
      rintro e w3 ⟨rfl, hb3⟩
      have HB3 := hid (HBT.out.trans (hb3.mono HBT.out.size))
      have HX3 := hid (HX2.out.below hb3 HX2.out.lt)
      clear hb3 HX2 HBT HB2 HAN HNX1 HOW1 HC1 HB1
      have hgw : g < w3.heap.size := Nat.lt_of_lt_of_le hgl HB3.out.size
      have b0 := HX3.out.c0
      have b1 := HX3.out.c1
      have b2 := HX3.out.c2
      have b3 := HX3.out.c3
      have b4 := HX3.out.c4
      have b5 := HX3.out.c5
      have b6 := HX3.out.c6
      have b7 := HX3.out.c7
      go_wp2_with fail
      go_still_tail 4, (by kernel_rfl)
      clear b0 b1 b2 b3 b4 b5 b6 b7 HX3
      have HB4 := hid HB3.out.drew
      have hct4 : w3.drew.cell? ⟨g, 10, none⟩ = some (.pointer (some ⟨t, 0, none⟩)) := (HB4.out.cell (p := ⟨g, 10, none⟩) hgl).trans HCT.out
      have HNT := hid (note_any (HNX.out.below HB4.out hgl) (ownsRow_block HOW.out fun g' hg' => HB4.out.block g' (HOW.out.lt g' (by rw [ownBlock_slice]; exact hg')).2) far (Nat.le_trans hB HB4.out.size) hd HR.out hat hc hn)
      clear HB3
      change wpList _ _ _ _ _ w3.drew
      generalize w3.drew = w4 at *
      go_wp2_with fail
      refine HNT.out.mono ?_
      rintro e w5 ⟨rfl, hfr, h10, h11, hbad, hgood⟩
      have HF5 := hid ((below_fr HB4.out).mono (Y := fun b => b = g ∨ blk a = some b) (fun k hk hk2 => by omega) |>.trans hfr)
      have hct5 : w5.cell? ⟨g, 10, none⟩ = some (.pointer (some ⟨t, 0, none⟩)) := (h10 10 (Nat.le_refl _)).trans hct4
      clear hfr h10 h11 hct4
      by_cases hx : nxt i hd (n : Int) sh = 0
      · obtain ⟨a5, cap5, hnx5, how5, hfar5, hat5⟩ := hgood hx
        rw [hx]
        have HXX := hid (HX2'.out.trans (if_neg (fun h => h hx)))
        have e8 := hnx5.c8
        have HNX5 := hid hnx5
        have HS5 := hid HB4.out.size
        clear hgood hbad HX2' hnx5
        by_cases hcc : 4294967295 < c + hd.ln
        · have hX := HXX.out.trans (if_pos hcc)
          clear HXX
          go_wp2_with fail
          go_ret
          exact ⟨by rw [hX]; rfl, HF5.out, fun e => by rw [hX] at e; cases e⟩
        · have hX := HXX.out.trans (if_neg hcc)
          clear HXX
          go_wp2_with fail
          go_ret
          refine ⟨by rw [hX]; rfl, HF5.out, fun _ => ⟨a5, cap5, ?_, how5, hfar5, hat5.imp id fun h k hk => Nat.le_trans HS5.out (h k hk), hct5⟩⟩
          have e := HNX5.out
          rw [HSZ.out] at e
          have e2 : ((at_ : Int) + (36 + (z : Int))) = ((at_ + (36 + z) : Nat) : Int) := by omega
          rw [e2] at e
          exact e
      · have HXX := hid (HX2'.out.trans (if_pos hx))
        have hx' : (nxt i hd (n : Int) sh != 0) = true := bne_iff_ne.2 hx
        generalize nxt i hd (n : Int) sh = Y at *
        clear hgood hbad
        go_wp2_with fail
        go_ret
        exact ⟨by rw [HXX.out]; rfl, HF5.out, fun e => absurd (HXX.out ▸ e) hx⟩
  · have HX := hid (HA0.out hE)
    clear HA0 HA1 HOK
    have hE' : (E != 0) = true := bne_iff_ne.2 hE
    go_wp2_with (refine wpList_store_row rfl 83 _ _ rfl w1.heap.size (Head.hvl hd) rfl rfl 83 (Head.hvl Head.hz) HAN.out (Head.hvl_size hd) rfl (Head.hvl_one hd) ?_)
    go_ret
    exact ⟨by rw [HX.out]; rfl, (below_fr HBT.out).mono (fun k hk hk2 => by omega), fun e => absurd (HX.out ▸ e) hE⟩
end Go.Proofs.YthjjonbkfkpkmaaDoor.Fil
namespace Go.Proofs.YthjjonbkfkpkmaaDoor.Tg
open Go.RowKit Gen

/-- A letter from A to Z as the small one. -/
def low (b : Nat) : Nat := if 65 ≤ b ∧ b ≤ 90 then b + 32 else b
set_option maxRecDepth 100000 in
theorem low_lt {b : Nat} (h : b < 256) : low b < 256 := by unfold low; split <;> omega
def fold (s : ByteArray) : ByteArray := tos ((sb s).map low)
set_option maxRecDepth 100000 in
theorem fold_lt (s : ByteArray) : ∀ b ∈ (sb s).map low, b < 256 := fun b hb => by
  obtain ⟨x, hx, rfl⟩ := List.mem_map.1 hb
  exact low_lt (sb_lt s x hx)
set_option maxRecDepth 100000 in
theorem fold_size (s : ByteArray) : (fold s).size = s.size := by unfold fold; rw [tos_size, List.length_map, sb_len]
set_option maxRecDepth 100000 in
theorem low_low (b : Nat) : low (low b) = low b := by unfold low; repeat' split
                                                      all_goals omega
set_option maxRecDepth 100000 in
theorem fold_fold (s : ByteArray) : fold (fold s) = fold s := by
  unfold fold
  rw [sb_tos _ (fold_lt s), List.map_map]
  congr 1
  exact List.map_congr_left fun b _ => low_low b

/-- Byte i of a text. -/
def bt (s : ByteArray) (i : Nat) : Nat := (s.get! i).toNat
set_option maxRecDepth 100000 in
theorem bt_lt (s : ByteArray) (i : Nat) : bt s i < 256 := (s.get! i).toNat_lt
set_option maxRecDepth 100000 in
theorem sb_at (s : ByteArray) (i : Nat) (hi : i < s.size) : (sb s)[i]? = some (bt s i) := by
  unfold sb bt
  rw [List.getElem?_map, ← Lib.getD_get!']
  have h : i < s.data.toList.length := by rw [← Lib.size_eq]; exact hi
  rw [List.getElem?_eq_getElem h]
  simp [List.getD, List.getElem?_eq_getElem h]
set_option maxRecDepth 100000 in
theorem run_at (s : ByteArray) (i : Nat) (hi : i < s.size) (w : World) : (Instr.index 9 (.string s) (.int .i64 (i : Int))).run Tryd.prog w = .ok (.int .u8 (bt s i : Int)) w := by
  rw [run_index_string (P := Tryd.prog) w 9 s .i64 (i : Int) Tryd.underlying9, dif_pos ⟨by omega, by omega⟩]
  congr 3
  unfold bt
  congr 1
  rw [← Lib.getD_get!']
  have h : i < s.data.toList.length := by rw [← Lib.size_eq]; exact hi
  simp only [List.getD, List.getElem?_eq_getElem h, Option.getD_some]
  rfl

/-- A row of bytes at block g. -/
structure Rw (w : World) (g n : Nat) (f : Nat → Nat) : Prop where
  c : ∀ i, i < n → w.cell? ⟨g, i, none⟩ = some (.int .u8 (f i : Int))
  z : ∀ i, i < n → w.frozen? ⟨g, i, none⟩ = false
set_option maxRecDepth 100000 in
theorem Rw.set {w : World} {g n : Nat} {f : Nat → Nat} (h : Rw w g n f) {k : Nat} (hk : k < n) (v : Nat) : Rw (w.setCell ⟨g, k, none⟩ (.int .u8 (v : Int))) g n fun i => if i = k then v else f i := by
  refine ⟨fun i hi => ?_, fun i hi => by rw [World.frozen?_setCell]; exact h.z i hi⟩
  by_cases e : i = k
  · subst e
    rw [if_pos rfl]
    exact World.cell?_setCell_same _ _ _ (h.c i hi)
  · rw [if_neg e, World.cell?_setCell_other _ _ _ _ (by intro e'; cases e'; exact e rfl)]
    exact h.c i hi
set_option maxRecDepth 100000 in
theorem Rw.congr {w : World} {g n : Nat} {f f' : Nat → Nat} (h : Rw w g n f) (e : ∀ i, i < n → f i = f' i) : Rw w g n f' := ⟨fun i hi => by rw [← e i hi]; exact h.c i hi, h.z⟩
set_option maxRecDepth 100000 in
theorem Rw.byts {w : World} {g : Nat} {l : List Nat} {f : Nat → Nat} (h : Rw w g l.length f) (hl : ∀ b ∈ l, b < 256) (e : ∀ i x, l[i]? = some x → f i = x) : Byts w (some ⟨g, 0, none⟩) l := by
  refine ⟨hl, fun j x hj => ⟨g, 0, rfl, ?_⟩⟩
  have hj' : j < l.length := by
    have := List.getElem?_eq_some_iff.1 hj
    exact this.1
  rw [Nat.zero_add, h.c j hj', e j x hj]
set_option maxRecDepth 100000 in
theorem rw_string (w : World) (s : ByteArray) : Rw (Lib.bytesWorld w 5 s) w.heap.size s.size (bt s) := by
  refine ⟨fun i hi => ?_, fun i hi => ?_⟩
  · rw [Lib.bytesWorld_cell w _ s i hi, Lib.getD_get!']; rfl
  · simp [World.frozen?, Lib.bytesWorld_at_new, Lib.bytesCells]
    omega
set_option maxRecDepth 100000 in
theorem fold_at (s : ByteArray) (i x : Nat) (h : ((sb s).map low)[i]? = some x) : low (bt s i) = x := by
  have hi : i < s.size := by
    have := (List.getElem?_eq_some_iff.1 h).1
    rwa [List.length_map, sb_len] at this
  rw [List.getElem?_map, sb_at s i hi] at h
  exact Option.some.inj h

set_option maxRecDepth 100000 in
set_option maxHeartbeats 1000000 in
theorem fold_any (s : ByteArray) (hs : s.size ≤ 1099511627776) (w : World) : Calls Tryd.prog 85 #[.string s] w fun e w' => e = .returned (.string (fold s)) ∧ Below w.heap.size w w' := by
  have hcv := fun W => conv_string W s
  have HR := hid (rw_string w s)
  have HBL := hid (below_string w s)
  go_enter Tryd.func85, Tryd.ntmps85
  go_wp2_with fail
  clear hcv
  generalize Lib.bytesWorld w 5 s = W at *
  go_loopg [10] s.size (fun g i wr => ∃ k : Nat, k ≤ s.size ∧ g = s.size - k ∧ i = .int .i64 k ∧ Rw wr w.heap.size s.size (fun j => if j < k then low (bt s j) else bt s j) ∧ Below w.heap.size w wr)
  case atStart => exact ⟨0, Nat.zero_le _, rfl, rfl, HR.out.congr fun i _ => by rw [if_neg (Nat.not_lt_zero _)], HBL.out⟩
  case round =>
    obtain ⟨k, hk, rfl, rfl, hrow, hb⟩ := hrel
    have HB := hid hb
    clear hb HR HBL
    by_cases hlt : k < s.size
    · have hc := hrow.c k hlt
      rw [if_neg (Nat.lt_irrefl _)] at hc
      have hz := hrow.z k hlt
      have HRW := hid hrow
      have hx := bt_lt s k
      clear hrow
      generalize hbt : bt s k = x at *
      have HX := hid hbt
      clear hbt
      by_cases h1 : 65 ≤ x ∧ x ≤ 90
      · have e1 : (65 : Int) ≤ (x : Int) := by omega
        have e2 : (x : Int) ≤ 90 := by omega
        have e3 : ((x : Int) - 65) + 97 = ((x + 32 : Nat) : Int) := by omega
        have HL := hid (show low x = x + 32 from by unfold low; rw [if_pos h1])
        clear h1
        go_wp2_with fail
        go_roundg (s.size - (k + 1))
        case measure => omega
        case rel =>
          refine ⟨k + 1, by omega, rfl, by go_num, ?_, HB.out.setCell (p := ⟨w.heap.size, k, none⟩) (Nat.le_refl _) _⟩
          have h2 := HRW.out.set hlt (x + 32)
          rw [show (((x + 32 : Nat)) : Int) = (x : Int) + 32 from by omega] at h2
          refine h2.congr fun j hj => ?_
          by_cases e : j = k
          · subst e; rw [if_pos rfl, if_pos (Nat.lt_succ_self _), HX.out, HL.out]
          · rw [if_neg e]
            by_cases e2 : j < k
            · rw [if_pos e2, if_pos (by omega)]
            · rw [if_neg e2, if_neg (by omega)]
      · have HL := hid (show low x = x from by unfold low; rw [if_neg h1])
        have hrel2 : Rw wr w.heap.size s.size (fun j => if j < k + 1 then low (bt s j) else bt s j) := HRW.out.congr fun j hj => by
          by_cases e : j = k
          · subst e; rw [if_neg (Nat.lt_irrefl _), if_pos (Nat.lt_succ_self _), HX.out, HL.out]
          · by_cases e2 : j < k
            · rw [if_pos e2, if_pos (by omega)]
            · rw [if_neg e2, if_neg (by omega)]
        have HR2 := hid hrel2
        clear hrel2
        by_cases h65 : 65 ≤ x
        · have e1 : (65 : Int) ≤ (x : Int) := by omega
          have e2 : ¬ (x : Int) ≤ 90 := by omega
          clear h1 h65
          go_wp2_with fail
          go_roundg (s.size - (k + 1))
          case measure => omega
          case rel => exact ⟨k + 1, by omega, rfl, by go_num, HR2.out, HB.out⟩
        · have e1 : ¬ (65 : Int) ≤ (x : Int) := by omega
          clear h1 h65
          go_wp2_with fail
          go_roundg (s.size - (k + 1))
          case measure => omega
          case rel => exact ⟨k + 1, by omega, rfl, by go_num, HR2.out, HB.out⟩
    · obtain rfl : k = s.size := by omega
      have hby : Byts wr (some ⟨w.heap.size, 0, none⟩) ((sb s).map low) := by
        have hl : ((sb s).map low).length = s.size := by rw [List.length_map, sb_len]
        refine Rw.byts (f := fun j => low (bt s j)) ?_ (fold_lt s) (fun i x h => fold_at s i x h)
        rw [hl]
        exact hrow.congr fun i hi => by rw [if_pos hi]
      have hcv := hby.conv (grownCap w s.size 0 5)
      rw [List.length_map, sb_len] at hcv
      clear hrow hby
      go_wp2_with fail
      go_ret
      exact ⟨rfl, HB.out⟩
end Go.Proofs.YthjjonbkfkpkmaaDoor.Tg
namespace Go.Proofs.YthjjonbkfkpkmaaDoor.Tg
open Go.RowKit Gen

set_option maxRecDepth 100000 in
theorem rowIs_byts {w : World} {g : Nat} {l : List Nat} {f : Nat → Nat} (h : w.rowIs g 5 l.length (fun i => .int .u8 (f i : Int))) (hl : ∀ b ∈ l, b < 256) (e : ∀ i x, l[i]? = some x → f i = x) : Byts w (some ⟨g, 0, none⟩) l := by
  refine ⟨hl, fun j x hj => ⟨g, 0, rfl, ?_⟩⟩
  have hj' : j < l.length := (List.getElem?_eq_some_iff.1 hj).1
  rw [Nat.zero_add, h.cell hj', e j x hj]
end Go.Proofs.YthjjonbkfkpkmaaDoor.Tg
