/- Get of the document, of few bytes and of bytes that begin otherwise. Conditions: bytes in memory. -/
import Derived.Test.YtgcnbeigchppfaaIr
import Derived.Test.YtgcnbeigchppfaaIs
namespace Go.Proofs.Ytgcnbeigchppfaa.Head
open Go.RowKit Gen Fld
open Crc hiding hid

set_option maxRecDepth 100000 in
theorem rget_zero {w : World} {a : Option Addr} {cap : Nat} : Calls Try.prog 37 #[.slice a 0 cap] w (HeadP w hz 10) := by
  have hz0 : (w.alloc (.cells (hvl hz) 38)).heap[w.heap.size]? = some (.cells (hvl hz) 38 (0, 0)) := heap_alloc_new _ _
  have HZ := hid hz0
  have HB0 := hid (below_new w (.cells (hvl hz) 38))
  have hpo : ∀ e w', HeadP w hz 10 e w' = (e = .returned (.tuple #[hv hz, .int .i64 10]) ∧ Below w.heap.size w w') := fun _ _ => rfl
  have HPO := hid hpo
  clear hz0 hpo
  go_enter Try.func37, Try.ntmps37
  go_wp2_with (refine wpList_store_row rfl 38 _ _ rfl w.heap.size (hvl hz) rfl rfl 38 (hvl hz) HZ.out (hvl_size hz) rfl (hvl_one hz) ?_)
  refine bodyPost_ret (res_ct (p := 2) (u := 3) (ty := 38) (by kernel_rfl) _ _ w.heap.size 38 (hvl hz) (0, 0) _ rfl (setRow_heap _ _ _ _ _ _ HZ.out) Try.underlying38 rfl (hvl_size hz) rfl) rfl ?_
  rw [HPO.out]
  exact ⟨rfl, fr_rowBelow HB0.out (Nat.le_refl _)⟩
set_option maxRecDepth 100000 in
theorem rget_x {w : World} {b off cap N x : Nat} (hN : 1 ≤ N) (hx : x ≠ 222) (hc : w.cell? ⟨b, off, none⟩ = some (.int .u8 (x : Int))) : Calls Try.prog 37 #[.slice (some ⟨b, off, none⟩) N cap] w (HeadP w hz 30) := by
  have hz0 : (w.alloc (.cells (hvl hz) 38)).heap[w.heap.size]? = some (.cells (hvl hz) 38 (0, 0)) := heap_alloc_new _ _
  have HZ := hid hz0
  have HB0 := hid (below_new w (.cells (hvl hz) 38))
  have hpo : ∀ e w', HeadP w hz 30 e w' = (e = .returned (.tuple #[hv hz, .int .i64 30]) ∧ Below w.heap.size w w') := fun _ _ => rfl
  have HPO := hid hpo
  have hc' : (w.alloc (.cells #[.int .i64 0, .int .i64 0, .int .i64 0, .int .i64 0, .int .i64 0, .bool false, .int .u32 0, .int .i64 0] 38)).cell? ⟨b, off, none⟩ = some (.int .u8 (x : Int)) := (HB0.out.cell (p := ⟨b, off, none⟩) (World.block_lt_of_cell? w _ hc)).trans hc
  have hx' : ((x : Int) != 222) = true := by rw [bne_iff_ne]; omega
  have hN' : (0 : Int) < (N : Int) := by omega
  clear hz0 hpo hc hx
  go_enter Try.func37, Try.ntmps37
  go_wp2_with (refine wpList_store_row rfl 38 _ _ rfl w.heap.size (hvl hz) rfl rfl 38 (hvl hz) HZ.out (hvl_size hz) rfl (hvl_one hz) ?_)
  refine bodyPost_ret (res_ct (p := 2) (u := 3) (ty := 38) (by kernel_rfl) _ _ w.heap.size 38 (hvl hz) (0, 0) _ rfl (setRow_heap _ _ _ _ _ _ HZ.out) Try.underlying38 rfl (hvl_size hz) rfl) rfl ?_
  rw [HPO.out]
  exact ⟨rfl, fr_rowBelow HB0.out (Nat.le_refl _)⟩
set_option maxRecDepth 100000 in
theorem rget_y {w : World} {b off cap N y : Nat} (hN : 2 ≤ N) (hy : y ≠ 92) (hc : w.cell? ⟨b, off, none⟩ = some (.int .u8 222)) (hd : w.cell? ⟨b, off + 1, none⟩ = some (.int .u8 (y : Int))) : Calls Try.prog 37 #[.slice (some ⟨b, off, none⟩) N cap] w (HeadP w hz 30) := by
  have hz0 : (w.alloc (.cells (hvl hz) 38)).heap[w.heap.size]? = some (.cells (hvl hz) 38 (0, 0)) := heap_alloc_new _ _
  have HZ := hid hz0
  have HB0 := hid (below_new w (.cells (hvl hz) 38))
  have hpo : ∀ e w', HeadP w hz 30 e w' = (e = .returned (.tuple #[hv hz, .int .i64 30]) ∧ Below w.heap.size w w') := fun _ _ => rfl
  have HPO := hid hpo
  have hc' : (w.alloc (.cells #[.int .i64 0, .int .i64 0, .int .i64 0, .int .i64 0, .int .i64 0, .bool false, .int .u32 0, .int .i64 0] 38)).cell? ⟨b, off, none⟩ = some (.int .u8 222) := (HB0.out.cell (p := ⟨b, off, none⟩) (World.block_lt_of_cell? w _ hc)).trans hc
  have hd' : (w.alloc (.cells #[.int .i64 0, .int .i64 0, .int .i64 0, .int .i64 0, .int .i64 0, .bool false, .int .u32 0, .int .i64 0] 38)).cell? ⟨b, off + 1, none⟩ = some (.int .u8 (y : Int)) := (HB0.out.cell (p := ⟨b, off + 1, none⟩) (World.block_lt_of_cell? w _ hd)).trans hd
  have hy' : ((y : Int) != 92) = true := by rw [bne_iff_ne]; omega
  have hN' : (0 : Int) < (N : Int) := by omega
  have hN1 : (1 : Int) < (N : Int) := by omega
  clear hz0 hpo hc hy hd
  go_enter Try.func37, Try.ntmps37
  go_wp2_with (refine wpList_store_row rfl 38 _ _ rfl w.heap.size (hvl hz) rfl rfl 38 (hvl hz) HZ.out (hvl_size hz) rfl (hvl_one hz) ?_)
  refine bodyPost_ret (res_ct (p := 2) (u := 3) (ty := 38) (by kernel_rfl) _ _ w.heap.size 38 (hvl hz) (0, 0) _ rfl (setRow_heap _ _ _ _ _ _ HZ.out) Try.underlying38 rfl (hvl_size hz) rfl) rfl ?_
  rw [HPO.out]
  exact ⟨rfl, fr_rowBelow HB0.out (Nat.le_refl _)⟩
set_option maxRecDepth 100000 in
theorem rget_one {w : World} {b off cap : Nat} (hc : w.cell? ⟨b, off, none⟩ = some (.int .u8 222)) : Calls Try.prog 37 #[.slice (some ⟨b, off, none⟩) 1 cap] w (HeadP w hz 10) := by
  have hz0 : (w.alloc (.cells (hvl hz) 38)).heap[w.heap.size]? = some (.cells (hvl hz) 38 (0, 0)) := heap_alloc_new _ _
  have HZ := hid hz0
  have HB0 := hid (below_new w (.cells (hvl hz) 38))
  have hpo : ∀ e w', HeadP w hz 10 e w' = (e = .returned (.tuple #[hv hz, .int .i64 10]) ∧ Below w.heap.size w w') := fun _ _ => rfl
  have HPO := hid hpo
  have hc' : (w.alloc (.cells #[.int .i64 0, .int .i64 0, .int .i64 0, .int .i64 0, .int .i64 0, .bool false, .int .u32 0, .int .i64 0] 38)).cell? ⟨b, off, none⟩ = some (.int .u8 222) := (HB0.out.cell (p := ⟨b, off, none⟩) (World.block_lt_of_cell? w _ hc)).trans hc
  clear hz0 hpo hc
  go_enter Try.func37, Try.ntmps37
  go_wp2_with (refine wpList_store_row rfl 38 _ _ rfl w.heap.size (hvl hz) rfl rfl 38 (hvl hz) HZ.out (hvl_size hz) rfl (hvl_one hz) ?_)
  refine bodyPost_ret (res_ct (p := 2) (u := 3) (ty := 38) (by kernel_rfl) _ _ w.heap.size 38 (hvl hz) (0, 0) _ rfl (setRow_heap _ _ _ _ _ _ HZ.out) Try.underlying38 rfl (hvl_size hz) rfl) rfl ?_
  rw [HPO.out]
  exact ⟨rfl, fr_rowBelow HB0.out (Nat.le_refl _)⟩
set_option maxRecDepth 100000 in
theorem rget_few {w : World} {b off cap N : Nat} (hN : 2 ≤ N) (hN3 : N < 32) (hc : w.cell? ⟨b, off, none⟩ = some (.int .u8 222)) (hd : w.cell? ⟨b, off + 1, none⟩ = some (.int .u8 92)) : Calls Try.prog 37 #[.slice (some ⟨b, off, none⟩) N cap] w (HeadP w hz 10) := by
  have hz0 : (w.alloc (.cells (hvl hz) 38)).heap[w.heap.size]? = some (.cells (hvl hz) 38 (0, 0)) := heap_alloc_new _ _
  have HZ := hid hz0
  have HB0 := hid (below_new w (.cells (hvl hz) 38))
  have hpo : ∀ e w', HeadP w hz 10 e w' = (e = .returned (.tuple #[hv hz, .int .i64 10]) ∧ Below w.heap.size w w') := fun _ _ => rfl
  have HPO := hid hpo
  have hc' : (w.alloc (.cells #[.int .i64 0, .int .i64 0, .int .i64 0, .int .i64 0, .int .i64 0, .bool false, .int .u32 0, .int .i64 0] 38)).cell? ⟨b, off, none⟩ = some (.int .u8 222) := (HB0.out.cell (p := ⟨b, off, none⟩) (World.block_lt_of_cell? w _ hc)).trans hc
  have hd' : (w.alloc (.cells #[.int .i64 0, .int .i64 0, .int .i64 0, .int .i64 0, .int .i64 0, .bool false, .int .u32 0, .int .i64 0] 38)).cell? ⟨b, off + 1, none⟩ = some (.int .u8 92) := (HB0.out.cell (p := ⟨b, off + 1, none⟩) (World.block_lt_of_cell? w _ hd)).trans hd
  have hN' : (0 : Int) < (N : Int) := by omega
  have hN1 : (1 : Int) < (N : Int) := by omega
  have hN2 : (N : Int) < 32 := by omega
  clear hz0 hpo hc hd
  go_enter Try.func37, Try.ntmps37
  go_wp2_with (refine wpList_store_row rfl 38 _ _ rfl w.heap.size (hvl hz) rfl rfl 38 (hvl hz) HZ.out (hvl_size hz) rfl (hvl_one hz) ?_)
  refine bodyPost_ret (res_ct (p := 2) (u := 3) (ty := 38) (by kernel_rfl) _ _ w.heap.size 38 (hvl hz) (0, 0) _ rfl (setRow_heap _ _ _ _ _ _ HZ.out) Try.underlying38 rfl (hvl_size hz) rfl) rfl ?_
  rw [HPO.out]
  exact ⟨rfl, fr_rowBelow HB0.out (Nat.le_refl _)⟩
end Go.Proofs.Ytgcnbeigchppfaa.Head
