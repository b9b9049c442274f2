/- Get of the document, of 32 bytes and more. Conditions: bytes in memory. -/
import Derived.Test.YtgcnbeigchppfaaIt
namespace Go.Proofs.Ytgcnbeigchppfaa.Head
open Go.RowKit Gen Fld
open Crc hiding hid

set_option maxRecDepth 100000 in
theorem sm_iff (l : List Nat) : Sm l ↔ lev ((l.drop 28).take 4) = cs (l.take 28) := by
  unfold Sm
  rw [List.drop_take, List.take_take]
  exact Iff.rfl
set_option maxRecDepth 100000 in
theorem byts_get {w : World} {b off : Nat} {l : List Nat} (hb : Byts w (some ⟨b, off, none⟩) l) (j : Nat) (hj : j < l.length) : w.cell? ⟨b, off + j, none⟩ = some (.int .u8 (lev ((l.drop j).take 1) : Int)) ∧ lev ((l.drop j).take 1) < 256 := by
  have e : (l.drop j).take 1 = [l[j]] := by rw [List.drop_eq_getElem_cons hj]; rfl
  have e2 : lev [l[j]] = l[j] := by show l[j] + 256 * 0 = l[j]; omega
  rw [e, e2]
  obtain ⟨b', off', e3, hc⟩ := hb.at_ j (l[j]) (List.getElem?_eq_getElem hj)
  cases e3
  exact ⟨hc, hb.lt _ (List.getElem_mem hj)⟩
set_option maxRecDepth 100000 in
set_option maxHeartbeats 1000000 in
theorem rget_sum {w : World} {b off cap N : Nat} {l : List Nat} (hb : Byts w (some ⟨b, off, none⟩) l) (hN : l.length = N) (hN3 : 32 ≤ N) (hcap : N ≤ cap) (h0 : lev ((l.drop 0).take 1) = 222) (h1 : lev ((l.drop 1).take 1) = 92) (hs : ¬ Sm l) : Calls Try.prog 37 #[.slice (some ⟨b, off, none⟩) N cap] w (HeadP w hz 33) := by
  have hz0 : (w.alloc (.cells (hvl hz) 38)).heap[w.heap.size]? = some (.cells (hvl hz) 38 (0, 0)) := heap_alloc_new _ _
  have HZ := hid hz0
  have HB0 := hid (below_new w (.cells (hvl hz) 38))
  have hpo : ∀ e w', HeadP w hz 33 e w' = (e = .returned (.tuple #[hv hz, .int .i64 33]) ∧ Below w.heap.size w w') := fun _ _ => rfl
  have HPO := hid hpo
  have hb' := hb.keep HB0.out
  have hc' : (w.alloc (.cells #[.int .i64 0, .int .i64 0, .int .i64 0, .int .i64 0, .int .i64 0, .bool false, .int .u32 0, .int .i64 0] 38)).cell? ⟨b, off, none⟩ = some (.int .u8 222) := by
    have := (byts_get hb' 0 (by omega)).1
    rw [h0] at this
    exact this
  have hd' : (w.alloc (.cells #[.int .i64 0, .int .i64 0, .int .i64 0, .int .i64 0, .int .i64 0, .bool false, .int .u32 0, .int .i64 0] 38)).cell? ⟨b, off + 1, none⟩ = some (.int .u8 92) := by
    have := (byts_get hb' 1 (by omega)).1
    rw [h1] at this
    exact this
  have hl28 : (l.take 28).length = 28 := by rw [List.length_take]; omega
  have HCS := hid fun c => rcsum_any (cap := c) (hb'.take 28) (by omega)
  rw [hl28] at HCS
  have HAT := hid (rat_any (cap := cap) (N := N) (at_ := 28) hb' (by omega) (by omega) (by decide))
  rw [sm_iff] at hs
  have hcl := cs_lt (l := l.take 28) (fun x hx => hb.lt x (List.mem_of_mem_take hx))
  have hwr := i64_small _ hcl
  have hne : ((cs (l.take 28) : Int) != (lev ((l.drop 28).take 4) : Int)) = true := by rw [bne_iff_ne]; omega
  have hN' : (0 : Int) < (N : Int) := by omega
  have hN1 : (1 : Int) < (N : Int) := by omega
  have hN2 : ¬ (N : Int) < 32 := by omega
  have hc28 : 28 ≤ cap := by omega
  clear hz0 hpo hb h0 h1 hs hb' hl28 hN
  generalize cs (l.take 28) = s at *
  generalize lev ((l.drop 28).take 4) = v at *
  go_enter Try.func37, Try.ntmps37
  go_wp2_with fail
  refine (HCS.out _).mono ?_
  rintro e w' ⟨rfl, rfl⟩
  go_wp2_with fail
  refine HAT.out.mono ?_
  rintro e w' ⟨rfl, rfl⟩
  go_wp2_with (refine wpList_store_row rfl 38 _ _ rfl w.heap.size (hvl hz) rfl rfl 38 (hvl hz) HZ.out (hvl_size hz) rfl (hvl_one hz) ?_)
  refine bodyPost_ret (res_ct (p := 2) (u := 3) (ty := 38) (by kernel_rfl) _ _ w.heap.size 38 (hvl hz) (0, 0) _ rfl (setRow_heap _ _ _ _ _ _ HZ.out) Try.underlying38 rfl (hvl_size hz) rfl) rfl ?_
  rw [HPO.out]
  exact ⟨rfl, fr_rowBelow HB0.out (Nat.le_refl _)⟩
end Go.Proofs.Ytgcnbeigchppfaa.Head
