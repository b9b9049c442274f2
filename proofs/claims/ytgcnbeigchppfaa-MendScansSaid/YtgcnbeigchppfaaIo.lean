/- Get of the program. Conditions: a table, bytes in memory. -/
import Derived.Test.YtgcnbeigchppfaaIn
namespace Go.Proofs.Ytgcnbeigchppfaa.Head
open Go.RowKit Gen Fld
open Crc hiding hid

/-- The sum of a head is the right one. -/
def Sm (l : List Nat) : Prop := lev ((l.take 32).drop 28) = cs ((l.take 32).take 28)
instance (l : List Nat) : Decidable (Sm l) := by unfold Sm; exact inferInstance
def getE (l : List Nat) : Int := if ¬ Bgn l then 30 else if l.length < 32 then 10 else if ¬ Sm l then 33 else rdE (l.take 32)
def getH (l : List Nat) : Hh := if ¬ Bgn l then hz else if l.length < 32 then hz else if ¬ Sm l then hz else rdH (l.take 32)
set_option maxRecDepth 100000 in
theorem get_nil (v : Value) (w : World) : Calls Try.prog 60 #[.pointer none, v] w (HeadP w hz 2) := by
  have hz0 : (w.alloc (.cells (hvl hz) 38)).heap[w.heap.size]? = some (.cells (hvl hz) 38 (0, 0)) := heap_alloc_new _ _
  have HZ := hid hz0
  have HB0 := hid (below_new w (.cells (hvl hz) 38))
  have hpo : ∀ e w', HeadP w hz 2 e w' = (e = .returned (.tuple #[hv hz, .int .i64 2]) ∧ Below w.heap.size w w') := fun _ _ => rfl
  have HPO := hid hpo
  clear hz0 hpo
  go_enter Try.func60, Try.ntmps60
  go_wp2_with (refine wpList_store_row rfl 38 _ _ rfl w.heap.size (hvl hz) rfl rfl 38 (hvl hz) HZ.out (hvl_size hz) rfl (hvl_one hz) ?_)
  refine bodyPost_ret (res_ct (p := 4) (u := 5) (ty := 38) (by kernel_rfl) _ _ w.heap.size 38 (hvl hz) (0, 0) _ rfl (setRow_heap _ _ _ _ _ _ HZ.out) Try.underlying38 rfl (hvl_size hz) rfl) rfl ?_
  rw [HPO.out]
  exact ⟨rfl, fr_rowBelow HB0.out (Nat.le_refl _)⟩
set_option maxRecDepth 100000 in
set_option maxHeartbeats 1000000 in
theorem get_any {w : World} {g : Nat} (ht : Tab w g) {a : Option Addr} {l : List Nat} {cap : Nat} (hb : Byts w a l) (hc : l.length ≤ cap) (hm : l.length ≤ 1099511627776) :
    Calls Try.prog 60 #[.pointer (some ⟨g, 0, none⟩), .slice a l.length cap] w (HeadP w (getH l) (getE l)) := by
  have HBG := hid fun (w' : World) (hb' : Byts w' a l) => begins_any hb' hc hm
  have hpo : ∀ e w', HeadP w (getH l) (getE l) e w' = (e = .returned (.tuple #[hv (getH l), .int .i64 (getE l)]) ∧ Below w.heap.size w w') := fun _ _ => rfl
  have HPO := hid hpo
  have hz0 : (w.alloc (.cells (hvl hz) 38)).heap[w.heap.size]? = some (.cells (hvl hz) 38 (0, 0)) := heap_alloc_new _ _
  have HZ := hid hz0
  have HB0 := hid (below_new w (.cells (hvl hz) 38))
  have HBY := hid (hb.keep HB0.out)
  have HT := hid (ht.keep (HB0.out.block g ht.lt))
  have hge : getE l = if ¬ Bgn l then 30 else if l.length < 32 then 10 else if ¬ Sm l then 33 else rdE (l.take 32) := rfl
  have hgh : getH l = if ¬ Bgn l then hz else if l.length < 32 then hz else if ¬ Sm l then hz else rdH (l.take 32) := rfl
  have HGE := hid hge
  have HGH := hid hgh
  clear hpo hz0 hb ht hge hgh
  generalize getE l = ge at *
  generalize getH l = gh at *
  by_cases h1 : Bgn l
  · rw [decide_eq_true h1] at HBG
    have hge := HGE.out
    have hgh := HGH.out
    rw [if_neg (fun h => h h1)] at hge hgh
    by_cases h2 : l.length < 32
    · rw [if_pos h2] at hge hgh
      have HE := hid hge
      have HH := hid hgh
      have hl : (l.length : Int) < 32 := by omega
      clear hge hgh HGE HGH h1 h2
      go_enter Try.func60, Try.ntmps60
      go_wp2_with fail
      refine (HBG.out _ HBY.out).mono ?_
      rintro e w' ⟨rfl, rfl⟩
      go_wp2_with (refine wpList_store_row rfl 38 _ _ rfl w.heap.size (hvl hz) rfl rfl 38 (hvl hz) HZ.out (hvl_size hz) rfl (hvl_one hz) ?_)
      refine bodyPost_ret (res_ct (p := 4) (u := 5) (ty := 38) (by kernel_rfl) _ _ w.heap.size 38 (hvl hz) (0, 0) _ rfl (setRow_heap _ _ _ _ _ _ HZ.out) Try.underlying38 rfl (hvl_size hz) rfl) rfl ?_
      rw [HPO.out, HE.out, HH.out]
      exact ⟨rfl, fr_rowBelow HB0.out (Nat.le_refl _)⟩
    · rw [if_neg h2] at hge hgh
      have hl : ¬ (l.length : Int) < 32 := by omega
      have hc32 : 32 ≤ cap := by omega
      have hb32 := HBY.out.take 32
      have hl32 : (l.take 32).length = 32 := by rw [List.length_take]; omega
      obtain ⟨b, off, rfl⟩ := byts_at hb32 (by omega)
      have HSU := hid (sumof_any (m := 28) (cap := cap) HT.out hb32 hl32 (by omega) (by decide))
      have HRD := hid fun (w' : World) (hb' : Byts w' (some ⟨b, off, none⟩) (l.take 32)) => read_any (c := cap) hb' hl32
      have HB32 := hid hb32
      have hsm : decide (lev ((l.take 32).drop 28) = cs ((l.take 32).take 28)) = decide (Sm l) := rfl
      rw [hsm] at HSU
      clear hb32 hl32 hsm h1 h2
      by_cases h3 : Sm l
      · rw [if_neg (fun h => h h3)] at hge hgh
        rw [decide_eq_true h3] at HSU
        have HE := hid hge
        have HH := hid hgh
        clear hge hgh HGE HGH h3
        generalize cs ((l.take 32).take 28) = sv at *
        generalize l.take 32 = m at *
        go_enter Try.func60, Try.ntmps60
        go_wp2_with fail
        refine (HBG.out _ HBY.out).mono ?_
        rintro e w' ⟨rfl, rfl⟩
        go_wp2_with fail
        refine HSU.out.mono ?_
        rintro e w2 ⟨rfl, hb2⟩
        have HZ2 := hid ((hb2.block w.heap.size (World.block_lt_of_cell? _ _ (row_cell HZ.out 0 rfl))).trans HZ.out)
        have HB2 := hid (HB0.out.trans (hb2.mono HB0.out.size))
        have HR2 := hid (HRD.out _ (HB32.out.keep hb2))
        clear hb2
        go_wp2_with fail
        refine HR2.out.mono ?_
        rintro e w3 ⟨rfl, hb3⟩
        have HZ3 := hid ((hb3.block w.heap.size (World.block_lt_of_cell? _ _ (row_cell HZ2.out 0 rfl))).trans HZ2.out)
        have HB3 := hid (HB2.out.trans (hb3.mono HB2.out.size))
        clear hb3
        rw [show hv (rdH m) = .agg (hvl (rdH m)) from rfl]
        go_wp2_with (refine wpList_store_row rfl 38 _ _ rfl w.heap.size (hvl (rdH m)) rfl rfl 38 (hvl hz) HZ3.out (hvl_size (rdH m)) rfl (hvl_one (rdH m)) ?_)
        refine bodyPost_ret (res_ct (p := 4) (u := 5) (ty := 38) (by kernel_rfl) _ _ w.heap.size 38 (hvl (rdH m)) (0, 0) _ rfl (setRow_heap _ _ _ _ _ _ HZ3.out) Try.underlying38 rfl (hvl_size (rdH m)) rfl) rfl ?_
        rw [HPO.out, HE.out, HH.out]
        exact ⟨rfl, fr_rowBelow HB3.out (Nat.le_refl _)⟩
      · rw [if_pos h3] at hge hgh
        rw [decide_eq_false h3] at HSU
        have HE := hid hge
        have HH := hid hgh
        clear hge hgh HGE HGH h3
        generalize cs ((l.take 32).take 28) = sv at *
        generalize l.take 32 = m at *
        go_enter Try.func60, Try.ntmps60
        go_wp2_with fail
        refine (HBG.out _ HBY.out).mono ?_
        rintro e w' ⟨rfl, rfl⟩
        go_wp2_with fail
        refine HSU.out.mono ?_
        rintro e w2 ⟨rfl, hb2⟩
        have HZ2 := hid ((hb2.block w.heap.size (World.block_lt_of_cell? _ _ (row_cell HZ.out 0 rfl))).trans HZ.out)
        have HB2 := hid (HB0.out.trans (hb2.mono HB0.out.size))
        clear hb2
        go_wp2_with (refine wpList_store_row rfl 38 _ _ rfl w.heap.size (hvl hz) rfl rfl 38 (hvl hz) HZ2.out (hvl_size hz) rfl (hvl_one hz) ?_)
        refine bodyPost_ret (res_ct (p := 4) (u := 5) (ty := 38) (by kernel_rfl) _ _ w.heap.size 38 (hvl hz) (0, 0) _ rfl (setRow_heap _ _ _ _ _ _ HZ2.out) Try.underlying38 rfl (hvl_size hz) rfl) rfl ?_
        rw [HPO.out, HE.out, HH.out]
        exact ⟨rfl, fr_rowBelow HB2.out (Nat.le_refl _)⟩
  · rw [decide_eq_false h1] at HBG
    have hge := HGE.out
    have hgh := HGH.out
    rw [if_pos h1] at hge hgh
    have HE := hid hge
    have HH := hid hgh
    clear hge hgh HGE HGH h1
    go_enter Try.func60, Try.ntmps60
    go_wp2_with fail
    refine (HBG.out _ HBY.out).mono ?_
    rintro e w' ⟨rfl, rfl⟩
    go_wp2_with (refine wpList_store_row rfl 38 _ _ rfl w.heap.size (hvl hz) rfl rfl 38 (hvl hz) HZ.out (hvl_size hz) rfl (hvl_one hz) ?_)
    refine bodyPost_ret (res_ct (p := 4) (u := 5) (ty := 38) (by kernel_rfl) _ _ w.heap.size 38 (hvl hz) (0, 0) _ rfl (setRow_heap _ _ _ _ _ _ HZ.out) Try.underlying38 rfl (hvl_size hz) rfl) rfl ?_
    rw [HPO.out, HE.out, HH.out]
    exact ⟨rfl, fr_rowBelow HB0.out (Nat.le_refl _)⟩
end Go.Proofs.Ytgcnbeigchppfaa.Head
