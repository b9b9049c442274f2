/- A tail that is taken, of the program. Conditions: a taker with as many bytes left as there are said to be. -/
import Derived.Test.YthjjonbkfkpkmaaGreatDoorY11
import Derived.Deep.RegionWith
namespace Go.Proofs.YthjjonbkfkpkmaaGreatDoor.Tl
open Go.RowKit Gen Fld Inf
open Crc hiding hid

/-- The places that bytes say. -/
def plc (l : List Nat) (n : Nat) : List Int := (List.range n).map fun i => (at_ l (14 + 5 * i) 5 : Int)
set_option maxRecDepth 100000 in
theorem plc_len (l : List Nat) (n : Nat) : (plc l n).length = n := by unfold plc; rw [List.length_map, List.length_range]
set_option maxRecDepth 100000 in
theorem plc_at (l : List Nat) (n i : Nat) (h : i < n) : (plc l n)[i]? = some (at_ l (14 + 5 * i) 5 : Int) := by
  unfold plc
  rw [List.getElem?_map, List.getElem?_range h]
  rfl
set_option maxRecDepth 100000 in
theorem at5_lt {l : List Nat} (h : ∀ b ∈ l, b < 256) (j : Nat) : at_ l j 5 < 1099511627776 := by
  have h1 := lev_lt ((l.drop j).take 5) (fun b hb => h b (List.mem_of_mem_drop (List.mem_of_mem_take hb)))
  have h2 : ((l.drop j).take 5).length ≤ 5 := by rw [List.length_take]; omega
  have h3 : 2 ^ (8 * ((l.drop j).take 5).length) ≤ 2 ^ 40 := Nat.pow_le_pow_right (by decide) (by omega)
  have : (2 : Nat) ^ 40 = 1099511627776 := by decide
  unfold at_
  omega
set_option maxRecDepth 100000 in
/-- A row of numbers. -/
theorem nts_row {w : World} {g n : Nat} {l : List Nat} (h : w.rowIs g 3 n (fun i => .int .i64 (at_ l (14 + 5 * i) 5 : Int))) : Nts w (some ⟨g, 0, none⟩) (plc l n) :=
  ⟨fun j x hj => by
    have hjn : j < n := by
      have := (List.getElem?_eq_some_iff.1 hj).1
      rwa [plc_len] at this
    rw [plc_at l n j hjn] at hj
    cases hj
    exact ⟨g, 0, rfl, by rw [Nat.zero_add]; exact h.cell hjn⟩⟩
set_option maxRecDepth 100000 in
theorem Tryz.info3 : (Tryz.prog.info? 3).map (fun i => (i.zero, i.size, i.bytes)) = some (some (.int .i64 0), 1, 8) := by kernel_rfl
set_option maxRecDepth 100000 in
theorem Tryz.size43 : (Tryz.prog.info? 43).map (·.size) = some 3 := by kernel_rfl
set_option maxRecDepth 100000 in
/-- A box of a tail with a cell set. -/
theorem Tx.set0 {w : World} {g : Nat} {c : Int} {s : Nat} {a : Option Addr} {n cap : Nat} (b : Tx w g c s a n cap) (c' : Int) : Tx (w.setCell ⟨g, 0, none⟩ (.int .i64 c')) g c' s a n cap := by
  refine ⟨?_⟩; rw [heap_setCell_same w g 0 _ _ _ b.row]; rfl
set_option maxRecDepth 100000 in
theorem Tx.set1 {w : World} {g : Nat} {c : Int} {s : Nat} {a : Option Addr} {n cap : Nat} (b : Tx w g c s a n cap) (s' : Nat) : Tx (w.setCell ⟨g, 1, none⟩ (.int .u32 (s' : Int))) g c s' a n cap := by
  refine ⟨?_⟩; rw [heap_setCell_same w g 1 _ _ _ b.row]; rfl
set_option maxRecDepth 100000 in
theorem Tx.set2 {w : World} {g : Nat} {c : Int} {s : Nat} {a : Option Addr} {n cap : Nat} (b : Tx w g c s a n cap) (a' : Option Addr) (n' cap' : Nat) : Tx (w.setCell ⟨g, 2, none⟩ (.slice a' n' cap')) g c s a' n' cap' := by
  refine ⟨?_⟩; rw [heap_setCell_same w g 2 _ _ _ b.row]; rfl
set_option maxRecDepth 100000 in
theorem Tx.set {w w' : World} {g : Nat} {c : Int} {s : Nat} {a : Option Addr} {n cap : Nat} (b : Tx w g c s a n cap) {X : Nat → Prop} (h : Fr X w w') (hg : ¬ X g) : Tx w' g c s a n cap := ⟨(h.block g b.lt hg).trans b.row⟩
def TTakP (w : World) (q : Nat) (l : List Nat) (n : Nat) (e : Ending) (w' : World) : Prop :=
  ∃ g, e = .returned (.agg #[.int .i64 (at_ l 2 4 : Int), .int .u32 (at_ l 6 4 : Int), .slice (some ⟨g, 0, none⟩) n n]) ∧ w.heap.size ≤ g ∧ Nts w' (some ⟨g, 0, none⟩) (plc l n) ∧ TkS w' q ⟨0, l.drop (14 + 5 * n), 14 + 5 * n⟩ ∧ Fr (fun b => b = q) w w'
set_option maxRecDepth 100000 in
set_option maxHeartbeats 4000000 in
theorem ttaken_any (q : Nat) (l : List Nat) (n : Nat) (hn : np l = n) (hn16 : n ≤ 16777216) (w : World) (h : TkS w q ⟨0, l, 0⟩) (hl : 14 + 5 * n ≤ l.length) :
    Calls Tryz.prog 115 #[.pointer (some ⟨q, 0, none⟩)] w (TTakP w q l n) := by
  have hq := h.lt
  have hlt : ∀ b ∈ l, b < 256 := TkS.blt2 h
  have hrw : ∀ w, TkS w q ⟨0, l, 0⟩ → Calls Tryz.prog 109 #[.pointer (some ⟨q, 0, none⟩), .int .i64 2] w fun e w' => ∃ v, e = .returned v ∧ TkS w' q ⟨0, l.drop 2, 2⟩ ∧ Fr (fun b => b = q) w w' := fun w h => by
    have e := nx_ok (s := ⟨0, l, 0⟩) (k := 2) (f := false) rfl (fun h => by cases h) (by show 2 ≤ l.length; omega)
    refine (traw_any h 2).mono ?_
    rintro e' w' ⟨ao, cap, rfl, _, h2, h3, _⟩
    rw [show ((2 : Nat) : Int) = 2 from rfl] at e
    rw [e] at h2
    exact ⟨_, rfl, h2, h3⟩
  have HRW := hid hrw
  have HU1 := hid fun (w : World) (h : TkS w q ⟨0, l.drop 2, 2⟩) => tku_at 2 4 h (by decide) (by decide) (by omega)
  have HU2 := hid fun (w : World) (h : TkS w q ⟨0, l.drop 6, 6⟩) => tku_at 6 4 h (by decide) (by decide) (by omega)
  have HU3 := hid fun (w : World) (h : TkS w q ⟨0, l.drop 10, 10⟩) => (show Calls Tryz.prog 73 #[.pointer (some ⟨q, 0, none⟩), .int .i64 4] w (Took w q ⟨0, l.drop 14, 14⟩ (.int .u64 (n : Int))) from by
    have := tku_at 10 4 h (by decide) (by decide) (by omega)
    rw [show at_ l 10 4 = n from hn] at this
    exact this)
  have HUK := hid fun (k : Nat) (hk : k < n) (w : World) (h : TkS w q ⟨0, l.drop (14 + 5 * k), 14 + 5 * k⟩) => (show Calls Tryz.prog 73 #[.pointer (some ⟨q, 0, none⟩), .int .i64 5] w (Took w q ⟨0, l.drop (14 + 5 * (k + 1)), 14 + 5 * (k + 1)⟩ (.int .u64 (at_ l (14 + 5 * k) 5 : Int))) from by
    have := tku_at (14 + 5 * k) 5 h (by decide) (by decide) (by omega)
    rw [show 14 + 5 * k + 5 = 14 + 5 * (k + 1) from by omega] at this
    exact this)
  have u1 := i64_small _ (at_lt hlt 2 4 (by decide))
  have u2 : IntKind.u32.wrap (at_ l 6 4 : Int) = at_ l 6 4 := by have := at_lt hlt 6 4 (by decide); rw [wrap_u32n]; omega
  have HU5 := hid fun k => (show wrap64 (at_ l (14 + 5 * k) 5 : Int) = at_ l (14 + 5 * k) 5 ∧ IntKind.i64.wrap (at_ l (14 + 5 * k) 5 : Int) = at_ l (14 + 5 * k) 5 from ⟨by have := at5_lt hlt (14 + 5 * k); unfold wrap64; omega, IntWalk.i64_in _ (by have := at5_lt hlt (14 + 5 * k); omega)⟩)
  have hmk : ∀ w : World, (Instr.makeSlice 41 (.int .u64 (n : Int)) (.int .u64 (n : Int))).run Tryz.prog w = .ok (.slice (some ⟨w.heap.size, 0, none⟩) n n) (w.alloc (.cells (madeCells #[.int .i64 0] n) 3)) := fun w =>
    run_make_row' (P := Tryz.prog) 41 3 (.int .i64 0) 8 Tryz.underlying41 Tryz.info3 rfl .u64 .u64 n (by omega) (by omega) w
  have HPO := hid (show ∀ e w', TTakP w q l n e w' = ∃ g, e = .returned (.agg #[.int .i64 (at_ l 2 4 : Int), .int .u32 (at_ l 6 4 : Int), .slice (some ⟨g, 0, none⟩) n n]) ∧ w.heap.size ≤ g ∧ Nts w' (some ⟨g, 0, none⟩) (plc l n) ∧ TkS w' q ⟨0, l.drop (14 + 5 * n), 14 + 5 * n⟩ ∧ Fr (fun b => b = q) w w' from fun _ _ => rfl)
  have HB0 := hid (below_new w (.cells #[.int .i64 0, .int .u32 0, .slice none 0 0] 43))
  have HT0 := hid (h.below HB0.out)
  have HZ0 := hid (show Tx (w.alloc (.cells #[.int .i64 0, .int .u32 0, .slice none 0 0] 43)) w.heap.size 0 0 none 0 0 from Tx.new w 0 0 none 0 0)
  clear h hlt hrw hl
  generalize at_ l 2 4 = n1 at *
  generalize at_ l 6 4 = n2 at *
  go_enter Tryz.func115, Tryz.ntmps115
  go_wp2_with fail
  refine (HRW.out _ HT0.out).mono ?_
  rintro e w1 ⟨v, rfl, ht1, hf1⟩
  have HZ1 := hid (HZ0.out.set hf1 (by omega))
  have HF1 := hid ((fr_below (q := q) HB0.out).trans hf1)
  have hbn := below_new w1 (.cells #[.int .i64 0, .int .u32 0, .slice none 0 0] 43)
  have hsz : w.heap.size < w1.heap.size := HZ1.out.lt
  have HT2 := hid (ht1.below hbn)
  have HZ2 := hid (HZ1.out.below hbn hsz)
  have HX2 := hid (show Tx (w1.alloc (.cells #[.int .i64 0, .int .u32 0, .slice none 0 0] 43)) w1.heap.size 0 0 none 0 0 from Tx.new w1 0 0 none 0 0)
  have HF2 := hid (HF1.out.trans (fr_below (q := q) hbn))
  have HN := hid (show q < w1.heap.size ∧ w.heap.size < w1.heap.size ∧ q < w.heap.size from ⟨by omega, hsz, hq⟩)
  clear ht1 hf1 hbn hsz hq HZ0 HB0 HT0 HZ1 HF1 HRW
  go_wp2_with fail
  refine (HU1.out _ HT2.out).mono ?_
  rintro e v1 ⟨rfl, ht, hf⟩
  have hx := HX2.out.set hf (by have := HN.out.1; omega)
  have hz := HZ2.out.set hf (by have := HN.out.2.2; omega)
  have cc := hx.c0
  have ff := hx.fz 0
  have HX2 := hid (hx.set0 (n1 : Int))
  have HZ2 := hid (hz.set (frq (q := w1.heap.size) 0 (.int .i64 (n1 : Int))) (by have := HN.out.2.1; omega))
  have HT2 := hid (tks_other ht (frq (q := w1.heap.size) 0 (.int .i64 (n1 : Int))) HN.out.1)
  have HF2 := hid (fr_setNew (HF2.out.trans hf) (p := ⟨w1.heap.size, 0, none⟩) (u := .int .i64 (n1 : Int)) (by have := HN.out.2.1; show w.heap.size ≤ w1.heap.size; omega))
  clear ht hf hx hz
  go_wp2_with fail
  refine (HU2.out _ HT2.out).mono ?_
  rintro e v2 ⟨rfl, ht, hf⟩
  have hx := HX2.out.set hf (by have := HN.out.1; omega)
  have hz := HZ2.out.set hf (by have := HN.out.2.2; omega)
  have cc2 := hx.c1
  have ff2 := hx.fz 1
  have HX2 := hid (hx.set1 n2)
  have HZ2 := hid (hz.set (frq (q := w1.heap.size) 1 (.int .u32 (n2 : Int))) (by have := HN.out.2.1; omega))
  have HT2 := hid (tks_other ht (frq (q := w1.heap.size) 1 (.int .u32 (n2 : Int))) HN.out.1)
  have HF2 := hid (fr_setNew (HF2.out.trans hf) (p := ⟨w1.heap.size, 1, none⟩) (u := .int .u32 (n2 : Int)) (by have := HN.out.2.1; show w.heap.size ≤ w1.heap.size; omega))
  clear ht hf hx hz cc ff
  go_wp2_with fail
  refine (HU3.out _ HT2.out).mono ?_
  rintro e v3 ⟨rfl, ht, hf⟩
  have hx := HX2.out.set hf (by have := HN.out.1; omega)
  have hz := HZ2.out.set hf (by have := HN.out.2.2; omega)
  have hbn := below_new v3 (.cells (madeCells #[.int .i64 0] n) 3)
  have hx' := hx.below hbn hx.lt
  have hz' := hz.below hbn hz.lt
  have cc3 := hx'.c2
  have ff3 := hx'.fz 2
  have HX2 := hid (hx'.set2 (some ⟨v3.heap.size, 0, none⟩) n n)
  have HZ2 := hid (hz'.set (frq (q := w1.heap.size) 2 (.slice (some ⟨v3.heap.size, 0, none⟩) n n)) (by have := HN.out.2.1; omega))
  have HT2 := hid (tks_other (ht.below hbn) (frq (q := w1.heap.size) 2 (.slice (some ⟨v3.heap.size, 0, none⟩) n n)) HN.out.1)
  have HF2 := hid (fr_setNew ((HF2.out.trans hf).trans (fr_below (q := q) hbn)) (p := ⟨w1.heap.size, 2, none⟩) (u := .slice (some ⟨v3.heap.size, 0, none⟩) n n) (by have := HN.out.2.1; show w.heap.size ≤ w1.heap.size; omega))
  have HN2 := hid (show w1.heap.size < v3.heap.size from hx.lt)
  have hrow := (World.rowIs_made v3 (.int .i64 0) n 3)
  have HR2 := hid (show ((v3.alloc (.cells (madeCells #[.int .i64 0] n) 3)).setCell ⟨w1.heap.size, 2, none⟩ (.slice (some ⟨v3.heap.size, 0, none⟩) n n)).rowIs v3.heap.size 3 n (fun i => if i < 0 then .int .i64 (at_ l (14 + 5 * i) 5 : Int) else .int .i64 0) from by
    obtain ⟨c, h1, h2, h3⟩ := hrow
    exact ⟨c, (heap_setCell_other _ _ _ _ (by have := HN2.out; simp; omega)).trans h1, h2, fun i hi => (h3 i hi).trans (congrArg some (if_neg (Nat.not_lt_zero i)).symm)⟩)
  clear ht hf hx hz hbn hx' hz' hrow cc2 ff2
  go_wp2_with fail
  generalize (v3.alloc (.cells (madeCells #[.int .i64 0] n) 3)).setCell ⟨w1.heap.size, 2, none⟩ (.slice (some ⟨v3.heap.size, 0, none⟩) n n) = w4 at *
  generalize v3.heap.size = gp at *
  clear u1 u2 hmk cc3 ff3
  go_loopg [4, 22] n (fun gg v i wr => ∃ k : Nat, k ≤ n ∧ gg = n - k ∧ i = .int .i64 k ∧ TkS wr q ⟨0, l.drop (14 + 5 * k), 14 + 5 * k⟩ ∧ Fr (fun b => b = q) w wr ∧ Tx wr w1.heap.size (n1 : Int) n2 (some ⟨gp, 0, none⟩) n n ∧ Tx wr w.heap.size 0 0 none 0 0 ∧ wr.rowIs gp 3 n (fun i => if i < k then .int .i64 (at_ l (14 + 5 * i) 5 : Int) else .int .i64 0))
  case atStart => exact ⟨0, Nat.zero_le _, rfl, rfl, HT2.out, HF2.out, HX2.out, HZ2.out, HR2.out⟩
  case round =>
    obtain ⟨k, hk, hgg, rfl, htk, hfr, hxr, hzr, hrr⟩ := hrel
    have HG := hid hgg
    have HTK := hid htk
    have HFR := hid hfr
    have HXR := hid hxr
    have HZR := hid hzr
    have HRR := hid hrr
    have c2 := hxr.c2
    clear hgg htk hfr hxr hzr hrr HT2 HF2 HX2 HZ2 HR2
    by_cases hlt : k < n
    · have hlt2 : (k : Int) < (n : Int) := by omega
      have bd : Below wr.heap.size wr wr.drew := drew1 wr
      have HK := hid (HUK.out k hlt wr.drew (HTK.out.below bd))
      have d2 := (HXR.out.below bd HXR.out.lt).c2
      have hu1 := (HU5.out k).1
      have hu2 := (HU5.out k).2
      have HV := hid (show ∀ i, (if i < k + 1 then Value.int .i64 (at_ l (14 + 5 * i) 5 : Int) else .int .i64 0) = if i = k then Value.int .i64 (at_ l (14 + 5 * k) 5 : Int) else if i < k then Value.int .i64 (at_ l (14 + 5 * i) 5 : Int) else .int .i64 0 from fun i => by
        by_cases h1 : i = k
        · subst h1; rw [if_pos (by omega), if_pos rfl]
        · rw [if_neg h1]
          by_cases h2 : i < k
          · rw [if_pos h2, if_pos (by omega)]
          · rw [if_neg h2, if_neg (by omega)])
      have HKL := hid hlt
      generalize at_ l (14 + 5 * k) 5 = x at *
      go_wp2_with fail
      go_region_with (first
        | (go_at_call 73; (with_reducible refine HK.out.mono ?_); rintro e w7 ⟨rfl, ht7, hf7⟩; have x7 := HXR.out.set ((fr_below (q := q) bd).trans hf7) (by have := HN.out.1; omega); have c7 := x7.c2; have r7 := (HRR.out.of_block (((fr_below (q := q) bd).trans hf7).block gp HRR.out.lt (by have := HN.out.1; have := HN2.out; omega))); have rc7 := r7.cell HKL.out; have rf7 := r7.frozen k))
      all_goals
        have HT8 := hid (tks_other ht7 (frq (q := gp) k (.int .i64 (x : Int))) (by have := HN.out.1; have := HN2.out; omega))
        have HF8 := hid (fr_setNew ((HFR.out.trans (fr_below (q := q) bd)).trans hf7) (p := ⟨gp, k, none⟩) (u := .int .i64 (x : Int)) (by have := HN.out.2.1; have := HN2.out; show w.heap.size ≤ gp; omega))
        have HX8 := hid (x7.set (frq (q := gp) k (.int .i64 (x : Int))) (by have := HN2.out; omega))
        have HZ8 := hid ((HZR.out.set ((fr_below (q := q) bd).trans hf7) (by have := HN.out.2.2; omega)).set (frq (q := gp) k (.int .i64 (x : Int))) (by have := HN.out.2.1; have := HN2.out; omega))
        have HR8 := hid ((r7.set k (.int .i64 (x : Int))).congr fun i _ => (HV.out i).symm)
        clear ht7 hf7 x7 c7 r7 rc7 rf7 c2 d2 bd hu1 hu2
        go_wp2_with fail
        go_roundg (n - (k + 1))
        case measure => rw [HG.out]; omega
        case rel => exact ⟨k + 1, by omega, rfl, by go_num, HT8.out, HF8.out, HX8.out, HZ8.out, HR8.out⟩
    · have hge : ¬ (k : Int) < (n : Int) := by omega
      obtain rfl : k = n := by omega
      clear c2
      go_wp2_with (first
        | (refine wpList_load_row rfl 43 _ rfl w1.heap.size rfl 43 #[.int .i64 (n1 : Int), .int .u32 (n2 : Int), .slice (some ⟨gp, 0, none⟩) k k] (0, 0) _ HXR.out.row Tryz.underlying43 rfl Tryz.size43 ?_)
        | (refine wpList_store_row rfl 43 _ _ rfl w.heap.size #[.int .i64 (n1 : Int), .int .u32 (n2 : Int), .slice (some ⟨gp, 0, none⟩) k k] rfl rfl 43 #[.int .i64 0, .int .u32 0, .slice none 0 0] HZR.out.row Tryz.size43 rfl (by simp [Value.oneCell']) ?_))
      refine bodyPost_ret (results_cell_row (p := 2) (ty := 43) (by kernel_rfl) _ _ w.heap.size 43 #[.int .i64 (n1 : Int), .int .u32 (n2 : Int), .slice (some ⟨gp, 0, none⟩) k k] (0, 0) _ rfl (setRow_heap _ _ _ _ _ _ HZR.out.row) Tryz.underlying43 rfl Tryz.size43) rfl ?_
      rw [HPO.out]
      refine ⟨gp, rfl, by have := HN.out.2.1; have := HN2.out; omega, nts_row ((HRR.out.congr fun i hi => by rw [if_pos hi]).of_block (setRow_other _ _ _ _ (by have := HN.out.2.1; have := HN2.out; omega))), tks_other HTK.out (fr_setRow _ _ _) HN.out.2.2, fr_setRowNew HFR.out (Nat.le_refl _)⟩
end Go.Proofs.YthjjonbkfkpkmaaGreatDoor.Tl
