/- Info that is taken, of the program. Conditions: a taker with at least 15 bytes left. -/
import Derived.Test.YthjjonbkfkpkmaaGreatDoorY07
namespace Go.Proofs.YthjjonbkfkpkmaaGreatDoor.Inf
open Go.RowKit Gen Fld
open Crc hiding hid

/-- The number of so many bytes at a place. -/
def at_ (l : List Nat) (j n : Nat) : Nat := lev ((l.drop j).take n)
/-- The info that bytes say. -/
def inl (l : List Nat) : If := ⟨(at_ l 4 1 : Int), ⟨(at_ l 5 1 : Int), (at_ l 6 1 : Int), (at_ l 8 3 : Int)⟩, (at_ l 11 4 : Int), (at_ l 7 1 : Int)⟩
def iz : If := ⟨0, ⟨0, 0, 0⟩, 0, 0⟩
set_option maxRecDepth 100000 in
theorem Tryz.size25 : (Tryz.prog.info? 25).map (·.size) = some 6 := by kernel_rfl
set_option maxRecDepth 100000 in
theorem ivl_size (i : If) : (Tryz.prog.info? 25).map (·.size) = some (ivl i).size := Tryz.size25
set_option maxRecDepth 100000 in
theorem ivl_one (i : If) : (ivl i).all (·.oneCell') = true := by simp [ivl, Value.oneCell']
set_option maxRecDepth 100000 in
theorem at_lt {l : List Nat} (h : ∀ b ∈ l, b < 256) (j n : Nat) (hn : n ≤ 4) : at_ l j n < 4294967296 := by
  have h1 := lev_lt ((l.drop j).take n) (fun b hb => h b (List.mem_of_mem_drop (List.mem_of_mem_take hb)))
  have h2 : ((l.drop j).take n).length ≤ 4 := by rw [List.length_take]; omega
  have h3 : 2 ^ (8 * ((l.drop j).take n).length) ≤ 2 ^ 32 := Nat.pow_le_pow_right (by decide) (by omega)
  have : (2 : Nat) ^ 32 = 4294967296 := by decide
  unfold at_
  omega
set_option maxRecDepth 100000 in
theorem TkS.blt2 {w : World} {q : Nat} {s : TS} (h : TkS w q s) : ∀ b ∈ s.l, b < 256 := by
  obtain ⟨a, cap, ht, _, _⟩ := h
  exact ht.bytes.lt
set_option maxRecDepth 100000 in
/-- One step of the taker, at a place. -/
theorem tku_at {w : World} {q : Nat} {l : List Nat} (j n : Nat) (h : TkS w q ⟨0, l.drop j, j⟩) (h1 : 1 ≤ n) (h8 : n ≤ 8) (hl : j + n ≤ l.length) :
    Calls Tryz.prog 73 #[.pointer (some ⟨q, 0, none⟩), .int .i64 (n : Int)] w (Took w q ⟨0, l.drop (j + n), j + n⟩ (.int .u64 (at_ l j n : Int))) := by
  have := tku_ok h n h1 h8 (by rw [List.length_drop]; omega)
  rw [List.drop_drop] at this
  exact this
def TakP (w : World) (q : Nat) (l : List Nat) (e : Ending) (w' : World) : Prop := e = .returned (iv (inl l)) ∧ TkS w' q ⟨0, l.drop 15, 15⟩ ∧ Fr (fun b => b = q) w w'
set_option maxRecDepth 100000 in
theorem bx_set {w : World} {g : Nat} {i i' : If} (b : Bx w g i) (j : Nat) (v : Value) (h : (ivl i).set! j v = ivl i') : Bx (w.setCell ⟨g, j, none⟩ v) g i' := by
  refine ⟨?_⟩
  rw [heap_setCell_same w g j _ _ _ b.row, ← h]
  rfl
set_option maxRecDepth 100000 in
set_option maxHeartbeats 2000000 in
theorem taken_any (q : Nat) (l : List Nat) (w : World) (h : TkS w q ⟨0, l, 0⟩) (hl : 15 ≤ l.length) :
    Calls Tryz.prog 71 #[.pointer (some ⟨q, 0, none⟩)] w (TakP w q l) := by
  have hq := h.lt
  have hlt := TkS.blt2 h
  have hrw : ∀ w, TkS w q ⟨0, l, 0⟩ → Calls Tryz.prog 109 #[.pointer (some ⟨q, 0, none⟩), .int .i64 4] w fun e w' => ∃ v, e = .returned v ∧ TkS w' q ⟨0, l.drop 4, 4⟩ ∧ Fr (fun b => b = q) w w' := fun w h => by
    have e := nx_ok (s := ⟨0, l, 0⟩) (k := 4) (f := false) rfl (fun h => by cases h) (by show 4 ≤ l.length; omega)
    refine (traw_any h 4).mono ?_
    rintro e' w' ⟨ao, cap, rfl, _, h2, h3, _⟩
    rw [show ((4 : Nat) : Int) = 4 from rfl] at e
    rw [e] at h2
    exact ⟨_, rfl, h2, h3⟩
  have HRW := hid hrw
  have HU1 := hid fun (w : World) (h : TkS w q ⟨0, l.drop 4, 4⟩) => tku_at 4 1 h (by decide) (by decide) (by omega)
  have HU2 := hid fun (w : World) (h : TkS w q ⟨0, l.drop 5, 5⟩) => tku_at 5 1 h (by decide) (by decide) (by omega)
  have HU3 := hid fun (w : World) (h : TkS w q ⟨0, l.drop 6, 6⟩) => tku_at 6 1 h (by decide) (by decide) (by omega)
  have HU4 := hid fun (w : World) (h : TkS w q ⟨0, l.drop 7, 7⟩) => tku_at 7 1 h (by decide) (by decide) (by omega)
  have HU5 := hid fun (w : World) (h : TkS w q ⟨0, l.drop 8, 8⟩) => tku_at 8 3 h (by decide) (by decide) (by omega)
  have HU6 := hid fun (w : World) (h : TkS w q ⟨0, l.drop 11, 11⟩) => tku_at 11 4 h (by decide) (by decide) (by omega)
  have u1 := i64_small _ (at_lt hlt 4 1 (by decide)); have u2 := i64_small _ (at_lt hlt 5 1 (by decide)); have u3 := i64_small _ (at_lt hlt 6 1 (by decide)); have u4 := i64_small _ (at_lt hlt 7 1 (by decide)); have u5 := i64_small _ (at_lt hlt 8 3 (by decide)); have u6 := i64_small _ (at_lt hlt 11 4 (by decide))
  have HPO := hid (show ∀ e w', TakP w q l e w' = (e = .returned (iv ⟨(at_ l 4 1 : Int), ⟨(at_ l 5 1 : Int), (at_ l 6 1 : Int), (at_ l 8 3 : Int)⟩, (at_ l 11 4 : Int), (at_ l 7 1 : Int)⟩) ∧ TkS w' q ⟨0, l.drop 15, 15⟩ ∧ Fr (fun b => b = q) w w') from fun _ _ => rfl)
  have HB0 := hid (below_new w (.cells (ivl iz) 25))
  have HT0 := hid (h.below HB0.out)
  have HZ0 := hid (Bx.new w iz)
  clear h hlt hrw hl
  generalize at_ l 4 1 = n1 at *
  generalize at_ l 5 1 = n2 at *
  generalize at_ l 6 1 = n3 at *
  generalize at_ l 7 1 = n4 at *
  generalize at_ l 8 3 = n5 at *
  generalize at_ l 11 4 = n6 at *
  go_enter Tryz.func71, Tryz.ntmps71
  go_wp2_with fail
  refine (HRW.out _ HT0.out).mono ?_
  rintro e w1 ⟨v, rfl, ht1, hf1⟩
  have HZ1 := hid (show Bx w1 w.heap.size iz from ⟨(hf1.block _ HZ0.out.lt (by omega)).trans HZ0.out.row⟩)
  have HF1 := hid ((fr_below (q := q) HB0.out).trans hf1)
  have hbn := below_new w1 (.cells (ivl iz) 25)
  have hsz : w.heap.size < w1.heap.size := HZ1.out.lt
  have HS := hid (show q < w1.heap.size from Nat.lt_of_lt_of_le hq HF1.out.size)
  have HT2 := hid (ht1.below hbn)
  have HZ2 := hid (HZ1.out.below hbn hsz)
  have HX2 := hid (Bx.new w1 iz)
  have HF2 := hid (HF1.out.trans (fr_below (q := q) hbn))
  have HN := hid (show q < w1.heap.size ∧ w.heap.size < w1.heap.size ∧ q < w.heap.size from ⟨HS.out, hsz, hq⟩)
  clear ht1 hf1 hbn hsz hq HZ0 HB0 HT0 HZ1 HF1 HS HRW
  go_wp2_with fail
  refine (HU1.out _ HT2.out).mono ?_
  rintro e v1 ⟨rfl, ht, hf⟩
  have hx : Bx v1 w1.heap.size _ := ⟨(hf.block _ HX2.out.lt (by have := HN.out.1; omega)).trans HX2.out.row⟩
  have hzz : Bx v1 w.heap.size iz := ⟨(hf.block _ HZ2.out.lt (by have := HN.out.2.2; omega)).trans HZ2.out.row⟩
  have hcc : v1.cell? ⟨w1.heap.size, 0, none⟩ = some (.int .i64 0) := hx.c0
  have hcf := hx.fz 0
  have HX2 := hid (bx_set hx 0 (.int .i64 (n1 : Int)) (i' := ⟨(n1 : Int), ⟨0, 0, 0⟩, 0, 0⟩) rfl)
  have HZ2 := hid (show Bx (v1.setCell ⟨w1.heap.size, 0, none⟩ (.int .i64 (n1 : Int))) w.heap.size iz from ⟨(heap_setCell_other _ _ _ _ (by have := HN.out.2.1; simp; omega)).trans hzz.row⟩)
  have HT2 := hid (tks_other ht (frq (q := w1.heap.size) 0 (.int .i64 (n1 : Int))) HN.out.1)
  have HF2 := hid (fr_setNew (HF2.out.trans hf) (p := ⟨w1.heap.size, 0, none⟩) (u := .int .i64 (n1 : Int)) (by have := HN.out.2.1; show w.heap.size ≤ w1.heap.size; omega))
  clear ht hf hx hzz
  go_wp2_with fail
  refine (HU2.out _ HT2.out).mono ?_
  rintro e v2 ⟨rfl, ht, hf⟩
  have hx : Bx v2 w1.heap.size _ := ⟨(hf.block _ HX2.out.lt (by have := HN.out.1; omega)).trans HX2.out.row⟩
  have hzz : Bx v2 w.heap.size iz := ⟨(hf.block _ HZ2.out.lt (by have := HN.out.2.2; omega)).trans HZ2.out.row⟩
  have hcc : v2.cell? ⟨w1.heap.size, 1, none⟩ = some (.int .i64 0) := hx.c1
  have hcf := hx.fz 1
  have HX2 := hid (bx_set hx 1 (.int .i64 (n2 : Int)) (i' := ⟨(n1 : Int), ⟨(n2 : Int), 0, 0⟩, 0, 0⟩) rfl)
  have HZ2 := hid (show Bx (v2.setCell ⟨w1.heap.size, 1, none⟩ (.int .i64 (n2 : Int))) w.heap.size iz from ⟨(heap_setCell_other _ _ _ _ (by have := HN.out.2.1; simp; omega)).trans hzz.row⟩)
  have HT2 := hid (tks_other ht (frq (q := w1.heap.size) 1 (.int .i64 (n2 : Int))) HN.out.1)
  have HF2 := hid (fr_setNew (HF2.out.trans hf) (p := ⟨w1.heap.size, 1, none⟩) (u := .int .i64 (n2 : Int)) (by have := HN.out.2.1; show w.heap.size ≤ w1.heap.size; omega))
  clear ht hf hx hzz
  go_wp2_with fail
  refine (HU3.out _ HT2.out).mono ?_
  rintro e v3 ⟨rfl, ht, hf⟩
  have hx : Bx v3 w1.heap.size _ := ⟨(hf.block _ HX2.out.lt (by have := HN.out.1; omega)).trans HX2.out.row⟩
  have hzz : Bx v3 w.heap.size iz := ⟨(hf.block _ HZ2.out.lt (by have := HN.out.2.2; omega)).trans HZ2.out.row⟩
  have hcc : v3.cell? ⟨w1.heap.size, 2, none⟩ = some (.int .i64 0) := hx.c2
  have hcf := hx.fz 2
  have HX2 := hid (bx_set hx 2 (.int .i64 (n3 : Int)) (i' := ⟨(n1 : Int), ⟨(n2 : Int), (n3 : Int), 0⟩, 0, 0⟩) rfl)
  have HZ2 := hid (show Bx (v3.setCell ⟨w1.heap.size, 2, none⟩ (.int .i64 (n3 : Int))) w.heap.size iz from ⟨(heap_setCell_other _ _ _ _ (by have := HN.out.2.1; simp; omega)).trans hzz.row⟩)
  have HT2 := hid (tks_other ht (frq (q := w1.heap.size) 2 (.int .i64 (n3 : Int))) HN.out.1)
  have HF2 := hid (fr_setNew (HF2.out.trans hf) (p := ⟨w1.heap.size, 2, none⟩) (u := .int .i64 (n3 : Int)) (by have := HN.out.2.1; show w.heap.size ≤ w1.heap.size; omega))
  clear ht hf hx hzz
  go_wp2_with fail
  refine (HU4.out _ HT2.out).mono ?_
  rintro e v4 ⟨rfl, ht, hf⟩
  have hx : Bx v4 w1.heap.size _ := ⟨(hf.block _ HX2.out.lt (by have := HN.out.1; omega)).trans HX2.out.row⟩
  have hzz : Bx v4 w.heap.size iz := ⟨(hf.block _ HZ2.out.lt (by have := HN.out.2.2; omega)).trans HZ2.out.row⟩
  have hcc : v4.cell? ⟨w1.heap.size, 5, none⟩ = some (.int .i64 0) := hx.c5
  have hcf := hx.fz 5
  have HX2 := hid (bx_set hx 5 (.int .i64 (n4 : Int)) (i' := ⟨(n1 : Int), ⟨(n2 : Int), (n3 : Int), 0⟩, 0, (n4 : Int)⟩) rfl)
  have HZ2 := hid (show Bx (v4.setCell ⟨w1.heap.size, 5, none⟩ (.int .i64 (n4 : Int))) w.heap.size iz from ⟨(heap_setCell_other _ _ _ _ (by have := HN.out.2.1; simp; omega)).trans hzz.row⟩)
  have HT2 := hid (tks_other ht (frq (q := w1.heap.size) 5 (.int .i64 (n4 : Int))) HN.out.1)
  have HF2 := hid (fr_setNew (HF2.out.trans hf) (p := ⟨w1.heap.size, 5, none⟩) (u := .int .i64 (n4 : Int)) (by have := HN.out.2.1; show w.heap.size ≤ w1.heap.size; omega))
  clear ht hf hx hzz
  go_wp2_with fail
  refine (HU5.out _ HT2.out).mono ?_
  rintro e v5 ⟨rfl, ht, hf⟩
  have hx : Bx v5 w1.heap.size _ := ⟨(hf.block _ HX2.out.lt (by have := HN.out.1; omega)).trans HX2.out.row⟩
  have hzz : Bx v5 w.heap.size iz := ⟨(hf.block _ HZ2.out.lt (by have := HN.out.2.2; omega)).trans HZ2.out.row⟩
  have hcc : v5.cell? ⟨w1.heap.size, 3, none⟩ = some (.int .i64 0) := hx.c3
  have hcf := hx.fz 3
  have HX2 := hid (bx_set hx 3 (.int .i64 (n5 : Int)) (i' := ⟨(n1 : Int), ⟨(n2 : Int), (n3 : Int), (n5 : Int)⟩, 0, (n4 : Int)⟩) rfl)
  have HZ2 := hid (show Bx (v5.setCell ⟨w1.heap.size, 3, none⟩ (.int .i64 (n5 : Int))) w.heap.size iz from ⟨(heap_setCell_other _ _ _ _ (by have := HN.out.2.1; simp; omega)).trans hzz.row⟩)
  have HT2 := hid (tks_other ht (frq (q := w1.heap.size) 3 (.int .i64 (n5 : Int))) HN.out.1)
  have HF2 := hid (fr_setNew (HF2.out.trans hf) (p := ⟨w1.heap.size, 3, none⟩) (u := .int .i64 (n5 : Int)) (by have := HN.out.2.1; show w.heap.size ≤ w1.heap.size; omega))
  clear ht hf hx hzz
  go_wp2_with fail
  refine (HU6.out _ HT2.out).mono ?_
  rintro e v6 ⟨rfl, ht, hf⟩
  have hx : Bx v6 w1.heap.size _ := ⟨(hf.block _ HX2.out.lt (by have := HN.out.1; omega)).trans HX2.out.row⟩
  have hzz : Bx v6 w.heap.size iz := ⟨(hf.block _ HZ2.out.lt (by have := HN.out.2.2; omega)).trans HZ2.out.row⟩
  have hcc : v6.cell? ⟨w1.heap.size, 4, none⟩ = some (.int .i64 0) := hx.c4
  have hcf := hx.fz 4
  have HX2 := hid (bx_set hx 4 (.int .i64 (n6 : Int)) (i' := ⟨(n1 : Int), ⟨(n2 : Int), (n3 : Int), (n5 : Int)⟩, (n6 : Int), (n4 : Int)⟩) rfl)
  have HZ2 := hid (show Bx (v6.setCell ⟨w1.heap.size, 4, none⟩ (.int .i64 (n6 : Int))) w.heap.size iz from ⟨(heap_setCell_other _ _ _ _ (by have := HN.out.2.1; simp; omega)).trans hzz.row⟩)
  have HT2 := hid (tks_other ht (frq (q := w1.heap.size) 4 (.int .i64 (n6 : Int))) HN.out.1)
  have HF2 := hid (fr_setNew (HF2.out.trans hf) (p := ⟨w1.heap.size, 4, none⟩) (u := .int .i64 (n6 : Int)) (by have := HN.out.2.1; show w.heap.size ≤ w1.heap.size; omega))
  clear ht hf hx hzz
  go_wp2_with (first
    | (refine wpList_load_row rfl 25 _ rfl w1.heap.size rfl 25 (ivl _) (0, 0) _ HX2.out.row Tryz.underlying25 rfl (ivl_size _) ?_)
    | (refine wpList_store_row rfl 25 _ _ rfl w.heap.size (ivl _) rfl rfl 25 (ivl iz) HZ2.out.row (ivl_size _) rfl (ivl_one _) ?_))
  refine bodyPost_ret (results_cell_row (p := 2) (ty := 25) (by kernel_rfl) _ _ w.heap.size 25 (ivl _) (0, 0) _ rfl (setRow_heap _ _ _ _ _ _ HZ2.out.row) Tryz.underlying25 rfl (ivl_size _)) rfl ?_
  rw [HPO.out]
  exact ⟨rfl, tks_other HT2.out (fr_setRow _ _ _) HN.out.2.2, fr_setRowNew HF2.out (Nat.le_refl _)⟩
end Go.Proofs.YthjjonbkfkpkmaaGreatDoor.Inf
namespace Go.Proofs.YthjjonbkfkpkmaaGreatDoor.Inf
open Go.RowKit Gen Fld
open Crc hiding hid

set_option maxRecDepth 100000 in
theorem tat_any {w : World} {q : Nat} {s : TS} (h : TkS w q s) : Calls Tryz.prog 72 #[.pointer (some ⟨q, 0, none⟩)] w fun e w' => e = .returned (.int .i64 (s.pos : Int)) ∧ w = w' := by
  obtain ⟨a, cap, ht, _, _⟩ := h
  have c2 := ht.c2
  go_enter Tryz.func72, Tryz.ntmps72
  go_wp2_with fail
  go_ret
  exact ⟨rfl, rfl⟩
set_option maxRecDepth 100000 in
theorem byts_lt {w : World} {b off : Nat} {l : List Nat} (h : Byts w (some ⟨b, off, none⟩) l) (hl : 0 < l.length) : b < w.heap.size := by
  obtain ⟨b', off', e, hc⟩ := h.at_ 0 l[0] (List.getElem?_eq_getElem hl)
  cases e
  exact World.block_lt_of_cell? _ _ hc
set_option maxRecDepth 100000 in
theorem at_take (l : List Nat) (j n m : Nat) (h : j + n ≤ m) : at_ (l.take m) j n = at_ l j n := by
  unfold at_
  rw [List.drop_take, List.take_take, Nat.min_eq_left (by omega)]
set_option maxRecDepth 100000 in
theorem inl_take (l : List Nat) : inl (l.take 19) = inl l := by
  unfold inl
  rw [at_take _ _ _ _ (by decide), at_take _ _ _ _ (by decide), at_take _ _ _ _ (by decide), at_take _ _ _ _ (by decide), at_take _ _ _ _ (by decide), at_take _ _ _ _ (by decide)]
/-- The sum behind the first 15 bytes is the right one. -/
def Sm (l : List Nat) : Prop := at_ l 15 4 = cs (l.take 15)
instance (l : List Nat) : Decidable (Sm l) := by unfold Sm; exact inferInstance
def getE (l : List Nat) : Int := if ¬ Bgn l then 31 else if l.length < 19 then 10 else if ¬ Sm l then 33 else if ¬ Rt (inl l) then 32 else 0
def getI (l : List Nat) : If := if getE l = 0 then inl l else iz
def InfP (w : World) (i : If) (x : Int) (e : Ending) (w' : World) : Prop := e = .returned (.tuple #[iv i, .int .i64 x]) ∧ Below w.heap.size w w'
set_option maxRecDepth 100000 in
theorem get_nil (v : Value) (w : World) : Calls Tryz.prog 34 #[.pointer none, v] w (InfP w iz 2) := by
  have HZ := hid (Bx.new w iz)
  have HB0 := hid (below_new w (.cells (ivl iz) 25))
  have HPO := hid (show ∀ e w', InfP w iz 2 e w' = (e = .returned (.tuple #[iv iz, .int .i64 2]) ∧ Below w.heap.size w w') from fun _ _ => rfl)
  go_enter Tryz.func34, Tryz.ntmps34
  go_wp2_with (refine wpList_store_row rfl 25 _ _ rfl w.heap.size (ivl iz) rfl rfl 25 (ivl iz) HZ.out.row (ivl_size _) rfl (ivl_one _) ?_)
  refine bodyPost_ret (res_ct (p := 4) (u := 5) (ty := 25) (by kernel_rfl) _ _ w.heap.size 25 (ivl iz) (0, 0) _ rfl (setRow_heap _ _ _ _ _ _ HZ.out.row) Tryz.underlying25 rfl (ivl_size _) rfl) rfl ?_
  rw [HPO.out]
  exact ⟨rfl, fr_rowBelow HB0.out (Nat.le_refl _)⟩
set_option maxRecDepth 100000 in
set_option maxHeartbeats 2000000 in
theorem get_any {w : World} {g : Nat} (ht : Tab w g) {a : Option Addr} {l : List Nat} {cap : Nat} (hb : Byts w a l) (hc : l.length ≤ cap) (hm : l.length ≤ 1099511627776) :
    Calls Tryz.prog 34 #[.pointer (some ⟨g, 0, none⟩), .slice a l.length cap] w (InfP w (getI l) (getE l)) := by
  have HBG := hid fun (w' : World) (hb' : Byts w' a l) => begins_any hb' hc hm
  have HZ := hid (Bx.new w iz)
  have HB0 := hid (below_new w (.cells (ivl iz) 25))
  have HBY := hid (hb.keep HB0.out)
  have HT := hid (ht.keep (HB0.out.block g ht.lt))
  have HGI := hid (show getI l = if getE l = 0 then inl l else iz from rfl)
  have HGE := hid (show getE l = if ¬ Bgn l then 31 else if l.length < 19 then 10 else if ¬ Sm l then 33 else if ¬ Rt (inl l) then 32 else 0 from rfl)
  have HPO := hid (show ∀ i x e w', InfP w i x e w' = (e = .returned (.tuple #[iv i, .int .i64 x]) ∧ Below w.heap.size w w') from fun _ _ _ _ => rfl)
  clear ht hb
  rw [HGI.out]
  have hge := HGE.out
  by_cases h1 : Bgn l
  · rw [decide_eq_true h1] at HBG
    rw [if_neg (fun h => h h1)] at hge
    by_cases h2 : l.length < 19
    · rw [if_pos h2] at hge
      rw [hge, if_neg (by decide)]
      have hl : (l.length : Int) < 19 := by omega
      clear hge HGE HGI h1 h2
      go_enter Tryz.func34, Tryz.ntmps34
      go_wp2_with fail
      refine (HBG.out _ HBY.out).mono ?_
      rintro e w' ⟨rfl, rfl⟩
      go_wp2_with (refine wpList_store_row rfl 25 _ _ rfl w.heap.size (ivl iz) rfl rfl 25 (ivl iz) HZ.out.row (ivl_size _) rfl (ivl_one _) ?_)
      refine bodyPost_ret (res_ct (p := 4) (u := 5) (ty := 25) (by kernel_rfl) _ _ w.heap.size 25 (ivl iz) (0, 0) _ rfl (setRow_heap _ _ _ _ _ _ HZ.out.row) Tryz.underlying25 rfl (ivl_size _) rfl) rfl ?_
      rw [HPO.out]
      exact ⟨rfl, fr_rowBelow HB0.out (Nat.le_refl _)⟩
    · rw [if_neg h2] at hge
      have hl : ¬ (l.length : Int) < 19 := by omega
      have hc19 : 19 ≤ cap := by omega
      have hb19 := HBY.out.take 19
      have hl19 : (l.take 19).length = 19 := by rw [List.length_take]; omega
      have hb15 := HBY.out.take 15
      have hl15 : (l.take 15).length = 15 := by rw [List.length_take]; omega
      obtain ⟨b, off, rfl⟩ := byts_at hb19 (by omega)
      have HTK := hid fun (w' : World) (hb' : Byts w' (some ⟨b, off, none⟩) (l.take 19)) => take4_any (c := cap) hl19 hb' (fun e => by cases e) (by decide)
      have HTN := hid fun (w' : World) (q : Nat) (h : TkS w' q ⟨0, l.take 19, 0⟩) => (taken_any q (l.take 19) w' h (by omega))
      have HU := hid fun (w' : World) (q : Nat) (h : TkS w' q ⟨0, (l.take 19).drop 15, 15⟩) => (tku_at 15 4 h (by decide) (by decide) (by omega))
      have HSU := hid fun (w' : World) (g' : Nat) (ht' : Tab w' g') (hb' : Byts w' (some ⟨b, off, none⟩) (l.take 15)) => tsum_any (cap := cap) ht' hb' (by omega)
      have hcl := cs_lt (l := l.take 15) (fun x hx => HBY.out.lt x (List.mem_of_mem_take hx))
      have uc : IntKind.u64.wrap (cs (l.take 15) : Int) = cs (l.take 15) := u64_small _ hcl
      rw [hl15] at HSU
      unfold TakP at HTN
      rw [inl_take] at HTN
      rw [at_take _ _ _ _ (by decide)] at HU
      have HB19 := hid hb19
      have HL19 := hid (show 0 < (l.take 19).length from by omega)
      have HB15 := hid hb15
      have HR := hid fun (w' : World) => right_any (inl l) w'
      have hsm : (((at_ l 15 4 : Nat) : Int) == ((cs (l.take 15) : Nat) : Int)) = decide (Sm l) := by rw [Bool.eq_iff_iff, beq_iff_eq, decide_eq_true_eq]; exact Int.ofNat_inj
      clear hb19 hl19 hb15 hl15 h1 h2 hcl
      generalize at_ l 15 4 = n4 at *
      generalize cs (l.take 15) = sv at *
      generalize inl l = ii at *
      by_cases h3 : Sm l
      ·
        rw [if_neg (fun h => h h3)] at hge
        rw [decide_eq_true h3] at hsm
        by_cases h4 : Rt ii
        · rw [if_neg (fun h => h h4)] at hge
          rw [hge, if_pos rfl]
          rw [decide_eq_true h4] at HR
          clear hge HGE HGI h3 h4
          go_enter Tryz.func34, Tryz.ntmps34
          go_wp2_with fail
          refine (HBG.out _ HBY.out).mono ?_
          rintro e w' ⟨rfl, rfl⟩
          go_wp2_with fail
          refine (HTK.out _ HB19.out).mono ?_
          rintro e w1 ⟨q, rfl, hq, hs1, hb1⟩
          have hw0 : (w.alloc (.cells (ivl iz) 25)).heap.size = w.heap.size + 1 := Deep.nblk_alloc _ _
          have hq' : w.heap.size < q := by omega
          have hgq : g < q := by have := HT.out.lt; omega
          have hbq : b < q := by have := byts_lt HB19.out HL19.out; omega
          clear hw0 hq
          have HQ := hid hq'
          have HT1 := hid (HT.out.keep (hb1.block g HT.out.lt))
          have HZ1 := hid (HZ.out.below hb1 HZ.out.lt)
          have HY1 := hid (HB15.out.keep hb1)
          have HB1 := hid (HB0.out.trans (hb1.mono HB0.out.size))
          have HS1 := hid hs1
          clear hs1 hb1
          go_wp2_with fail
          refine (HTN.out _ _ HS1.out).mono ?_
          rintro e w2 ⟨rfl, hs2, hf2⟩
          have HT2 := hid (HT1.out.keep (hf2.block g HT1.out.lt (by omega)))
          have HZ2 := hid (show Bx w2 w.heap.size iz from ⟨(hf2.block _ HZ1.out.lt (by have := HQ.out; omega)).trans HZ1.out.row⟩)
          have HY2 := hid (HY1.out.stay hf2 (fun b' off' e => by cases e; omega))
          have HB2 := hid (show Below w.heap.size w w2 from HB1.out.trans ⟨hf2.os, hf2.tape, hf2.output, hf2.size, fun x hx => hf2.block x (Nat.lt_of_lt_of_le hx HB1.out.size) (by have := HQ.out; omega)⟩)
          have hbn := below_new w2 (.cells #[.int .i64 ii.k, .int .i64 ii.f.ch, .int .i64 ii.f.bits, .int .i64 ii.f.rate, .int .i64 ii.bk, .int .i64 ii.sh] 25)
          have HX3 := hid (show Bx (w2.alloc (.cells #[.int .i64 ii.k, .int .i64 ii.f.ch, .int .i64 ii.f.bits, .int .i64 ii.f.rate, .int .i64 ii.bk, .int .i64 ii.sh] 25)) w2.heap.size ii from Bx.new w2 ii)
          have HT3 := hid (HT2.out.keep (hbn.block g HT2.out.lt))
          have HZ3 := hid (HZ2.out.below hbn HZ2.out.lt)
          have HY3 := hid (HY2.out.keep hbn)
          have HB3 := hid (HB2.out.trans (hbn.mono HB2.out.size))
          have HS3 := hid (hs2.below hbn)
          have HN := hid (show g < q ∧ b < q ∧ w.heap.size < q ∧ q < w2.heap.size from ⟨hgq, hbq, HQ.out, hs2.lt⟩)
          clear hs2 hf2 hbn HT1 HZ1 HY1 HB1 HS1 HT2 HZ2 HY2 HB2 hgq hbq hq' HQ
          rw [show iv ii = .agg #[.int .i64 ii.k, .int .i64 ii.f.ch, .int .i64 ii.f.bits, .int .i64 ii.f.rate, .int .i64 ii.bk, .int .i64 ii.sh] from rfl]
          go_wp2_with fail
          refine (tat_any HS3.out).mono ?_
          rintro e w' ⟨rfl, rfl⟩
          go_wp2_with fail
          refine (HU.out _ _ HS3.out).mono ?_
          rintro e w4 ⟨rfl, hs4, hf4⟩
          have HT4 := hid (HT3.out.keep (hf4.block g HT3.out.lt (by have := HN.out.1; omega)))
          have HZ4 := hid (show Bx w4 w.heap.size iz from ⟨(hf4.block _ HZ3.out.lt (by have := HN.out.2.2.1; omega)).trans HZ3.out.row⟩)
          have HX4 := hid (show Bx w4 w2.heap.size ii from ⟨(hf4.block _ HX3.out.lt (by have := HN.out.2.2.2; omega)).trans HX3.out.row⟩)
          have HY4 := hid (HY3.out.stay hf4 (fun b' off' e => by cases e; have := HN.out.2.1; omega))
          have HB4 := hid (show Below w.heap.size w w4 from HB3.out.trans ⟨hf4.os, hf4.tape, hf4.output, hf4.size, fun x hx => hf4.block x (Nat.lt_of_lt_of_le hx HB3.out.size) (by have := HN.out.2.2.1; omega)⟩)
          clear hs4 hf4 HT3 HZ3 HX3 HY3 HB3 HS3
          go_wp2_with fail
          refine (HSU.out _ _ HT4.out HY4.out).mono ?_
          rintro e w' ⟨rfl, rfl⟩
          rw [show iv ii = .agg #[.int .i64 ii.k, .int .i64 ii.f.ch, .int .i64 ii.f.bits, .int .i64 ii.f.rate, .int .i64 ii.bk, .int .i64 ii.sh] from rfl] at HR
          have c := HX4.out
          have d0 := c.c0; have d1 := c.c1; have d2 := c.c2; have d3 := c.c3; have d4 := c.c4; have d5 := c.c5
          clear c
          go_wp2_with fail
          refine (HR.out _).mono ?_
          rintro e w5 ⟨rfl, hb5⟩
          have HZ5 := hid (HZ4.out.below hb5 HZ4.out.lt)
          have HX5 := hid (HX4.out.below hb5 HX4.out.lt)
          have HB5 := hid (HB4.out.trans (hb5.mono HB4.out.size))
          clear hb5 HZ4 HX4 HB4 d0 d1 d2 d3 d4 d5
          go_wp2_with (first
            | (refine wpList_load_row rfl 25 _ rfl w2.heap.size rfl 25 (ivl ii) (0, 0) _ HX5.out.row Tryz.underlying25 rfl (ivl_size _) ?_)
            | (refine wpList_store_row rfl 25 _ _ rfl w.heap.size (ivl ii) rfl rfl 25 (ivl iz) HZ5.out.row (ivl_size _) rfl (ivl_one _) ?_))
          refine bodyPost_ret (res_ct (p := 4) (u := 5) (ty := 25) (by kernel_rfl) _ _ w.heap.size 25 (ivl ii) (0, 0) _ rfl (setRow_heap _ _ _ _ _ _ HZ5.out.row) Tryz.underlying25 rfl (ivl_size _) rfl) rfl ?_
          rw [HPO.out]
          exact ⟨rfl, fr_rowBelow HB5.out (Nat.le_refl _)⟩
        · rw [if_pos h4] at hge
          rw [hge, if_neg (by decide)]
          rw [decide_eq_false h4] at HR
          clear hge HGE HGI h3 h4
          go_enter Tryz.func34, Tryz.ntmps34
          go_wp2_with fail
          refine (HBG.out _ HBY.out).mono ?_
          rintro e w' ⟨rfl, rfl⟩
          go_wp2_with fail
          refine (HTK.out _ HB19.out).mono ?_
          rintro e w1 ⟨q, rfl, hq, hs1, hb1⟩
          have hw0 : (w.alloc (.cells (ivl iz) 25)).heap.size = w.heap.size + 1 := Deep.nblk_alloc _ _
          have hq' : w.heap.size < q := by omega
          have hgq : g < q := by have := HT.out.lt; omega
          have hbq : b < q := by have := byts_lt HB19.out HL19.out; omega
          clear hw0 hq
          have HQ := hid hq'
          have HT1 := hid (HT.out.keep (hb1.block g HT.out.lt))
          have HZ1 := hid (HZ.out.below hb1 HZ.out.lt)
          have HY1 := hid (HB15.out.keep hb1)
          have HB1 := hid (HB0.out.trans (hb1.mono HB0.out.size))
          have HS1 := hid hs1
          clear hs1 hb1
          go_wp2_with fail
          refine (HTN.out _ _ HS1.out).mono ?_
          rintro e w2 ⟨rfl, hs2, hf2⟩
          have HT2 := hid (HT1.out.keep (hf2.block g HT1.out.lt (by omega)))
          have HZ2 := hid (show Bx w2 w.heap.size iz from ⟨(hf2.block _ HZ1.out.lt (by have := HQ.out; omega)).trans HZ1.out.row⟩)
          have HY2 := hid (HY1.out.stay hf2 (fun b' off' e => by cases e; omega))
          have HB2 := hid (show Below w.heap.size w w2 from HB1.out.trans ⟨hf2.os, hf2.tape, hf2.output, hf2.size, fun x hx => hf2.block x (Nat.lt_of_lt_of_le hx HB1.out.size) (by have := HQ.out; omega)⟩)
          have hbn := below_new w2 (.cells #[.int .i64 ii.k, .int .i64 ii.f.ch, .int .i64 ii.f.bits, .int .i64 ii.f.rate, .int .i64 ii.bk, .int .i64 ii.sh] 25)
          have HX3 := hid (show Bx (w2.alloc (.cells #[.int .i64 ii.k, .int .i64 ii.f.ch, .int .i64 ii.f.bits, .int .i64 ii.f.rate, .int .i64 ii.bk, .int .i64 ii.sh] 25)) w2.heap.size ii from Bx.new w2 ii)
          have HT3 := hid (HT2.out.keep (hbn.block g HT2.out.lt))
          have HZ3 := hid (HZ2.out.below hbn HZ2.out.lt)
          have HY3 := hid (HY2.out.keep hbn)
          have HB3 := hid (HB2.out.trans (hbn.mono HB2.out.size))
          have HS3 := hid (hs2.below hbn)
          have HN := hid (show g < q ∧ b < q ∧ w.heap.size < q ∧ q < w2.heap.size from ⟨hgq, hbq, HQ.out, hs2.lt⟩)
          clear hs2 hf2 hbn HT1 HZ1 HY1 HB1 HS1 HT2 HZ2 HY2 HB2 hgq hbq hq' HQ
          rw [show iv ii = .agg #[.int .i64 ii.k, .int .i64 ii.f.ch, .int .i64 ii.f.bits, .int .i64 ii.f.rate, .int .i64 ii.bk, .int .i64 ii.sh] from rfl]
          go_wp2_with fail
          refine (tat_any HS3.out).mono ?_
          rintro e w' ⟨rfl, rfl⟩
          go_wp2_with fail
          refine (HU.out _ _ HS3.out).mono ?_
          rintro e w4 ⟨rfl, hs4, hf4⟩
          have HT4 := hid (HT3.out.keep (hf4.block g HT3.out.lt (by have := HN.out.1; omega)))
          have HZ4 := hid (show Bx w4 w.heap.size iz from ⟨(hf4.block _ HZ3.out.lt (by have := HN.out.2.2.1; omega)).trans HZ3.out.row⟩)
          have HX4 := hid (show Bx w4 w2.heap.size ii from ⟨(hf4.block _ HX3.out.lt (by have := HN.out.2.2.2; omega)).trans HX3.out.row⟩)
          have HY4 := hid (HY3.out.stay hf4 (fun b' off' e => by cases e; have := HN.out.2.1; omega))
          have HB4 := hid (show Below w.heap.size w w4 from HB3.out.trans ⟨hf4.os, hf4.tape, hf4.output, hf4.size, fun x hx => hf4.block x (Nat.lt_of_lt_of_le hx HB3.out.size) (by have := HN.out.2.2.1; omega)⟩)
          clear hs4 hf4 HT3 HZ3 HX3 HY3 HB3 HS3
          go_wp2_with fail
          refine (HSU.out _ _ HT4.out HY4.out).mono ?_
          rintro e w' ⟨rfl, rfl⟩
          rw [show iv ii = .agg #[.int .i64 ii.k, .int .i64 ii.f.ch, .int .i64 ii.f.bits, .int .i64 ii.f.rate, .int .i64 ii.bk, .int .i64 ii.sh] from rfl] at HR
          have c := HX4.out
          have d0 := c.c0; have d1 := c.c1; have d2 := c.c2; have d3 := c.c3; have d4 := c.c4; have d5 := c.c5
          clear c
          go_wp2_with fail
          refine (HR.out _).mono ?_
          rintro e w5 ⟨rfl, hb5⟩
          have HZ5 := hid (HZ4.out.below hb5 HZ4.out.lt)
          have HB5 := hid (HB4.out.trans (hb5.mono HB4.out.size))
          clear hb5 HZ4 HX4 HB4 d0 d1 d2 d3 d4 d5
          go_wp2_with (refine wpList_store_row rfl 25 _ _ rfl w.heap.size (ivl iz) rfl rfl 25 (ivl iz) HZ5.out.row (ivl_size _) rfl (ivl_one _) ?_)
          refine bodyPost_ret (res_ct (p := 4) (u := 5) (ty := 25) (by kernel_rfl) _ _ w.heap.size 25 (ivl iz) (0, 0) _ rfl (setRow_heap _ _ _ _ _ _ HZ5.out.row) Tryz.underlying25 rfl (ivl_size _) rfl) rfl ?_
          rw [HPO.out]
          exact ⟨rfl, fr_rowBelow HB5.out (Nat.le_refl _)⟩
      · rw [if_pos h3] at hge
        rw [decide_eq_false h3] at hsm
        rw [hge, if_neg (by decide)]
        clear hge HGE HGI h3
        go_enter Tryz.func34, Tryz.ntmps34
        go_wp2_with fail
        refine (HBG.out _ HBY.out).mono ?_
        rintro e w' ⟨rfl, rfl⟩
        go_wp2_with fail
        refine (HTK.out _ HB19.out).mono ?_
        rintro e w1 ⟨q, rfl, hq, hs1, hb1⟩
        have hw0 : (w.alloc (.cells (ivl iz) 25)).heap.size = w.heap.size + 1 := Deep.nblk_alloc _ _
        have hq' : w.heap.size < q := by omega
        have hgq : g < q := by have := HT.out.lt; omega
        have hbq : b < q := by have := byts_lt HB19.out HL19.out; omega
        clear hw0 hq
        have HQ := hid hq'
        have HT1 := hid (HT.out.keep (hb1.block g HT.out.lt))
        have HZ1 := hid (HZ.out.below hb1 HZ.out.lt)
        have HY1 := hid (HB15.out.keep hb1)
        have HB1 := hid (HB0.out.trans (hb1.mono HB0.out.size))
        have HS1 := hid hs1
        clear hs1 hb1
        go_wp2_with fail
        refine (HTN.out _ _ HS1.out).mono ?_
        rintro e w2 ⟨rfl, hs2, hf2⟩
        have HT2 := hid (HT1.out.keep (hf2.block g HT1.out.lt (by omega)))
        have HZ2 := hid (show Bx w2 w.heap.size iz from ⟨(hf2.block _ HZ1.out.lt (by have := HQ.out; omega)).trans HZ1.out.row⟩)
        have HY2 := hid (HY1.out.stay hf2 (fun b' off' e => by cases e; omega))
        have HB2 := hid (show Below w.heap.size w w2 from HB1.out.trans ⟨hf2.os, hf2.tape, hf2.output, hf2.size, fun x hx => hf2.block x (Nat.lt_of_lt_of_le hx HB1.out.size) (by have := HQ.out; omega)⟩)
        have hbn := below_new w2 (.cells #[.int .i64 ii.k, .int .i64 ii.f.ch, .int .i64 ii.f.bits, .int .i64 ii.f.rate, .int .i64 ii.bk, .int .i64 ii.sh] 25)
        have HX3 := hid (show Bx (w2.alloc (.cells #[.int .i64 ii.k, .int .i64 ii.f.ch, .int .i64 ii.f.bits, .int .i64 ii.f.rate, .int .i64 ii.bk, .int .i64 ii.sh] 25)) w2.heap.size ii from Bx.new w2 ii)
        have HT3 := hid (HT2.out.keep (hbn.block g HT2.out.lt))
        have HZ3 := hid (HZ2.out.below hbn HZ2.out.lt)
        have HY3 := hid (HY2.out.keep hbn)
        have HB3 := hid (HB2.out.trans (hbn.mono HB2.out.size))
        have HS3 := hid (hs2.below hbn)
        have HN := hid (show g < q ∧ b < q ∧ w.heap.size < q ∧ q < w2.heap.size from ⟨hgq, hbq, HQ.out, hs2.lt⟩)
        clear hs2 hf2 hbn HT1 HZ1 HY1 HB1 HS1 HT2 HZ2 HY2 HB2 hgq hbq hq' HQ
        rw [show iv ii = .agg #[.int .i64 ii.k, .int .i64 ii.f.ch, .int .i64 ii.f.bits, .int .i64 ii.f.rate, .int .i64 ii.bk, .int .i64 ii.sh] from rfl]
        go_wp2_with fail
        refine (tat_any HS3.out).mono ?_
        rintro e w' ⟨rfl, rfl⟩
        go_wp2_with fail
        refine (HU.out _ _ HS3.out).mono ?_
        rintro e w4 ⟨rfl, hs4, hf4⟩
        have HT4 := hid (HT3.out.keep (hf4.block g HT3.out.lt (by have := HN.out.1; omega)))
        have HZ4 := hid (show Bx w4 w.heap.size iz from ⟨(hf4.block _ HZ3.out.lt (by have := HN.out.2.2.1; omega)).trans HZ3.out.row⟩)
        have HX4 := hid (show Bx w4 w2.heap.size ii from ⟨(hf4.block _ HX3.out.lt (by have := HN.out.2.2.2; omega)).trans HX3.out.row⟩)
        have HY4 := hid (HY3.out.stay hf4 (fun b' off' e => by cases e; have := HN.out.2.1; omega))
        have HB4 := hid (show Below w.heap.size w w4 from HB3.out.trans ⟨hf4.os, hf4.tape, hf4.output, hf4.size, fun x hx => hf4.block x (Nat.lt_of_lt_of_le hx HB3.out.size) (by have := HN.out.2.2.1; omega)⟩)
        clear hs4 hf4 HT3 HZ3 HX3 HY3 HB3 HS3
        go_wp2_with fail
        refine (HSU.out _ _ HT4.out HY4.out).mono ?_
        rintro e w' ⟨rfl, rfl⟩
        go_wp2_with (refine wpList_store_row rfl 25 _ _ rfl w.heap.size (ivl iz) rfl rfl 25 (ivl iz) HZ4.out.row (ivl_size _) rfl (ivl_one _) ?_)
        refine bodyPost_ret (res_ct (p := 4) (u := 5) (ty := 25) (by kernel_rfl) _ _ w.heap.size 25 (ivl iz) (0, 0) _ rfl (setRow_heap _ _ _ _ _ _ HZ4.out.row) Tryz.underlying25 rfl (ivl_size _) rfl) rfl ?_
        rw [HPO.out]
        exact ⟨rfl, fr_rowBelow HB4.out (Nat.le_refl _)⟩
  · rw [decide_eq_false h1] at HBG
    rw [if_pos h1] at hge
    rw [hge, if_neg (by decide)]
    clear hge HGE HGI h1
    go_enter Tryz.func34, Tryz.ntmps34
    go_wp2_with fail
    refine (HBG.out _ HBY.out).mono ?_
    rintro e w' ⟨rfl, rfl⟩
    go_wp2_with (refine wpList_store_row rfl 25 _ _ rfl w.heap.size (ivl iz) rfl rfl 25 (ivl iz) HZ.out.row (ivl_size _) rfl (ivl_one _) ?_)
    refine bodyPost_ret (res_ct (p := 4) (u := 5) (ty := 25) (by kernel_rfl) _ _ w.heap.size 25 (ivl iz) (0, 0) _ rfl (setRow_heap _ _ _ _ _ _ HZ.out.row) Tryz.underlying25 rfl (ivl_size _) rfl) rfl ?_
    rw [HPO.out]
    exact ⟨rfl, fr_rowBelow HB0.out (Nat.le_refl _)⟩
end Go.Proofs.YthjjonbkfkpkmaaGreatDoor.Inf
namespace Go.Proofs.YthjjonbkfkpkmaaGreatDoor.Inf
open Go.RowKit Gen Fld
open Crc hiding hid

set_option maxRecDepth 100000 in
theorem value_any {w : World} {b off cap n : Nat} {l : List Nat} (hb : Byts w (some ⟨b, off, none⟩) l) (hl : l.length = n) (hn4 : n ≤ 4) :
    Calls Tryz.prog 80 #[.slice (some ⟨b, off, none⟩) n cap] w fun e w' => e = .returned (.int .u64 (lev l : Int)) ∧ w = w' := by
  have hlt := hb.lt
  have hx : ∀ j : Nat, j < n → ∃ x : Nat, l[j]? = some x ∧ x < 256 ∧ w.cell? ⟨b, off + j, none⟩ = some (.int .u8 (x : Int)) := fun j hj => by
    refine ⟨l[j], List.getElem?_eq_getElem (by omega), hlt _ (List.getElem_mem _), ?_⟩
    obtain ⟨b', off', e, hc⟩ := hb.at_ j (l[j]) (List.getElem?_eq_getElem (by omega))
    cases e
    exact hc
  have hle : ∀ j, lev (l.drop j) < 4294967296 := fun j => by
    have h1 := lev_lt (l.drop j) (fun x hx => hlt x (List.mem_of_mem_drop hx))
    have h2 : (l.drop j).length ≤ 4 := by rw [List.length_drop]; omega
    have h3 : 2 ^ (8 * (l.drop j).length) ≤ 2 ^ 32 := Nat.pow_le_pow_right (by decide) (by omega)
    have : (2 : Nat) ^ 32 = 4294967296 := by decide
    omega
  have h4 : lev (l.drop n) = 0 := by rw [List.drop_eq_nil_of_le (by omega)]; rfl
  have hst : ∀ j x : Nat, l[j]? = some x → lev (l.drop j) = x + 256 * lev (l.drop (j + 1)) := fun j x h => lev_drop l j h
  have h0 : lev l = lev (l.drop 0) := rfl
  have HX := hid hx
  have HLE := hid hle
  have HST := hid hst
  have H0 := hid h0
  have H4 := hid h4
  clear hlt hx hle hst h0 h4 hb hl
  go_enter Tryz.func80, Tryz.ntmps80
  go_wp2_with fail
  go_loopg [3, 4] n (fun gg x i wr => ∃ j : Nat, j ≤ n ∧ gg = j ∧ i = .int .i64 ((j : Int) - 1) ∧ x = .int .u64 (lev (l.drop j) : Int) ∧ wr = w)
  case atStart => exact ⟨n, Nat.le_refl _, rfl, by go_num, by rw [H4.out]; rfl, rfl⟩
  case round =>
    obtain ⟨j, hj, hg, rfl, rfl, rfl⟩ := hrel
    have HG := hid hg
    clear hg
    match j, hj with
    | 0, _ =>
      go_wp2_with fail
      go_ret
      rw [H0.out]
      exact ⟨rfl, rfl⟩
    | k + 1, hj =>
      obtain ⟨x, h1, h2, h3⟩ := HX.out k (by omega)
      have e := HST.out k x h1
      have h5 := HLE.out (k + 1)
      have HE := hid e
      clear h1 e
      generalize lev (l.drop (k + 1)) = y at *
      have hk : ((k + 1 : Nat) : Int) - 1 = (k : Int) := by omega
      have hk4 : k < 4 := by omega
      have hkn : k < n := by omega
      have hki : (k : Int) < (n : Int) := by omega
      go_wp2_with fail
      go_roundg k
      case measure => rw [HG.out]; omega
      case rel => exact ⟨k, by omega, rfl, by go_num, by rw [HE.out]; go_num, rfl⟩
/-- What stands while the document compares the first bytes. -/
structure Lp (w : World) (a : Option Addr) (l : List Nat) (wr : World) : Prop where
  z : Bx wr w.heap.size iz
  m : wr.heap[w.heap.size + 1]? = some (.cells #[.int .u8 68, .int .u8 83, .int .u8 67, .int .u8 49] 5 (0, 0))
  y : Byts wr a l
  b : Below w.heap.size w wr
def Pr (l : List Nat) (j : Nat) : Prop := ∀ i, i < j → l[i]? = mk4[i]?
set_option maxRecDepth 100000 in
theorem pr_bgn {l : List Nat} {j : Nat} (h : Pr l j) (hj : j = 4 ∨ (j ≤ 4 ∧ l.length ≤ j)) : Bgn l := by
  unfold Bgn
  refine List.ext_getElem? fun i => ?_
  rw [List.getElem?_take, List.getElem?_take]
  by_cases h1 : i < 4
  · rw [if_pos h1]
    by_cases h2 : i < l.length
    · rw [if_pos h2]; exact h i (by omega)
    · rw [if_neg h2, List.getElem?_eq_none (by omega)]
  · rw [if_neg h1]
    by_cases h2 : i < l.length
    · rw [if_pos h2, List.getElem?_eq_none (show mk4.length ≤ i from by show 4 ≤ i; omega)]
    · rw [if_neg h2]
set_option maxRecDepth 100000 in
theorem bgn_pr {l : List Nat} (h : Bgn l) (j : Nat) (h4 : j < 4) (hl : j < l.length) : l[j]? = mk4[j]? := by
  unfold Bgn at h
  have := congrArg (fun (m : List Nat) => m[j]?) h
  simp only [List.getElem?_take, if_pos h4, if_pos hl] at this
  exact this
set_option maxRecDepth 100000 in
theorem pr_succ {l : List Nat} {j : Nat} (h : Pr l j) (h2 : l[j]? = mk4[j]?) : Pr l (j + 1) := fun i hi => by
  by_cases e : i = j
  · rw [e]; exact h2
  · exact h i (by omega)
end Go.Proofs.YthjjonbkfkpkmaaGreatDoor.Inf
