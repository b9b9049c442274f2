/- Info that is taken, of the program. Conditions: a taker with at least 15 bytes left. -/
import Derived.Test.YthaikhnplbbdlaaNf
namespace Go.Proofs.Ythaikhnplbbdlaa.Inf
open Go.RowKit Gen Fld
open Crc hiding hid

/-- The number of so many bytes at a place. -/
def at_ (l : List Nat) (j n : Nat) : Nat := lev ((l.drop j).take n)
/-- The info that bytes say. -/
def inl (l : List Nat) : If := ⟨(at_ l 4 1 : Int), ⟨(at_ l 5 1 : Int), (at_ l 6 1 : Int), (at_ l 8 3 : Int)⟩, (at_ l 11 4 : Int), (at_ l 7 1 : Int)⟩
def iz : If := ⟨0, ⟨0, 0, 0⟩, 0, 0⟩
theorem Try.size25 : (Try.prog.info? 25).map (·.size) = some 6 := by kernel_rfl
theorem ivl_size (i : If) : (Try.prog.info? 25).map (·.size) = some (ivl i).size := Try.size25
theorem ivl_one (i : If) : (ivl i).all (·.oneCell') = true := by simp [ivl, Value.oneCell']
theorem at_lt {l : List Nat} (h : ∀ b ∈ l, b < 256) (j n : Nat) (hn : n ≤ 4) : at_ l j n < 4294967296 := by
  have h1 := lev_lt ((l.drop j).take n) (fun b hb => h b (List.mem_of_mem_drop (List.mem_of_mem_take hb)))
  have h2 : ((l.drop j).take n).length ≤ 4 := by rw [List.length_take]; omega
  have h3 : 2 ^ (8 * ((l.drop j).take n).length) ≤ 2 ^ 32 := Nat.pow_le_pow_right (by decide) (by omega)
  have : (2 : Nat) ^ 32 = 4294967296 := by decide
  unfold at_
  omega
theorem TkS.blt2 {w : World} {q : Nat} {s : TS} (h : TkS w q s) : ∀ b ∈ s.l, b < 256 := by
  obtain ⟨a, cap, ht, _, _⟩ := h
  exact ht.bytes.lt
/-- One step of the taker, at a place. -/
theorem tku_at {w : World} {q : Nat} {l : List Nat} (j n : Nat) (h : TkS w q ⟨0, l.drop j, j⟩) (h1 : 1 ≤ n) (h8 : n ≤ 8) (hl : j + n ≤ l.length) :
    Calls Try.prog 38 #[.pointer (some ⟨q, 0, none⟩), .int .i64 (n : Int)] w (Took w q ⟨0, l.drop (j + n), j + n⟩ (.int .u64 (at_ l j n : Int))) := by
  have := tku_ok h n h1 h8 (by rw [List.length_drop]; omega)
  rw [List.drop_drop] at this
  exact this
def TakP (w : World) (q : Nat) (l : List Nat) (e : Ending) (w' : World) : Prop := e = .returned (iv (inl l)) ∧ TkS w' q ⟨0, l.drop 15, 15⟩ ∧ Fr (fun b => b = q) w w'
theorem bx_set {w : World} {g : Nat} {i i' : If} (b : Bx w g i) (j : Nat) (v : Value) (h : (ivl i).set! j v = ivl i') : Bx (w.setCell ⟨g, j, none⟩ v) g i' := by
  refine ⟨?_⟩
  rw [heap_setCell_same w g j _ _ _ b.row, ← h]
  rfl
set_option maxHeartbeats 2000000 in
theorem taken_any (q : Nat) (l : List Nat) (w : World) (h : TkS w q ⟨0, l, 0⟩) (hl : 15 ≤ l.length) :
    Calls Try.prog 36 #[.pointer (some ⟨q, 0, none⟩)] w (TakP w q l) := by
  have hq := h.lt
  have hlt := TkS.blt2 h
  have hrw : ∀ w, TkS w q ⟨0, l, 0⟩ → Calls Try.prog 48 #[.pointer (some ⟨q, 0, none⟩), .int .i64 4] w fun e w' => ∃ v, e = .returned v ∧ TkS w' q ⟨0, l.drop 4, 4⟩ ∧ Fr (fun b => b = q) w w' := fun w h => by
    have e := nx_ok (s := ⟨0, l, 0⟩) (k := 4) (f := false) rfl (fun h => by cases h) (by show 4 ≤ l.length; omega)
    refine (traw_any h 4).mono ?_
    rintro e' w' ⟨ao, cap, rfl, _, h2, h3, _⟩
    rw [show ((4 : Nat) : Int) = 4 from rfl] at e
    rw [e] at h2
    exact ⟨_, rfl, h2, h3⟩
  have HRW := hid hrw
  have HU1 := hid fun (w : World) (h : TkS w q ⟨0, l.drop 4, 4⟩) => tku_at 4 1 h (by decide) (by decide) (by omega)
  have HU2 := hid fun (w : World) (h : TkS w q ⟨0, l.drop 5, 5⟩) => tku_at 5 1 h (by decide) (by decide) (by omega)
  have HU3 := hid fun (w : World) (h : TkS w q ⟨0, l.drop 6, 6⟩) => tku_at 6 1 h (by decide) (by decide) (by omega)
  have HU4 := hid fun (w : World) (h : TkS w q ⟨0, l.drop 7, 7⟩) => tku_at 7 1 h (by decide) (by decide) (by omega)
  have HU5 := hid fun (w : World) (h : TkS w q ⟨0, l.drop 8, 8⟩) => tku_at 8 3 h (by decide) (by decide) (by omega)
  have HU6 := hid fun (w : World) (h : TkS w q ⟨0, l.drop 11, 11⟩) => tku_at 11 4 h (by decide) (by decide) (by omega)
  have u1 := i64_small _ (at_lt hlt 4 1 (by decide)); have u2 := i64_small _ (at_lt hlt 5 1 (by decide)); have u3 := i64_small _ (at_lt hlt 6 1 (by decide)); have u4 := i64_small _ (at_lt hlt 7 1 (by decide)); have u5 := i64_small _ (at_lt hlt 8 3 (by decide)); have u6 := i64_small _ (at_lt hlt 11 4 (by decide))
  have HPO := hid (show ∀ e w', TakP w q l e w' = (e = .returned (iv ⟨(at_ l 4 1 : Int), ⟨(at_ l 5 1 : Int), (at_ l 6 1 : Int), (at_ l 8 3 : Int)⟩, (at_ l 11 4 : Int), (at_ l 7 1 : Int)⟩) ∧ TkS w' q ⟨0, l.drop 15, 15⟩ ∧ Fr (fun b => b = q) w w') from fun _ _ => rfl)
  have HB0 := hid (below_new w (.cells (ivl iz) 25))
  have HT0 := hid (h.below HB0.out)
  have HZ0 := hid (Bx.new w iz)
  clear h hlt hrw hl
  generalize at_ l 4 1 = n1 at *
  generalize at_ l 5 1 = n2 at *
  generalize at_ l 6 1 = n3 at *
  generalize at_ l 7 1 = n4 at *
  generalize at_ l 8 3 = n5 at *
  generalize at_ l 11 4 = n6 at *
  go_enter Try.func36, Try.ntmps36
  go_wp2_with fail
  refine (HRW.out _ HT0.out).mono ?_
  rintro e w1 ⟨v, rfl, ht1, hf1⟩
  have HZ1 := hid (show Bx w1 w.heap.size iz from ⟨(hf1.block _ HZ0.out.lt (by omega)).trans HZ0.out.row⟩)
  have HF1 := hid ((fr_below (q := q) HB0.out).trans hf1)
  have hbn := below_new w1 (.cells (ivl iz) 25)
  have hsz : w.heap.size < w1.heap.size := HZ1.out.lt
  have HS := hid (show q < w1.heap.size from Nat.lt_of_lt_of_le hq HF1.out.size)
  have HT2 := hid (ht1.below hbn)
  have HZ2 := hid (HZ1.out.below hbn hsz)
  have HX2 := hid (Bx.new w1 iz)
  have HF2 := hid (HF1.out.trans (fr_below (q := q) hbn))
  have HN := hid (show q < w1.heap.size ∧ w.heap.size < w1.heap.size ∧ q < w.heap.size from ⟨HS.out, hsz, hq⟩)
  clear ht1 hf1 hbn hsz hq HZ0 HB0 HT0 HZ1 HF1 HS HRW
  go_wp2_with fail
  refine (HU1.out _ HT2.out).mono ?_
  rintro e v1 ⟨rfl, ht, hf⟩
  have hx : Bx v1 w1.heap.size _ := ⟨(hf.block _ HX2.out.lt (by have := HN.out.1; omega)).trans HX2.out.row⟩
  have hzz : Bx v1 w.heap.size iz := ⟨(hf.block _ HZ2.out.lt (by have := HN.out.2.2; omega)).trans HZ2.out.row⟩
  have hcc : v1.cell? ⟨w1.heap.size, 0, none⟩ = some (.int .i64 0) := hx.c0
  have hcf := hx.fz 0
  have HX2 := hid (bx_set hx 0 (.int .i64 (n1 : Int)) (i' := ⟨(n1 : Int), ⟨0, 0, 0⟩, 0, 0⟩) rfl)
  have HZ2 := hid (show Bx (v1.setCell ⟨w1.heap.size, 0, none⟩ (.int .i64 (n1 : Int))) w.heap.size iz from ⟨(heap_setCell_other _ _ _ _ (by have := HN.out.2.1; simp; omega)).trans hzz.row⟩)
  have HT2 := hid (tks_other ht (frq (q := w1.heap.size) 0 (.int .i64 (n1 : Int))) HN.out.1)
  have HF2 := hid (fr_setNew (HF2.out.trans hf) (p := ⟨w1.heap.size, 0, none⟩) (u := .int .i64 (n1 : Int)) (by have := HN.out.2.1; show w.heap.size ≤ w1.heap.size; omega))
  clear ht hf hx hzz
  go_wp2_with fail
  refine (HU2.out _ HT2.out).mono ?_
  rintro e v2 ⟨rfl, ht, hf⟩
  have hx : Bx v2 w1.heap.size _ := ⟨(hf.block _ HX2.out.lt (by have := HN.out.1; omega)).trans HX2.out.row⟩
  have hzz : Bx v2 w.heap.size iz := ⟨(hf.block _ HZ2.out.lt (by have := HN.out.2.2; omega)).trans HZ2.out.row⟩
  have hcc : v2.cell? ⟨w1.heap.size, 1, none⟩ = some (.int .i64 0) := hx.c1
  have hcf := hx.fz 1
  have HX2 := hid (bx_set hx 1 (.int .i64 (n2 : Int)) (i' := ⟨(n1 : Int), ⟨(n2 : Int), 0, 0⟩, 0, 0⟩) rfl)
  have HZ2 := hid (show Bx (v2.setCell ⟨w1.heap.size, 1, none⟩ (.int .i64 (n2 : Int))) w.heap.size iz from ⟨(heap_setCell_other _ _ _ _ (by have := HN.out.2.1; simp; omega)).trans hzz.row⟩)
  have HT2 := hid (tks_other ht (frq (q := w1.heap.size) 1 (.int .i64 (n2 : Int))) HN.out.1)
  have HF2 := hid (fr_setNew (HF2.out.trans hf) (p := ⟨w1.heap.size, 1, none⟩) (u := .int .i64 (n2 : Int)) (by have := HN.out.2.1; show w.heap.size ≤ w1.heap.size; omega))
  clear ht hf hx hzz
  go_wp2_with fail
  refine (HU3.out _ HT2.out).mono ?_
  rintro e v3 ⟨rfl, ht, hf⟩
  have hx : Bx v3 w1.heap.size _ := ⟨(hf.block _ HX2.out.lt (by have := HN.out.1; omega)).trans HX2.out.row⟩
  have hzz : Bx v3 w.heap.size iz := ⟨(hf.block _ HZ2.out.lt (by have := HN.out.2.2; omega)).trans HZ2.out.row⟩
  have hcc : v3.cell? ⟨w1.heap.size, 2, none⟩ = some (.int .i64 0) := hx.c2
  have hcf := hx.fz 2
  have HX2 := hid (bx_set hx 2 (.int .i64 (n3 : Int)) (i' := ⟨(n1 : Int), ⟨(n2 : Int), (n3 : Int), 0⟩, 0, 0⟩) rfl)
  have HZ2 := hid (show Bx (v3.setCell ⟨w1.heap.size, 2, none⟩ (.int .i64 (n3 : Int))) w.heap.size iz from ⟨(heap_setCell_other _ _ _ _ (by have := HN.out.2.1; simp; omega)).trans hzz.row⟩)
  have HT2 := hid (tks_other ht (frq (q := w1.heap.size) 2 (.int .i64 (n3 : Int))) HN.out.1)
  have HF2 := hid (fr_setNew (HF2.out.trans hf) (p := ⟨w1.heap.size, 2, none⟩) (u := .int .i64 (n3 : Int)) (by have := HN.out.2.1; show w.heap.size ≤ w1.heap.size; omega))
  clear ht hf hx hzz
  go_wp2_with fail
  refine (HU4.out _ HT2.out).mono ?_
  rintro e v4 ⟨rfl, ht, hf⟩
  have hx : Bx v4 w1.heap.size _ := ⟨(hf.block _ HX2.out.lt (by have := HN.out.1; omega)).trans HX2.out.row⟩
  have hzz : Bx v4 w.heap.size iz := ⟨(hf.block _ HZ2.out.lt (by have := HN.out.2.2; omega)).trans HZ2.out.row⟩
  have hcc : v4.cell? ⟨w1.heap.size, 5, none⟩ = some (.int .i64 0) := hx.c5
  have hcf := hx.fz 5
  have HX2 := hid (bx_set hx 5 (.int .i64 (n4 : Int)) (i' := ⟨(n1 : Int), ⟨(n2 : Int), (n3 : Int), 0⟩, 0, (n4 : Int)⟩) rfl)
  have HZ2 := hid (show Bx (v4.setCell ⟨w1.heap.size, 5, none⟩ (.int .i64 (n4 : Int))) w.heap.size iz from ⟨(heap_setCell_other _ _ _ _ (by have := HN.out.2.1; simp; omega)).trans hzz.row⟩)
  have HT2 := hid (tks_other ht (frq (q := w1.heap.size) 5 (.int .i64 (n4 : Int))) HN.out.1)
  have HF2 := hid (fr_setNew (HF2.out.trans hf) (p := ⟨w1.heap.size, 5, none⟩) (u := .int .i64 (n4 : Int)) (by have := HN.out.2.1; show w.heap.size ≤ w1.heap.size; omega))
  clear ht hf hx hzz
  go_wp2_with fail
  refine (HU5.out _ HT2.out).mono ?_
  rintro e v5 ⟨rfl, ht, hf⟩
  have hx : Bx v5 w1.heap.size _ := ⟨(hf.block _ HX2.out.lt (by have := HN.out.1; omega)).trans HX2.out.row⟩
  have hzz : Bx v5 w.heap.size iz := ⟨(hf.block _ HZ2.out.lt (by have := HN.out.2.2; omega)).trans HZ2.out.row⟩
  have hcc : v5.cell? ⟨w1.heap.size, 3, none⟩ = some (.int .i64 0) := hx.c3
  have hcf := hx.fz 3
  have HX2 := hid (bx_set hx 3 (.int .i64 (n5 : Int)) (i' := ⟨(n1 : Int), ⟨(n2 : Int), (n3 : Int), (n5 : Int)⟩, 0, (n4 : Int)⟩) rfl)
  have HZ2 := hid (show Bx (v5.setCell ⟨w1.heap.size, 3, none⟩ (.int .i64 (n5 : Int))) w.heap.size iz from ⟨(heap_setCell_other _ _ _ _ (by have := HN.out.2.1; simp; omega)).trans hzz.row⟩)
  have HT2 := hid (tks_other ht (frq (q := w1.heap.size) 3 (.int .i64 (n5 : Int))) HN.out.1)
  have HF2 := hid (fr_setNew (HF2.out.trans hf) (p := ⟨w1.heap.size, 3, none⟩) (u := .int .i64 (n5 : Int)) (by have := HN.out.2.1; show w.heap.size ≤ w1.heap.size; omega))
  clear ht hf hx hzz
  go_wp2_with fail
  refine (HU6.out _ HT2.out).mono ?_
  rintro e v6 ⟨rfl, ht, hf⟩
  have hx : Bx v6 w1.heap.size _ := ⟨(hf.block _ HX2.out.lt (by have := HN.out.1; omega)).trans HX2.out.row⟩
  have hzz : Bx v6 w.heap.size iz := ⟨(hf.block _ HZ2.out.lt (by have := HN.out.2.2; omega)).trans HZ2.out.row⟩
  have hcc : v6.cell? ⟨w1.heap.size, 4, none⟩ = some (.int .i64 0) := hx.c4
  have hcf := hx.fz 4
  have HX2 := hid (bx_set hx 4 (.int .i64 (n6 : Int)) (i' := ⟨(n1 : Int), ⟨(n2 : Int), (n3 : Int), (n5 : Int)⟩, (n6 : Int), (n4 : Int)⟩) rfl)
  have HZ2 := hid (show Bx (v6.setCell ⟨w1.heap.size, 4, none⟩ (.int .i64 (n6 : Int))) w.heap.size iz from ⟨(heap_setCell_other _ _ _ _ (by have := HN.out.2.1; simp; omega)).trans hzz.row⟩)
  have HT2 := hid (tks_other ht (frq (q := w1.heap.size) 4 (.int .i64 (n6 : Int))) HN.out.1)
  have HF2 := hid (fr_setNew (HF2.out.trans hf) (p := ⟨w1.heap.size, 4, none⟩) (u := .int .i64 (n6 : Int)) (by have := HN.out.2.1; show w.heap.size ≤ w1.heap.size; omega))
  clear ht hf hx hzz
  go_wp2_with (first
    | (refine wpList_load_row rfl 25 _ rfl w1.heap.size rfl 25 (ivl _) (0, 0) _ HX2.out.row Try.underlying25 rfl (ivl_size _) ?_)
    | (refine wpList_store_row rfl 25 _ _ rfl w.heap.size (ivl _) rfl rfl 25 (ivl iz) HZ2.out.row (ivl_size _) rfl (ivl_one _) ?_))
  refine bodyPost_ret (results_cell_row (p := 2) (ty := 25) (by kernel_rfl) _ _ w.heap.size 25 (ivl _) (0, 0) _ rfl (setRow_heap _ _ _ _ _ _ HZ2.out.row) Try.underlying25 rfl (ivl_size _)) rfl ?_
  rw [HPO.out]
  exact ⟨rfl, tks_other HT2.out (fr_setRow _ _ _) HN.out.2.2, fr_setRowNew HF2.out (Nat.le_refl _)⟩
end Go.Proofs.Ythaikhnplbbdlaa.Inf
