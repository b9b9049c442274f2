/- The statements' fixed calls of pcm: they answer true, and nothing that was there has turned. No condition. -/
import Derived.Test.YtkdpalmdcnpnoaaWe
namespace Go.Proofs.Ytkdpalmdcnpnoaa.Pcm
open Go.RowKit Gen

set_option maxRecDepth 20000 in
theorem cell_old (w : World) (ob : Obj) (b o : Nat) (h : b < w.heap.size) : (w.alloc ob).cell? ⟨b, o, none⟩ = w.cell? ⟨b, o, none⟩ := World.cell?_of_block (a := ⟨b, o, none⟩) (RowKit.Below.heap_alloc _ _ _ h)
set_option maxRecDepth 20000 in
theorem frozen_old (w : World) (ob : Obj) (b o : Nat) (h : b < w.heap.size) : (w.alloc ob).frozen? ⟨b, o, none⟩ = w.frozen? ⟨b, o, none⟩ := World.frozen?_of_block (a := ⟨b, o, none⟩) (RowKit.Below.heap_alloc _ _ _ h)

set_option maxRecDepth 20000 in
theorem frozen_new (w : World) (c : Array Value) (t b : Nat) (h : b = w.heap.size) : (w.alloc (.cells c t)).frozen? ⟨b, 0, none⟩ = false := by
  subst h; rw [frozen?_alloc_cells]; simp [World.frozen?]
/-- Two channels of two samples, the second of which is x; the first list lies at g. -/
def dk (N g : Nat) (x : Int) : Dat := ⟨⟨2, 8, 9⟩, some ⟨N + 2, 0, none⟩, 2, 2, N + 2, 0, fun i => if i = 0 then some ⟨g, 0, none⟩ else some ⟨N + 1, 0, none⟩, fun _ => 2, fun _ => 2, fun i j => if i = 0 then (if j = 0 then 1 else x) else (if j = 0 then 3 else 4)⟩
set_option maxRecDepth 20000 in
theorem dk_chk (N g : Nat) : (dk N g 2).chk = 0 := by rfl
set_option maxRecDepth 20000 in
theorem dk_chk2 (N g : Nat) : (dk N g 128).chk = 21 := by rfl
set_option maxRecDepth 20000 in
theorem dk_wv (N g : Nat) : ∀ i, i < 4 → (dk N g 2).wv i = (fun i => if i = 0 then 1 else if i = 1 then 3 else if i = 2 then 2 else 4) i
  | 0, _ => by simp [Dat.wv, dk]
  | 1, _ => by simp [Dat.wv, dk]
  | 2, _ => by simp [Dat.wv, dk]
  | 3, _ => by simp [Dat.wv, dk]
/-- Where it lies. -/
structure Lk (W : World) (N g : Nat) (x : Int) : Prop where
  a0 : W.cell? ⟨g, 0, none⟩ = some (.int .i64 1)
  a1 : W.cell? ⟨g, 1, none⟩ = some (.int .i64 x)
  b0 : W.cell? ⟨N + 1, 0, none⟩ = some (.int .i64 3)
  b1 : W.cell? ⟨N + 1, 1, none⟩ = some (.int .i64 4)
  s0 : W.cell? ⟨N + 2, 0, none⟩ = some (.slice (some ⟨g, 0, none⟩) 2 2)
  s1 : W.cell? ⟨N + 2, 1, none⟩ = some (.slice (some ⟨N + 1, 0, none⟩) 2 2)
set_option maxRecDepth 20000 in
theorem Lk.snd {W : World} {N g : Nat} {x : Int} (h : Lk W N g x) : Snd W (dk N g x) := by
  refine ⟨fun _ => rfl, fun i hi => ?_, fun i hi => ?_, fun _ => World.block_lt_of_cell? _ _ h.s0, show (2 : Nat) ≤ 9223372036854775807 by decide⟩
  · match i, hi with
    | 0, _ => exact h.s0
    | 1, _ => exact h.s1
  · match i, hi with
    | 0, _ =>
      refine ⟨g, 0, fun _ => rfl, fun j hj => ?_, fun _ => World.block_lt_of_cell? _ _ h.a0, show (2 : Nat) ≤ 9223372036854775807 by decide⟩
      match j, hj with
      | 0, _ => exact h.a0
      | 1, _ => exact h.a1
    | 1, _ =>
      refine ⟨N + 1, 0, fun _ => rfl, fun j hj => ?_, fun _ => World.block_lt_of_cell? _ _ h.b0, show (2 : Nat) ≤ 9223372036854775807 by decide⟩
      match j, hj with
      | 0, _ => exact h.b0
      | 1, _ => exact h.b1
set_option maxRecDepth 20000 in
theorem Lk.below {W W' : World} {N g : Nat} {x : Int} (h : Lk W N g x) (hb : Below W.heap.size W W') : Lk W' N g x :=
  ⟨(hb.cell (p := ⟨g, 0, none⟩) (World.block_lt_of_cell? _ _ h.a0)).trans h.a0, (hb.cell (p := ⟨g, 1, none⟩) (World.block_lt_of_cell? _ _ h.a1)).trans h.a1,
   (hb.cell (p := ⟨N + 1, 0, none⟩) (World.block_lt_of_cell? _ _ h.b0)).trans h.b0, (hb.cell (p := ⟨N + 1, 1, none⟩) (World.block_lt_of_cell? _ _ h.b1)).trans h.b1,
   (hb.cell (p := ⟨N + 2, 0, none⟩) (World.block_lt_of_cell? _ _ h.s0)).trans h.s0, (hb.cell (p := ⟨N + 2, 1, none⟩) (World.block_lt_of_cell? _ _ h.s1)).trans h.s1⟩

/-- The world of the fixed sound. -/
def wk (w : World) : World := ((((w.alloc (.cells #[.int .i64 1, .int .i64 2] 3)).alloc (.cells #[.int .i64 3, .int .i64 4] 3)).alloc (.cells #[.slice (some ⟨w.heap.size, 0, none⟩) 2 2, .slice (some ⟨w.heap.size + 1, 0, none⟩) 2 2] 55)).alloc
  (.cells #[.int .i64 2, .int .i64 8, .int .i64 9, .slice (some ⟨w.heap.size + 1 + 1, 0, none⟩) 2 2] 26))
set_option maxRecDepth 20000 in
theorem wk_size (w : World) : (wk w).heap.size = w.heap.size + 4 := by simp [wk]
set_option maxRecDepth 20000 in
theorem wk_below (w : World) : Below w.heap.size w (wk w) := (((below_new w _).alloc (by simp) _).alloc (by simp; omega) _).alloc (by simp; omega) _
set_option maxRecDepth 20000 in
theorem wk_lk (w : World) : Lk (wk w) w.heap.size w.heap.size 2 := by
  refine ⟨?_, ?_, ?_, ?_, ?_, ?_⟩
  · unfold wk; rw [cell_old _ _ _ _ (by simp; omega), cell_old _ _ _ _ (by simp; omega), cell_old _ _ _ _ (by simp)]; simp
  · unfold wk; rw [cell_old _ _ _ _ (by simp; omega), cell_old _ _ _ _ (by simp; omega), cell_old _ _ _ _ (by simp)]; simp
  · unfold wk; rw [cell_old _ _ _ _ (by simp), cell_old _ _ _ _ (by simp)]; rw [World.cell?_alloc_at _ _ _ _ (by simp)]; rfl
  · unfold wk; rw [cell_old _ _ _ _ (by simp), cell_old _ _ _ _ (by simp)]; rw [World.cell?_alloc_at _ _ _ _ (by simp)]; rfl
  · unfold wk; rw [cell_old _ _ _ _ (by simp)]; rw [World.cell?_alloc_at _ _ _ _ (by simp)]; rfl
  · unfold wk; rw [cell_old _ _ _ _ (by simp)]; rw [World.cell?_alloc_at _ _ _ _ (by simp)]; rfl
set_option maxRecDepth 20000 in
theorem wk_bx (w : World) (i : Nat) (v : Value) (hv : (#[.int .i64 2, .int .i64 8, .int .i64 9, .slice (some ⟨w.heap.size + 1 + 1, 0, none⟩) 2 2] : Array Value)[i]? = some v) : (wk w).cell? ⟨w.heap.size + 3, i, none⟩ = some v := by
  unfold wk; rw [World.cell?_alloc_at _ _ _ _ (by simp)]; exact hv
set_option maxRecDepth 20000 in
theorem wk_frozen (w : World) : (wk w).frozen? ⟨w.heap.size + 2, 0, none⟩ = false := by
  unfold wk; rw [frozen_old _ _ _ _ (by simp)]
  exact frozen_new _ _ _ _ (by simp)

/-- The world behind the store. -/
def wz (w5 : World) (N : Nat) : World := (w5.alloc (.cells #[.int .i64 1, .int .i64 128] 3)).setCell ⟨N + 1 + 1, 0, none⟩ (.slice (some ⟨w5.heap.size, 0, none⟩) 2 2)
set_option maxRecDepth 20000 in
theorem wz_heap (w5 : World) (N k : Nat) (h : k ≠ N + 1 + 1) (hk : k < w5.heap.size) : (wz w5 N).heap[k]? = w5.heap[k]? := (Below.heap_setCell _ ⟨N + 1 + 1, 0, none⟩ _ k h).trans (RowKit.Below.heap_alloc _ _ _ hk)
set_option maxRecDepth 20000 in
theorem wz_below (w w5 : World) (h : Below w.heap.size w w5) : Below w.heap.size w (wz w5 w.heap.size) := (h.alloc h.size _).setCell (p := ⟨w.heap.size + 1 + 1, 0, none⟩) (show w.heap.size ≤ w.heap.size + 1 + 1 by omega) _
set_option maxRecDepth 20000 in
theorem wz_size (w5 : World) (N : Nat) : (wz w5 N).heap.size = w5.heap.size + 1 := by simp [wz]
set_option maxRecDepth 20000 in
theorem wz_lk (w5 : World) (N : Nat) (h : Lk w5 N N 2) (hz : N + 4 ≤ w5.heap.size) : Lk (wz w5 N) N w5.heap.size 128 := by
  have hn : ∀ (i : Nat) (v : Value), (#[.int .i64 1, .int .i64 128] : Array Value)[i]? = some v → (wz w5 N).cell? ⟨w5.heap.size, i, none⟩ = some v := fun i v hv => by
    unfold wz
    rw [World.cell?_setCell_other _ _ _ _ (by intro e; simp at e <;> omega), World.cell?_alloc_at _ _ _ _ rfl]; exact hv
  have ho : ∀ (k i : Nat), k ≠ N + 1 + 1 → k < w5.heap.size → (wz w5 N).cell? ⟨k, i, none⟩ = w5.cell? ⟨k, i, none⟩ := fun k i h1 h2 => World.cell?_of_block (a := ⟨k, i, none⟩) (wz_heap w5 N k h1 h2)
  refine ⟨hn 0 _ rfl, hn 1 _ rfl, (ho _ _ (by omega) (by omega)).trans h.b0, (ho _ _ (by omega) (by omega)).trans h.b1, ?_, ?_⟩
  · unfold wz
    exact World.cell?_setCell_same _ _ _ (u := .slice (some ⟨N, 0, none⟩) 2 2) ((cell_old w5 _ (N + 2) 0 (by omega)).trans h.s0)
  · unfold wz
    rw [World.cell?_setCell_other _ _ _ _ (by intro e; simp at e)]
    exact (cell_old w5 _ (N + 2) 1 (by omega)).trans h.s1
set_option maxRecDepth 20000 in
theorem wz_row {w5 : World} {N B : Nat} {lo : Option Addr} {lcap len : Nat} {f : Nat → Int} (h : Row w5 B lo lcap f len) (hB : N + 4 ≤ B) : Row (wz w5 N) B lo lcap f len :=
  rowblock h fun g hg => wz_heap w5 N g (by have := (h.lt g hg).1; omega) (h.lt g hg).2
set_option maxRecDepth 20000 in
theorem four (w : World) : Isb (w.alloc (.cells #[.int .i64 1, .int .i64 3, .int .i64 2, .int .i64 4] 3)) (some ⟨w.heap.size, 0, none⟩) 4 w.heap.size 0 (fun i => if i = 0 then 1 else if i = 1 then 3 else if i = 2 then 2 else 4) := by
  refine ⟨fun _ => rfl, fun i hi => ?_, fun _ => by simp, show (4 : Nat) ≤ 9223372036854775807 by decide⟩
  rw [World.cell?_alloc_at _ _ _ _ rfl]
  match i, hi with
  | 0, _ => rfl
  | 1, _ => rfl
  | 2, _ => rfl
  | 3, _ => rfl
set_option maxRecDepth 20000 in
theorem Below.of_fr {w w' : World} (hf : Fr (fun _ => False) w w') : Below w.heap.size w w' := ⟨hf.os, hf.tape, hf.output, hf.size, fun k hk => hf.block k hk fun x => x⟩

end Go.Proofs.Ytkdpalmdcnpnoaa.Pcm
