/- Fields that are taken one behind the other, of the program. Conditions: a taker in memory with bytes enough. -/
import Derived.Test.YtgcnbeigchppfaaIl
namespace Go.Proofs.Ytgcnbeigchppfaa.Head
open Go.RowKit Gen Fld
open Crc hiding hid

/-- The i-th field of bytes. -/
def fv (l : List Nat) (i : Nat) : Nat := lev ((l.drop (4 * i)).take 4)
set_option maxRecDepth 100000 in
theorem fv_lt {l : List Nat} (h : ∀ b ∈ l, b < 256) (i : Nat) : fv l i < 4294967296 := by
  have h1 : ∀ b ∈ (l.drop (4 * i)).take 4, b < 256 := fun b hb => h b (List.mem_of_mem_drop (List.mem_of_mem_take hb))
  have h2 := lev_lt _ h1
  have h3 : ((l.drop (4 * i)).take 4).length ≤ 4 := by rw [List.length_take]; omega
  have h4 : 2 ^ (8 * ((l.drop (4 * i)).take 4).length) ≤ 2 ^ 32 := Nat.pow_le_pow_right (by decide) (by omega)
  unfold fv
  have : (2 : Nat) ^ 32 = 4294967296 := by decide
  omega
/-- The first j fields, and noughts behind them. -/
def fvs (f : Nat → Nat) (j : Nat) : Array Value := #[.int .u64 ((if 0 < j then f 0 else 0 : Nat) : Int), .int .u64 ((if 1 < j then f 1 else 0 : Nat) : Int), .int .u64 ((if 2 < j then f 2 else 0 : Nat) : Int), .int .u64 ((if 3 < j then f 3 else 0 : Nat) : Int), .int .u64 ((if 4 < j then f 4 else 0 : Nat) : Int), .int .u64 ((if 5 < j then f 5 else 0 : Nat) : Int)]
def fvv (f : Nat → Nat) : Array Value := #[.int .u64 (f 0 : Int), .int .u64 (f 1 : Int), .int .u64 (f 2 : Int), .int .u64 (f 3 : Int), .int .u64 (f 4 : Int), .int .u64 (f 5 : Int)]
set_option maxRecDepth 100000 in
theorem fvs_six (f : Nat → Nat) : fvs f 6 = fvv f := rfl
def z6 : Array Value := #[.int .u64 0, .int .u64 0, .int .u64 0, .int .u64 0, .int .u64 0, .int .u64 0]
set_option maxRecDepth 100000 in
theorem fvs_zero (f : Nat → Nat) : fvs f 0 = z6 := rfl
set_option maxRecDepth 100000 in
theorem alloc2_old (w : World) (o1 o2 : Obj) : ((w.alloc o1).alloc o2).heap[w.heap.size]? = some o1 := by
  rw [Deep.blk_alloc_lt _ _ _ (by rw [Deep.nblk_alloc]; omega)]
  exact heap_alloc_new _ _
set_option maxRecDepth 100000 in
theorem row_cell {w : World} {g : Nat} {t : TypeId} {c : Array Value} (h : w.heap[g]? = some (.cells c t (0, 0))) (i : Nat) {v : Value} (hv : c[i]? = some v) : w.cell? ⟨g, i, none⟩ = some v := by
  unfold World.cell?
  rw [h]
  exact hv
set_option maxRecDepth 100000 in
theorem row_frozen {w : World} {g : Nat} {t : TypeId} {c : Array Value} (h : w.heap[g]? = some (.cells c t (0, 0))) (i : Nat) : w.frozen? ⟨g, i, none⟩ = false := by
  have hr : w.rowIs g t c.size (fun i => c.getD i undef) := ⟨c, h, rfl, fun i hi => by simp [hi]⟩
  exact hr.frozen i
set_option maxRecDepth 100000 in
theorem fvv_one (f : Nat → Nat) : (fvv f).all (·.oneCell') = true := by simp [fvv, Value.oneCell']
set_option maxRecDepth 100000 in
theorem fvv_size (f : Nat → Nat) : (Try.prog.info? 144).map (·.size) = some (fvv f).size := Try.size58
set_option maxRecDepth 100000 in
theorem fr_setNew {X : Nat → Prop} {w w' : World} (h : Fr X w w') {p : Addr} (hp : w.heap.size ≤ p.block) {u : Value} : Fr X w (w'.setCell p u) :=
  ⟨h.os, h.tape, h.output, by simpa using h.size, fun k hk hx => (heap_setCell_other _ _ _ _ (by omega)).trans (h.block k hk hx)⟩
set_option maxRecDepth 100000 in
theorem fr_setRowNew {X : Nat → Prop} {w w' : World} (h : Fr X w w') {g : Nat} (hp : w.heap.size ≤ g) {c : Array Value} : Fr X w (w'.setRow g c) :=
  ⟨h.os, h.tape, h.output, by simpa using h.size, fun k hk hx => (setRow_other _ _ _ _ (by omega)).trans (h.block k hk hx)⟩
set_option maxRecDepth 100000 in
theorem tks_other {w w' : World} {q : Nat} {s : TS} (h : TkS w q s) {g : Nat} (hf : Fr (fun b => b = g) w w') (hg : q < g) : TkS w' q s := by
  obtain ⟨a, cap, ht, h1, h2⟩ := h
  exact ⟨a, cap, ht.keep hf (by omega) (fun b off e hx => by obtain ⟨b', off', e1, e2, e3⟩ := ht.spot _ e; cases e1; omega), h1, h2⟩
set_option maxRecDepth 100000 in
theorem fr_setRow (w : World) (g : Nat) (cs : Array Value) : Fr (fun b => b = g) w (w.setRow g cs) :=
  ⟨rfl, rfl, rfl, by rw [size_setRow]; exact Nat.le_refl _, fun k _ hk => setRow_other w g k cs hk⟩
def TakP (w : World) (q : Nat) (l : List Nat) (p : Nat) (e : Ending) (w' : World) : Prop := e = .returned (.agg (fvv (fv l))) ∧ TkS w' q ⟨0, l.drop 24, p + 24⟩ ∧ Fr (fun b => b = q) w w'
set_option maxRecDepth 100000 in
set_option maxHeartbeats 1000000 in
theorem taken_any (q : Nat) (l : List Nat) (p : Nat) (w : World) (h : TkS w q ⟨0, l, p⟩) (hl : 24 ≤ l.length) :
    Calls Try.prog 80 #[.func (.func 75) #[.pointer (some ⟨q, 0, none⟩)] #[]] w (TakP w q l p) := by
  have hq := h.lt
  have h0 : TkS ((w.alloc (.cells z6 144)).alloc (.cells z6 144)) q ⟨0, l, p⟩ := h.below ((below_new w _).alloc (below_new w _).size _)
  have hb0 : Fr (fun b => b = q) w ((w.alloc (.cells z6 144)).alloc (.cells z6 144)) := fr_below ((below_new w _).alloc (below_new w _).size _)
  have r0 : ((w.alloc (.cells z6 144)).alloc (.cells z6 144)).heap[w.heap.size]? = some (.cells z6 144 (0, 0)) := alloc2_old _ _ _
  have r1 : ((w.alloc (.cells z6 144)).alloc (.cells z6 144)).heap[w.heap.size + 1]? = some (.cells z6 144 (0, 0)) := alloc2_at _ _ _
  have hstep : ∀ j, j ≤ 5 → ∀ wr, TkS wr q ⟨0, l.drop (4 * j), p + 4 * j⟩ → Calls Try.prog 75 #[.pointer (some ⟨q, 0, none⟩), .int .i64 4] wr (Took wr q ⟨0, l.drop (4 * (j + 1)), p + 4 * (j + 1)⟩ (.int .u64 (fv l j : Int))) := by
    intro j hj wr hk
    have := tku_ok hk 4 (by decide) (by decide) (by rw [List.length_drop]; omega)
    rw [List.drop_drop, show 4 * j + 4 = 4 * (j + 1) from by omega, show p + 4 * j + 4 = p + 4 * (j + 1) from by omega] at this
    exact this
  have HST := hid hstep
  have HE0 := hid (And.intro h0 (And.intro hb0 (And.intro r0 r1)))
  have hpo : ∀ e w', TakP w q l p e w' = (e = .returned (.agg (fvv (fv l))) ∧ TkS w' q ⟨0, l.drop 24, p + 24⟩ ∧ Fr (fun b => b = q) w w') := fun _ _ => rfl
  have HPO := hid hpo
  clear hpo hstep h h0 hb0 r0 r1 hl
  generalize fv l = f at *
  go_enter Try.func80, Try.ntmps80
  go_wp2_with fail
  go_loopg [4, 5] 6 (fun gg pl i wr => ∃ j : Nat, j ≤ 6 ∧ gg = 6 - j ∧ i = .int .i64 j ∧ TkS wr q ⟨0, l.drop (4 * j), p + 4 * j⟩ ∧ Fr (fun b => b = q) w wr ∧ wr.heap[w.heap.size]? = some (.cells z6 144 (0, 0)) ∧ wr.heap[w.heap.size + 1]? = some (.cells (fvs f j) 144 (0, 0)))
  case atStart => exact ⟨0, by decide, rfl, rfl, HE0.out.1, HE0.out.2.1, HE0.out.2.2.1, HE0.out.2.2.2⟩
  case round =>
    obtain ⟨j, hj, hg, rfl, hk, hf, hr0, hr1⟩ := hrel
    have HG := hid hg
    have HK := hid hk
    have HF := hid hf
    have HR0 := hid hr0
    have HR1 := hid hr1
    clear hg hk hf hr0 hr1 HE0
    have hx : j = 0 ∨ j = 1 ∨ j = 2 ∨ j = 3 ∨ j = 4 ∨ j = 5 ∨ j = 6 := by omega
    rcases hx with rfl | rfl | rfl | rfl | rfl | rfl | rfl
    · go_wp2_with fail
      refine (HST.out 0 (by decide) _ HK.out).mono ?_
      rintro e w1 ⟨rfl, hk1, hf1⟩
      have hrr := (hf1.block (w.heap.size + 1) (World.block_lt_of_cell? _ _ (row_cell HR1.out 0 rfl)) (by omega)).trans HR1.out
      have hrz := (hf1.block w.heap.size (World.block_lt_of_cell? _ _ (row_cell HR0.out 0 rfl)) (by omega)).trans HR0.out
      have hcc := row_cell hrr 0 rfl
      have hcf := row_frozen hrr 0
      have HRR := hid hrr
      have HRZ := hid hrz
      have HK1 := hid hk1
      have HF1 := hid (HF.out.trans hf1)
      clear hrr hrz hk1 hf1 HK HF HR0 HR1
      go_wp2_with fail
      go_roundg 5
      case measure => rw [HG.out]; omega
      case rel =>
        refine ⟨1, by decide, rfl, rfl, tks_other HK1.out (frq 0 _) (by omega), ?_, (heap_setCell_other _ _ _ _ (by simp)).trans HRZ.out, ?_⟩
        · exact fr_setNew HF1.out (Nat.le_add_right _ _)
        · rw [heap_setCell_same _ _ 0 _ _ _ HRR.out]; rfl
    · go_wp2_with fail
      refine (HST.out 1 (by decide) _ HK.out).mono ?_
      rintro e w1 ⟨rfl, hk1, hf1⟩
      have hrr := (hf1.block (w.heap.size + 1) (World.block_lt_of_cell? _ _ (row_cell HR1.out 0 rfl)) (by omega)).trans HR1.out
      have hrz := (hf1.block w.heap.size (World.block_lt_of_cell? _ _ (row_cell HR0.out 0 rfl)) (by omega)).trans HR0.out
      have hcc := row_cell hrr 1 rfl
      have hcf := row_frozen hrr 1
      have HRR := hid hrr
      have HRZ := hid hrz
      have HK1 := hid hk1
      have HF1 := hid (HF.out.trans hf1)
      clear hrr hrz hk1 hf1 HK HF HR0 HR1
      go_wp2_with fail
      go_roundg 4
      case measure => rw [HG.out]; omega
      case rel =>
        refine ⟨2, by decide, rfl, rfl, tks_other HK1.out (frq 1 _) (by omega), ?_, (heap_setCell_other _ _ _ _ (by simp)).trans HRZ.out, ?_⟩
        · exact fr_setNew HF1.out (Nat.le_add_right _ _)
        · rw [heap_setCell_same _ _ 1 _ _ _ HRR.out]; rfl
    · go_wp2_with fail
      refine (HST.out 2 (by decide) _ HK.out).mono ?_
      rintro e w1 ⟨rfl, hk1, hf1⟩
      have hrr := (hf1.block (w.heap.size + 1) (World.block_lt_of_cell? _ _ (row_cell HR1.out 0 rfl)) (by omega)).trans HR1.out
      have hrz := (hf1.block w.heap.size (World.block_lt_of_cell? _ _ (row_cell HR0.out 0 rfl)) (by omega)).trans HR0.out
      have hcc := row_cell hrr 2 rfl
      have hcf := row_frozen hrr 2
      have HRR := hid hrr
      have HRZ := hid hrz
      have HK1 := hid hk1
      have HF1 := hid (HF.out.trans hf1)
      clear hrr hrz hk1 hf1 HK HF HR0 HR1
      go_wp2_with fail
      go_roundg 3
      case measure => rw [HG.out]; omega
      case rel =>
        refine ⟨3, by decide, rfl, rfl, tks_other HK1.out (frq 2 _) (by omega), ?_, (heap_setCell_other _ _ _ _ (by simp)).trans HRZ.out, ?_⟩
        · exact fr_setNew HF1.out (Nat.le_add_right _ _)
        · rw [heap_setCell_same _ _ 2 _ _ _ HRR.out]; rfl
    · go_wp2_with fail
      refine (HST.out 3 (by decide) _ HK.out).mono ?_
      rintro e w1 ⟨rfl, hk1, hf1⟩
      have hrr := (hf1.block (w.heap.size + 1) (World.block_lt_of_cell? _ _ (row_cell HR1.out 0 rfl)) (by omega)).trans HR1.out
      have hrz := (hf1.block w.heap.size (World.block_lt_of_cell? _ _ (row_cell HR0.out 0 rfl)) (by omega)).trans HR0.out
      have hcc := row_cell hrr 3 rfl
      have hcf := row_frozen hrr 3
      have HRR := hid hrr
      have HRZ := hid hrz
      have HK1 := hid hk1
      have HF1 := hid (HF.out.trans hf1)
      clear hrr hrz hk1 hf1 HK HF HR0 HR1
      go_wp2_with fail
      go_roundg 2
      case measure => rw [HG.out]; omega
      case rel =>
        refine ⟨4, by decide, rfl, rfl, tks_other HK1.out (frq 3 _) (by omega), ?_, (heap_setCell_other _ _ _ _ (by simp)).trans HRZ.out, ?_⟩
        · exact fr_setNew HF1.out (Nat.le_add_right _ _)
        · rw [heap_setCell_same _ _ 3 _ _ _ HRR.out]; rfl
    · go_wp2_with fail
      refine (HST.out 4 (by decide) _ HK.out).mono ?_
      rintro e w1 ⟨rfl, hk1, hf1⟩
      have hrr := (hf1.block (w.heap.size + 1) (World.block_lt_of_cell? _ _ (row_cell HR1.out 0 rfl)) (by omega)).trans HR1.out
      have hrz := (hf1.block w.heap.size (World.block_lt_of_cell? _ _ (row_cell HR0.out 0 rfl)) (by omega)).trans HR0.out
      have hcc := row_cell hrr 4 rfl
      have hcf := row_frozen hrr 4
      have HRR := hid hrr
      have HRZ := hid hrz
      have HK1 := hid hk1
      have HF1 := hid (HF.out.trans hf1)
      clear hrr hrz hk1 hf1 HK HF HR0 HR1
      go_wp2_with fail
      go_roundg 1
      case measure => rw [HG.out]; omega
      case rel =>
        refine ⟨5, by decide, rfl, rfl, tks_other HK1.out (frq 4 _) (by omega), ?_, (heap_setCell_other _ _ _ _ (by simp)).trans HRZ.out, ?_⟩
        · exact fr_setNew HF1.out (Nat.le_add_right _ _)
        · rw [heap_setCell_same _ _ 4 _ _ _ HRR.out]; rfl
    · go_wp2_with fail
      refine (HST.out 5 (by decide) _ HK.out).mono ?_
      rintro e w1 ⟨rfl, hk1, hf1⟩
      have hrr := (hf1.block (w.heap.size + 1) (World.block_lt_of_cell? _ _ (row_cell HR1.out 0 rfl)) (by omega)).trans HR1.out
      have hrz := (hf1.block w.heap.size (World.block_lt_of_cell? _ _ (row_cell HR0.out 0 rfl)) (by omega)).trans HR0.out
      have hcc := row_cell hrr 5 rfl
      have hcf := row_frozen hrr 5
      have HRR := hid hrr
      have HRZ := hid hrz
      have HK1 := hid hk1
      have HF1 := hid (HF.out.trans hf1)
      clear hrr hrz hk1 hf1 HK HF HR0 HR1
      go_wp2_with fail
      go_roundg 0
      case measure => rw [HG.out]; omega
      case rel =>
        refine ⟨6, by decide, rfl, rfl, tks_other HK1.out (frq 5 _) (by omega), ?_, (heap_setCell_other _ _ _ _ (by simp)).trans HRZ.out, ?_⟩
        · exact fr_setNew HF1.out (Nat.le_add_right _ _)
        · rw [heap_setCell_same _ _ 5 _ _ _ HRR.out]; rfl
    · go_wp2_with (first
        | (refine wpList_load_row rfl 144 _ rfl (w.heap.size + 1) rfl 144 (fvv f) (0, 0) _ HR1.out Try.underlying144 rfl (fvv_size f) ?_)
        | (refine wpList_store_row rfl 144 _ _ rfl w.heap.size (fvv f) rfl rfl 144 z6 HR0.out (fvv_size f) rfl (fvv_one f) ?_))
      refine bodyPost_ret (results_cell_row (p := 2) (ty := 144) (by kernel_rfl) _ _ w.heap.size 144 (fvv f) (0, 0) _ rfl (setRow_heap _ _ _ _ _ _ HR0.out) Try.underlying144 rfl Try.size58) rfl ?_
      rw [HPO.out]
      exact ⟨rfl, tks_other HK.out (fr_setRow _ _ _) (by omega), fr_setRowNew HF.out (Nat.le_refl _)⟩
end Go.Proofs.Ytgcnbeigchppfaa.Head
