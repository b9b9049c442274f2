/- Right and Long, of the program and of the document; the flag of Last. No condition. -/
import Derived.Test.YtgcnbeigchppfaaIa
namespace Go.Proofs.Ytgcnbeigchppfaa.Head
open Go.RowKit Gen

/-- A head in a box. -/
structure Bx (w : World) (g : Nat) (h : Hh) : Prop where
  row : w.heap[g]? = some (.cells (hvl h) 38 (0, 0))
set_option maxRecDepth 100000 in
theorem Bx.rowIs {w : World} {g : Nat} {h : Hh} (b : Bx w g h) : w.rowIs g 38 8 (fun i => (hvl h).getD i undef) :=
  ⟨_, b.row, rfl, fun i hi => by rcases i with _ | _ | _ | _ | _ | _ | _ | _ | i <;> first | rfl | omega⟩
set_option maxRecDepth 100000 in
theorem Bx.new (w : World) (h : Hh) : Bx (w.alloc (.cells (hvl h) 38)) w.heap.size h := ⟨heap_alloc_new _ _⟩
set_option maxRecDepth 100000 in
theorem Bx.c0 {w : World} {g : Nat} {h : Hh} (b : Bx w g h) : w.cell? ⟨g, 0, none⟩ = some (.int .i64 h.k) := b.rowIs.cell (i := 0) (by decide)
set_option maxRecDepth 100000 in
theorem Bx.c1 {w : World} {g : Nat} {h : Hh} (b : Bx w g h) : w.cell? ⟨g, 1, none⟩ = some (.int .i64 h.ix) := b.rowIs.cell (i := 1) (by decide)
set_option maxRecDepth 100000 in
theorem Bx.c2 {w : World} {g : Nat} {h : Hh} (b : Bx w g h) : w.cell? ⟨g, 2, none⟩ = some (.int .i64 h.ln) := b.rowIs.cell (i := 2) (by decide)
set_option maxRecDepth 100000 in
theorem Bx.c3 {w : World} {g : Nat} {h : Hh} (b : Bx w g h) : w.cell? ⟨g, 3, none⟩ = some (.int .i64 h.st) := b.rowIs.cell (i := 3) (by decide)
set_option maxRecDepth 100000 in
theorem Bx.c4 {w : World} {g : Nat} {h : Hh} (b : Bx w g h) : w.cell? ⟨g, 4, none⟩ = some (.int .i64 h.bd) := b.rowIs.cell (i := 4) (by decide)
set_option maxRecDepth 100000 in
theorem Bx.c5 {w : World} {g : Nat} {h : Hh} (b : Bx w g h) : w.cell? ⟨g, 5, none⟩ = some (.bool h.la) := b.rowIs.cell (i := 5) (by decide)
set_option maxRecDepth 100000 in
theorem Bx.c6 {w : World} {g : Nat} {h : Hh} (b : Bx w g h) : w.cell? ⟨g, 6, none⟩ = some (.int .u32 (h.lk : Int)) := b.rowIs.cell (i := 6) (by decide)
set_option maxRecDepth 100000 in
theorem Bx.c7 {w : World} {g : Nat} {h : Hh} (b : Bx w g h) : w.cell? ⟨g, 7, none⟩ = some (.int .i64 h.sz) := b.rowIs.cell (i := 7) (by decide)
set_option maxRecDepth 100000 in
theorem Bx.fz {w : World} {g : Nat} {h : Hh} (b : Bx w g h) (i : Nat) : w.frozen? ⟨g, i, none⟩ = false := b.rowIs.frozen i
set_option maxRecDepth 100000 in
theorem Bx.lt {w : World} {g : Nat} {h : Hh} (b : Bx w g h) : g < w.heap.size := World.block_lt_of_cell? w _ b.c0
set_option maxRecDepth 100000 in
theorem Bx.below {w w' : World} {g : Nat} {h : Hh} (b : Bx w g h) {B : Nat} (hb : Below B w w') (hg : g < B) : Bx w' g h := ⟨(hb.block g hg).trans b.row⟩

/-- In which way a head is out of its bounds, in the order in which it is asked. -/
def Out (ix ln st bd sz : Int) : Prop :=
  ix < 0 ∨ (¬ ix < 0 ∧ 4294967295 < ix) ∨ (¬ ix < 0 ∧ ¬ 4294967295 < ix ∧ ln < 1) ∨ (¬ ix < 0 ∧ ¬ 4294967295 < ix ∧ ¬ ln < 1 ∧ 65536 < ln) ∨
  (¬ ix < 0 ∧ ¬ 4294967295 < ix ∧ ¬ ln < 1 ∧ ¬ 65536 < ln ∧ st < 1) ∨ (¬ ix < 0 ∧ ¬ 4294967295 < ix ∧ ¬ ln < 1 ∧ ¬ 65536 < ln ∧ ¬ st < 1 ∧ 2147483648 < st) ∨
  (¬ ix < 0 ∧ ¬ 4294967295 < ix ∧ ¬ ln < 1 ∧ ¬ 65536 < ln ∧ ¬ st < 1 ∧ ¬ 2147483648 < st ∧ bd < 0) ∨
  (¬ ix < 0 ∧ ¬ 4294967295 < ix ∧ ¬ ln < 1 ∧ ¬ 65536 < ln ∧ ¬ st < 1 ∧ ¬ 2147483648 < st ∧ ¬ bd < 0 ∧ st / 2 < bd) ∨
  (¬ ix < 0 ∧ ¬ 4294967295 < ix ∧ ¬ ln < 1 ∧ ¬ 65536 < ln ∧ ¬ st < 1 ∧ ¬ 2147483648 < st ∧ ¬ bd < 0 ∧ ¬ st / 2 < bd ∧ sz < 0) ∨
  (¬ ix < 0 ∧ ¬ 4294967295 < ix ∧ ¬ ln < 1 ∧ ¬ 65536 < ln ∧ ¬ st < 1 ∧ ¬ 2147483648 < st ∧ ¬ bd < 0 ∧ ¬ st / 2 < bd ∧ ¬ sz < 0 ∧ 16777216 < sz)
set_option maxRecDepth 100000 in
theorem inn_or (h : Hh) : (Inn h ∧ ¬ h.ix < 0 ∧ ¬ 4294967295 < h.ix ∧ ¬ h.ln < 1 ∧ ¬ 65536 < h.ln ∧ ¬ h.st < 1 ∧ ¬ 2147483648 < h.st ∧ ¬ h.bd < 0 ∧ ¬ h.st / 2 < h.bd ∧ ¬ h.sz < 0 ∧ ¬ 16777216 < h.sz) ∨ (¬ Inn h ∧ Out h.ix h.ln h.st h.bd h.sz) := by
  obtain ⟨k, ix, ln, st, bd, la, lk, sz⟩ := h
  unfold Inn Out
  simp only []
  generalize st / 2 = d at *
  by_cases h1 : ix < 0
  · exact .inr ⟨fun h => by omega, .inl h1⟩
  by_cases h2 : 4294967295 < ix
  · exact .inr ⟨fun h => by omega, .inr (.inl ⟨h1, h2⟩)⟩
  by_cases h3 : ln < 1
  · exact .inr ⟨fun h => by omega, .inr (.inr (.inl ⟨h1, h2, h3⟩))⟩
  by_cases h4 : 65536 < ln
  · exact .inr ⟨fun h => by omega, .inr (.inr (.inr (.inl ⟨h1, h2, h3, h4⟩)))⟩
  by_cases h5 : st < 1
  · exact .inr ⟨fun h => by omega, .inr (.inr (.inr (.inr (.inl ⟨h1, h2, h3, h4, h5⟩))))⟩
  by_cases h6 : 2147483648 < st
  · exact .inr ⟨fun h => by omega, .inr (.inr (.inr (.inr (.inr (.inl ⟨h1, h2, h3, h4, h5, h6⟩)))))⟩
  by_cases h7 : bd < 0
  · exact .inr ⟨fun h => by omega, .inr (.inr (.inr (.inr (.inr (.inr (.inl ⟨h1, h2, h3, h4, h5, h6, h7⟩))))))⟩
  by_cases h8 : d < bd
  · exact .inr ⟨fun h => by omega, .inr (.inr (.inr (.inr (.inr (.inr (.inr (.inl ⟨h1, h2, h3, h4, h5, h6, h7, h8⟩)))))))⟩
  by_cases h9 : sz < 0
  · exact .inr ⟨fun h => by omega, .inr (.inr (.inr (.inr (.inr (.inr (.inr (.inr (.inl ⟨h1, h2, h3, h4, h5, h6, h7, h8, h9⟩))))))))⟩
  by_cases h10 : 16777216 < sz
  · exact .inr ⟨fun h => by omega, .inr (.inr (.inr (.inr (.inr (.inr (.inr (.inr (.inr ⟨h1, h2, h3, h4, h5, h6, h7, h8, h9, h10⟩))))))))⟩
  exact .inl ⟨by omega, h1, h2, h3, h4, h5, h6, h7, h8, h9, h10⟩
set_option maxRecDepth 100000 in
theorem right_any (h : Hh) (w : World) : Calls Try.prog 48 #[hv h] w fun e w' => e = .returned (.bool (decide (Rt h))) ∧ Below w.heap.size w w' := by
  have HS := hid fun w => suits_any h w
  rcases inn_or h with ⟨hi, h1, h2, h3, h4, h5, h6, h7, h8, h9, h10⟩ | ⟨hi, ho⟩
  · have e : decide (Rt h) = decide (Sui h) := by unfold Rt; simp [hi]
    rw [e]
    have HI := hid hi
    clear e hi
    obtain ⟨k, ix, ln, st, bd, la, lk, sz⟩ := h
    change Calls Try.prog 48 #[.agg #[.int .i64 k, .int .i64 ix, .int .i64 ln, .int .i64 st, .int .i64 bd, .bool la, .int .u32 (lk : Int), .int .i64 sz]] w _
    simp only [] at h1 h2 h3 h4 h5 h6 h7 h8 h9 h10
    go_enter Try.func48, Try.ntmps48
    go_wp2_with fail
    refine (HS.out _).mono ?_
    rintro e w' ⟨rfl, hb⟩
    have hfin := (below_new w _).trans (hb.mono (below_new w _).size)
    clear hb
    go_wp2_with fail
    go_ret
    exact ⟨rfl, hfin⟩
  · have e : decide (Rt h) = false := by unfold Rt; simp [hi]
    rw [e]
    clear e hi
    obtain ⟨k, ix, ln, st, bd, la, lk, sz⟩ := h
    change Calls Try.prog 48 #[.agg #[.int .i64 k, .int .i64 ix, .int .i64 ln, .int .i64 st, .int .i64 bd, .bool la, .int .u32 (lk : Int), .int .i64 sz]] w _
    unfold Out at ho
    simp only [] at ho
    rcases ho with h1 | ⟨h1, h2⟩ | ⟨h1, h2, h3⟩ | ⟨h1, h2, h3, h4⟩ | ⟨h1, h2, h3, h4, h5⟩ | ⟨h1, h2, h3, h4, h5, h6⟩ | ⟨h1, h2, h3, h4, h5, h6, h7⟩ | ⟨h1, h2, h3, h4, h5, h6, h7, h8⟩ | ⟨h1, h2, h3, h4, h5, h6, h7, h8, h9⟩ | ⟨h1, h2, h3, h4, h5, h6, h7, h8, h9, h10⟩
    all_goals
      go_enter Try.func48, Try.ntmps48
      go_wp2_with fail
      go_ret
      exact ⟨rfl, below_new _ _⟩

set_option maxRecDepth 100000 in
theorem long_any (h : Hh) (w : World) : Calls Try.prog 30 #[hv h] w fun e w' => e = .returned (.int .i64 (if Rt h then 36 + h.sz else 0)) ∧ Below w.heap.size w w' := by
  have HR := hid fun w => right_any h w
  by_cases hr : Rt h
  · rw [if_pos hr]
    have hz : 0 ≤ h.sz ∧ h.sz ≤ 16777216 := ⟨hr.1.2.2.2.2.2.2.2.2.1, hr.1.2.2.2.2.2.2.2.2.2⟩
    rw [decide_eq_true hr] at HR
    clear hr
    obtain ⟨k, ix, ln, st, bd, la, lk, sz⟩ := h
    change Calls Try.prog 30 #[.agg #[.int .i64 k, .int .i64 ix, .int .i64 ln, .int .i64 st, .int .i64 bd, .bool la, .int .u32 (lk : Int), .int .i64 sz]] w _
    have hz0 : 0 ≤ sz := hz.1
    have hz1 : sz ≤ 16777216 := hz.2
    clear hz
    have HN := hid fun w => HR.out w
    go_enter Try.func30, Try.ntmps30
    go_wp2_with fail
    refine (HR.out _).mono ?_
    rintro e w' ⟨rfl, hb⟩
    have hfin := (below_new w _).trans (hb.mono (below_new w _).size)
    have hc := ((Bx.new w ⟨k, ix, ln, st, bd, la, lk, sz⟩).below hb (Bx.new w ⟨k, ix, ln, st, bd, la, lk, sz⟩).lt).c7
    simp only [] at hc
    clear hb
    go_wp2_with fail
    go_ret
    refine ⟨?_, hfin⟩
    congr 2
    go_num
  · rw [if_neg hr]
    rw [decide_eq_false hr] at HR
    clear hr
    obtain ⟨k, ix, ln, st, bd, la, lk, sz⟩ := h
    change Calls Try.prog 30 #[.agg #[.int .i64 k, .int .i64 ix, .int .i64 ln, .int .i64 st, .int .i64 bd, .bool la, .int .u32 (lk : Int), .int .i64 sz]] w _
    go_enter Try.func30, Try.ntmps30
    go_wp2_with fail
    refine (HR.out _).mono ?_
    rintro e w' ⟨rfl, hb⟩
    have hfin := (below_new w _).trans (hb.mono (below_new w _).size)
    clear hb
    go_wp2_with fail
    go_ret
    exact ⟨rfl, hfin⟩
end Go.Proofs.Ytgcnbeigchppfaa.Head
