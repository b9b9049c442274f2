/- Heads as data, which are right, and how long their blocks are: of the program and of the document. No condition. -/
import Derived.Test.YthjjonbkfkpkmaaDoorY03
import Derived.Test.YthjjonbkfkpkmaaDoorY04
import Derived.Test.YthjjonbkfkpkmaaDoorY05
import Derived.WalkMore
import Derived.Laws.ResultCell
import Derived.Deep.LoopGhost
namespace Go.Proofs.YthjjonbkfkpkmaaDoor.Head
open Go.RowKit Gen

/-- A head. -/
structure Hh where
  k : Int
  ix : Int
  ln : Int
  st : Int
  bd : Int
  la : Bool
  lk : Nat
  sz : Int
def hvl (h : Hh) : Array Value := #[.int .i64 h.k, .int .i64 h.ix, .int .i64 h.ln, .int .i64 h.st, .int .i64 h.bd, .bool h.la, .int .u32 (h.lk : Int), .int .i64 h.sz]
def hv (h : Hh) : Value := .agg (hvl h)
/-- Its numbers are in their bounds. -/
def Inn (h : Hh) : Prop := 0 ≤ h.ix ∧ h.ix ≤ 4294967295 ∧ 1 ≤ h.ln ∧ h.ln ≤ 65536 ∧ 1 ≤ h.st ∧ h.st ≤ 2147483648 ∧ 0 ≤ h.bd ∧ h.bd ≤ h.st / 2 ∧ 0 ≤ h.sz ∧ h.sz ≤ 16777216
/-- It has nothing that its kind may not have. -/
def Sui (h : Hh) : Prop := (h.k = 1 ∧ h.lk = 0) ∨ (h.k = 2 ∧ h.la = false) ∨ (h.k = 3 ∧ h.la = false ∧ h.lk = 0 ∧ h.st = 1)
def Rt (h : Hh) : Prop := Inn h ∧ Sui h
instance (h : Hh) : Decidable (Inn h) := by unfold Inn; exact inferInstance
instance (h : Hh) : Decidable (Sui h) := by unfold Sui; exact inferInstance
instance (h : Hh) : Decidable (Rt h) := by unfold Rt; exact inferInstance

set_option maxRecDepth 100000 in
theorem below_new (w : World) (o : Obj) : Below w.heap.size w (w.alloc o) := (Below.refl _ _).alloc (Nat.le_refl _) _
set_option maxRecDepth 100000 in
theorem half (n : Int) (h : 0 ≤ n) : n.tdiv 2 = n / 2 := Int.tdiv_eq_ediv_of_nonneg h
set_option maxRecDepth 100000 in
theorem suits_any (h : Hh) (w : World) : Calls Tryd.prog 90 #[hv h] w fun e w' => e = .returned (.bool (decide (Sui h))) ∧ Below w.heap.size w w' := by
  obtain ⟨k, ix, ln, st, bd, la, lk, sz⟩ := h
  have hs : Sui ⟨k, ix, ln, st, bd, la, lk, sz⟩ ↔ ((k = 1 ∧ lk = 0) ∨ (k = 2 ∧ la = false) ∨ (k = 3 ∧ la = false ∧ lk = 0 ∧ st = 1)) := Iff.rfl
  change Calls Tryd.prog 90 #[.agg #[.int .i64 k, .int .i64 ix, .int .i64 ln, .int .i64 st, .int .i64 bd, .bool la, .int .u32 (lk : Int), .int .i64 sz]] w _
  obtain ⟨b, hb⟩ : ∃ b, b = decide (Sui ⟨k, ix, ln, st, bd, la, lk, sz⟩) := ⟨_, rfl⟩
  rw [← hb]
  have hl : lk = 0 ∨ lk ≠ 0 := by omega
  have ht : st = 1 ∨ st ≠ 1 := by omega
  have hk : k = 1 ∨ k = 2 ∨ k = 3 ∨ (k ≠ 1 ∧ k ≠ 2 ∧ k ≠ 3) := by omega
  have HB := hid hb
  have HS := hid hs
  clear hb hs
  rcases hk with rfl | rfl | rfl | ⟨h1, h2, h3⟩ <;> rcases hl with rfl | hl <;> cases la <;> rcases ht with rfl | ht
  all_goals
    try have e1 : ((lk : Int) == 0) = false := by simpa using hl
    try have e2 : (st == 1) = false := by simpa using ht
    try have k1 : (k == 1) = false := by simpa using h1
    try have k2 : (k == 2) = false := by simpa using h2
    try have k3 : (k == 3) = false := by simpa using h3
    go_enter Tryd.func90, Tryd.ntmps90
    go_wp2_with fail
    go_ret
    refine ⟨?_, below_new _ _⟩
    rw [HB.out]
    simp [HS.out, *]
end Go.Proofs.YthjjonbkfkpkmaaDoor.Head
namespace Go.Proofs.YthjjonbkfkpkmaaDoor.Head
open Go.RowKit Gen

/-- A head in a box. -/
structure Bx (w : World) (g : Nat) (h : Hh) : Prop where
  row : w.heap[g]? = some (.cells (hvl h) 83 (0, 0))
set_option maxRecDepth 100000 in
theorem Bx.rowIs {w : World} {g : Nat} {h : Hh} (b : Bx w g h) : w.rowIs g 83 8 (fun i => (hvl h).getD i undef) :=
  ⟨_, b.row, rfl, fun i hi => by rcases i with _ | _ | _ | _ | _ | _ | _ | _ | i <;> first | rfl | omega⟩
set_option maxRecDepth 100000 in
theorem Bx.new (w : World) (h : Hh) : Bx (w.alloc (.cells (hvl h) 83)) w.heap.size h := ⟨heap_alloc_new _ _⟩
set_option maxRecDepth 100000 in
theorem Bx.c0 {w : World} {g : Nat} {h : Hh} (b : Bx w g h) : w.cell? ⟨g, 0, none⟩ = some (.int .i64 h.k) := b.rowIs.cell (i := 0) (by decide)
set_option maxRecDepth 100000 in
theorem Bx.c1 {w : World} {g : Nat} {h : Hh} (b : Bx w g h) : w.cell? ⟨g, 1, none⟩ = some (.int .i64 h.ix) := b.rowIs.cell (i := 1) (by decide)
set_option maxRecDepth 100000 in
theorem Bx.c2 {w : World} {g : Nat} {h : Hh} (b : Bx w g h) : w.cell? ⟨g, 2, none⟩ = some (.int .i64 h.ln) := b.rowIs.cell (i := 2) (by decide)
set_option maxRecDepth 100000 in
theorem Bx.c3 {w : World} {g : Nat} {h : Hh} (b : Bx w g h) : w.cell? ⟨g, 3, none⟩ = some (.int .i64 h.st) := b.rowIs.cell (i := 3) (by decide)
set_option maxRecDepth 100000 in
theorem Bx.c4 {w : World} {g : Nat} {h : Hh} (b : Bx w g h) : w.cell? ⟨g, 4, none⟩ = some (.int .i64 h.bd) := b.rowIs.cell (i := 4) (by decide)
set_option maxRecDepth 100000 in
theorem Bx.c5 {w : World} {g : Nat} {h : Hh} (b : Bx w g h) : w.cell? ⟨g, 5, none⟩ = some (.bool h.la) := b.rowIs.cell (i := 5) (by decide)
set_option maxRecDepth 100000 in
theorem Bx.c6 {w : World} {g : Nat} {h : Hh} (b : Bx w g h) : w.cell? ⟨g, 6, none⟩ = some (.int .u32 (h.lk : Int)) := b.rowIs.cell (i := 6) (by decide)
set_option maxRecDepth 100000 in
theorem Bx.c7 {w : World} {g : Nat} {h : Hh} (b : Bx w g h) : w.cell? ⟨g, 7, none⟩ = some (.int .i64 h.sz) := b.rowIs.cell (i := 7) (by decide)
set_option maxRecDepth 100000 in
theorem Bx.fz {w : World} {g : Nat} {h : Hh} (b : Bx w g h) (i : Nat) : w.frozen? ⟨g, i, none⟩ = false := b.rowIs.frozen i
set_option maxRecDepth 100000 in
theorem Bx.lt {w : World} {g : Nat} {h : Hh} (b : Bx w g h) : g < w.heap.size := World.block_lt_of_cell? w _ b.c0
set_option maxRecDepth 100000 in
theorem Bx.below {w w' : World} {g : Nat} {h : Hh} (b : Bx w g h) {B : Nat} (hb : Below B w w') (hg : g < B) : Bx w' g h := ⟨(hb.block g hg).trans b.row⟩

/-- In which way a head is out of its bounds, in the order in which it is asked. -/
def Out (ix ln st bd sz : Int) : Prop :=
  ix < 0 ∨ (¬ ix < 0 ∧ 4294967295 < ix) ∨ (¬ ix < 0 ∧ ¬ 4294967295 < ix ∧ ln < 1) ∨ (¬ ix < 0 ∧ ¬ 4294967295 < ix ∧ ¬ ln < 1 ∧ 65536 < ln) ∨
  (¬ ix < 0 ∧ ¬ 4294967295 < ix ∧ ¬ ln < 1 ∧ ¬ 65536 < ln ∧ st < 1) ∨ (¬ ix < 0 ∧ ¬ 4294967295 < ix ∧ ¬ ln < 1 ∧ ¬ 65536 < ln ∧ ¬ st < 1 ∧ 2147483648 < st) ∨
  (¬ ix < 0 ∧ ¬ 4294967295 < ix ∧ ¬ ln < 1 ∧ ¬ 65536 < ln ∧ ¬ st < 1 ∧ ¬ 2147483648 < st ∧ bd < 0) ∨
  (¬ ix < 0 ∧ ¬ 4294967295 < ix ∧ ¬ ln < 1 ∧ ¬ 65536 < ln ∧ ¬ st < 1 ∧ ¬ 2147483648 < st ∧ ¬ bd < 0 ∧ st / 2 < bd) ∨
  (¬ ix < 0 ∧ ¬ 4294967295 < ix ∧ ¬ ln < 1 ∧ ¬ 65536 < ln ∧ ¬ st < 1 ∧ ¬ 2147483648 < st ∧ ¬ bd < 0 ∧ ¬ st / 2 < bd ∧ sz < 0) ∨
  (¬ ix < 0 ∧ ¬ 4294967295 < ix ∧ ¬ ln < 1 ∧ ¬ 65536 < ln ∧ ¬ st < 1 ∧ ¬ 2147483648 < st ∧ ¬ bd < 0 ∧ ¬ st / 2 < bd ∧ ¬ sz < 0 ∧ 16777216 < sz)
set_option maxRecDepth 100000 in
theorem inn_or (h : Hh) : (Inn h ∧ ¬ h.ix < 0 ∧ ¬ 4294967295 < h.ix ∧ ¬ h.ln < 1 ∧ ¬ 65536 < h.ln ∧ ¬ h.st < 1 ∧ ¬ 2147483648 < h.st ∧ ¬ h.bd < 0 ∧ ¬ h.st / 2 < h.bd ∧ ¬ h.sz < 0 ∧ ¬ 16777216 < h.sz) ∨ (¬ Inn h ∧ Out h.ix h.ln h.st h.bd h.sz) := by
  obtain ⟨k, ix, ln, st, bd, la, lk, sz⟩ := h
  unfold Inn Out
  simp only []
  generalize st / 2 = d at *
  by_cases h1 : ix < 0
  · exact .inr ⟨fun h => by omega, .inl h1⟩
  by_cases h2 : 4294967295 < ix
  · exact .inr ⟨fun h => by omega, .inr (.inl ⟨h1, h2⟩)⟩
  by_cases h3 : ln < 1
  · exact .inr ⟨fun h => by omega, .inr (.inr (.inl ⟨h1, h2, h3⟩))⟩
  by_cases h4 : 65536 < ln
  · exact .inr ⟨fun h => by omega, .inr (.inr (.inr (.inl ⟨h1, h2, h3, h4⟩)))⟩
  by_cases h5 : st < 1
  · exact .inr ⟨fun h => by omega, .inr (.inr (.inr (.inr (.inl ⟨h1, h2, h3, h4, h5⟩))))⟩
  by_cases h6 : 2147483648 < st
  · exact .inr ⟨fun h => by omega, .inr (.inr (.inr (.inr (.inr (.inl ⟨h1, h2, h3, h4, h5, h6⟩)))))⟩
  by_cases h7 : bd < 0
  · exact .inr ⟨fun h => by omega, .inr (.inr (.inr (.inr (.inr (.inr (.inl ⟨h1, h2, h3, h4, h5, h6, h7⟩))))))⟩
  by_cases h8 : d < bd
  · exact .inr ⟨fun h => by omega, .inr (.inr (.inr (.inr (.inr (.inr (.inr (.inl ⟨h1, h2, h3, h4, h5, h6, h7, h8⟩)))))))⟩
  by_cases h9 : sz < 0
  · exact .inr ⟨fun h => by omega, .inr (.inr (.inr (.inr (.inr (.inr (.inr (.inr (.inl ⟨h1, h2, h3, h4, h5, h6, h7, h8, h9⟩))))))))⟩
  by_cases h10 : 16777216 < sz
  · exact .inr ⟨fun h => by omega, .inr (.inr (.inr (.inr (.inr (.inr (.inr (.inr (.inr ⟨h1, h2, h3, h4, h5, h6, h7, h8, h9, h10⟩))))))))⟩
  exact .inl ⟨by omega, h1, h2, h3, h4, h5, h6, h7, h8, h9, h10⟩
set_option maxRecDepth 100000 in
theorem right_any (h : Hh) (w : World) : Calls Tryd.prog 68 #[hv h] w fun e w' => e = .returned (.bool (decide (Rt h))) ∧ Below w.heap.size w w' := by
  have HS := hid fun w => suits_any h w
  rcases inn_or h with ⟨hi, h1, h2, h3, h4, h5, h6, h7, h8, h9, h10⟩ | ⟨hi, ho⟩
  · have e : decide (Rt h) = decide (Sui h) := by unfold Rt; simp [hi]
    rw [e]
    have HI := hid hi
    clear e hi
    obtain ⟨k, ix, ln, st, bd, la, lk, sz⟩ := h
    change Calls Tryd.prog 68 #[.agg #[.int .i64 k, .int .i64 ix, .int .i64 ln, .int .i64 st, .int .i64 bd, .bool la, .int .u32 (lk : Int), .int .i64 sz]] w _
    simp only [] at h1 h2 h3 h4 h5 h6 h7 h8 h9 h10
    go_enter Tryd.func68, Tryd.ntmps68
    go_wp2_with fail
    refine (HS.out _).mono ?_
    rintro e w' ⟨rfl, hb⟩
    have hfin := (below_new w _).trans (hb.mono (below_new w _).size)
    clear hb
    go_wp2_with fail
    go_ret
    exact ⟨rfl, hfin⟩
  · have e : decide (Rt h) = false := by unfold Rt; simp [hi]
    rw [e]
    clear e hi
    obtain ⟨k, ix, ln, st, bd, la, lk, sz⟩ := h
    change Calls Tryd.prog 68 #[.agg #[.int .i64 k, .int .i64 ix, .int .i64 ln, .int .i64 st, .int .i64 bd, .bool la, .int .u32 (lk : Int), .int .i64 sz]] w _
    unfold Out at ho
    simp only [] at ho
    rcases ho with h1 | ⟨h1, h2⟩ | ⟨h1, h2, h3⟩ | ⟨h1, h2, h3, h4⟩ | ⟨h1, h2, h3, h4, h5⟩ | ⟨h1, h2, h3, h4, h5, h6⟩ | ⟨h1, h2, h3, h4, h5, h6, h7⟩ | ⟨h1, h2, h3, h4, h5, h6, h7, h8⟩ | ⟨h1, h2, h3, h4, h5, h6, h7, h8, h9⟩ | ⟨h1, h2, h3, h4, h5, h6, h7, h8, h9, h10⟩
    all_goals
      go_enter Tryd.func68, Tryd.ntmps68
      go_wp2_with fail
      go_ret
      exact ⟨rfl, below_new _ _⟩

set_option maxRecDepth 100000 in
theorem long_any (h : Hh) (w : World) : Calls Tryd.prog 35 #[hv h] w fun e w' => e = .returned (.int .i64 (if Rt h then 36 + h.sz else 0)) ∧ Below w.heap.size w w' := by
  have HR := hid fun w => right_any h w
  by_cases hr : Rt h
  · rw [if_pos hr]
    have hz : 0 ≤ h.sz ∧ h.sz ≤ 16777216 := ⟨hr.1.2.2.2.2.2.2.2.2.1, hr.1.2.2.2.2.2.2.2.2.2⟩
    rw [decide_eq_true hr] at HR
    clear hr
    obtain ⟨k, ix, ln, st, bd, la, lk, sz⟩ := h
    change Calls Tryd.prog 35 #[.agg #[.int .i64 k, .int .i64 ix, .int .i64 ln, .int .i64 st, .int .i64 bd, .bool la, .int .u32 (lk : Int), .int .i64 sz]] w _
    have hz0 : 0 ≤ sz := hz.1
    have hz1 : sz ≤ 16777216 := hz.2
    clear hz
    have HN := hid fun w => HR.out w
    go_enter Tryd.func35, Tryd.ntmps35
    go_wp2_with fail
    refine (HR.out _).mono ?_
    rintro e w' ⟨rfl, hb⟩
    have hfin := (below_new w _).trans (hb.mono (below_new w _).size)
    have hc := ((Bx.new w ⟨k, ix, ln, st, bd, la, lk, sz⟩).below hb (Bx.new w ⟨k, ix, ln, st, bd, la, lk, sz⟩).lt).c7
    simp only [] at hc
    clear hb
    go_wp2_with fail
    go_ret
    refine ⟨?_, hfin⟩
    congr 2
    go_num
  · rw [if_neg hr]
    rw [decide_eq_false hr] at HR
    clear hr
    obtain ⟨k, ix, ln, st, bd, la, lk, sz⟩ := h
    change Calls Tryd.prog 35 #[.agg #[.int .i64 k, .int .i64 ix, .int .i64 ln, .int .i64 st, .int .i64 bd, .bool la, .int .u32 (lk : Int), .int .i64 sz]] w _
    go_enter Tryd.func35, Tryd.ntmps35
    go_wp2_with fail
    refine (HR.out _).mono ?_
    rintro e w' ⟨rfl, hb⟩
    have hfin := (below_new w _).trans (hb.mono (below_new w _).size)
    clear hb
    go_wp2_with fail
    go_ret
    exact ⟨rfl, hfin⟩
end Go.Proofs.YthjjonbkfkpkmaaDoor.Head
namespace Go.Proofs.YthjjonbkfkpkmaaDoor.Fil
open Go.RowKit Gen Fld

def SRt (q bits : Int) : Prop := 1 ≤ bits ∧ bits ≤ 32 ∧ 1 ≤ q ∧ q ≤ ((2 ^ (bits - 1).toNat : Nat) : Int)
instance (q bits : Int) : Decidable (SRt q bits) := by unfold SRt; exact inferInstance
set_option maxRecDepth 100000 in
theorem srt_ok (q bits : Int) (m : Nat) (h : bits = (m : Int) + 1) : SRt q bits ↔ m ≤ 31 ∧ 1 ≤ q ∧ q ≤ ((2 ^ m : Nat) : Int) := by
  subst h
  unfold SRt
  have : ((m : Int) + 1 - 1).toNat = m := by omega
  rw [this]
  constructor
  · rintro ⟨a, b, c, d⟩; exact ⟨by omega, c, d⟩
  · rintro ⟨a, c, d⟩; exact ⟨by omega, by omega, c, d⟩

set_option maxRecDepth 100000 in
theorem wrap_small (n : Nat) (h : n ≤ 2147483648) : wrap64 (n : Int) = (n : Int) := by
  exact IntWalk.wrap64_in _ (by omega)
set_option maxRecDepth 100000 in
theorem sright_any (q bits : Int) (w : World) : Calls Tryd.prog 91 #[.int .i64 q, .int .i64 bits] w fun e w' => e = .returned (.bool (decide (SRt q bits))) ∧ w = w' := by
  by_cases h1 : 1 ≤ bits
  · by_cases h2 : bits ≤ 32
    · by_cases h3 : 1 ≤ q
      · obtain ⟨m, rfl⟩ : ∃ m : Nat, bits = (m : Int) + 1 := ⟨(bits - 1).toNat, by omega⟩
        have hm : m ≤ 31 := by omega
        have e : decide (SRt q ((m : Int) + 1)) = decide (q ≤ ((2 ^ m : Nat) : Int)) := decide_eq_decide.2 ((srt_ok q _ m rfl).trans ⟨fun h => h.2.2, fun h => ⟨hm, h3, h⟩⟩)
        rw [e]
        have hp : 2 ^ m ≤ 2147483648 := Nat.le_trans (Nat.pow_le_pow_right (by decide) hm) (by decide)
        go_enter Tryd.func91, Tryd.ntmps91
        go_wp2_with fail
        go_ret
        refine ⟨?_, rfl⟩
        have hw : wrap64 ((2 : Int) ^ m) = ((2 ^ m : Nat) : Int) := by
          have e1 : ((2 : Int) ^ m) = ((2 ^ m : Nat) : Int) := by push_cast; rfl
          rw [e1]
          exact wrap_small _ hp
        show Ending.returned (Value.bool (decide (q ≤ wrap64 ((2 : Int) ^ m)))) = _
        rw [hw]
      · have e : decide (SRt q bits) = false := decide_eq_false fun h => h3 h.2.2.1
        rw [e]
        go_enter Tryd.func91, Tryd.ntmps91
        go_wp2_with fail
        go_ret
        exact ⟨rfl, rfl⟩
    · have e : decide (SRt q bits) = false := decide_eq_false fun h => h2 h.2.1
      rw [e]
      go_enter Tryd.func91, Tryd.ntmps91
      go_wp2_with fail
      go_ret
      exact ⟨rfl, rfl⟩
  · have e : decide (SRt q bits) = false := decide_eq_false fun h => h1 h.1
    rw [e]
    go_enter Tryd.func91, Tryd.ntmps91
    go_wp2_with fail
    go_ret
    exact ⟨rfl, rfl⟩
set_option maxRecDepth 100000 in
theorem two_new (w : World) (o p : Obj) : Below w.heap.size w ((w.alloc o).alloc p) :=
  (Inf.below_new w o).trans ((Inf.below_new (w.alloc o) p).mono (Inf.below_new w o).size)
/-- Why a block may not be next. -/
def nxt (i : Inf.If) (h : Head.Hh) (ix : Int) (sh : Bool) : Int :=
  if h.k ≠ i.k then 31 else if h.ix ≠ ix then 35 else if sh = true ∨ i.bk < h.ln then 22 else if ¬ SRt h.st i.f.bits then 32 else 0

set_option maxHeartbeats 1000000 in
set_option maxRecDepth 100000 in
theorem next_any (i : Inf.If) (h : Head.Hh) (ix : Int) (sh : Bool) (w : World) : Calls Tryd.prog 69 #[Inf.iv i, Head.hv h, .int .i64 ix, .bool sh] w fun e w' => e = .returned (.int .i64 (nxt i h ix sh)) ∧ Below w.heap.size w w' := by
  obtain ⟨ik, ⟨ich, ibits, irate⟩, ibk, ish⟩ := i
  obtain ⟨hk, hix, hln, hst, hbd, hla, hlk, hsz⟩ := h
  have HR := hid fun w => sright_any hst ibits w
  have e : nxt ⟨ik, ⟨ich, ibits, irate⟩, ibk, ish⟩ ⟨hk, hix, hln, hst, hbd, hla, hlk, hsz⟩ ix sh = (if hk ≠ ik then 31 else if hix ≠ ix then 35 else if sh = true ∨ ibk < hln then 22 else if decide (SRt hst ibits) = false then 32 else 0) := by
    unfold nxt
    simp only [decide_eq_false_iff_not]
  rw [e]
  clear e
  change Calls Tryd.prog 69 #[.agg #[.int .i64 ik, .int .i64 ich, .int .i64 ibits, .int .i64 irate, .int .i64 ibk, .int .i64 ish], .agg #[.int .i64 hk, .int .i64 hix, .int .i64 hln, .int .i64 hst, .int .i64 hbd, .bool hla, .int .u32 (hlk : Int), .int .i64 hsz], .int .i64 ix, .bool sh] w _
  generalize decide (SRt hst ibits) = S at *
  generalize hX : (if hk ≠ ik then (31 : Int) else if hix ≠ ix then 35 else if sh = true ∨ ibk < hln then 22 else if S = false then 32 else 0) = X
  have HX := hid hX
  clear hX
  by_cases h1 : hk = ik
  · by_cases h2 : hix = ix
    · cases sh
      · by_cases h3 : ibk < hln
        · have hc : hln > ibk := h3
          go_enter Tryd.func69, Tryd.ntmps69
          go_wp2_with fail
          go_ret
          exact ⟨by rw [← HX.out]; simp [h1, h2, h3], two_new _ _ _⟩
        · cases S
          · go_enter Tryd.func69, Tryd.ntmps69
            go_wp2_with fail
            refine (HR.out _).mono ?_
            rintro e w1 ⟨rfl, rfl⟩
            go_wp2_with fail
            go_ret
            exact ⟨by rw [← HX.out]; simp [h1, h2, h3], two_new _ _ _⟩
          · go_enter Tryd.func69, Tryd.ntmps69
            go_wp2_with fail
            refine (HR.out _).mono ?_
            rintro e w1 ⟨rfl, rfl⟩
            go_wp2_with fail
            go_ret
            exact ⟨by rw [← HX.out]; simp [h1, h2, h3], two_new _ _ _⟩
      · go_enter Tryd.func69, Tryd.ntmps69
        go_wp2_with fail
        go_ret
        exact ⟨by rw [← HX.out]; simp [h1, h2], two_new _ _ _⟩
    · go_enter Tryd.func69, Tryd.ntmps69
      go_wp2_with fail
      go_ret
      exact ⟨by rw [← HX.out]; simp [h1, h2], two_new _ _ _⟩
  · go_enter Tryd.func69, Tryd.ntmps69
    go_wp2_with fail
    go_ret
    exact ⟨by rw [← HX.out]; simp [h1], two_new _ _ _⟩

end Go.Proofs.YthjjonbkfkpkmaaDoor.Fil
namespace Go.Proofs.YthjjonbkfkpkmaaDoor.Inf
open Go.RowKit Gen Fld Pcm
open Crc hiding hid

/-- Settings. -/
structure Cf where
  bk : Int
  od : Int
  wi : Int
  sh : Int
  ta : Int
  re : Int
def cvl (c : Cf) : Array Value := #[.int .i64 c.bk, .int .i64 c.od, .int .i64 c.wi, .int .i64 c.sh, .int .i64 c.ta, .int .i64 c.re]
def cv (c : Cf) : Value := .agg (cvl c)
def Ok (c : Cf) : Prop := (256 ≤ c.bk ∧ c.bk ≤ 65536) ∧ (0 ≤ c.od ∧ c.od ≤ 32) ∧ (0 ≤ c.wi ∧ c.wi ≤ 2) ∧ (0 ≤ c.sh ∧ c.sh ≤ 3) ∧ (1 ≤ c.ta ∧ c.ta ≤ 1073741824) ∧ (0 ≤ c.re ∧ c.re ≤ 1073741824)
instance (c : Cf) : Decidable (Ok c) := by unfold Ok; exact inferInstance
def cE (c : Cf) : Int := if Ok c then 0 else 23
set_option maxRecDepth 100000 in
theorem cE_eq (bk od wi sh ta re : Int) : cE ⟨bk, od, wi, sh, ta, re⟩ = if (decide (256 ≤ bk ∧ bk ≤ 65536) && (decide (0 ≤ od ∧ od ≤ 32) && (decide (0 ≤ wi ∧ wi ≤ 2) && (decide (0 ≤ sh ∧ sh ≤ 3) && (decide (1 ≤ ta ∧ ta ≤ 1073741824) && (decide (0 ≤ re ∧ re ≤ 1073741824))))))) = true then 0 else 23 := by
  unfold cE
  refine ite_congr (propext ?_) (fun _ => rfl) (fun _ => rfl)
  simp only [decide_eq_true_eq, Bool.and_eq_true]
  exact Iff.rfl
end Go.Proofs.YthjjonbkfkpkmaaDoor.Inf
