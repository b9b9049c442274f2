/- Infos as data; which are right, in the program and in the document: the same ones. No condition. -/
import Derived.Test.YthaikhnplbbdlaaNa
namespace Go.Proofs.Ythaikhnplbbdlaa.Inf
open Go.RowKit Gen Fld Pcm
open Crc hiding hid

/-- Info. -/
structure If where
  k : Int
  f : Fmt
  bk : Int
  sh : Int
def ivl (i : If) : Array Value := #[.int .i64 i.k, .int .i64 i.f.ch, .int .i64 i.f.bits, .int .i64 i.f.rate, .int .i64 i.bk, .int .i64 i.sh]
def iv (i : If) : Value := .agg (ivl i)
/-- Info of a kind is right. -/
def Kd (i : If) : Prop := i.k = 1 ∨ i.k = 2 ∨ i.k = 3
def Bk (i : If) : Prop := 256 ≤ i.bk ∧ i.bk ≤ 65536
def Sh (i : If) : Prop := 0 ≤ i.sh ∧ i.sh ≤ (if i.k = 3 then 0 else 3)
def Rt (i : If) : Prop := Kd i ∧ i.f.right ∧ Bk i ∧ Sh i
instance (i : If) : Decidable (Kd i) := by unfold Kd; exact inferInstance
instance (i : If) : Decidable (Bk i) := by unfold Bk; exact inferInstance
instance (i : If) : Decidable (Sh i) := by unfold Sh; exact inferInstance
instance (i : If) : Decidable (Rt i) := by unfold Rt; exact inferInstance

/-- Info in a box. -/
structure Bx (w : World) (g : Nat) (i : If) : Prop where
  row : w.heap[g]? = some (.cells (ivl i) 25 (0, 0))
theorem Bx.rowIs {w : World} {g : Nat} {i : If} (b : Bx w g i) : w.rowIs g 25 6 (fun j => (ivl i).getD j undef) :=
  ⟨_, b.row, rfl, fun j hj => by rcases j with _ | _ | _ | _ | _ | _ | j <;> first | rfl | omega⟩
theorem Bx.new (w : World) (i : If) : Bx (w.alloc (.cells (ivl i) 25)) w.heap.size i := ⟨heap_alloc_new _ _⟩
theorem Bx.c0 {w : World} {g : Nat} {i : If} (b : Bx w g i) : w.cell? ⟨g, 0, none⟩ = some (.int .i64 i.k) := b.rowIs.cell (i := 0) (by decide)
theorem Bx.c1 {w : World} {g : Nat} {i : If} (b : Bx w g i) : w.cell? ⟨g, 1, none⟩ = some (.int .i64 i.f.ch) := b.rowIs.cell (i := 1) (by decide)
theorem Bx.c2 {w : World} {g : Nat} {i : If} (b : Bx w g i) : w.cell? ⟨g, 2, none⟩ = some (.int .i64 i.f.bits) := b.rowIs.cell (i := 2) (by decide)
theorem Bx.c3 {w : World} {g : Nat} {i : If} (b : Bx w g i) : w.cell? ⟨g, 3, none⟩ = some (.int .i64 i.f.rate) := b.rowIs.cell (i := 3) (by decide)
theorem Bx.c4 {w : World} {g : Nat} {i : If} (b : Bx w g i) : w.cell? ⟨g, 4, none⟩ = some (.int .i64 i.bk) := b.rowIs.cell (i := 4) (by decide)
theorem Bx.c5 {w : World} {g : Nat} {i : If} (b : Bx w g i) : w.cell? ⟨g, 5, none⟩ = some (.int .i64 i.sh) := b.rowIs.cell (i := 5) (by decide)
theorem Bx.fz {w : World} {g : Nat} {i : If} (b : Bx w g i) (j : Nat) : w.frozen? ⟨g, j, none⟩ = false := b.rowIs.frozen j
theorem Bx.lt {w : World} {g : Nat} {i : If} (b : Bx w g i) : g < w.heap.size := World.block_lt_of_cell? w _ b.c0
theorem Bx.below {w w' : World} {g : Nat} {i : If} (b : Bx w g i) {B : Nat} (hb : Below B w w') (hg : g < B) : Bx w' g i := ⟨(hb.block g hg).trans b.row⟩

theorem from_any (x lo hi : Int) (w : World) : Calls Try.prog 30 #[.int .i64 x, .int .i64 lo, .int .i64 hi] w fun e w' => e = .returned (.bool (decide (lo ≤ x ∧ x ≤ hi))) ∧ w = w' := by
  by_cases h0 : lo ≤ x
  · by_cases h1 : x ≤ hi
    · have e : decide (lo ≤ x ∧ x ≤ hi) = true := decide_eq_true ⟨h0, h1⟩
      rw [e]
      clear e
      go_enter Try.func30, Try.ntmps30
      go_wp2_with fail
      go_ret
      exact ⟨rfl, rfl⟩
    · have e : decide (lo ≤ x ∧ x ≤ hi) = false := decide_eq_false fun h => h1 h.2
      rw [e]
      clear e
      go_enter Try.func30, Try.ntmps30
      go_wp2_with fail
      go_ret
      exact ⟨rfl, rfl⟩
  · have e : decide (lo ≤ x ∧ x ≤ hi) = false := decide_eq_false fun h => h0 h.1
    rw [e]
    clear e
    go_enter Try.func30, Try.ntmps30
    go_wp2_with fail
    go_ret
    exact ⟨rfl, rfl⟩
theorem block_any (x : Int) (w : World) : Calls Try.prog 29 #[.int .i64 x] w fun e w' => e = .returned (.bool (decide (256 ≤ x ∧ x ≤ 65536))) ∧ w = w' := by
  have HF := hid fun (w : World) => from_any x 256 65536 w
  generalize decide (256 ≤ x ∧ x ≤ 65536) = b at *
  go_enter Try.func29, Try.ntmps29
  go_wp2_with fail
  refine (HF.out _).mono ?_
  rintro e w' ⟨rfl, rfl⟩
  go_wp2_with fail
  go_ret
  exact ⟨rfl, rfl⟩
def mx (k : Int) : Int := if k = 3 then 0 else 3
theorem rt_and (k ch bits rate bk sh : Int) (hk : k = 1 ∨ k = 2 ∨ k = 3) : decide (Rt ⟨k, ⟨ch, bits, rate⟩, bk, sh⟩) = (decide (Fmt.right ⟨ch, bits, rate⟩) && (decide (256 ≤ bk ∧ bk ≤ 65536) && decide (0 ≤ sh ∧ sh ≤ mx k))) := by
  rw [Bool.eq_iff_iff]
  simp only [decide_eq_true_eq, Bool.and_eq_true]
  exact ⟨fun h => h.2, fun h => ⟨hk, h⟩⟩
set_option maxHeartbeats 2000000 in
theorem right_any (i : If) (w : World) : Calls Try.prog 11 #[iv i] w fun e w' => e = .returned (.bool (decide (Rt i))) ∧ Below w.heap.size w w' := by
  obtain ⟨k, ⟨ch, bits, rate⟩, bk, sh⟩ := i
  have HF := hid fun (w : World) => Pcm.right_any ⟨ch, bits, rate⟩ w
  have HB := hid fun (w : World) => block_any bk w
  have HX := hid (Bx.new w ⟨k, ⟨ch, bits, rate⟩, bk, sh⟩)
  have HN := hid (below_new w (.cells (ivl ⟨k, ⟨ch, bits, rate⟩, bk, sh⟩) 25))
  have hk : k = 1 ∨ k = 2 ∨ k = 3 ∨ (k ≠ 1 ∧ k ≠ 2 ∧ k ≠ 3) := by omega
  change Calls Try.prog 11 #[.agg #[.int .i64 k, .int .i64 ch, .int .i64 bits, .int .i64 rate, .int .i64 bk, .int .i64 sh]] w _
  rcases hk with rfl | rfl | rfl | ⟨h1, h2, h3⟩
  rotate_left 3
  · have k1 : (k == 1) = false := by simpa using h1
    have k2 : (k == 2) = false := by simpa using h2
    have k3 : (k == 3) = false := by simpa using h3
    rw [show decide (Rt ⟨k, ⟨ch, bits, rate⟩, bk, sh⟩) = false from decide_eq_false fun h => by rcases h.1 with h | h | h <;> first | exact h1 h | exact h2 h | exact h3 h]
    go_enter Try.func11, Try.ntmps11
    go_wp2_with fail
    go_ret
    exact ⟨rfl, HN.out⟩
  · rw [rt_and _ _ _ _ _ _ (by decide)]
    have HS := hid fun (w : World) => from_any sh 0 3 w
    have HQ := hid (show decide (0 ≤ sh ∧ sh ≤ mx 1) = decide (0 ≤ sh ∧ sh ≤ 3) from rfl)
    rw [HQ.out]
    generalize decide (Fmt.right ⟨ch, bits, rate⟩) = b1 at *
    generalize decide (256 ≤ bk ∧ bk ≤ 65536) = b2 at *
    generalize decide (0 ≤ sh ∧ sh ≤ 3) = b3 at *
    clear HQ
    cases b1
    · go_enter Try.func11, Try.ntmps11
      go_wp2_with fail
      refine (HF.out _).mono ?_
      rintro e w' ⟨rfl, hb⟩
      have hfin := HN.out.trans (hb.mono HN.out.size)
      clear hb
      go_wp2_with fail
      go_ret
      exact ⟨rfl, hfin⟩
    · cases b2
      · go_enter Try.func11, Try.ntmps11
        go_wp2_with fail
        refine (HF.out _).mono ?_
        rintro e w' ⟨rfl, hb⟩
        have hfin := HN.out.trans (hb.mono HN.out.size)
        have hx := HX.out.below hb HX.out.lt
        have c4 := hx.c4; have c5 := hx.c5
        simp only [] at c4 c5
        clear hb hx
        go_wp2_with fail
        refine (HB.out _).mono ?_
        rintro e w' ⟨rfl, rfl⟩
        go_wp2_with fail
        go_ret
        exact ⟨rfl, hfin⟩
      · go_enter Try.func11, Try.ntmps11
        go_wp2_with fail
        refine (HF.out _).mono ?_
        rintro e w' ⟨rfl, hb⟩
        have hfin := HN.out.trans (hb.mono HN.out.size)
        have hx := HX.out.below hb HX.out.lt
        have c4 := hx.c4; have c5 := hx.c5
        simp only [] at c4 c5
        clear hb hx
        go_wp2_with fail
        refine (HB.out _).mono ?_
        rintro e w' ⟨rfl, rfl⟩
        go_wp2_with fail
        refine (HS.out _).mono ?_
        rintro e w' ⟨rfl, rfl⟩
        go_wp2_with fail
        go_ret
        exact ⟨rfl, hfin⟩
  · rw [rt_and _ _ _ _ _ _ (by decide)]
    have HS := hid fun (w : World) => from_any sh 0 3 w
    have HQ := hid (show decide (0 ≤ sh ∧ sh ≤ mx 2) = decide (0 ≤ sh ∧ sh ≤ 3) from rfl)
    rw [HQ.out]
    generalize decide (Fmt.right ⟨ch, bits, rate⟩) = b1 at *
    generalize decide (256 ≤ bk ∧ bk ≤ 65536) = b2 at *
    generalize decide (0 ≤ sh ∧ sh ≤ 3) = b3 at *
    clear HQ
    cases b1
    · go_enter Try.func11, Try.ntmps11
      go_wp2_with fail
      refine (HF.out _).mono ?_
      rintro e w' ⟨rfl, hb⟩
      have hfin := HN.out.trans (hb.mono HN.out.size)
      clear hb
      go_wp2_with fail
      go_ret
      exact ⟨rfl, hfin⟩
    · cases b2
      · go_enter Try.func11, Try.ntmps11
        go_wp2_with fail
        refine (HF.out _).mono ?_
        rintro e w' ⟨rfl, hb⟩
        have hfin := HN.out.trans (hb.mono HN.out.size)
        have hx := HX.out.below hb HX.out.lt
        have c4 := hx.c4; have c5 := hx.c5
        simp only [] at c4 c5
        clear hb hx
        go_wp2_with fail
        refine (HB.out _).mono ?_
        rintro e w' ⟨rfl, rfl⟩
        go_wp2_with fail
        go_ret
        exact ⟨rfl, hfin⟩
      · go_enter Try.func11, Try.ntmps11
        go_wp2_with fail
        refine (HF.out _).mono ?_
        rintro e w' ⟨rfl, hb⟩
        have hfin := HN.out.trans (hb.mono HN.out.size)
        have hx := HX.out.below hb HX.out.lt
        have c4 := hx.c4; have c5 := hx.c5
        simp only [] at c4 c5
        clear hb hx
        go_wp2_with fail
        refine (HB.out _).mono ?_
        rintro e w' ⟨rfl, rfl⟩
        go_wp2_with fail
        refine (HS.out _).mono ?_
        rintro e w' ⟨rfl, rfl⟩
        go_wp2_with fail
        go_ret
        exact ⟨rfl, hfin⟩
  · rw [rt_and _ _ _ _ _ _ (by decide)]
    have HS := hid fun (w : World) => from_any sh 0 0 w
    have HQ := hid (show decide (0 ≤ sh ∧ sh ≤ mx 3) = decide (0 ≤ sh ∧ sh ≤ 0) from rfl)
    rw [HQ.out]
    generalize decide (Fmt.right ⟨ch, bits, rate⟩) = b1 at *
    generalize decide (256 ≤ bk ∧ bk ≤ 65536) = b2 at *
    generalize decide (0 ≤ sh ∧ sh ≤ 0) = b3 at *
    clear HQ
    cases b1
    · go_enter Try.func11, Try.ntmps11
      go_wp2_with fail
      refine (HF.out _).mono ?_
      rintro e w' ⟨rfl, hb⟩
      have hfin := HN.out.trans (hb.mono HN.out.size)
      clear hb
      go_wp2_with fail
      go_ret
      exact ⟨rfl, hfin⟩
    · cases b2
      · go_enter Try.func11, Try.ntmps11
        go_wp2_with fail
        refine (HF.out _).mono ?_
        rintro e w' ⟨rfl, hb⟩
        have hfin := HN.out.trans (hb.mono HN.out.size)
        have hx := HX.out.below hb HX.out.lt
        have c4 := hx.c4; have c5 := hx.c5
        simp only [] at c4 c5
        clear hb hx
        go_wp2_with fail
        refine (HB.out _).mono ?_
        rintro e w' ⟨rfl, rfl⟩
        go_wp2_with fail
        go_ret
        exact ⟨rfl, hfin⟩
      · go_enter Try.func11, Try.ntmps11
        go_wp2_with fail
        refine (HF.out _).mono ?_
        rintro e w' ⟨rfl, hb⟩
        have hfin := HN.out.trans (hb.mono HN.out.size)
        have hx := HX.out.below hb HX.out.lt
        have c4 := hx.c4; have c5 := hx.c5
        simp only [] at c4 c5
        clear hb hx
        go_wp2_with fail
        refine (HB.out _).mono ?_
        rintro e w' ⟨rfl, rfl⟩
        go_wp2_with fail
        refine (HS.out _).mono ?_
        rintro e w' ⟨rfl, rfl⟩
        go_wp2_with fail
        go_ret
        exact ⟨rfl, hfin⟩
end Go.Proofs.Ythaikhnplbbdlaa.Inf
