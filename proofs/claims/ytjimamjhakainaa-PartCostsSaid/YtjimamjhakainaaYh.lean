/- Choose of any list; the greatest order of so many numbers, and which orders they have; where a part begins and ends. Conditions: those that each lemma names. -/
import Derived.Test.YtjimamjhakainaaYg
namespace Go.Proofs.Ytjimamjhakainaa.Part
open Go.RowKit Bit Rice Runs

instance (I : Nat → Int) (n : Nat) : Decidable (cd I n) := by unfold cd; infer_instance
def wyc (I : Nat → Int) (n : Nat) : Nat × Nat × Nat := if cd I n then wy I n else (0, 0, 0)
set_option maxRecDepth 100000 in
theorem pchoose_any (w : World) (a : Option Addr) (len cap b off : Nat) (I : Nat → Int) (h : Is w a len cap b off I) :
    Calls Try.prog 10 #[.slice a len cap] w (WayPost w (wyc I len)) := by
  have H := hid h
  have hb0 := (Below.refl w.heap.size w).alloc (Nat.le_refl _) (.cells #[.int .i64 0, .int .i64 0] 25)
  have his := h.below hb0 h.lt
  have HIS := hid his
  have HB0 := hid hb0
  have hr : (w.alloc (.cells #[.int .i64 0, .int .i64 0] 25)).rowIs w.heap.size 25 2 (fun _ => .int .i64 0) := ⟨_, heap_alloc_new _ _, rfl, fun i hi => by rcases i with _ | _ | i <;> first | rfl | omega⟩
  have HR := hid hr
  have HCD := hid (pcoded_any _ a len cap b off I his)
  clear h his hb0 hr
  go_enter Try.func10, Try.ntmps10
  go_wp2_with fail
  refine HCD.out.mono ?_
  rintro e w' ⟨x, rfl, rfl, hx⟩
  have c0 := HR.out.cell (show 0 < 2 by decide)
  have c1 := HR.out.cell (show 1 < 2 by decide)
  have f0 := HR.out.frozen 0
  have f1 := HR.out.frozen 1
  by_cases hc : cd I len
  · obtain rfl : x = true := hx.2 hc
    have HE : RowKit.Hid (wyc I len = wy I len) := hid (if_pos hc)
    have HC := hid hc
    clear hx hc
    have HCN := hid (count_any _ a len cap b off I HIS.out (by have := HC.out.1; omega))
    have hsz : w.heap.size < (w.alloc (.cells #[.int .i64 0, .int .i64 0] 25)).heap.size := by simp
    go_wp2_with fail
    refine HCN.out.mono ?_
    rintro e w1 ⟨rfl, hb1⟩
    have HB1 := hid hb1
    have his1 := HIS.out.below hb1 HIS.out.lt
    have HCH := hid (choose_any w1 a len cap b off I his1 HC.out.1 HC.out.2)
    have hr1 := HR.out.of_block (hb1.block _ hsz)
    have HR1 := hid hr1
    clear hb1 his1 hr1 c0 c1 f0 f1
    go_wp2_with fail
    refine HCH.out.mono ?_
    rintro e w2 ⟨rfl, hb2⟩
    have hr2 := HR1.out.of_block (hb2.block _ HR1.out.lt)
    have HB : RowKit.Hid (Below w.heap.size w w2) := hid ((HB0.out.trans (HB1.out.mono HB0.out.size)).trans (hb2.mono (Nat.le_of_lt HR1.out.lt)))
    have c0 := hr2.cell (show 0 < 2 by decide)
    have c1 := hr2.cell (show 1 < 2 by decide)
    have f0 := hr2.frozen 0
    have f1 := hr2.frozen 1
    clear hb2 hr2
    have HE2 := hid HE.out
    generalize wy I len = y at *
    obtain ⟨x1, x2, x3⟩ := y
    have hts := two_set w2 w.heap.size (.int .i64 (x1 : Int)) (.int .i64 (x2 : Int)) ⟨_, c0⟩ ⟨_, c1⟩
    obtain ⟨q0, q1⟩ := hts
    go_wp2_with fail
    refine bodyPost_ret (v := .tuple #[.agg #[.int .i64 (x1 : Int), .int .i64 (x2 : Int)], .int .i64 (x3 : Int)]) ?_ rfl ?_
    · rw [results_cell_tmp (p := 2) (u := 3) (ty := 25) (by kernel_rfl)]
      go_simp
    · refine ⟨by rw [HE.out], (HB.out.setCell (p := ⟨w.heap.size, 0, none⟩) (show w.heap.size ≤ w.heap.size by omega) _).setCell (p := ⟨w.heap.size, 1, none⟩) (show w.heap.size ≤ w.heap.size by omega) _⟩
  · obtain rfl : x = false := by
      cases x
      · rfl
      · exact absurd (hx.1 rfl) hc
    have HE : RowKit.Hid (wyc I len = (0, 0, 0)) := hid (if_neg hc)
    clear hx hc
    have hts := two_set (w.alloc (.cells #[.int .i64 0, .int .i64 0] 25)) w.heap.size (.int .i64 0) (.int .i64 0) ⟨_, c0⟩ ⟨_, c1⟩
    obtain ⟨q0, q1⟩ := hts
    go_wp2_with fail
    refine bodyPost_ret (v := .tuple #[.agg #[.int .i64 0, .int .i64 0], .int .i64 0]) ?_ rfl ?_
    · rw [results_cell_tmp (p := 2) (u := 3) (ty := 25) (by kernel_rfl)]
      go_simp
    · refine ⟨by rw [HE.out]; rfl, ?_⟩
      first
        | exact HB0.out
        | exact (HB0.out.setCell (p := ⟨w.heap.size, 0, none⟩) (show w.heap.size ≤ w.heap.size by omega) _).setCell (p := ⟨w.heap.size, 1, none⟩) (show w.heap.size ≤ w.heap.size by omega) _

/-- The greatest order of n numbers, and which orders these have. -/
def fin (n : Nat) : Nat := min 6 (Lib.bitLen n - 1)
def ord (n : Nat) (p : Int) : Prop := 0 ≤ p ∧ p ≤ (fin n : Int)
instance (n : Nat) (p : Int) : Decidable (ord n p) := by unfold ord; infer_instance
theorem clamp6 (x : Int) (y : Nat) (h : (x < 0 ∧ y = 0) ∨ (6 < x ∧ y = 6) ∨ (0 ≤ x ∧ x ≤ 6 ∧ (y : Int) = x)) (w : World) : Calls Try.prog 72 #[.int .i64 x, .int .i64 0, .int .i64 6] w fun e w' => e = .returned (.int .i64 (y : Int)) ∧ w = w' := by
  rcases h with ⟨h0, rfl⟩ | ⟨h1, rfl⟩ | ⟨h0, h1, h2⟩
  · go_enter Try.func72, Try.ntmps72
    go_wp2_with fail
    go_ret
    exact ⟨rfl, rfl⟩
  · have h0 : ¬ x < 0 := by omega
    go_enter Try.func72, Try.ntmps72
    go_wp2_with fail
    go_ret
    exact ⟨rfl, rfl⟩
  · have h3 : ¬ x < 0 := by omega
    have h4 : ¬ 6 < x := by omega
    rw [h2]
    clear h2
    go_enter Try.func72, Try.ntmps72
    go_wp2_with fail
    go_ret
    exact ⟨rfl, rfl⟩
theorem finest_any (n : Nat) (hn : n ≤ 9223372036854775807) (w : World) : Calls Try.prog 44 #[.int .i64 (n : Int)] w fun e w' => e = .returned (.int .i64 (fin n : Int)) ∧ w = w' := by
  have hw := width_any n (by omega) w
  have h64 := bl64 (show n < 18446744073709551616 by omega)
  have HC : RowKit.Hid (Calls Try.prog 72 #[.int .i64 ((Lib.bitLen n : Int) - 1), .int .i64 0, .int .i64 6] w fun e w' => e = .returned (.int .i64 (fin n : Int)) ∧ w = w') := hid (clamp6 _ _ (by unfold fin; omega) w)
  generalize fin n = y at *
  generalize Lib.bitLen n = x at *
  go_enter Try.func44, Try.ntmps44
  go_wp2_with fail
  refine hw.mono ?_
  rintro e w' ⟨rfl, rfl⟩
  clear hw
  go_wp2_with fail
  refine HC.out.mono ?_
  rintro e w' ⟨rfl, rfl⟩
  go_wp2_with fail
  go_ret
  exact ⟨rfl, rfl⟩
theorem isorder_any (n : Nat) (hn : n ≤ 9223372036854775807) (p : Int) (w : World) : Calls Try.prog 48 #[.int .i64 p, .int .i64 (n : Int)] w fun e w' => e = .returned (.bool (decide (ord n p))) ∧ w = w' := by
  have hf := finest_any n hn w
  by_cases h0 : 0 ≤ p
  · have e : decide (ord n p) = decide (p ≤ (fin n : Int)) := decide_eq_decide.2 ⟨fun h => h.2, fun h => ⟨h0, h⟩⟩
    rw [e]
    generalize fin n = y at *
    clear e
    go_enter Try.func48, Try.ntmps48
    go_wp2_with fail
    refine hf.mono ?_
    rintro e w' ⟨rfl, rfl⟩
    clear hf
    go_wp2_with fail
    go_ret
    exact ⟨rfl, rfl⟩
  · rw [decide_eq_false (fun h => h0 h.1)]
    clear hf
    go_enter Try.func48, Try.ntmps48
    go_wp2_with fail
    go_ret
    exact ⟨rfl, rfl⟩
theorem two_le_bl {n p : Nat} (hn : n < 18446744073709551616) (h0 : 0 < n) : p ≤ Lib.bitLen n - 1 ↔ 2 ^ p ≤ n := by
  obtain ⟨a, b, c⟩ := bl_bounds n hn (by omega)
  constructor
  · intro h
    exact Nat.le_trans (Nat.pow_le_pow_right (by decide) h) b
  · intro h
    rcases Nat.lt_or_ge (Lib.bitLen n - 1) p with h1 | h1
    · have := Nat.pow_le_pow_right (n := 2) (by decide) (show Lib.bitLen n ≤ p by omega)
      omega
    · exact h1
theorem ord_iff {n : Nat} (hn : n < 18446744073709551616) (p : Nat) : ord n (p : Int) ↔ p = 0 ∨ (p ≤ 6 ∧ 2 ^ p ≤ n) := by
  unfold ord fin
  by_cases h0 : 0 < n
  · have := two_le_bl (p := p) hn h0
    constructor
    · rintro ⟨_, h⟩
      by_cases e : p = 0
      · exact .inl e
      · exact .inr ⟨by omega, this.1 (by omega)⟩
    · rintro (rfl | ⟨h1, h2⟩)
      · exact ⟨by omega, by omega⟩
      · have := this.2 h2
        exact ⟨by omega, by omega⟩
  · obtain rfl : n = 0 := by omega
    have hb : Lib.bitLen 0 = 0 := by decide
    rw [hb]
    have : 0 < 2 ^ p := Nat.two_pow_pos p
    constructor
    · rintro ⟨_, h⟩; exact .inl (by omega)
    · rintro (rfl | ⟨_, h⟩)
      · exact ⟨by omega, by omega⟩
      · omega
