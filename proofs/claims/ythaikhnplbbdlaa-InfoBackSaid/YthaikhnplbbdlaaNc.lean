/- Which settings are right, in the program and in the document; which infos are, in the document. No condition. -/
import Derived.Test.YthaikhnplbbdlaaNb
namespace Go.Proofs.Ythaikhnplbbdlaa.Inf
open Go.RowKit Gen Fld Pcm
open Crc hiding hid

/-- Settings. -/
structure Cf where
  bk : Int
  od : Int
  wi : Int
  sh : Int
  ta : Int
  re : Int
def cvl (c : Cf) : Array Value := #[.int .i64 c.bk, .int .i64 c.od, .int .i64 c.wi, .int .i64 c.sh, .int .i64 c.ta, .int .i64 c.re]
def cv (c : Cf) : Value := .agg (cvl c)
def Ok (c : Cf) : Prop := (256 ≤ c.bk ∧ c.bk ≤ 65536) ∧ (0 ≤ c.od ∧ c.od ≤ 32) ∧ (0 ≤ c.wi ∧ c.wi ≤ 2) ∧ (0 ≤ c.sh ∧ c.sh ≤ 3) ∧ (1 ≤ c.ta ∧ c.ta ≤ 1073741824) ∧ (0 ≤ c.re ∧ c.re ≤ 1073741824)
instance (c : Cf) : Decidable (Ok c) := by unfold Ok; exact inferInstance
def cE (c : Cf) : Int := if Ok c then 0 else 23
/-- Settings in a box. -/
structure Cx (w : World) (g : Nat) (c : Cf) : Prop where
  row : w.heap[g]? = some (.cells (cvl c) 42 (0, 0))
theorem Cx.rowIs {w : World} {g : Nat} {c : Cf} (b : Cx w g c) : w.rowIs g 42 6 (fun j => (cvl c).getD j undef) :=
  ⟨_, b.row, rfl, fun j hj => by rcases j with _ | _ | _ | _ | _ | _ | j <;> first | rfl | omega⟩
theorem Cx.new (w : World) (c : Cf) : Cx (w.alloc (.cells (cvl c) 42)) w.heap.size c := ⟨heap_alloc_new _ _⟩
theorem Cx.c0 {w : World} {g : Nat} {c : Cf} (b : Cx w g c) : w.cell? ⟨g, 0, none⟩ = some (.int .i64 c.bk) := b.rowIs.cell (i := 0) (by decide)
theorem Cx.c1 {w : World} {g : Nat} {c : Cf} (b : Cx w g c) : w.cell? ⟨g, 1, none⟩ = some (.int .i64 c.od) := b.rowIs.cell (i := 1) (by decide)
theorem Cx.c2 {w : World} {g : Nat} {c : Cf} (b : Cx w g c) : w.cell? ⟨g, 2, none⟩ = some (.int .i64 c.wi) := b.rowIs.cell (i := 2) (by decide)
theorem Cx.c3 {w : World} {g : Nat} {c : Cf} (b : Cx w g c) : w.cell? ⟨g, 3, none⟩ = some (.int .i64 c.sh) := b.rowIs.cell (i := 3) (by decide)
theorem Cx.c4 {w : World} {g : Nat} {c : Cf} (b : Cx w g c) : w.cell? ⟨g, 4, none⟩ = some (.int .i64 c.ta) := b.rowIs.cell (i := 4) (by decide)
theorem Cx.c5 {w : World} {g : Nat} {c : Cf} (b : Cx w g c) : w.cell? ⟨g, 5, none⟩ = some (.int .i64 c.re) := b.rowIs.cell (i := 5) (by decide)
theorem Cx.fz {w : World} {g : Nat} {c : Cf} (b : Cx w g c) (j : Nat) : w.frozen? ⟨g, j, none⟩ = false := b.rowIs.frozen j
theorem Cx.lt {w : World} {g : Nat} {c : Cf} (b : Cx w g c) : g < w.heap.size := World.block_lt_of_cell? w _ b.c0
theorem Cx.below {w w' : World} {g : Nat} {c : Cf} (b : Cx w g c) {B : Nat} (hb : Below B w w') (hg : g < B) : Cx w' g c := ⟨(hb.block g hg).trans b.row⟩
theorem cE_eq (bk od wi sh ta re : Int) : cE ⟨bk, od, wi, sh, ta, re⟩ = if (decide (256 ≤ bk ∧ bk ≤ 65536) && (decide (0 ≤ od ∧ od ≤ 32) && (decide (0 ≤ wi ∧ wi ≤ 2) && (decide (0 ≤ sh ∧ sh ≤ 3) && (decide (1 ≤ ta ∧ ta ≤ 1073741824) && (decide (0 ≤ re ∧ re ≤ 1073741824))))))) = true then 0 else 23 := by
  unfold cE
  refine ite_congr (propext ?_) (fun _ => rfl) (fun _ => rfl)
  simp only [decide_eq_true_eq, Bool.and_eq_true]
  exact Iff.rfl
set_option maxHeartbeats 2000000 in
theorem sett_any (c : Cf) (w : World) : Calls Try.prog 21 #[cv c] w fun e w' => e = .returned (.int .i64 (cE c)) ∧ Below w.heap.size w w' := by
  obtain ⟨bk, od, wi, sh, ta, re⟩ := c
  have HN := hid (below_new w (.cells (cvl ⟨bk, od, wi, sh, ta, re⟩) 42))
  change Calls Try.prog 21 #[.agg #[.int .i64 bk, .int .i64 od, .int .i64 wi, .int .i64 sh, .int .i64 ta, .int .i64 re]] w _
  rw [cE_eq]
  have H0 := hid fun (w : World) => block_any bk w
  have H1 := hid fun (w : World) => from_any od 0 32 w
  have H2 := hid fun (w : World) => from_any wi 0 2 w
  have H3 := hid fun (w : World) => from_any sh 0 3 w
  have H4 := hid fun (w : World) => from_any ta 1 1073741824 w
  have H5 := hid fun (w : World) => from_any re 0 1073741824 w
  generalize decide (256 ≤ bk ∧ bk ≤ 65536) = b0 at *
  generalize decide (0 ≤ od ∧ od ≤ 32) = b1 at *
  generalize decide (0 ≤ wi ∧ wi ≤ 2) = b2 at *
  generalize decide (0 ≤ sh ∧ sh ≤ 3) = b3 at *
  generalize decide (1 ≤ ta ∧ ta ≤ 1073741824) = b4 at *
  generalize decide (0 ≤ re ∧ re ≤ 1073741824) = b5 at *
  cases b0
  · go_enter Try.func21, Try.ntmps21
    go_wp2_with fail
    refine (H0.out _).mono ?_
    rintro e w' ⟨rfl, rfl⟩
    go_wp2_with fail
    go_ret
    exact ⟨rfl, HN.out⟩
  · skip
    cases b1
    · go_enter Try.func21, Try.ntmps21
      go_wp2_with fail
      refine (H0.out _).mono ?_
      rintro e w' ⟨rfl, rfl⟩
      go_wp2_with fail
      refine (H1.out _).mono ?_
      rintro e w' ⟨rfl, rfl⟩
      go_wp2_with fail
      go_ret
      exact ⟨rfl, HN.out⟩
    · skip
      cases b2
      · go_enter Try.func21, Try.ntmps21
        go_wp2_with fail
        refine (H0.out _).mono ?_
        rintro e w' ⟨rfl, rfl⟩
        go_wp2_with fail
        refine (H1.out _).mono ?_
        rintro e w' ⟨rfl, rfl⟩
        go_wp2_with fail
        refine (H2.out _).mono ?_
        rintro e w' ⟨rfl, rfl⟩
        go_wp2_with fail
        go_ret
        exact ⟨rfl, HN.out⟩
      · skip
        cases b3
        · go_enter Try.func21, Try.ntmps21
          go_wp2_with fail
          refine (H0.out _).mono ?_
          rintro e w' ⟨rfl, rfl⟩
          go_wp2_with fail
          refine (H1.out _).mono ?_
          rintro e w' ⟨rfl, rfl⟩
          go_wp2_with fail
          refine (H2.out _).mono ?_
          rintro e w' ⟨rfl, rfl⟩
          go_wp2_with fail
          refine (H3.out _).mono ?_
          rintro e w' ⟨rfl, rfl⟩
          go_wp2_with fail
          go_ret
          exact ⟨rfl, HN.out⟩
        · skip
          cases b4
          · go_enter Try.func21, Try.ntmps21
            go_wp2_with fail
            refine (H0.out _).mono ?_
            rintro e w' ⟨rfl, rfl⟩
            go_wp2_with fail
            refine (H1.out _).mono ?_
            rintro e w' ⟨rfl, rfl⟩
            go_wp2_with fail
            refine (H2.out _).mono ?_
            rintro e w' ⟨rfl, rfl⟩
            go_wp2_with fail
            refine (H3.out _).mono ?_
            rintro e w' ⟨rfl, rfl⟩
            go_wp2_with fail
            refine (H4.out _).mono ?_
            rintro e w' ⟨rfl, rfl⟩
            go_wp2_with fail
            go_ret
            exact ⟨rfl, HN.out⟩
          · skip
            cases b5
            · go_enter Try.func21, Try.ntmps21
              go_wp2_with fail
              refine (H0.out _).mono ?_
              rintro e w' ⟨rfl, rfl⟩
              go_wp2_with fail
              refine (H1.out _).mono ?_
              rintro e w' ⟨rfl, rfl⟩
              go_wp2_with fail
              refine (H2.out _).mono ?_
              rintro e w' ⟨rfl, rfl⟩
              go_wp2_with fail
              refine (H3.out _).mono ?_
              rintro e w' ⟨rfl, rfl⟩
              go_wp2_with fail
              refine (H4.out _).mono ?_
              rintro e w' ⟨rfl, rfl⟩
              go_wp2_with fail
              refine (H5.out _).mono ?_
              rintro e w' ⟨rfl, rfl⟩
              go_wp2_with fail
              go_ret
              exact ⟨rfl, HN.out⟩
            · skip
              go_enter Try.func21, Try.ntmps21
              go_wp2_with fail
              refine (H0.out _).mono ?_
              rintro e w' ⟨rfl, rfl⟩
              go_wp2_with fail
              refine (H1.out _).mono ?_
              rintro e w' ⟨rfl, rfl⟩
              go_wp2_with fail
              refine (H2.out _).mono ?_
              rintro e w' ⟨rfl, rfl⟩
              go_wp2_with fail
              refine (H3.out _).mono ?_
              rintro e w' ⟨rfl, rfl⟩
              go_wp2_with fail
              refine (H4.out _).mono ?_
              rintro e w' ⟨rfl, rfl⟩
              go_wp2_with fail
              refine (H5.out _).mono ?_
              rintro e w' ⟨rfl, rfl⟩
              go_wp2_with fail
              go_ret
              exact ⟨rfl, HN.out⟩
set_option maxHeartbeats 2000000 in
theorem rsett_any (c : Cf) (w : World) : Calls Try.prog 22 #[cv c] w fun e w' => e = .returned (.int .i64 (cE c)) ∧ Below w.heap.size w w' := by
  obtain ⟨bk, od, wi, sh, ta, re⟩ := c
  have HN := hid (below_new w (.cells (cvl ⟨bk, od, wi, sh, ta, re⟩) 42))
  change Calls Try.prog 22 #[.agg #[.int .i64 bk, .int .i64 od, .int .i64 wi, .int .i64 sh, .int .i64 ta, .int .i64 re]] w _
  obtain ⟨x, hx⟩ : ∃ x, x = cE ⟨bk, od, wi, sh, ta, re⟩ := ⟨_, rfl⟩
  rw [← hx]
  unfold cE at hx
  by_cases h0 : bk < 256
  · rw [if_neg (show ¬ Ok ⟨bk, od, wi, sh, ta, re⟩ from fun h => by unfold Ok at h; simp only [] at h; omega)] at hx
    subst hx
    go_enter Try.func22, Try.ntmps22
    go_wp2_with fail
    go_ret
    exact ⟨rfl, HN.out⟩
  by_cases h1 : 65536 < bk
  · rw [if_neg (show ¬ Ok ⟨bk, od, wi, sh, ta, re⟩ from fun h => by unfold Ok at h; simp only [] at h; omega)] at hx
    subst hx
    go_enter Try.func22, Try.ntmps22
    go_wp2_with fail
    go_ret
    exact ⟨rfl, HN.out⟩
  by_cases h2 : od < 0
  · rw [if_neg (show ¬ Ok ⟨bk, od, wi, sh, ta, re⟩ from fun h => by unfold Ok at h; simp only [] at h; omega)] at hx
    subst hx
    go_enter Try.func22, Try.ntmps22
    go_wp2_with fail
    go_ret
    exact ⟨rfl, HN.out⟩
  by_cases h3 : 32 < od
  · rw [if_neg (show ¬ Ok ⟨bk, od, wi, sh, ta, re⟩ from fun h => by unfold Ok at h; simp only [] at h; omega)] at hx
    subst hx
    go_enter Try.func22, Try.ntmps22
    go_wp2_with fail
    go_ret
    exact ⟨rfl, HN.out⟩
  by_cases h4 : wi < 0
  · rw [if_neg (show ¬ Ok ⟨bk, od, wi, sh, ta, re⟩ from fun h => by unfold Ok at h; simp only [] at h; omega)] at hx
    subst hx
    go_enter Try.func22, Try.ntmps22
    go_wp2_with fail
    go_ret
    exact ⟨rfl, HN.out⟩
  by_cases h5 : 2 < wi
  · rw [if_neg (show ¬ Ok ⟨bk, od, wi, sh, ta, re⟩ from fun h => by unfold Ok at h; simp only [] at h; omega)] at hx
    subst hx
    go_enter Try.func22, Try.ntmps22
    go_wp2_with fail
    go_ret
    exact ⟨rfl, HN.out⟩
  by_cases h6 : sh < 0
  · rw [if_neg (show ¬ Ok ⟨bk, od, wi, sh, ta, re⟩ from fun h => by unfold Ok at h; simp only [] at h; omega)] at hx
    subst hx
    go_enter Try.func22, Try.ntmps22
    go_wp2_with fail
    go_ret
    exact ⟨rfl, HN.out⟩
  by_cases h7 : 3 < sh
  · rw [if_neg (show ¬ Ok ⟨bk, od, wi, sh, ta, re⟩ from fun h => by unfold Ok at h; simp only [] at h; omega)] at hx
    subst hx
    go_enter Try.func22, Try.ntmps22
    go_wp2_with fail
    go_ret
    exact ⟨rfl, HN.out⟩
  by_cases h8 : ta < 1
  · rw [if_neg (show ¬ Ok ⟨bk, od, wi, sh, ta, re⟩ from fun h => by unfold Ok at h; simp only [] at h; omega)] at hx
    subst hx
    go_enter Try.func22, Try.ntmps22
    go_wp2_with fail
    go_ret
    exact ⟨rfl, HN.out⟩
  by_cases h9 : 1073741824 < ta
  · rw [if_neg (show ¬ Ok ⟨bk, od, wi, sh, ta, re⟩ from fun h => by unfold Ok at h; simp only [] at h; omega)] at hx
    subst hx
    go_enter Try.func22, Try.ntmps22
    go_wp2_with fail
    go_ret
    exact ⟨rfl, HN.out⟩
  by_cases h10 : re < 0
  · rw [if_neg (show ¬ Ok ⟨bk, od, wi, sh, ta, re⟩ from fun h => by unfold Ok at h; simp only [] at h; omega)] at hx
    subst hx
    go_enter Try.func22, Try.ntmps22
    go_wp2_with fail
    go_ret
    exact ⟨rfl, HN.out⟩
  by_cases h11 : 1073741824 < re
  · rw [if_neg (show ¬ Ok ⟨bk, od, wi, sh, ta, re⟩ from fun h => by unfold Ok at h; simp only [] at h; omega)] at hx
    subst hx
    go_enter Try.func22, Try.ntmps22
    go_wp2_with fail
    go_ret
    exact ⟨rfl, HN.out⟩
  rw [if_pos (show Ok ⟨bk, od, wi, sh, ta, re⟩ from by unfold Ok; simp only []; omega)] at hx
  subst hx
  go_enter Try.func22, Try.ntmps22
  go_wp2_with fail
  go_ret
  exact ⟨rfl, HN.out⟩
set_option maxHeartbeats 2000000 in
theorem rright_any (i : If) (w : World) : Calls Try.prog 12 #[iv i] w fun e w' => e = .returned (.bool (decide (Rt i))) ∧ Below w.heap.size w w' := by
  obtain ⟨k, ⟨ch, bits, rate⟩, bk, sh⟩ := i
  have HF := hid fun (w : World) => Pcm.rright_any ⟨ch, bits, rate⟩ w
  have HX := hid (Bx.new w ⟨k, ⟨ch, bits, rate⟩, bk, sh⟩)
  have HN := hid (below_new w (.cells (ivl ⟨k, ⟨ch, bits, rate⟩, bk, sh⟩) 25))
  change Calls Try.prog 12 #[.agg #[.int .i64 k, .int .i64 ch, .int .i64 bits, .int .i64 rate, .int .i64 bk, .int .i64 sh]] w _
  obtain ⟨x, hx⟩ : ∃ x, x = decide (Rt ⟨k, ⟨ch, bits, rate⟩, bk, sh⟩) := ⟨_, rfl⟩
  rw [← hx]
  by_cases h0 : k < 1
  · rw [show decide (Rt ⟨k, ⟨ch, bits, rate⟩, bk, sh⟩) = false from decide_eq_false fun h => by rcases h.1 with h | h | h <;> (simp only [] at h; omega)] at hx
    subst hx
    go_enter Try.func12, Try.ntmps12
    go_wp2_with fail
    go_ret
    exact ⟨rfl, HN.out⟩
  by_cases h1 : 3 < k
  · rw [show decide (Rt ⟨k, ⟨ch, bits, rate⟩, bk, sh⟩) = false from decide_eq_false fun h => by rcases h.1 with h | h | h <;> (simp only [] at h; omega)] at hx
    subst hx
    go_enter Try.func12, Try.ntmps12
    go_wp2_with fail
    go_ret
    exact ⟨rfl, HN.out⟩
  have hk : k = 1 ∨ k = 2 ∨ k = 3 := by omega
  rw [rt_and _ _ _ _ _ _ hk] at hx
  generalize decide (Fmt.right ⟨ch, bits, rate⟩) = b1 at *
  cases b1
  · rw [Bool.false_and] at hx
    subst hx
    clear hk
    go_enter Try.func12, Try.ntmps12
    go_wp2_with fail
    refine (HF.out _).mono ?_
    rintro e w' ⟨rfl, hb⟩
    have hfin := HN.out.trans (hb.mono HN.out.size)
    clear hb
    go_wp2_with fail
    go_ret
    exact ⟨rfl, hfin⟩
  rw [Bool.true_and] at hx
  unfold mx at hx
  by_cases g0 : bk < 256
  · rw [show (decide (256 ≤ bk ∧ bk ≤ 65536) && decide (0 ≤ sh ∧ sh ≤ if k = 3 then 0 else 3)) = false from by simp only [Bool.and_eq_false_iff, decide_eq_false_iff_not]; exact .inl (by omega)] at hx
    subst hx
    clear hk
    go_enter Try.func12, Try.ntmps12
    go_wp2_with fail
    refine (HF.out _).mono ?_
    rintro e w' ⟨rfl, hb⟩
    have hfin := HN.out.trans (hb.mono HN.out.size)
    have hx := HX.out.below hb HX.out.lt
    have c0 := hx.c0; have c4 := hx.c4; have c5 := hx.c5
    simp only [] at c0 c4 c5
    clear hb hx
    go_wp2_with fail
    go_ret
    exact ⟨rfl, hfin⟩
  by_cases g1 : 65536 < bk
  · rw [show (decide (256 ≤ bk ∧ bk ≤ 65536) && decide (0 ≤ sh ∧ sh ≤ if k = 3 then 0 else 3)) = false from by simp only [Bool.and_eq_false_iff, decide_eq_false_iff_not]; exact .inl (by omega)] at hx
    subst hx
    clear hk
    go_enter Try.func12, Try.ntmps12
    go_wp2_with fail
    refine (HF.out _).mono ?_
    rintro e w' ⟨rfl, hb⟩
    have hfin := HN.out.trans (hb.mono HN.out.size)
    have hx := HX.out.below hb HX.out.lt
    have c0 := hx.c0; have c4 := hx.c4; have c5 := hx.c5
    simp only [] at c0 c4 c5
    clear hb hx
    go_wp2_with fail
    go_ret
    exact ⟨rfl, hfin⟩
  by_cases g2 : sh < 0
  · rw [show (decide (256 ≤ bk ∧ bk ≤ 65536) && decide (0 ≤ sh ∧ sh ≤ if k = 3 then 0 else 3)) = false from by simp only [Bool.and_eq_false_iff, decide_eq_false_iff_not]; exact .inr (by split <;> omega)] at hx
    subst hx
    clear hk
    go_enter Try.func12, Try.ntmps12
    go_wp2_with fail
    refine (HF.out _).mono ?_
    rintro e w' ⟨rfl, hb⟩
    have hfin := HN.out.trans (hb.mono HN.out.size)
    have hx := HX.out.below hb HX.out.lt
    have c0 := hx.c0; have c4 := hx.c4; have c5 := hx.c5
    simp only [] at c0 c4 c5
    clear hb hx
    go_wp2_with fail
    go_ret
    exact ⟨rfl, hfin⟩
  by_cases g3 : 3 < sh
  · rw [show (decide (256 ≤ bk ∧ bk ≤ 65536) && decide (0 ≤ sh ∧ sh ≤ if k = 3 then 0 else 3)) = false from by simp only [Bool.and_eq_false_iff, decide_eq_false_iff_not]; exact .inr (by split <;> omega)] at hx
    subst hx
    clear hk
    go_enter Try.func12, Try.ntmps12
    go_wp2_with fail
    refine (HF.out _).mono ?_
    rintro e w' ⟨rfl, hb⟩
    have hfin := HN.out.trans (hb.mono HN.out.size)
    have hx := HX.out.below hb HX.out.lt
    have c0 := hx.c0; have c4 := hx.c4; have c5 := hx.c5
    simp only [] at c0 c4 c5
    clear hb hx
    go_wp2_with fail
    go_ret
    exact ⟨rfl, hfin⟩
  rw [show decide (256 ≤ bk ∧ bk ≤ 65536) = true from decide_eq_true ⟨by omega, by omega⟩, Bool.true_and] at hx
  by_cases g4 : k < 3
  · rw [show decide (0 ≤ sh ∧ sh ≤ if k = 3 then 0 else 3) = true from decide_eq_true ⟨by omega, by rw [if_neg (by omega)]; omega⟩] at hx
    subst hx
    clear hk
    go_enter Try.func12, Try.ntmps12
    go_wp2_with fail
    refine (HF.out _).mono ?_
    rintro e w' ⟨rfl, hb⟩
    have hfin := HN.out.trans (hb.mono HN.out.size)
    have hx := HX.out.below hb HX.out.lt
    have c0 := hx.c0; have c4 := hx.c4; have c5 := hx.c5
    simp only [] at c0 c4 c5
    clear hb hx
    go_wp2_with fail
    go_ret
    exact ⟨rfl, hfin⟩
  obtain rfl : k = 3 := by omega
  rw [if_pos rfl] at hx
  clear hk g4 h0 h1
  by_cases g5 : sh = 0
  · subst g5
    rw [show decide ((0 : Int) ≤ 0 ∧ (0 : Int) ≤ 0) = true from by decide] at hx
    subst hx
    go_enter Try.func12, Try.ntmps12
    go_wp2_with fail
    refine (HF.out _).mono ?_
    rintro e w' ⟨rfl, hb⟩
    have hfin := HN.out.trans (hb.mono HN.out.size)
    have hx := HX.out.below hb HX.out.lt
    have c0 := hx.c0; have c4 := hx.c4; have c5 := hx.c5
    simp only [] at c0 c4 c5
    clear hb hx
    go_wp2_with fail
    go_ret
    exact ⟨rfl, hfin⟩
  · have g6 : (sh == 0) = false := by simpa using g5
    rw [show decide (0 ≤ sh ∧ sh ≤ 0) = false from decide_eq_false fun h => by omega] at hx
    subst hx
    clear g5
    go_enter Try.func12, Try.ntmps12
    go_wp2_with fail
    refine (HF.out _).mono ?_
    rintro e w' ⟨rfl, hb⟩
    have hfin := HN.out.trans (hb.mono HN.out.size)
    have hx := HX.out.below hb HX.out.lt
    have c0 := hx.c0; have c4 := hx.c4; have c5 := hx.c5
    simp only [] at c0 c4 c5
    clear hb hx
    go_wp2_with fail
    go_ret
    exact ⟨rfl, hfin⟩
end Go.Proofs.Ythaikhnplbbdlaa.Inf
