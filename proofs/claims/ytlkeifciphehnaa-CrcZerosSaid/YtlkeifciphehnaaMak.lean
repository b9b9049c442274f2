/- matrixOf, of whatever function value that tells a straight function; the square of a matrix; its powers. Conditions: the function is straight. -/
import Derived.Test.YtlkeifciphehnaaMat
namespace Go.Proofs.Ytlkeifciphehnaa.Crc
open Go.RowKit Gen

theorem below_setRow {B : Nat} {w w' : World} (h : Below B w w') {g : Nat} (hg : B ≤ g) (cs : Array Value) : Below B w (w'.setRow g cs) :=
  ⟨h.os, h.tape, h.output, by rw [size_setRow]; exact h.size, fun k hk => (setRow_other w' g k cs (by omega)).trans (h.block k hk)⟩
theorem mat_one (f : Nat → Nat) : (mat f).all (·.oneCell') = true := by
  rw [Array.all_eq_true_iff_forall_mem]
  intro v hv
  obtain ⟨i, hi⟩ := Array.getElem?_of_mem hv
  have hi2 : i < 32 := by rw [← mat_size f]; exact (Array.getElem?_eq_some_iff.1 hi).1
  rw [mat_at f i hi2] at hi
  cases hi
  rfl

set_option maxHeartbeats 1000000 in
set_option maxRecDepth 100000 in
theorem matof_any (f : Nat → Nat) (k : FuncId) (caps : Array Value) (hent : ∀ args w, (callFunc k args).run Try.prog w = .ok (.enter k args) w) (w : World)
    (hcall : ∀ x, x < 4294967296 → ∀ w', Below w.heap.size w w' → Calls Try.prog k (#[.int .u32 (x : Int)] ++ caps) w' (fun e w'' => e = .returned (.int .u32 (f x : Int)) ∧ Below w'.heap.size w' w'')) :
    Calls Try.prog 22 #[.func (.func k) #[] caps] w fun e w' => e = .returned (.agg (mat f)) ∧ Below w.heap.size w w' := by
  have HC := hid hcall
  clear hcall
  have hz := z44
  have hzs : (zeros 32).size = 32 := by simp [zeros]
  have hza : ∀ i, i < 32 → (zeros 32)[i]? = some (.int .u32 0) := fun i hi => by simp [zeros, hi]
  generalize zeros 32 = Z at hz hzs hza
  have HZS := hid hzs
  have HZA := hid hza
  clear hzs hza
  go_enter Try.func22, Try.ntmps22
  go_wp2_with fail
  go_loopw [4, 5] (fun b i wr => ∃ j : Nat, j ≤ 32 ∧ i = .int .i64 j ∧ wr.rowIs (w.heap.size + 1) 44 32 (fun i => if i < j then .int .u32 (f (2 ^ i) : Int) else .int .u32 0) ∧ wr.heap[w.heap.size]? = some (.cells Z 44 (0, 0)) ∧ Below w.heap.size w wr) (fun _ i _ => 32 - (intOf i).toNat)
  case atStart =>
    refine ⟨0, by decide, rfl, ⟨Z, heap_alloc2_new w _ _, HZS.out, fun i hi => by show _ = some (if i < 0 then _ else _); rw [if_neg (Nat.not_lt_zero _)]; exact HZA.out i hi⟩, heap_alloc2_old w _ _, ((Below.refl _ _).alloc (Nat.le_refl _) _).alloc (by simp) _⟩
  case round =>
    obtain ⟨j, hj, rfl, hrow, hres, hb⟩ := hrel
    by_cases hlt : j < 32
    · have hj2 : (j : Int) ≤ 31 := by omega
      have hpw := two_pow_lt j hlt
      have epw : ((2 : Int) ^ j % 4294967296) = ((2 ^ j : Nat) : Int) := by
        rw [show ((2 : Int) ^ j) = ((2 ^ j : Nat) : Int) from by push_cast; rfl]
        show ((2 ^ j % 4294967296 : Nat) : Int) = _
        rw [Nat.mod_eq_of_lt hpw]
      have HE := hid epw
      have HR := hid hrow
      have HS := hid hres
      have HB := hid hb
      clear hrow hres hb epw
      go_wp2_with fail
      rw [HE.out]
      refine (HC.out _ hpw wr HB.out).mono ?_
      rintro e w1 ⟨rfl, hb1⟩
      have hl1 := (World.rowIs.lt HR.out)
      have hl0 : w.heap.size < wr.heap.size := by omega
      have hrow1 : w1.rowIs (w.heap.size + 1) 44 32 (fun i => if i < j then .int .u32 (f (2 ^ i) : Int) else .int .u32 0) := HR.out.of_block (hb1.block _ hl1)
      have HS1 := hid ((hb1.block _ hl0).trans HS.out)
      have HB1 := hid (HB.out.trans (hb1.mono HB.out.size))
      have hc := hrow1.cell hlt
      have hf1 := hrow1.frozen j
      have HR1 := hid hrow1
      clear hrow1 hb1 HR HS HB hl0 hl1
      go_wp2_with fail
      go_roundw
      case rel =>
        refine ⟨j + 1, by omega, by go_num, ?_, ?_, HB1.out.setCell (p := ⟨w.heap.size + 1, j, none⟩) (by simp) _⟩
        · refine (HR1.out.set j _).congr fun i hi => ?_
          by_cases h1 : i = j
          · subst h1; rw [if_pos rfl, if_pos (by omega)]
          · rw [if_neg h1]
            by_cases h2 : i < j
            · rw [if_pos h2, if_pos (by omega)]
            · rw [if_neg h2, if_neg (by omega)]
        · exact (heap_setCell_other _ _ _ _ (by simp)).trans HS1.out
      case measure => simp [intOf]; omega
    · obtain rfl : j = 32 := by omega
      have hm : wr.heap[w.heap.size + 1]? = some (.cells (mat f) 44 (0, 0)) := by
        obtain ⟨c, h1, h2, h3⟩ := hrow
        rw [h1]
        congr 2
        apply Array.ext_getElem?
        intro i
        by_cases hi : i < 32
        · rw [h3 i hi, mat_at f i hi]
          show some (if i < 32 then _ else _) = _
          rw [if_pos hi]
        · rw [Array.getElem?_eq_none (by omega), Array.getElem?_eq_none (by rw [mat_size]; omega)]
      have HM := hid hm
      have HS := hid hres
      have HB := hid hb
      clear hrow hres hb hm
      go_wp2_with (first
        | (refine wpList_load_row rfl 44 _ rfl (w.heap.size + 1) rfl 44 (mat f) (0, 0) _ HM.out Try.underlying44 rfl (s44m f) ?_)
        | (refine wpList_store_row rfl 44 _ _ rfl w.heap.size (mat f) rfl rfl 44 Z HS.out (s44m f) (by rw [HZS.out, mat_size]) (mat_one f) ?_))
      refine bodyPost_ret (v := .agg (mat f)) (results_cell_row Try.results22 _ _ w.heap.size 44 (mat f) (0, 0) _ rfl (setRow_heap _ _ _ _ _ _ HS.out) Try.underlying44 rfl (s44m f)) rfl ⟨rfl, ?_⟩
      exact below_setRow HB.out (Nat.le_refl _) _
end Go.Proofs.Ytlkeifciphehnaa.Crc
