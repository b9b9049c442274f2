/- The square of a matrix, and its powers; sums that are joined. Conditions: the function is straight. -/
import Derived.Test.YtlkeifciphehnaaMak
namespace Go.Proofs.Ytlkeifciphehnaa.Crc
open Go.RowKit Gen

set_option maxRecDepth 100000 in
theorem sq_any (f : Nat → Nat) (hf : Lin f) (w : World) :
    Calls Try.prog 23 #[.agg (mat f)] w fun e w' => e = .returned (.agg (mat fun x => f (f x))) ∧ Below w.heap.size w w' := by
  have hz := z44
  have hzs : (zeros 32).size = 32 := by simp [zeros]
  generalize zeros 32 = Z at hz hzs
  have HZS := hid hzs
  have hm0 : w.heap.size < (w.alloc (.cells (mat f) 44)).heap.size := by simp
  have hcall : ∀ x, x < 4294967296 → ∀ w', Below ((w.alloc (.cells (mat f) 44)).alloc (.cells Z 44)).heap.size ((w.alloc (.cells (mat f) 44)).alloc (.cells Z 44)) w' →
      Calls Try.prog 28 (#[.int .u32 (x : Int)] ++ #[.pointer (some ⟨w.heap.size, 0, none⟩)]) w' (fun e w'' => e = .returned (.int .u32 (f (f x) : Int)) ∧ Below w'.heap.size w' w'') := fun x hx w' hb =>
    sqf_any f hf x hx ((hb.block w.heap.size (by simp; omega)).trans (heap_alloc2_old w _ _))
  have hres := heap_alloc2_new w (.cells (mat f) 44) (.cells Z 44)
  have hbel : Below w.heap.size w ((w.alloc (.cells (mat f) 44)).alloc (.cells Z 44)) := ((Below.refl _ _).alloc (Nat.le_refl _) _).alloc (by simp) _
  have hsz : ((w.alloc (.cells (mat f) 44)).alloc (.cells Z 44)).heap.size = w.heap.size + 2 := by simp
  have HC := hid hcall
  have HR := hid hres
  have HB := hid hbel
  have HS := hid hsz
  clear hzs hm0 hcall hres hbel hsz
  generalize hM : mat f = M at *
  clear hM
  go_enter Try.func23, Try.ntmps23
  go_wp2_with fail
  refine (matof_any (fun x => f (f x)) 28 _ (fun args w => Try.call28 args w) _ HC.out).mono ?_
  rintro e w1 ⟨rfl, hb1⟩
  have HR1 : RowKit.Hid (w1.heap[w.heap.size + 1]? = some (.cells Z 44 (0, 0))) := hid ((hb1.block _ (by rw [HS.out]; omega)).trans HR.out)
  have HB1 := hid (HB.out.trans (hb1.mono HB.out.size))
  clear hb1
  go_wp2_with (refine wpList_store_row rfl 44 _ _ rfl (w.heap.size + 1) (mat fun x => f (f x)) rfl rfl 44 Z HR1.out (s44m _) (by rw [HZS.out, mat_size]) (mat_one _) ?_)
  refine bodyPost_ret (v := .agg (mat fun x => f (f x))) (results_cell_row Try.results23 _ _ (w.heap.size + 1) 44 (mat fun x => f (f x)) (0, 0) _ rfl (setRow_heap _ _ _ _ _ _ HR1.out) Try.underlying44 rfl (s44m _)) rfl ⟨rfl, ?_⟩
  exact below_setRow HB1.out (by omega) _

theorem ofInt64 (a : Nat) (ha : a < 18446744073709551616) : (BitVec.ofInt 64 (a : Int)).toNat = a := by
  rw [BitVec.ofInt_natCast, BitVec.toNat_ofNat]; exact Nat.mod_eq_of_lt (by omega)
theorem and_one64 (n : Nat) (hn : n < 9223372036854775808) : bits .and .i64 (n : Int) 1 = ((n % 2 : Nat) : Int) := by
  show IntKind.i64.wrap ((BitVec.ofInt 64 (n : Int) &&& BitVec.ofInt 64 ((1 : Nat) : Int)).toNat : Int) = _
  rw [BitVec.toNat_and, ofInt64 n (by omega), ofInt64 1 (by decide), Nat.and_one_is_mod, IntWalk.i64_in _ (by omega)]

set_option maxHeartbeats 1000000 in
set_option maxRecDepth 100000 in
theorem repeat_any (f : Nat → Nat) (hf : Lin f) (x : Nat) (hx : x < 4294967296) (n : Int) (hn : n ≤ 9223372036854775807) (w : World) :
    Calls Try.prog 24 #[.agg (mat f), .int .u32 (x : Int), .int .i64 n] w fun e w' => e = .returned (.int .u32 (pw f n.toNat x : Int)) ∧ Below w.heap.size w w' := by
  have HR := hid (heap_alloc_last w (.cells (mat f) 44))
  have HB := hid ((Below.refl _ w).alloc (Nat.le_refl _) (.cells (mat f) 44))
  generalize hM : mat f = M at *
  have HM := hid hM
  clear hM
  go_enter Try.func24, Try.ntmps24
  go_wp2_with fail
  go_loopw [1, 2] (fun y m wr => ∃ (g : Nat → Nat) (xj : Nat) (nj : Int), Lin g ∧ xj < 4294967296 ∧ nj ≤ 9223372036854775807 ∧ y = .int .u32 (xj : Int) ∧ m = .int .i64 nj ∧ wr.heap[w.heap.size]? = some (.cells (mat g) 44 (0, 0)) ∧ pw g nj.toNat xj = pw f n.toNat x ∧ Below w.heap.size w wr) (fun _ m _ => (intOf m).toNat)
  case atStart => exact ⟨f, x, n, hf, hx, hn, rfl, rfl, by rw [HM.out]; exact HR.out, rfl, HB.out⟩
  case round =>
    obtain ⟨g, xj, nj, hg, hxj, hnj, rfl, rfl, hrow, hpw, hb⟩ := hrel
    have HR1 := hid hrow
    have HP := hid hpw
    have HB1 := hid hb
    clear hrow hpw hb HR HB HM
    by_cases h0 : 0 < nj
    · obtain ⟨k, rfl⟩ : ∃ k : Nat, nj = k := ⟨nj.toNat, by omega⟩
      have hk : k < 9223372036854775808 := by omega
      have hone := and_one64 k hk
      have hgx := hg.lt xj hxj
      rcases Nat.mod_two_eq_zero_or_one k with h | h
      · have ht : (bits .and .i64 (k : Int) 1 == 1) = false := by rw [hone, h]; rfl
        have HE := hid (pw_even g k xj h)
        clear hone h
        go_wp2_with (refine wpList_load_row rfl 44 _ rfl w.heap.size rfl 44 (mat g) (0, 0) _ HR1.out Try.underlying44 rfl (s44m g) ?_)
        refine (sq_any g hg _).mono ?_
        rintro e w1 ⟨rfl, hb1⟩
        have HR2 : RowKit.Hid (w1.heap[w.heap.size]? = some (.cells (mat g) 44 (0, 0))) := hid ((hb1.block _ (Array.getElem?_eq_some_iff.1 HR1.out).1).trans HR1.out)
        have HB2 := hid (HB1.out.trans (hb1.mono HB1.out.size))
        clear hb1
        go_wp2_with (refine wpList_store_row rfl 44 _ _ rfl w.heap.size (mat fun y => g (g y)) rfl rfl 44 (mat g) HR2.out (s44m _) (by rw [mat_size, mat_size]) (mat_one _) ?_)
        go_roundw
        case rel =>
          refine ⟨fun y => g (g y), xj, ((k / 2 : Nat) : Int), hg.comp hg, hxj, by omega, rfl, congrArg (Value.int .i64) (by omega), setRow_heap _ _ _ _ _ _ HR2.out, ?_, below_setRow HB2.out (Nat.le_refl _) _⟩
          rw [← HP.out, Int.toNat_natCast, Int.toNat_natCast, HE.out]
        case measure => simp [intOf]; omega
      · have ht : (bits .and .i64 (k : Int) 1 == 1) = true := by rw [hone, h]; rfl
        have HE := hid (pw_odd g k xj h)
        clear hone h
        go_wp2_with (refine wpList_load_row rfl 44 _ rfl w.heap.size rfl 44 (mat g) (0, 0) _ HR1.out Try.underlying44 rfl (s44m g) ?_)
        refine (of_any g hg xj hxj _).mono ?_
        rintro e w0 ⟨rfl, rfl⟩
        have HR1 : RowKit.Hid ((wr.alloc (.cells (mat g) 44)).heap[w.heap.size]? = some (.cells (mat g) 44 (0, 0))) := hid (by rw [RowKit.Below.heap_alloc _ _ _ (Array.getElem?_eq_some_iff.1 HR1.out).1]; exact HR1.out)
        have HB1 := hid (HB1.out.alloc HB1.out.size (.cells (mat g) 44))
        generalize wr.alloc (.cells (mat g) 44) = wq at HR1 HB1 ⊢
        go_wp2_with (refine wpList_load_row rfl 44 _ rfl w.heap.size rfl 44 (mat g) (0, 0) _ HR1.out Try.underlying44 rfl (s44m g) ?_)
        refine (sq_any g hg _).mono ?_
        rintro e w1 ⟨rfl, hb1⟩
        have HR2 : RowKit.Hid (w1.heap[w.heap.size]? = some (.cells (mat g) 44 (0, 0))) := hid ((hb1.block _ (Array.getElem?_eq_some_iff.1 HR1.out).1).trans HR1.out)
        have HB2 := hid (HB1.out.trans (hb1.mono HB1.out.size))
        clear hb1
        go_wp2_with (refine wpList_store_row rfl 44 _ _ rfl w.heap.size (mat fun y => g (g y)) rfl rfl 44 (mat g) HR2.out (s44m _) (by rw [mat_size, mat_size]) (mat_one _) ?_)
        go_roundw
        case rel =>
          refine ⟨fun y => g (g y), g xj, ((k / 2 : Nat) : Int), hg.comp hg, hgx, by omega, rfl, congrArg (Value.int .i64) (by omega), setRow_heap _ _ _ _ _ _ HR2.out, ?_, below_setRow HB2.out (Nat.le_refl _) _⟩
          rw [← HP.out, Int.toNat_natCast, Int.toNat_natCast, HE.out]
        case measure => simp [intOf]; omega
    · go_wp2_with fail
      go_ret
      exact ⟨ret_u32 (by rw [← HP.out, show nj.toNat = 0 from by omega]; rfl), HB1.out⟩
end Go.Proofs.Ytlkeifciphehnaa.Crc
