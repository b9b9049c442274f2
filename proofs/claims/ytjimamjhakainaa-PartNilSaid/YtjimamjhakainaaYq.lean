/- PartNil's and PartBounds' walks. No condition. -/
import Derived.Test.YtjimamjhakainaaYp
namespace Go.Proofs.Ytjimamjhakainaa.Part
open Go.RowKit Bit Rice Runs

def NilPost (w : World) (e : Ending) (w' : World) : Prop := e = .returned (.tuple #[.slice none 0 0, .int .i64 0, .int .i64 2]) ∧ Below w.heap.size w w'
theorem pget_nil (n : Int) (w : World) : Calls Try.prog 28 #[.pointer none, .int .i64 n] w (NilPost w) := by
  have HB : RowKit.Hid (Below w.heap.size w ((((w.alloc (.cells #[.pointer none] 52)).alloc (.cells #[.slice none 0 0] 22)).alloc (.cells #[.int .i64 0] 3)).alloc (.cells #[.int .i64 2] 45))) := hid (((((Below.refl w.heap.size w).alloc (Nat.le_refl _) _).alloc (by simp) _).alloc (by simp; omega) _).alloc (by simp; omega) _)
  go_enter Try.func28, Try.ntmps28
  go_wp2_with fail
  refine bodyPost_ret (v := .tuple #[.slice none 0 0, .int .i64 0, .int .i64 2]) ?_ rfl ?_
  · simp only [results, show Try.f28.results = #[.cell 4 22, .cell 5 3, .cell 6 45] from by kernel_rfl]
    go_simp
  · exact ⟨rfl, HB.out⟩
theorem nil_walk (l : Option Addr) (len cap : Nat) (n p : Int) (w : World) : Calls Try.prog 8 #[.slice l len cap, .int .i64 n, .int .i64 p] w fun e w' => e = .returned (.bool true) ∧ Below w.heap.size w w' := by
  have hmk : ∀ w, (Instr.makeSlice 22 (.int .i64 65537) (.int .i64 65537)).run Try.prog w = .ok (.slice (some ⟨w.heap.size, 0, none⟩) 65537 65537) (w.alloc (.cells (madeCells #[.int .i64 0] 65537) 3)) := fun w =>
    run_make_row' (P := Try.prog) 22 3 (.int .i64 0) 8 Try.underlying22 Try.info3 rfl .i64 .i64 65537 (by omega) (by omega) w
  generalize madeCells #[Value.int IntKind.i64 0] 65537 = Z at hmk
  go_enter Try.func8, Try.ntmps8
  go_wp2_with fail
  refine Calls.mono (pget_nil n w) ?_
  rintro e w1 ⟨rfl, hb1⟩
  have hw0 := new_writer' w1 44 _ (Nat.le_refl _)
  have hb2 := (Below.refl w1.heap.size w1).alloc (Nat.le_refl _) (.cells #[.slice none 0 0, .int .u64 0, .int .i64 0] 44)
  obtain ⟨w2, hw2⟩ : ∃ w2, w1.alloc (.cells #[.slice none 0 0, .int .u64 0, .int .i64 0] 44) = w2 := ⟨_, rfl⟩
  rw [hw2] at hw0 hb2
  have HB := hid (hb1.trans (hb2.mono hb1.size))
  have HW := hid hw0
  clear hb1 hb2 hw0
  go_wp2_with fail
  clear hw2
  refine Calls.mono (pput_nil _ p w2) ?_
  rintro e w3 ⟨rfl, hb3⟩
  have hlt3 := hb3.size
  have HW3 : RowKit.Hid (WrN w3 w1.heap.size w1.heap.size 0 none 0 0 0) := hid (HW.out.keep (fr_of_below hb3) (fun x => x) (fun _ _ x => x))
  have HB3 := hid (HB.out.trans (hb3.mono HB.out.size))
  clear hb3 HW HB
  have hb4 := (Below.refl w3.heap.size w3).alloc (Nat.le_refl _) (.cells Z 3)
  go_wp2_with fail
  refine Calls.mono (pput_long ⟨w1.heap.size, 0, none⟩ (some ⟨w3.heap.size, 0, none⟩) 65537 65537 (by decide) p (w3.alloc (.cells Z 3))) ?_
  rintro e w5 ⟨rfl, hb5⟩
  have hb35 := hb4.trans (hb5.mono hb4.size)
  have h5 : WrN w5 w1.heap.size w1.heap.size 0 none 0 0 0 := HW3.out.keep (fr_of_below hb35) (fun x => x) (fun _ _ x => x)
  have HB5 := hid (HB3.out.trans (hb35.mono HB3.out.size))
  clear hb4 hb5 hb35 HW3 HB3 hmk
  go_wp2_with fail
  refine (len_any h5 (by decide)).mono ?_
  rintro e w6 ⟨rfl, nq, rfl⟩
  have HB6 : RowKit.Hid (Below w.heap.size w (w5.drewN nq)) := hid (HB5.out.trans ⟨rfl, rfl, rfl, Nat.le_refl _, fun _ _ => rfl⟩)
  clear h5 HB5
  generalize w5.drewN nq = w7 at *
  have HK := hid (known_true w7)
  go_wp2_with fail
  refine HK.out.mono ?_
  rintro e w8 ⟨rfl, hb8⟩
  have hfin := HB6.out.trans (hb8.mono HB6.out.size)
  clear hb8
  go_wp2_with fail
  go_ret
  exact ⟨rfl, hfin⟩

theorem bd_zero (n p : Nat) : bd n p 0 = 0 := by unfold bd; rw [Nat.zero_mul, Nat.zero_div]
theorem bd_last (n p i : Nat) (h : i + 1 = 2 ^ p) : bd n p (i + 1) = n := by unfold bd; rw [h, Nat.mul_comm, Nat.mul_div_cancel _ (Nat.two_pow_pos p)]
set_option maxRecDepth 100000 in
set_option maxHeartbeats 2000000 in
theorem bounds_walk (n p i : Int) (w : World) : Calls Try.prog 4 #[.int .i64 n, .int .i64 p, .int .i64 i] w fun e w' => e = .returned (.bool true) ∧ Below w.heap.size w w' := by
  have HK := hid fun w' => known_true w'
  by_cases h1 : n < 0
  · have HO := hid (bounds_out n p i (by omega) w)
    go_enter Try.func4, Try.ntmps4
    go_wp2_with fail
    refine HO.out.mono ?_
    rintro e w' ⟨rfl, rfl⟩
    go_wp2_with fail
    refine (HK.out w).mono ?_
    rintro e w' ⟨rfl, hb⟩
    go_wp2_with fail
    go_ret
    exact ⟨rfl, hb⟩
  by_cases h2 : 65536 < n
  · have HO := hid (bounds_out n p i (by omega) w)
    go_enter Try.func4, Try.ntmps4
    go_wp2_with fail
    refine HO.out.mono ?_
    rintro e w' ⟨rfl, rfl⟩
    go_wp2_with fail
    refine (HK.out w).mono ?_
    rintro e w' ⟨rfl, hb⟩
    go_wp2_with fail
    go_ret
    exact ⟨rfl, hb⟩
  by_cases h3 : p < 0
  · have HO := hid (bounds_out n p i (by omega) w)
    go_enter Try.func4, Try.ntmps4
    go_wp2_with fail
    refine HO.out.mono ?_
    rintro e w' ⟨rfl, rfl⟩
    go_wp2_with fail
    refine (HK.out w).mono ?_
    rintro e w' ⟨rfl, hb⟩
    go_wp2_with fail
    go_ret
    exact ⟨rfl, hb⟩
  by_cases h4 : 6 < p
  · have HO := hid (bounds_out n p i (by omega) w)
    go_enter Try.func4, Try.ntmps4
    go_wp2_with fail
    refine HO.out.mono ?_
    rintro e w' ⟨rfl, rfl⟩
    go_wp2_with fail
    refine (HK.out w).mono ?_
    rintro e w' ⟨rfl, hb⟩
    go_wp2_with fail
    go_ret
    exact ⟨rfl, hb⟩
  by_cases h5 : i < 0
  · have HO := hid (bounds_out n p i (by omega) w)
    go_enter Try.func4, Try.ntmps4
    go_wp2_with fail
    refine HO.out.mono ?_
    rintro e w' ⟨rfl, rfl⟩
    go_wp2_with fail
    refine (HK.out w).mono ?_
    rintro e w' ⟨rfl, hb⟩
    go_wp2_with fail
    go_ret
    exact ⟨rfl, hb⟩
  obtain ⟨n, rfl⟩ : ∃ k : Nat, n = (k : Int) := ⟨n.toNat, by omega⟩
  obtain ⟨p, rfl⟩ : ∃ k : Nat, p = (k : Int) := ⟨p.toNat, by omega⟩
  obtain ⟨i, rfl⟩ : ∃ k : Nat, i = (k : Int) := ⟨i.toNat, by omega⟩
  have hp6 : p ≤ 6 := by omega
  have hn : n ≤ 65536 := by omega
  obtain ⟨y, hy⟩ : ∃ y, 2 ^ p = y := ⟨_, rfl⟩
  have hy64 : y ≤ 64 := by rw [← hy]; exact Nat.pow_le_pow_right (n := 2) (by decide) hp6
  have hy1 : 1 ≤ y := by rw [← hy]; exact Nat.two_pow_pos p
  have hyi : (2 : Int) ^ p = (y : Int) := by rw [← hy]; push_cast; rfl
  have hw2 : wrap64 ((2 : Int) ^ p) = (y : Int) := by rw [hyi]; exact IntWalk.wrap64_in _ (by omega)
  have hp0 : (0 : Int) ≤ (p : Int) := by omega
  have HYI := hid hyi; have HY := hid hy
  clear hyi
  by_cases h6 : y ≤ i
  · have HO := hid (bounds_out n p i (by rw [Int.toNat_natCast, HYI.out]; omega) w)
    by_cases h64 : (64 : Int) ≤ (i : Int)
    · go_enter Try.func4, Try.ntmps4
      go_wp2_with fail
      refine HO.out.mono ?_
      rintro e w' ⟨rfl, rfl⟩
      go_wp2_with fail
      refine (HK.out w).mono ?_
      rintro e w' ⟨rfl, hb⟩
      go_wp2_with fail
      go_ret
      exact ⟨rfl, hb⟩
    · have h65 : (y : Int) ≤ (i : Int) := by omega
      clear hy
      go_enter Try.func4, Try.ntmps4
      go_wp2_with fail
      refine HO.out.mono ?_
      rintro e w' ⟨rfl, rfl⟩
      go_wp2_with fail
      refine (HK.out w).mono ?_
      rintro e w' ⟨rfl, hb⟩
      go_wp2_with fail
      go_ret
      exact ⟨rfl, hb⟩
  · have h65 : ¬ (y : Int) ≤ (i : Int) := by omega
    have h64 : ¬ (64 : Int) ≤ (i : Int) := by omega
    have hi : i < 2 ^ p := by omega
    have hm := bd_mono n p i
    have hz := bd_zero n p
    have hl := bd_last n p i
    have HB := hid (bounds_in n p i hn hp6 hi w)
    have HR := hid fun w' => rbounds_any n p i hn hp6 hi w'
    have HB2 := hid fun w' (h : i + 1 < 2 ^ p) => bounds_in n p (i + 1) hn hp6 h w'
    have HB3 := hid fun w' (h : ¬ i + 1 < 2 ^ p) => bounds_out n p ((i : Int) + 1) (by rw [Int.toNat_natCast, HYI.out]; omega) w'
    rw [HY.out] at HB2 HB3 hl
    have hmi : ¬ (bd n p (i + 1) : Int) < (bd n p i : Int) := by omega
    obtain ⟨f, hf⟩ : ∃ f, bd n p i = f := ⟨_, rfl⟩
    obtain ⟨t, ht⟩ : ∃ t, bd n p (i + 1) = t := ⟨_, rfl⟩
    have hz2 : i = 0 → f = 0 := fun e => by rw [← hf, e]; exact hz
    rw [hf, ht] at hmi HB HR
    rw [ht] at hl
    obtain ⟨t2, ht2⟩ : ∃ t2, bd n p (i + 1 + 1) = t2 := ⟨_, rfl⟩
    rw [ht, ht2] at HB2
    clear hy hm hz hf ht ht2 hi
    by_cases ei : i = 0
    · by_cases el : i + 1 = y
      · have e0 : ((i : Int) == 0) = true := by rw [ei]; rfl
        have ef : ((f : Int) != 0) = false := by rw [hz2 ei]; rfl
        have e1 : ((i : Int) == (y : Int) - 1) = true := by rw [beq_iff_eq]; omega
        have et : ((t : Int) != (n : Int)) = false := by rw [hl el]; exact bne_self_eq_false _
        have HN := hid fun w' => HB3.out w' (by omega)
        clear hz2 hl ei el
        go_enter Try.func4, Try.ntmps4
        go_wp2_with fail
        refine HB.out.mono ?_
        rintro e w1 ⟨rfl, nq, rfl⟩
        have hb1 : Below w.heap.size w (w.drewN nq) := ⟨rfl, rfl, rfl, Nat.le_refl _, fun _ _ => rfl⟩
        have HB1 := hid hb1
        clear hb1
        generalize w.drewN nq = w2 at *
        go_wp2_with fail
        refine (HR.out w2).mono ?_
        rintro e w3 ⟨rfl, nr, rfl⟩
        have HB4 : RowKit.Hid (Below w.heap.size w (w2.drewN nr)) := hid (HB1.out.trans ⟨rfl, rfl, rfl, Nat.le_refl _, fun _ _ => rfl⟩)
        generalize w2.drewN nr = w4 at *
        go_wp2_with fail
        refine (HN.out w4).mono ?_
        rintro e w5 ⟨rfl, rfl⟩
        go_wp2_with fail
        refine (HK.out w4).mono ?_
        rintro e w6 ⟨rfl, hb⟩
        have hfin := HB4.out.trans (hb.mono HB4.out.size)
        clear hb
        go_wp2_with fail
        go_ret
        exact ⟨rfl, hfin⟩
      · have e0 : ((i : Int) == 0) = true := by rw [ei]; rfl
        have ef : ((f : Int) != 0) = false := by rw [hz2 ei]; rfl
        have e1 : ((i : Int) == (y : Int) - 1) = false := beq_eq_false_iff_ne.2 (by omega)
        have HN := hid fun w' => HB2.out w' (by omega)
        clear hz2 hl ei el
        go_enter Try.func4, Try.ntmps4
        go_wp2_with fail
        refine HB.out.mono ?_
        rintro e w1 ⟨rfl, nq, rfl⟩
        have hb1 : Below w.heap.size w (w.drewN nq) := ⟨rfl, rfl, rfl, Nat.le_refl _, fun _ _ => rfl⟩
        have HB1 := hid hb1
        clear hb1
        generalize w.drewN nq = w2 at *
        go_wp2_with fail
        refine (HR.out w2).mono ?_
        rintro e w3 ⟨rfl, nr, rfl⟩
        have HB4 : RowKit.Hid (Below w.heap.size w (w2.drewN nr)) := hid (HB1.out.trans ⟨rfl, rfl, rfl, Nat.le_refl _, fun _ _ => rfl⟩)
        generalize w2.drewN nr = w4 at *
        go_wp2_with fail
        refine (HN.out w4).mono ?_
        rintro e w5 ⟨rfl, ns, rfl⟩
        have HB5 : RowKit.Hid (Below w.heap.size w (w4.drewN ns)) := hid (HB4.out.trans ⟨rfl, rfl, rfl, Nat.le_refl _, fun _ _ => rfl⟩)
        generalize w4.drewN ns = w6 at *
        go_wp2_with fail
        refine (HK.out w6).mono ?_
        rintro e w7 ⟨rfl, hb⟩
        have hfin := HB5.out.trans (hb.mono HB5.out.size)
        clear hb
        go_wp2_with fail
        go_ret
        exact ⟨rfl, hfin⟩
    · by_cases el : i + 1 = y
      · have e0 : ((i : Int) == 0) = false := beq_eq_false_iff_ne.2 (by omega)
        have e1 : ((i : Int) == (y : Int) - 1) = true := by rw [beq_iff_eq]; omega
        have et : ((t : Int) != (n : Int)) = false := by rw [hl el]; exact bne_self_eq_false _
        have HN := hid fun w' => HB3.out w' (by omega)
        clear hz2 hl ei el
        go_enter Try.func4, Try.ntmps4
        go_wp2_with fail
        refine HB.out.mono ?_
        rintro e w1 ⟨rfl, nq, rfl⟩
        have hb1 : Below w.heap.size w (w.drewN nq) := ⟨rfl, rfl, rfl, Nat.le_refl _, fun _ _ => rfl⟩
        have HB1 := hid hb1
        clear hb1
        generalize w.drewN nq = w2 at *
        go_wp2_with fail
        refine (HR.out w2).mono ?_
        rintro e w3 ⟨rfl, nr, rfl⟩
        have HB4 : RowKit.Hid (Below w.heap.size w (w2.drewN nr)) := hid (HB1.out.trans ⟨rfl, rfl, rfl, Nat.le_refl _, fun _ _ => rfl⟩)
        generalize w2.drewN nr = w4 at *
        go_wp2_with fail
        refine (HN.out w4).mono ?_
        rintro e w5 ⟨rfl, rfl⟩
        go_wp2_with fail
        refine (HK.out w4).mono ?_
        rintro e w6 ⟨rfl, hb⟩
        have hfin := HB4.out.trans (hb.mono HB4.out.size)
        clear hb
        go_wp2_with fail
        go_ret
        exact ⟨rfl, hfin⟩
      · have e0 : ((i : Int) == 0) = false := beq_eq_false_iff_ne.2 (by omega)
        have e1 : ((i : Int) == (y : Int) - 1) = false := beq_eq_false_iff_ne.2 (by omega)
        have HN := hid fun w' => HB2.out w' (by omega)
        clear hz2 hl ei el
        go_enter Try.func4, Try.ntmps4
        go_wp2_with fail
        refine HB.out.mono ?_
        rintro e w1 ⟨rfl, nq, rfl⟩
        have hb1 : Below w.heap.size w (w.drewN nq) := ⟨rfl, rfl, rfl, Nat.le_refl _, fun _ _ => rfl⟩
        have HB1 := hid hb1
        clear hb1
        generalize w.drewN nq = w2 at *
        go_wp2_with fail
        refine (HR.out w2).mono ?_
        rintro e w3 ⟨rfl, nr, rfl⟩
        have HB4 : RowKit.Hid (Below w.heap.size w (w2.drewN nr)) := hid (HB1.out.trans ⟨rfl, rfl, rfl, Nat.le_refl _, fun _ _ => rfl⟩)
        generalize w2.drewN nr = w4 at *
        go_wp2_with fail
        refine (HN.out w4).mono ?_
        rintro e w5 ⟨rfl, ns, rfl⟩
        have HB5 : RowKit.Hid (Below w.heap.size w (w4.drewN ns)) := hid (HB4.out.trans ⟨rfl, rfl, rfl, Nat.le_refl _, fun _ _ => rfl⟩)
        generalize w4.drewN ns = w6 at *
        go_wp2_with fail
        refine (HK.out w6).mono ?_
        rintro e w7 ⟨rfl, hb⟩
        have hfin := HB5.out.trans (hb.mono HB5.out.size)
        clear hb
        go_wp2_with fail
        go_ret
        exact ⟨rfl, hfin⟩
