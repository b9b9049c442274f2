/- The walks of CrcTable, CrcSums, CrcChanges. Conditions: none beyond the form's own. -/
import Derived.Test.YtlkeifciphehnaaSum
import Derived.Deep.RegionWith
import Derived.StillTailTactics
namespace Go.Proofs.Ytlkeifciphehnaa.Crc
open Go.RowKit

theorem qt {P : Program} {f : FuncId} {args : Array Value} {w : World} {v : Value} (h : Calls P f args w fun e w' => e = .returned v ∧ w = w') : Calls P f args w fun e w' => e = .returned v ∧ w' = w :=
  h.mono fun _ _ ⟨a, b⟩ => ⟨a, b.symm⟩

set_option maxRecDepth 100000 in
theorem table_walk (p x : Nat) (hp : p < 256) (hx : x < 4294967296) (w : World) :
    Calls Try.prog 3 #[.int .u8 (p : Int), .int .u32 (x : Int)] w fun e w' => e = .returned (.bool true) ∧ Below w.heap.size w w' := by
  go_enter Try.func3, Try.ntmps3
  go_wp2_with fail
  refine (make_any _).mono ?_
  rintro e w1 ⟨rfl, ht, hb⟩
  have hcell := World.rowIs.cell ht hp
  have hp1 : (p : Int) < 256 := by omega
  have hwp : IntKind.u32.wrap (p : Int) = (p : Int) := by rw [wrap_u32n]; omega
  have hz := hb.size
  have HB := hid hb
  clear ht hb
  go_wp2_with fail
  go_still_tail 21, (by kernel_rfl)
  still_call (qt (eight_any p (by omega) _))
  repeat still_step
  still_call (qt (step_any x hx _))
  repeat still_step
  still_call (qt (rstep_any x hx _))
  repeat still_step
  refine wpStill_nil ?_
  change wpList _ _ _ _ _ w1.drew
  have hb1 := HB.out.drew
  clear hcell HB hwp
  have hz1 := hb1.size
  have HB := hid hb1
  clear hb1 hz
  generalize w1.drew = w2 at HB hz1 ⊢
  go_wp2_with fail
  refine (known_true _).mono ?_
  rintro e w3 ⟨rfl, hb3⟩
  have hf := hid (HB.out.trans (hb3.mono hz1))
  clear hb3 HB
  go_wp2_with fail
  go_ret
  exact ⟨rfl, hf.out⟩

set_option maxRecDepth 100000 in
theorem sums_walk (w : World) (s : Nat) (hs : s < 4294967296) (a : Option Addr) (len cap : Nat) (f : Nat → Nat) (hb : Byts w a len f) :
    Calls Try.prog 4 #[.int .u32 (s : Int), .slice a len cap] w fun e w' => e = .returned (.bool true) ∧ Below w.heap.size w w' := by
  by_cases hl : len ≤ 5000
  · have hl1 : ¬ (5000 : Int) < (len : Int) := by omega
    go_enter Try.func4, Try.ntmps4
    go_wp2_with fail
    refine (make_any _).mono ?_
    rintro e w1 ⟨rfl, ht, hb1⟩
    have hB := hb.keep hb1
    have HB := hid hb1
    clear hb1 hb
    go_wp2_with fail
    refine (sum_any ht hB (by omega)).mono ?_
    rintro e w2 ⟨rfl, rfl⟩
    go_wp2_with fail
    refine (rsum_any hB (by omega)).mono ?_
    rintro e w2 ⟨rfl, rfl⟩
    go_wp2_with fail
    refine (next_any ht s hs hB (by omega)).mono ?_
    rintro e w2 ⟨rfl, rfl⟩
    go_wp2_with fail
    refine (rnext_any s hs hB (by omega)).mono ?_
    rintro e w2 ⟨rfl, rfl⟩
    go_wp2_with fail
    refine (known_true _).mono ?_
    rintro e w3 ⟨rfl, hb3⟩
    have hf := hid (HB.out.trans (hb3.mono HB.out.size))
    clear hb3 HB ht hB
    go_wp2_with fail
    go_ret
    exact ⟨rfl, hf.out⟩
  · have hl1 : (5000 : Int) < (len : Int) := by omega
    go_enter Try.func4, Try.ntmps4
    go_wp2_with fail
    refine (known_true _).mono ?_
    rintro e w3 ⟨rfl, hb3⟩
    have hf := hid hb3
    clear hb3
    go_wp2_with fail
    go_ret
    exact ⟨rfl, hf.out⟩
theorem zeros_nil (s n : Value) (w : World) : Calls Try.prog 19 #[.pointer none, s, n] w fun e w' => e = .returned (.int .u32 0) ∧ Below w.heap.size w w' := by
  go_enter Try.func19, Try.ntmps19
  go_wp2_with fail
  go_ret
  exact ⟨rfl, (Below.refl _ _).alloc (Nat.le_refl _) _⟩
set_option maxRecDepth 100000 in
theorem nil_walk (w : World) (s : Int) (a : Option Addr) (len cap : Nat) (n : Int) :
    Calls Try.prog 8 #[.int .u32 s, .slice a len cap, .int .i64 n] w fun e w' => e = .returned (.bool true) ∧ Below w.heap.size w w' := by
  by_cases hl : len ≤ 3000
  · have hl1 : ¬ (3000 : Int) < (len : Int) := by omega
    go_enter Try.func8, Try.ntmps8
    go_wp2_with fail
    refine (sum_nil _ _).mono ?_
    rintro e w2 ⟨rfl, rfl⟩
    go_wp2_with fail
    refine (next_nil _ _ _).mono ?_
    rintro e w2 ⟨rfl, rfl⟩
    go_wp2_with fail
    refine (zeros_nil _ _ _).mono ?_
    rintro e w2 ⟨rfl, hb2⟩
    have HB := hid hb2
    clear hb2
    go_wp2_with fail
    refine (known_true _).mono ?_
    rintro e w3 ⟨rfl, hb3⟩
    have hf := hid (HB.out.trans (hb3.mono HB.out.size))
    clear hb3 HB
    go_wp2_with fail
    go_ret
    exact ⟨rfl, hf.out⟩
  · have hl1 : (3000 : Int) < (len : Int) := by omega
    go_enter Try.func8, Try.ntmps8
    go_wp2_with fail
    refine (known_true _).mono ?_
    rintro e w3 ⟨rfl, hb3⟩
    have hf := hid hb3
    clear hb3
    go_wp2_with fail
    go_ret
    exact ⟨rfl, hf.out⟩
end Go.Proofs.Ytlkeifciphehnaa.Crc
