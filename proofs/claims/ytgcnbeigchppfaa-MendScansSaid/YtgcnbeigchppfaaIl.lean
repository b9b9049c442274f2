/- The head that fields make, of the program. -/
import Derived.Test.YtgcnbeigchppfaaIk
namespace Go.Proofs.Ytgcnbeigchppfaa.Head
open Go.RowKit Gen Fld
open Crc hiding hid

set_option maxRecDepth 100000 in
theorem Try.size24 : (Try.prog.info? 38).map (·.size) = some 8 := by kernel_rfl
def hz : Hh := ⟨0, 0, 0, 0, 0, false, 0, 0⟩
set_option maxRecDepth 100000 in
theorem i64_small (n : Nat) (h : n < 4294967296) : wrap64 (n : Int) = n := by unfold wrap64; omega
/-- A head without a kind. -/
def hdf (f : Nat → Nat) : Hh := ⟨0, f 0, f 1, f 2, f 3, false, f 4, f 5⟩
set_option maxRecDepth 100000 in
theorem headof_any (f : Nat → Nat) (hf : ∀ i, f i < 4294967296) (w : World) :
    Calls Try.prog 81 #[.agg #[.int .u64 (f 0 : Int), .int .u64 (f 1 : Int), .int .u64 (f 2 : Int), .int .u64 (f 3 : Int), .int .u64 (f 4 : Int), .int .u64 (f 5 : Int)]] w fun e w' => e = .returned (hv (hdf f)) ∧ Below w.heap.size w w' := by
  have f0 := hf 0; have f1 := hf 1; have f2 := hf 2; have f3 := hf 3; have f4 := hf 4; have f5 := hf 5
  change Calls Try.prog 81 #[.agg #[.int .u64 (f 0 : Int), .int .u64 (f 1 : Int), .int .u64 (f 2 : Int), .int .u64 (f 3 : Int), .int .u64 (f 4 : Int), .int .u64 (f 5 : Int)]] w fun e w' => e = .returned (.agg #[.int .i64 0, .int .i64 (f 0 : Int), .int .i64 (f 1 : Int), .int .i64 (f 2 : Int), .int .i64 (f 3 : Int), .bool false, .int .u32 (f 4 : Int), .int .i64 (f 5 : Int)]) ∧ Below w.heap.size w w'
  generalize f 0 = a0 at *
  generalize f 1 = a1 at *
  generalize f 2 = a2 at *
  generalize f 3 = a3 at *
  generalize f 4 = a4 at *
  generalize f 5 = a5 at *
  have w0 := i64_small a0 f0
  have w1 := i64_small a1 f1
  have w2 := i64_small a2 f2
  have w3 := i64_small a3 f3
  have w5 := i64_small a5 f5
  have w4 : IntKind.u32.wrap (a4 : Int) = a4 := by rw [wrap_u32n]; omega
  clear hf f0 f1 f2 f3 f4 f5
  go_enter Try.func81, Try.ntmps81
  go_wp2_with fail
  refine bodyPost_ret (results_cell_row (p := 2) (ty := 38) (by kernel_rfl) _ _ (w.heap.size + 1) 38 _ (0, 0) _ rfl (alloc2_at _ _ _) Try.underlying38 rfl Try.size24) rfl ?_
  exact ⟨rfl, (below_new w _).alloc (below_new w _).size _⟩
end Go.Proofs.Ytgcnbeigchppfaa.Head
