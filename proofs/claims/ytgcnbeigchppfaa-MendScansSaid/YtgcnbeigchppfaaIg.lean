/- Put of the program, of a right head. Conditions: a table in memory, a head that is right. -/
import Derived.Test.YtgcnbeigchppfaaIf
import Derived.Lib.SlBytesConst
import Derived.Deep.LoopGhost
namespace Go.Proofs.Ytgcnbeigchppfaa.Head
open Go.RowKit Gen Fld
open Crc hiding hid

set_option maxRecDepth 100000 in
theorem u64_small (n : Nat) (h : n < 4294967296) : IntKind.u64.wrap (n : Int) = n := by rw [u64_wrap]; unfold u64; omega
set_option maxRecDepth 100000 in
theorem conv_self (w : World) : (convert 22 22 (.slice (some ⟨w.heap.size, 0, none⟩) 2 2)).run Try.prog (w.alloc (.cells #[.int .u8 222, .int .u8 92] 5)) = .ok (.slice (some ⟨w.heap.size, 0, none⟩) 2 2) (w.alloc (.cells #[.int .u8 222, .int .u8 92] 5 (2, 3))) :=
  Lib.run_convert_bytes_const (P := Try.prog) w 22 5 #[.int .u8 222, .int .u8 92] 2 2 Try.underlying22 Try.underlying5
end Go.Proofs.Ytgcnbeigchppfaa.Head
