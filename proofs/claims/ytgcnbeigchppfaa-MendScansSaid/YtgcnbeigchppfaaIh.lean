/- Seal of the program. Conditions: a table in memory, a payload in memory. -/
import Derived.Test.YtgcnbeigchppfaaIg
namespace Go.Proofs.Ytgcnbeigchppfaa.Head
open Go.RowKit Gen Fld
open Crc hiding hid

/-- A head with another size. -/
def szd (h : Hh) (n : Nat) : Hh := ⟨h.k, h.ix, h.ln, h.st, h.bd, h.la, h.lk, (n : Int)⟩
/-- A block without its sum. -/
def blo (h : Hh) (p : List Nat) : List Nat := hby (szd h p.length) ++ p
def SealP (w : World) (s : Nat) (x : Int) (l : List Nat) (e : Ending) (w' : World) : Prop :=
  ∃ ao cap, e = .returned (.tuple #[.slice ao l.length cap, .int .u32 (s : Int), .int .i64 x]) ∧ NL w ao cap l w'
set_option maxRecDepth 100000 in
theorem sealp_none {w w' : World} (x : Int) (h : Below w.heap.size w w') : SealP w 0 x [] (.returned (.tuple #[.slice none 0 0, .int .u32 0, .int .i64 x])) w' := ⟨none, 0, rfl, World.ownsRow_nil _ _ _ _, h, fun _ h => by cases h⟩
end Go.Proofs.Ytgcnbeigchppfaa.Head
