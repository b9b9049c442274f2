/- Apart of the document. Conditions: both sounds lie in memory as their lists. -/
import Derived.Test.YtkdpalmdcnpnoaaAp
namespace Go.Proofs.Ytkdpalmdcnpnoaa.Pcm
open Go.RowKit Gen

/-- What stands while the list grows. -/
structure Ra (w wr : World) (a b : Dat) (lo : Option Addr) (lcap k : Nat) : Prop where
  row : Row wr w.heap.size lo lcap (apf a b) k
  f1 : blk lo ≠ some w.heap.size
  f2 : blk lo ≠ some (w.heap.size + 1)
  bx : Bx wr w.heap.size a
  by' : Bx wr (w.heap.size + 1) b
  below : Below w.heap.size w wr
set_option maxRecDepth 20000 in
theorem Ra.upto {w wr w' : World} {a b : Dat} {lo : Option Addr} {lcap k : Nat} (h : Ra w wr a b lo lcap k) (hb : Below wr.heap.size wr w') : Ra w w' a b lo lcap k :=
  ⟨h.row.upto hb, h.f1, h.f2, h.bx.below hb, h.by'.below hb, h.below.trans (hb.mono h.below.size)⟩

end Go.Proofs.Ytkdpalmdcnpnoaa.Pcm
