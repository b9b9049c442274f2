/- What is wrong with two sounds beside each other, in the program. Conditions: both lie in memory as their lists. -/
import Derived.Test.YtkdpalmdcnpnoaaBt
namespace Go.Proofs.Ytkdpalmdcnpnoaa.Pcm
open Go.RowKit Gen

/-- Two sounds in a row. -/
def pairCells (a b : Dat) : Array Value := #[.int .i64 a.f.ch, .int .i64 a.f.bits, .int .i64 a.f.rate, .slice a.a a.n a.cap, .int .i64 b.f.ch, .int .i64 b.f.bits, .int .i64 b.f.rate, .slice b.a b.n b.cap]
structure Two (W : World) (q : Nat) (a b : Dat) : Prop where
  c : ∀ i v, (pairCells a b)[i]? = some v → W.cell? ⟨q, i, none⟩ = some v
set_option maxRecDepth 20000 in
theorem Two.fr {W W' : World} {q : Nat} {a b : Dat} (h : Two W q a b) (hf : Fr (fun _ => False) W W') : Two W' q a b :=
  ⟨fun i v hi => ((Below.of_fr hf).cell (p := ⟨q, i, none⟩) (World.block_lt_of_cell? _ _ (h.c i v hi))).trans (h.c i v hi)⟩
set_option maxRecDepth 20000 in
theorem two_new (w : World) (q : Nat) (a b : Dat) (t : TypeId) (hq : q = w.heap.size) : Two (w.alloc (.cells (pairCells a b) t)) q a b :=
  ⟨fun i v hi => by rw [World.cell?_alloc_at _ _ _ _ hq]; exact hi⟩

end Go.Proofs.Ytkdpalmdcnpnoaa.Pcm
