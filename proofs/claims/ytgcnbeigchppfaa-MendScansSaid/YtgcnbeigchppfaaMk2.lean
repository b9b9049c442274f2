/- The maker's fields: numbers, signed ones, bytes, texts; its length and its bytes. Conditions: fewer than 2^40 bytes. -/
import Derived.Test.YtgcnbeigchppfaaMk
namespace Go.Proofs.Ytgcnbeigchppfaa.Fld
open Go.RowKit Gen

set_option maxRecDepth 100000 in
theorem byts_one (w : World) (x : Nat) (hx : x < 256) : Byts (w.alloc (.cells #[.int .u8 (x : Int)] 5)) (some ⟨w.heap.size, 0, none⟩) [x] :=
  ⟨fun b hb => by rw [List.mem_singleton.1 hb]; exact hx, fun j y hj => ⟨w.heap.size, 0, rfl, by
    cases j with
    | zero => simp at hj; subst hj; simp
    | succ j => simp at hj⟩⟩
set_option maxRecDepth 100000 in
theorem byts_one' (w : World) (x : Nat) : Byts (w.alloc (.cells #[.int .u8 ((x : Int) % 256)] 5)) (some ⟨w.heap.size, 0, none⟩) [x % 256] := by
  have := byts_one w (x % 256) (Nat.mod_lt _ (by decide))
  rwa [show (((x % 256 : Nat)) : Int) = (x : Int) % 256 from by omega] at this
set_option maxRecDepth 100000 in
theorem bel_alloc (w : World) (o : Obj) : Below w.heap.size w (w.alloc o) := (Below.refl _ _).alloc (Nat.le_refl _) _

end Go.Proofs.Ytgcnbeigchppfaa.Fld
