/- The statements' fixed calls of rice: they answer true, and nothing that was there has turned. No condition. -/
import Derived.Test.YtjimamjhakainaaPa
namespace Go.Proofs.Ytjimamjhakainaa.Rice
open Go.RowKit Bit

theorem new_writer' (w : World) (t : TypeId) (B : Nat) (hB : B ≤ w.heap.size) : WrN (w.alloc (.cells #[.slice none 0 0, .int .u64 0, .int .i64 0] t)) B w.heap.size 0 none 0 0 0 := by
  refine ⟨?_, ?_, ?_, ?_, ?_, ?_, ?_, ?_, hB⟩
  · simp
  · simp
  · simp
  · simp
  · simp
  · simp
  · exact World.ownsRow_nil _ _ _ _
  · simp [blk]

/-- What a writer's calls leave below B, where the writer and its row lie from B on. -/
theorem pushed_below {w w' : World} {p B : Nat} {ao ao' : Option Addr} {k : Nat} (h : Pushed w w' p ao ao' k) (hp : B ≤ p) (hr : ∀ g, blk ao = some g → B ≤ g) (hB : B ≤ w.heap.size) : Below B w w' :=
  ⟨h.fr.os, h.fr.tape, h.fr.output, h.fr.size, fun k hk => h.fr.block k (by omega) (by
    rintro (e | e)
    · omega
    · have := hr k e; omega)⟩

theorem conv_row {w : World} {g m : Nat} {f : Nat → Nat} (h : w.rowIs g 5 m (fun i => .int .u8 (f i : Int))) :
    (convert 41 9 (.slice (some ⟨g, 0, none⟩) m m)).run Try.prog w = .ok (.string (strOfNums ((List.range m).map fun i => (f i : Int)))) w := by
  refine run_convert_bytes_arg (P := Try.prog) w 41 5 Try.underlying41 Try.underlying5 g 0 m m _ (by simp) ?_ 9 Try.underlying9
  intro i hi
  rw [Nat.zero_add, h.cell hi]
  simp [List.getD, hi]

end Go.Proofs.Ytjimamjhakainaa.Rice
