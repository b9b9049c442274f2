/- PutAll and Put of rice: what they answer, what the writer has behind them, and that nothing else has turned; the statements' fixed calls. Conditions: a list lies in memory as its numbers; the writer has fewer than 2^42 bits. -/
import Derived.Test.YtfpmdfbggifjiaaWt
import Derived.Test.YtfpmdfbggifjiaaBytes
import Derived.Laws.BytesArg
import Derived.Deep.RegionWith
namespace Go.Proofs.Ytfpmdfbggifjiaa.Rice
open Go.RowKit Bit

/-- The codes of the first numbers of a list, behind L bits N. -/
def cods (U : Nat → Nat) (k N L : Nat) : Nat → Nat × Nat
  | 0 => (N, L)
  | j + 1 => ((cods U k N L j).1 * 2 ^ cost (U j) k + cod (U j) k, (cods U k N L j).2 + cost (U j) k)
theorem cods_le (U : Nat → Nat) (k N L : Nat) : ∀ j, L ≤ (cods U k N L j).2 ∧ (cods U k N L j).2 ≤ L + 64 * j
  | 0 => ⟨Nat.le_refl _, Nat.le_refl _⟩
  | j + 1 => by
    have h := cods_le U k N L j
    have h1 := cost_le (U j) k
    show L ≤ _ + _ ∧ _ + _ ≤ _
    omega

def PutAllOk (w : World) (B p o : Nat) (ao : Option Addr) (L : Nat) (r : Nat × Nat) (e : Ending) (w' : World) : Prop := e = .returned (.int .i64 0) ∧ Wrote w B p o ao L r.1 r.2 w'

/-- A list of one new number. -/
theorem us_new (w : World) (u : Nat) (hu : u < 18446744073709551616) (t : TypeId) : Us (w.alloc (.cells #[.int .u64 (u : Int)] t)) (some ⟨w.heap.size, 0, none⟩) 1 w.heap.size 0 (fun _ => u) :=
  ⟨fun _ => rfl, fun i hi => by obtain rfl : i = 0 := by omega
                                simp, fun _ _ => hu, fun _ => by simp, by decide⟩

end Go.Proofs.Ytfpmdfbggifjiaa.Rice
