/-
  No cell of these rows narrows 'for every input' (looked for: loops, veiled, ifaces, maps, wideKeys, modest, calm, conditions, laid).
  DERIVED. THE GIVEN ROWS OF THIS SEAT. 6 by the template 'for every input the law returns true; each argument reads behind the call as it read before'; 0 by the template 'total and deterministic' (their statements: YtjimamjhakainaaTotals.lean).
  GIVEN WITH THE SEED: the statements are not yours to turn. If you find one false, say at which input.
  Laid BY PROGRAM, IN A SANDBOX (cutbox-rows.mjs): the forced cells as the released guide's own fill.sh prints them over the translation a53cbb6afc5af126… (all of the seat's roots in one cut). By AI agents, Wed Nov 11 2026. No macro, syntax, notation, axiom, sorry.
-/
import Derived.Test.YtjimamjhakainaaChecked
import GoSem.Claim
import GoSem.ClaimJoined
import GoSem.ClaimMapViews
import Derived.JoinedTies
import Derived.KernelRfl
namespace Go.Proofs.Ytjimamjhakainaa
/- THE CELL 'sum', in the pinned program and in every row, IS THE sha256 OF THE DUMP (.gsa) THAT YtjimamjhakainaaProg.lean LOADS. Nothing in Lean hashes anything: it is a label: what it is worth is what the hold of that sum in a sandbox is worth. -/
noncomputable def Try.pinned : Pinned := { name := "ytjimamjhakainaa", sum := "a53cbb6afc5af126e92b1d17da81a023b7bed0c114bb3c08696ff09c8eb389fd", checked := Try.checked }
namespace Rows
def none {H : Type} : Left H := { results := [], args := [] }

/-- 'descantlaw09.PartChooses': WHATEVER THE INPUT: true; the input reads as it did. -/
def partChoosesSpec : ChangeSpec := { name := "partChooses", fn := fun _ => fun
  | [d] => { results := [.lit (.bool true)], args := [d] }
  | _ => none }
def partChoosesRow : OpenClaim := { program := "ytjimamjhakainaa", sum := "a53cbb6afc5af126e92b1d17da81a023b7bed0c114bb3c08696ff09c8eb389fd", func := "descant/descantlaw09.PartChooses", spec := "partChooses", unfollowed := true, recurses := true, apart := false }
def PartChoosesSaid : Prop := partChoosesRow.holds Try.pinned (OpenSpec.ofChange partChoosesSpec)

/-- ITS FALSE NEIGHBOUR: 'it returns false'. Refute it at one input. -/
def partChoosesWrong : ChangeSpec := { name := "partChooses", fn := fun _ => fun
  | [d] => { results := [.lit (.bool false)], args := [d] }
  | _ => none }
def PartChoosesWrongFalsely : Prop := partChoosesRow.holds Try.pinned (OpenSpec.ofChange partChoosesWrong)

/-- 'descantlaw09.PartBounds': WHATEVER THE INPUT: true; the input reads as it did. -/
def partBoundsSpec : ChangeSpec := { name := "partBounds", fn := fun _ => fun
  | [d1, d2, d3] => { results := [.lit (.bool true)], args := [d1, d2, d3] }
  | _ => none }
def partBoundsRow : OpenClaim := { program := "ytjimamjhakainaa", sum := "a53cbb6afc5af126e92b1d17da81a023b7bed0c114bb3c08696ff09c8eb389fd", func := "descant/descantlaw09.PartBounds", spec := "partBounds", unfollowed := true, recurses := true, apart := false }
def PartBoundsSaid : Prop := partBoundsRow.holds Try.pinned (OpenSpec.ofChange partBoundsSpec)

/-- ITS FALSE NEIGHBOUR: 'it returns false'. Refute it at one input. -/
def partBoundsWrong : ChangeSpec := { name := "partBounds", fn := fun _ => fun
  | [d1, d2, d3] => { results := [.lit (.bool false)], args := [d1, d2, d3] }
  | _ => none }
def PartBoundsWrongFalsely : Prop := partBoundsRow.holds Try.pinned (OpenSpec.ofChange partBoundsWrong)

/-- 'descantlaw09.PartCosts': WHATEVER THE INPUT: true; the input reads as it did. -/
def partCostsSpec : ChangeSpec := { name := "partCosts", fn := fun _ => fun
  | [d1, d2] => { results := [.lit (.bool true)], args := [d1, d2] }
  | _ => none }
def partCostsRow : OpenClaim := { program := "ytjimamjhakainaa", sum := "a53cbb6afc5af126e92b1d17da81a023b7bed0c114bb3c08696ff09c8eb389fd", func := "descant/descantlaw09.PartCosts", spec := "partCosts", unfollowed := true, recurses := true, apart := false }
def PartCostsSaid : Prop := partCostsRow.holds Try.pinned (OpenSpec.ofChange partCostsSpec)

/-- ITS FALSE NEIGHBOUR: 'it returns false'. Refute it at one input. -/
def partCostsWrong : ChangeSpec := { name := "partCosts", fn := fun _ => fun
  | [d1, d2] => { results := [.lit (.bool false)], args := [d1, d2] }
  | _ => none }
def PartCostsWrongFalsely : Prop := partCostsRow.holds Try.pinned (OpenSpec.ofChange partCostsWrong)

/-- 'descantlaw09.PartPuts': WHATEVER THE INPUT: true; the input reads as it did. -/
def partPutsSpec : ChangeSpec := { name := "partPuts", fn := fun _ => fun
  | [d1, d2] => { results := [.lit (.bool true)], args := [d1, d2] }
  | _ => none }
def partPutsRow : OpenClaim := { program := "ytjimamjhakainaa", sum := "a53cbb6afc5af126e92b1d17da81a023b7bed0c114bb3c08696ff09c8eb389fd", func := "descant/descantlaw09.PartPuts", spec := "partPuts", unfollowed := true, recurses := true, apart := false }
def PartPutsSaid : Prop := partPutsRow.holds Try.pinned (OpenSpec.ofChange partPutsSpec)

/-- ITS FALSE NEIGHBOUR: 'it returns false'. Refute it at one input. -/
def partPutsWrong : ChangeSpec := { name := "partPuts", fn := fun _ => fun
  | [d1, d2] => { results := [.lit (.bool false)], args := [d1, d2] }
  | _ => none }
def PartPutsWrongFalsely : Prop := partPutsRow.holds Try.pinned (OpenSpec.ofChange partPutsWrong)

/-- 'descantlaw09.PartBack': WHATEVER THE INPUT: true; the input reads as it did. -/
def partBackSpec : ChangeSpec := { name := "partBack", fn := fun _ => fun
  | [d1, d2] => { results := [.lit (.bool true)], args := [d1, d2] }
  | _ => none }
def partBackRow : OpenClaim := { program := "ytjimamjhakainaa", sum := "a53cbb6afc5af126e92b1d17da81a023b7bed0c114bb3c08696ff09c8eb389fd", func := "descant/descantlaw09.PartBack", spec := "partBack", unfollowed := true, recurses := true, apart := false }
def PartBackSaid : Prop := partBackRow.holds Try.pinned (OpenSpec.ofChange partBackSpec)

/-- ITS FALSE NEIGHBOUR: 'it returns false'. Refute it at one input. -/
def partBackWrong : ChangeSpec := { name := "partBack", fn := fun _ => fun
  | [d1, d2] => { results := [.lit (.bool false)], args := [d1, d2] }
  | _ => none }
def PartBackWrongFalsely : Prop := partBackRow.holds Try.pinned (OpenSpec.ofChange partBackWrong)

/-- 'descantlaw09.PartNil': WHATEVER THE INPUT: true; the input reads as it did. -/
def partNilSpec : ChangeSpec := { name := "partNil", fn := fun _ => fun
  | [d1, d2, d3] => { results := [.lit (.bool true)], args := [d1, d2, d3] }
  | _ => none }
def partNilRow : OpenClaim := { program := "ytjimamjhakainaa", sum := "a53cbb6afc5af126e92b1d17da81a023b7bed0c114bb3c08696ff09c8eb389fd", func := "descant/descantlaw09.PartNil", spec := "partNil", unfollowed := true, recurses := true, apart := false }
def PartNilSaid : Prop := partNilRow.holds Try.pinned (OpenSpec.ofChange partNilSpec)

/-- ITS FALSE NEIGHBOUR: 'it returns false'. Refute it at one input. -/
def partNilWrong : ChangeSpec := { name := "partNil", fn := fun _ => fun
  | [d1, d2, d3] => { results := [.lit (.bool false)], args := [d1, d2, d3] }
  | _ => none }
def PartNilWrongFalsely : Prop := partNilRow.holds Try.pinned (OpenSpec.ofChange partNilWrong)

/- THE SECOND FORM. 'bulk': how many values and letters a reading holds, each counted each time it is reached (what is shared counts as often as it is met; a slice's spare places count too). A statement '..UptoSaid' is the law's where the arguments, and the package variables that the reading takes, are together of bulk at most 1048576: NARROWER than '..Said'. Prove '..Said' where nothing that the law and all that it calls make is longer than what came in: it says more and counts as full. Else prove '..UptoSaid'. A law counts once. -/
mutual
def uptoBulk {H : Type} : DataW H → Nat
  | .lit (.string bytes) => bytes.length + 1
  | .lit _ => 1
  | .nil => 1
  | .ptr d => uptoBulk d + 1
  | .slice elems spare => uptoBulkAll elems + uptoBulkAll spare + 1
  | .agg parts => uptoBulkAll parts + 1
  | .iface _ d => uptoBulk d + 1
  | .map entries => uptoBulkEntries entries + 1
  | .held _ => 1
def uptoBulkAll {H : Type} : List (DataW H) → Nat
  | [] => 0
  | d :: r => uptoBulk d + uptoBulkAll r
def uptoBulkEntries {H : Type} : List (Lit × DataW H) → Nat
  | [] => 0
  | x :: r => uptoBulkEntry x + uptoBulkEntries r
def uptoBulkEntry {H : Type} : Lit × DataW H → Nat
  | (.string bytes, d) => bytes.length + uptoBulk d + 1
  | (_, d) => uptoBulk d + 1
 end
def uptoSmall : (H : Type) → List (DataW H) → Bool := fun _ ds => decide (uptoBulkAll ds ≤ 1048576)
def OpenSpec.upto (s : _root_.Go.ChangeSpec) : _root_.Go.OpenSpec := { _root_.Go.OpenSpec.ofChange s with cond := some uptoSmall }

/-- 'descantlaw09.PartChooses', WHERE WHAT IT READS IS OF BULK AT MOST 1048576: true; the input reads as it did. -/
def partChoosesUptoRow : OpenClaim := { program := "ytjimamjhakainaa", sum := "a53cbb6afc5af126e92b1d17da81a023b7bed0c114bb3c08696ff09c8eb389fd", func := "descant/descantlaw09.PartChooses", spec := "partChooses", unfollowed := true, recurses := true, apart := false, narrowed := true }
def PartChoosesUptoSaid : Prop := partChoosesUptoRow.holds Try.pinned (OpenSpec.upto partChoosesSpec)

/-- 'descantlaw09.PartBounds', WHERE WHAT IT READS IS OF BULK AT MOST 1048576: true; the input reads as it did. -/
def partBoundsUptoRow : OpenClaim := { program := "ytjimamjhakainaa", sum := "a53cbb6afc5af126e92b1d17da81a023b7bed0c114bb3c08696ff09c8eb389fd", func := "descant/descantlaw09.PartBounds", spec := "partBounds", unfollowed := true, recurses := true, apart := false, narrowed := true }
def PartBoundsUptoSaid : Prop := partBoundsUptoRow.holds Try.pinned (OpenSpec.upto partBoundsSpec)

/-- 'descantlaw09.PartCosts', WHERE WHAT IT READS IS OF BULK AT MOST 1048576: true; the input reads as it did. -/
def partCostsUptoRow : OpenClaim := { program := "ytjimamjhakainaa", sum := "a53cbb6afc5af126e92b1d17da81a023b7bed0c114bb3c08696ff09c8eb389fd", func := "descant/descantlaw09.PartCosts", spec := "partCosts", unfollowed := true, recurses := true, apart := false, narrowed := true }
def PartCostsUptoSaid : Prop := partCostsUptoRow.holds Try.pinned (OpenSpec.upto partCostsSpec)

/-- 'descantlaw09.PartPuts', WHERE WHAT IT READS IS OF BULK AT MOST 1048576: true; the input reads as it did. -/
def partPutsUptoRow : OpenClaim := { program := "ytjimamjhakainaa", sum := "a53cbb6afc5af126e92b1d17da81a023b7bed0c114bb3c08696ff09c8eb389fd", func := "descant/descantlaw09.PartPuts", spec := "partPuts", unfollowed := true, recurses := true, apart := false, narrowed := true }
def PartPutsUptoSaid : Prop := partPutsUptoRow.holds Try.pinned (OpenSpec.upto partPutsSpec)

/-- 'descantlaw09.PartBack', WHERE WHAT IT READS IS OF BULK AT MOST 1048576: true; the input reads as it did. -/
def partBackUptoRow : OpenClaim := { program := "ytjimamjhakainaa", sum := "a53cbb6afc5af126e92b1d17da81a023b7bed0c114bb3c08696ff09c8eb389fd", func := "descant/descantlaw09.PartBack", spec := "partBack", unfollowed := true, recurses := true, apart := false, narrowed := true }
def PartBackUptoSaid : Prop := partBackUptoRow.holds Try.pinned (OpenSpec.upto partBackSpec)

/-- 'descantlaw09.PartNil', WHERE WHAT IT READS IS OF BULK AT MOST 1048576: true; the input reads as it did. -/
def partNilUptoRow : OpenClaim := { program := "ytjimamjhakainaa", sum := "a53cbb6afc5af126e92b1d17da81a023b7bed0c114bb3c08696ff09c8eb389fd", func := "descant/descantlaw09.PartNil", spec := "partNil", unfollowed := true, recurses := true, apart := false, narrowed := true }
def PartNilUptoSaid : Prop := partNilUptoRow.holds Try.pinned (OpenSpec.upto partNilSpec)

end Rows
end Go.Proofs.Ytjimamjhakainaa
