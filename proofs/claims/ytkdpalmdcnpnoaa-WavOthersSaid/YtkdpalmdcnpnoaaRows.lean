/-
  No cell of these rows narrows 'for every input' (looked for: loops, veiled, ifaces, maps, wideKeys, modest, calm, conditions, laid).
  DERIVED. THE GIVEN ROWS OF THIS SEAT. 5 by the template 'for every input the law returns true; each argument reads behind the call as it read before'; 0 by the template 'total and deterministic' (their statements: YtkdpalmdcnpnoaaTotals.lean).
  GIVEN WITH THE SEED: the statements are not yours to turn. If you find one false, say at which input.
  Laid BY PROGRAM, IN A SANDBOX (cutbox-rows.mjs): the forced cells as the released guide's own fill.sh prints them over the translation e3678ed3876808bb… (all of the seat's roots in one cut). By AI agents, Wed Nov 11 2026. No macro, syntax, notation, axiom, sorry.
-/
import Derived.Test.YtkdpalmdcnpnoaaChecked
import GoSem.Claim
import GoSem.ClaimJoined
import GoSem.ClaimMapViews
import Derived.JoinedTies
import Derived.KernelRfl
namespace Go.Proofs.Ytkdpalmdcnpnoaa
/- THE CELL 'sum', in the pinned program and in every row, IS THE sha256 OF THE DUMP (.gsa) THAT YtkdpalmdcnpnoaaProg.lean LOADS. Nothing in Lean hashes anything: it is a label: what it is worth is what the hold of that sum in a sandbox is worth. -/
noncomputable def Try.pinned : Pinned := { name := "ytkdpalmdcnpnoaa", sum := "e3678ed3876808bb326a5f632f18dcd889a0c777098daaf5e72c56c3a0241f1e", checked := Try.checked }
namespace Rows
def none {H : Type} : Left H := { results := [], args := [] }

/-- 'descantlaw25.WavWrites': WHATEVER THE INPUT: true; the input reads as it did. -/
def wavWritesSpec : ChangeSpec := { name := "wavWrites", fn := fun _ => fun
  | [d1, d2] => { results := [.lit (.bool true)], args := [d1, d2] }
  | _ => none }
def wavWritesRow : OpenClaim := { program := "ytkdpalmdcnpnoaa", sum := "e3678ed3876808bb326a5f632f18dcd889a0c777098daaf5e72c56c3a0241f1e", func := "descant/descantlaw25.WavWrites", spec := "wavWrites", unfollowed := true, recurses := true, apart := false }
def WavWritesSaid : Prop := wavWritesRow.holds Try.pinned (OpenSpec.ofChange wavWritesSpec)

/-- ITS FALSE NEIGHBOUR: 'it returns false'. Refute it at one input. -/
def wavWritesWrong : ChangeSpec := { name := "wavWrites", fn := fun _ => fun
  | [d1, d2] => { results := [.lit (.bool false)], args := [d1, d2] }
  | _ => none }
def WavWritesWrongFalsely : Prop := wavWritesRow.holds Try.pinned (OpenSpec.ofChange wavWritesWrong)

/-- 'descantlaw25.WavChunks': WHATEVER THE INPUT: true; the input reads as it did. -/
def wavChunksSpec : ChangeSpec := { name := "wavChunks", fn := fun _ => fun
  | [d] => { results := [.lit (.bool true)], args := [d] }
  | _ => none }
def wavChunksRow : OpenClaim := { program := "ytkdpalmdcnpnoaa", sum := "e3678ed3876808bb326a5f632f18dcd889a0c777098daaf5e72c56c3a0241f1e", func := "descant/descantlaw25.WavChunks", spec := "wavChunks", unfollowed := true, recurses := true, apart := false }
def WavChunksSaid : Prop := wavChunksRow.holds Try.pinned (OpenSpec.ofChange wavChunksSpec)

/-- ITS FALSE NEIGHBOUR: 'it returns false'. Refute it at one input. -/
def wavChunksWrong : ChangeSpec := { name := "wavChunks", fn := fun _ => fun
  | [d] => { results := [.lit (.bool false)], args := [d] }
  | _ => none }
def WavChunksWrongFalsely : Prop := wavChunksRow.holds Try.pinned (OpenSpec.ofChange wavChunksWrong)

/-- 'descantlaw25.WavReads': WHATEVER THE INPUT: true; the input reads as it did. -/
def wavReadsSpec : ChangeSpec := { name := "wavReads", fn := fun _ => fun
  | [d] => { results := [.lit (.bool true)], args := [d] }
  | _ => none }
def wavReadsRow : OpenClaim := { program := "ytkdpalmdcnpnoaa", sum := "e3678ed3876808bb326a5f632f18dcd889a0c777098daaf5e72c56c3a0241f1e", func := "descant/descantlaw25.WavReads", spec := "wavReads", unfollowed := true, recurses := true, apart := false }
def WavReadsSaid : Prop := wavReadsRow.holds Try.pinned (OpenSpec.ofChange wavReadsSpec)

/-- ITS FALSE NEIGHBOUR: 'it returns false'. Refute it at one input. -/
def wavReadsWrong : ChangeSpec := { name := "wavReads", fn := fun _ => fun
  | [d] => { results := [.lit (.bool false)], args := [d] }
  | _ => none }
def WavReadsWrongFalsely : Prop := wavReadsRow.holds Try.pinned (OpenSpec.ofChange wavReadsWrong)

/-- 'descantlaw25.WavBack': WHATEVER THE INPUT: true; the input reads as it did. -/
def wavBackSpec : ChangeSpec := { name := "wavBack", fn := fun _ => fun
  | [d] => { results := [.lit (.bool true)], args := [d] }
  | _ => none }
def wavBackRow : OpenClaim := { program := "ytkdpalmdcnpnoaa", sum := "e3678ed3876808bb326a5f632f18dcd889a0c777098daaf5e72c56c3a0241f1e", func := "descant/descantlaw25.WavBack", spec := "wavBack", unfollowed := true, recurses := true, apart := false }
def WavBackSaid : Prop := wavBackRow.holds Try.pinned (OpenSpec.ofChange wavBackSpec)

/-- ITS FALSE NEIGHBOUR: 'it returns false'. Refute it at one input. -/
def wavBackWrong : ChangeSpec := { name := "wavBack", fn := fun _ => fun
  | [d] => { results := [.lit (.bool false)], args := [d] }
  | _ => none }
def WavBackWrongFalsely : Prop := wavBackRow.holds Try.pinned (OpenSpec.ofChange wavBackWrong)

/-- 'descantlaw25.WavOthers': WHATEVER THE INPUT: true; the input reads as it did. -/
def wavOthersSpec : ChangeSpec := { name := "wavOthers", fn := fun _ => fun
  | [d1, d2, d3, d4] => { results := [.lit (.bool true)], args := [d1, d2, d3, d4] }
  | _ => none }
def wavOthersRow : OpenClaim := { program := "ytkdpalmdcnpnoaa", sum := "e3678ed3876808bb326a5f632f18dcd889a0c777098daaf5e72c56c3a0241f1e", func := "descant/descantlaw25.WavOthers", spec := "wavOthers", unfollowed := true, recurses := true, apart := false }
def WavOthersSaid : Prop := wavOthersRow.holds Try.pinned (OpenSpec.ofChange wavOthersSpec)

/-- ITS FALSE NEIGHBOUR: 'it returns false'. Refute it at one input. -/
def wavOthersWrong : ChangeSpec := { name := "wavOthers", fn := fun _ => fun
  | [d1, d2, d3, d4] => { results := [.lit (.bool false)], args := [d1, d2, d3, d4] }
  | _ => none }
def WavOthersWrongFalsely : Prop := wavOthersRow.holds Try.pinned (OpenSpec.ofChange wavOthersWrong)

/- THE SECOND FORM. 'bulk': how many values and letters a reading holds, each counted each time it is reached (what is shared counts as often as it is met; a slice's spare places count too). A statement '..UptoSaid' is the law's where the arguments, and the package variables that the reading takes, are together of bulk at most 1048576: NARROWER than '..Said'. Prove '..Said' where nothing that the law and all that it calls make is longer than what came in: it says more and counts as full. Else prove '..UptoSaid'. A law counts once. -/
mutual
def uptoBulk {H : Type} : DataW H → Nat
  | .lit (.string bytes) => bytes.length + 1
  | .lit _ => 1
  | .nil => 1
  | .ptr d => uptoBulk d + 1
  | .slice elems spare => uptoBulkAll elems + uptoBulkAll spare + 1
  | .agg parts => uptoBulkAll parts + 1
  | .iface _ d => uptoBulk d + 1
  | .map entries => uptoBulkEntries entries + 1
  | .held _ => 1
def uptoBulkAll {H : Type} : List (DataW H) → Nat
  | [] => 0
  | d :: r => uptoBulk d + uptoBulkAll r
def uptoBulkEntries {H : Type} : List (Lit × DataW H) → Nat
  | [] => 0
  | x :: r => uptoBulkEntry x + uptoBulkEntries r
def uptoBulkEntry {H : Type} : Lit × DataW H → Nat
  | (.string bytes, d) => bytes.length + uptoBulk d + 1
  | (_, d) => uptoBulk d + 1
 end
def uptoSmall : (H : Type) → List (DataW H) → Bool := fun _ ds => decide (uptoBulkAll ds ≤ 1048576)
def OpenSpec.upto (s : _root_.Go.ChangeSpec) : _root_.Go.OpenSpec := { _root_.Go.OpenSpec.ofChange s with cond := some uptoSmall }

/-- 'descantlaw25.WavWrites', WHERE WHAT IT READS IS OF BULK AT MOST 1048576: true; the input reads as it did. -/
def wavWritesUptoRow : OpenClaim := { program := "ytkdpalmdcnpnoaa", sum := "e3678ed3876808bb326a5f632f18dcd889a0c777098daaf5e72c56c3a0241f1e", func := "descant/descantlaw25.WavWrites", spec := "wavWrites", unfollowed := true, recurses := true, apart := false, narrowed := true }
def WavWritesUptoSaid : Prop := wavWritesUptoRow.holds Try.pinned (OpenSpec.upto wavWritesSpec)

/-- 'descantlaw25.WavChunks', WHERE WHAT IT READS IS OF BULK AT MOST 1048576: true; the input reads as it did. -/
def wavChunksUptoRow : OpenClaim := { program := "ytkdpalmdcnpnoaa", sum := "e3678ed3876808bb326a5f632f18dcd889a0c777098daaf5e72c56c3a0241f1e", func := "descant/descantlaw25.WavChunks", spec := "wavChunks", unfollowed := true, recurses := true, apart := false, narrowed := true }
def WavChunksUptoSaid : Prop := wavChunksUptoRow.holds Try.pinned (OpenSpec.upto wavChunksSpec)

/-- 'descantlaw25.WavReads', WHERE WHAT IT READS IS OF BULK AT MOST 1048576: true; the input reads as it did. -/
def wavReadsUptoRow : OpenClaim := { program := "ytkdpalmdcnpnoaa", sum := "e3678ed3876808bb326a5f632f18dcd889a0c777098daaf5e72c56c3a0241f1e", func := "descant/descantlaw25.WavReads", spec := "wavReads", unfollowed := true, recurses := true, apart := false, narrowed := true }
def WavReadsUptoSaid : Prop := wavReadsUptoRow.holds Try.pinned (OpenSpec.upto wavReadsSpec)

/-- 'descantlaw25.WavBack', WHERE WHAT IT READS IS OF BULK AT MOST 1048576: true; the input reads as it did. -/
def wavBackUptoRow : OpenClaim := { program := "ytkdpalmdcnpnoaa", sum := "e3678ed3876808bb326a5f632f18dcd889a0c777098daaf5e72c56c3a0241f1e", func := "descant/descantlaw25.WavBack", spec := "wavBack", unfollowed := true, recurses := true, apart := false, narrowed := true }
def WavBackUptoSaid : Prop := wavBackUptoRow.holds Try.pinned (OpenSpec.upto wavBackSpec)

/-- 'descantlaw25.WavOthers', WHERE WHAT IT READS IS OF BULK AT MOST 1048576: true; the input reads as it did. -/
def wavOthersUptoRow : OpenClaim := { program := "ytkdpalmdcnpnoaa", sum := "e3678ed3876808bb326a5f632f18dcd889a0c777098daaf5e72c56c3a0241f1e", func := "descant/descantlaw25.WavOthers", spec := "wavOthers", unfollowed := true, recurses := true, apart := false, narrowed := true }
def WavOthersUptoSaid : Prop := wavOthersUptoRow.holds Try.pinned (OpenSpec.upto wavOthersSpec)

end Rows
end Go.Proofs.Ytkdpalmdcnpnoaa
