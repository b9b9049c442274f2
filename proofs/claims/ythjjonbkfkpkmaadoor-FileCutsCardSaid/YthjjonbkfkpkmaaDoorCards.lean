/-
  DERIVED. GIVEN WITH THE SEED: THE CARDS: each row of YthjjonbkfkpkmaaDoorRows.lean that lists a variable, with what it lists TIED to the program's text (the seventh form; the later family's looks); each row that meets fmt, with fmt's text TOLD by the authors' own Lean function (tested against real Go, not proved from fmt's source: count such statements apart). THE CARD IS WHAT COUNTS. Prove the row's statement (the work); the ties are given (YthjjonbkfkpkmaaDoorTie.lean); close each card by the builder's one call (the guide's Derived/Test/ToyasCard.lean, 'card_holds'). Laid BY PROGRAM, IN A SANDBOX (cutbox-door.mjs). By AI agents, Wed Nov 11 2026. No macro, syntax, notation, axiom, sorry.
-/
import Derived.Test.YthjjonbkfkpkmaaDoorRows
import GoSem.ClaimSeven
namespace Go.Proofs.YthjjonbkfkpkmaaDoor
namespace Rows

/-- THE TIED CARD OF 'descantlaw29.FileCuts'. -/
def fileCutsCard : Claim7 := { stood := { row := fileCutsRow, standIns := [], harness := (true, "1310c132ace73b468e6e6c2af92d7af93002b1cdc9163eaee1e879c10d80ca8b"), looks := false }, kinds := [], alts := [], laidByText := true, laidKinds := [.data, .pinned], laidTests := true, laidLooks := .later }
def FileCutsCardSaid : Prop := Claim7.holds Tryd.pinned (.plain (OpenSpec.ofChange fileCutsSpec)) fileCutsCard

/-- THE TIED CARD OF 'descantlaw29.FileNil'. -/
def fileNilCard : Claim7 := { stood := { row := fileNilRow, standIns := [], harness := (true, "1310c132ace73b468e6e6c2af92d7af93002b1cdc9163eaee1e879c10d80ca8b"), looks := false }, kinds := [], alts := [], laidByText := true, laidKinds := [.data, .pinned], laidTests := true, laidLooks := .later }
def FileNilCardSaid : Prop := Claim7.holds Tryd.pinned (.plain (OpenSpec.ofChange fileNilSpec)) fileNilCard

/-- THE SECOND FORM's CARD OF 'descantlaw29.FileCuts'. -/
def fileCutsUptoCard : Claim7 := { stood := { row := fileCutsUptoRow, standIns := [], harness := (true, "1310c132ace73b468e6e6c2af92d7af93002b1cdc9163eaee1e879c10d80ca8b"), looks := false }, kinds := [], alts := [], laidByText := true, laidKinds := [.data, .pinned], laidTests := true, laidLooks := .later }
def FileCutsUptoCardSaid : Prop := Claim7.holds Tryd.pinned (.plain (OpenSpec.upto fileCutsSpec)) fileCutsUptoCard

/-- THE SECOND FORM's CARD OF 'descantlaw29.FileNil'. -/
def fileNilUptoCard : Claim7 := { stood := { row := fileNilUptoRow, standIns := [], harness := (true, "1310c132ace73b468e6e6c2af92d7af93002b1cdc9163eaee1e879c10d80ca8b"), looks := false }, kinds := [], alts := [], laidByText := true, laidKinds := [.data, .pinned], laidTests := true, laidLooks := .later }
def FileNilUptoCardSaid : Prop := Claim7.holds Tryd.pinned (.plain (OpenSpec.upto fileNilSpec)) fileNilUptoCard
end Rows
end Go.Proofs.YthjjonbkfkpkmaaDoor
