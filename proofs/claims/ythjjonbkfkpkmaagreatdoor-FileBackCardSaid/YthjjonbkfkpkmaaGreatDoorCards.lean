/-
  DERIVED. GIVEN WITH THE SEED: THE CARDS: each row of YthjjonbkfkpkmaaGreatDoorRows.lean that lists a variable, with what it lists TIED to the program's text (the seventh form; the later family's looks); each row that meets fmt, with fmt's text TOLD by the authors' own Lean function (tested against real Go, not proved from fmt's source: count such statements apart). THE CARD IS WHAT COUNTS. Prove the row's statement (the work); the ties are given (YthjjonbkfkpkmaaGreatDoorTie.lean); close each card by the builder's one call (the guide's Derived/Test/ToyasCard.lean, 'card_holds'). Laid BY PROGRAM, IN A SANDBOX (cutbox-door.mjs). By AI agents, Wed Nov 11 2026. No macro, syntax, notation, axiom, sorry.
-/
import Derived.Test.YthjjonbkfkpkmaaGreatDoorRows
import GoSem.ClaimSeven
namespace Go.Proofs.YthjjonbkfkpkmaaGreatDoor
namespace Rows

/-- THE TIED CARD OF 'descantlaw29.FileBuilds'. -/
def fileBuildsCard : Claim7 := { stood := { row := fileBuildsRow, standIns := [], harness := (true, "aa0d6d778ca50b2de188a5de2b7960b9fdb0a592ef275b9be978093a1b7a6098"), looks := false }, kinds := [], alts := [], laidByText := true, laidKinds := [.data, .pinned], laidTests := true, laidLooks := .later }
def FileBuildsCardSaid : Prop := Claim7.holds Tryz.pinned (.plain (OpenSpec.ofChange fileBuildsSpec)) fileBuildsCard

/-- THE TIED CARD OF 'descantlaw29.FileParses'. -/
def fileParsesCard : Claim7 := { stood := { row := fileParsesRow, standIns := [], harness := (true, "aa0d6d778ca50b2de188a5de2b7960b9fdb0a592ef275b9be978093a1b7a6098"), looks := false }, kinds := [], alts := [], laidByText := true, laidKinds := [.data, .pinned], laidTests := true, laidLooks := .later }
def FileParsesCardSaid : Prop := Claim7.holds Tryz.pinned (.plain (OpenSpec.ofChange fileParsesSpec)) fileParsesCard

/-- THE TIED CARD OF 'descantlaw29.FileBack'. -/
def fileBackCard : Claim7 := { stood := { row := fileBackRow, standIns := [], harness := (true, "aa0d6d778ca50b2de188a5de2b7960b9fdb0a592ef275b9be978093a1b7a6098"), looks := false }, kinds := [], alts := [], laidByText := true, laidKinds := [.data, .pinned], laidTests := true, laidLooks := .later }
def FileBackCardSaid : Prop := Claim7.holds Tryz.pinned (.plain (OpenSpec.ofChange fileBackSpec)) fileBackCard

/-- THE SECOND FORM's CARD OF 'descantlaw29.FileBuilds'. -/
def fileBuildsUptoCard : Claim7 := { stood := { row := fileBuildsUptoRow, standIns := [], harness := (true, "aa0d6d778ca50b2de188a5de2b7960b9fdb0a592ef275b9be978093a1b7a6098"), looks := false }, kinds := [], alts := [], laidByText := true, laidKinds := [.data, .pinned], laidTests := true, laidLooks := .later }
def FileBuildsUptoCardSaid : Prop := Claim7.holds Tryz.pinned (.plain (OpenSpec.upto fileBuildsSpec)) fileBuildsUptoCard

/-- THE SECOND FORM's CARD OF 'descantlaw29.FileParses'. -/
def fileParsesUptoCard : Claim7 := { stood := { row := fileParsesUptoRow, standIns := [], harness := (true, "aa0d6d778ca50b2de188a5de2b7960b9fdb0a592ef275b9be978093a1b7a6098"), looks := false }, kinds := [], alts := [], laidByText := true, laidKinds := [.data, .pinned], laidTests := true, laidLooks := .later }
def FileParsesUptoCardSaid : Prop := Claim7.holds Tryz.pinned (.plain (OpenSpec.upto fileParsesSpec)) fileParsesUptoCard

/-- THE SECOND FORM's CARD OF 'descantlaw29.FileBack'. -/
def fileBackUptoCard : Claim7 := { stood := { row := fileBackUptoRow, standIns := [], harness := (true, "aa0d6d778ca50b2de188a5de2b7960b9fdb0a592ef275b9be978093a1b7a6098"), looks := false }, kinds := [], alts := [], laidByText := true, laidKinds := [.data, .pinned], laidTests := true, laidLooks := .later }
def FileBackUptoCardSaid : Prop := Claim7.holds Tryz.pinned (.plain (OpenSpec.upto fileBackSpec)) fileBackUptoCard
end Rows
end Go.Proofs.YthjjonbkfkpkmaaGreatDoor
