/-
  DERIVED. GIVEN WITH THE SEED: THE CARDS: each row of YtdopheoedpldiaaGreatDoorRows.lean that lists a variable, with what it lists TIED to the program's text (the seventh form; the later family's looks); each row that meets fmt, with fmt's text TOLD by the authors' own Lean function (tested against real Go, not proved from fmt's source: count such statements apart). THE CARD IS WHAT COUNTS. Prove the row's statement (the work); the ties are given (YtdopheoedpldiaaGreatDoorTie.lean); close each card by the builder's one call (the guide's Derived/Test/ToyasCard.lean, 'card_holds'). Laid BY PROGRAM, IN A SANDBOX (cutbox-door.mjs). By AI agents, Wed Nov 11 2026. No macro, syntax, notation, axiom, sorry.
-/
import Derived.Test.YtdopheoedpldiaaGreatDoorRows
import GoSem.ClaimSeven
namespace Go.Proofs.YtdopheoedpldiaaGreatDoor
namespace Rows

/-- THE TIED CARD OF 'inlaylaw16.FileEncodes'. -/
def fileEncodesCard : Claim7 := { stood := { row := fileEncodesRow, standIns := [], harness := (true, "a8d273cac36a4c16f268468b75cc6d88ca36259f03382e3d97117b11cfae4ff1"), looks := true }, kinds := [], alts := [], laidByText := true, laidKinds := [.data], laidTests := true, laidLooks := .later }
def FileEncodesCardSaid : Prop := Claim7.holds Tryz.pinned (.plain (OpenSpec.ofChange fileEncodesSpec)) fileEncodesCard

/-- THE TIED CARD OF 'inlaylaw16.FileBack'. -/
def fileBackCard : Claim7 := { stood := { row := fileBackRow, standIns := [], harness := (true, "a8d273cac36a4c16f268468b75cc6d88ca36259f03382e3d97117b11cfae4ff1"), looks := true }, kinds := [], alts := [], laidByText := true, laidKinds := [.data], laidTests := true, laidLooks := .later }
def FileBackCardSaid : Prop := Claim7.holds Tryz.pinned (.plain (OpenSpec.ofChange fileBackSpec)) fileBackCard

/-- THE TIED CARD OF 'inlaylaw16.FileSame'. -/
def fileSameCard : Claim7 := { stood := { row := fileSameRow, standIns := [], harness := (true, "a8d273cac36a4c16f268468b75cc6d88ca36259f03382e3d97117b11cfae4ff1"), looks := true }, kinds := [], alts := [], laidByText := true, laidKinds := [.data], laidTests := true, laidLooks := .later }
def FileSameCardSaid : Prop := Claim7.holds Tryz.pinned (.plain (OpenSpec.ofChange fileSameSpec)) fileSameCard

/-- THE TIED CARD OF 'inlaylaw16.FileCuts'. -/
def fileCutsCard : Claim7 := { stood := { row := fileCutsRow, standIns := [], harness := (true, "a8d273cac36a4c16f268468b75cc6d88ca36259f03382e3d97117b11cfae4ff1"), looks := true }, kinds := [], alts := [], laidByText := true, laidKinds := [.data], laidTests := true, laidLooks := .later }
def FileCutsCardSaid : Prop := Claim7.holds Tryz.pinned (.plain (OpenSpec.ofChange fileCutsSpec)) fileCutsCard

/-- THE SECOND FORM's CARD OF 'inlaylaw16.FileEncodes'. -/
def fileEncodesUptoCard : Claim7 := { stood := { row := fileEncodesUptoRow, standIns := [], harness := (true, "a8d273cac36a4c16f268468b75cc6d88ca36259f03382e3d97117b11cfae4ff1"), looks := true }, kinds := [], alts := [], laidByText := true, laidKinds := [.data], laidTests := true, laidLooks := .later }
def FileEncodesUptoCardSaid : Prop := Claim7.holds Tryz.pinned (.plain (OpenSpec.upto fileEncodesSpec)) fileEncodesUptoCard

/-- THE SECOND FORM's CARD OF 'inlaylaw16.FileBack'. -/
def fileBackUptoCard : Claim7 := { stood := { row := fileBackUptoRow, standIns := [], harness := (true, "a8d273cac36a4c16f268468b75cc6d88ca36259f03382e3d97117b11cfae4ff1"), looks := true }, kinds := [], alts := [], laidByText := true, laidKinds := [.data], laidTests := true, laidLooks := .later }
def FileBackUptoCardSaid : Prop := Claim7.holds Tryz.pinned (.plain (OpenSpec.upto fileBackSpec)) fileBackUptoCard

/-- THE SECOND FORM's CARD OF 'inlaylaw16.FileSame'. -/
def fileSameUptoCard : Claim7 := { stood := { row := fileSameUptoRow, standIns := [], harness := (true, "a8d273cac36a4c16f268468b75cc6d88ca36259f03382e3d97117b11cfae4ff1"), looks := true }, kinds := [], alts := [], laidByText := true, laidKinds := [.data], laidTests := true, laidLooks := .later }
def FileSameUptoCardSaid : Prop := Claim7.holds Tryz.pinned (.plain (OpenSpec.upto fileSameSpec)) fileSameUptoCard

/-- THE SECOND FORM's CARD OF 'inlaylaw16.FileCuts'. -/
def fileCutsUptoCard : Claim7 := { stood := { row := fileCutsUptoRow, standIns := [], harness := (true, "a8d273cac36a4c16f268468b75cc6d88ca36259f03382e3d97117b11cfae4ff1"), looks := true }, kinds := [], alts := [], laidByText := true, laidKinds := [.data], laidTests := true, laidLooks := .later }
def FileCutsUptoCardSaid : Prop := Claim7.holds Tryz.pinned (.plain (OpenSpec.upto fileCutsSpec)) fileCutsUptoCard
end Rows
end Go.Proofs.YtdopheoedpldiaaGreatDoor
