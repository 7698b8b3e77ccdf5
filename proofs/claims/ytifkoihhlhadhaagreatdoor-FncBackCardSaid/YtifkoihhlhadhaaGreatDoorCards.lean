/-
  DERIVED. GIVEN WITH THE SEED: THE CARDS: each row of YtifkoihhlhadhaaGreatDoorRows.lean that lists a variable, with what it lists TIED to the program's text (the seventh form; the later family's looks); each row that meets fmt, with fmt's text TOLD by the authors' own Lean function (tested against real Go, not proved from fmt's source: count such statements apart). THE CARD IS WHAT COUNTS. Prove the row's statement (the work); the ties are given (YtifkoihhlhadhaaGreatDoorTie.lean); close each card by the builder's one call (the guide's Derived/Test/ToyasCard.lean, 'card_holds'). Laid BY PROGRAM, IN A SANDBOX (cutbox-door.mjs). By AI agents, Wed Nov 11 2026. No macro, syntax, notation, axiom, sorry.
-/
import Derived.Test.YtifkoihhlhadhaaGreatDoorRows
import GoSem.ClaimSeven
namespace Go.Proofs.YtifkoihhlhadhaaGreatDoor
namespace Rows

/-- THE TIED CARD OF 'inlaylaw15.FncCan'. -/
def fncCanCard : Claim7 := { stood := { row := fncCanRow, standIns := [], harness := (true, "b8801f34de5312ab8f90b9d47ba2543a45b3b9313a631ea7b6075a01a2d16d3b"), looks := false }, kinds := [], alts := [], laidByText := true, laidKinds := [.data], laidTests := true, laidLooks := .later }
def FncCanCardSaid : Prop := Claim7.holds Tryz.pinned (.plain (OpenSpec.ofChange fncCanSpec)) fncCanCard

/-- THE TIED CARD OF 'inlaylaw15.FncBack'. -/
def fncBackCard : Claim7 := { stood := { row := fncBackRow, standIns := [], harness := (true, "b8801f34de5312ab8f90b9d47ba2543a45b3b9313a631ea7b6075a01a2d16d3b"), looks := false }, kinds := [], alts := [], laidByText := true, laidKinds := [.data], laidTests := true, laidLooks := .later }
def FncBackCardSaid : Prop := Claim7.holds Tryz.pinned (.plain (OpenSpec.ofChange fncBackSpec)) fncBackCard

/-- THE SECOND FORM's CARD OF 'inlaylaw15.FncCan'. -/
def fncCanUptoCard : Claim7 := { stood := { row := fncCanUptoRow, standIns := [], harness := (true, "b8801f34de5312ab8f90b9d47ba2543a45b3b9313a631ea7b6075a01a2d16d3b"), looks := false }, kinds := [], alts := [], laidByText := true, laidKinds := [.data], laidTests := true, laidLooks := .later }
def FncCanUptoCardSaid : Prop := Claim7.holds Tryz.pinned (.plain (OpenSpec.upto fncCanSpec)) fncCanUptoCard

/-- THE SECOND FORM's CARD OF 'inlaylaw15.FncBack'. -/
def fncBackUptoCard : Claim7 := { stood := { row := fncBackUptoRow, standIns := [], harness := (true, "b8801f34de5312ab8f90b9d47ba2543a45b3b9313a631ea7b6075a01a2d16d3b"), looks := false }, kinds := [], alts := [], laidByText := true, laidKinds := [.data], laidTests := true, laidLooks := .later }
def FncBackUptoCardSaid : Prop := Claim7.holds Tryz.pinned (.plain (OpenSpec.upto fncBackSpec)) fncBackUptoCard
end Rows
end Go.Proofs.YtifkoihhlhadhaaGreatDoor
