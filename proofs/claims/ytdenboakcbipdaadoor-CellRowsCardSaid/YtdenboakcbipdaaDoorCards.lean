/-
  DERIVED. GIVEN WITH THE SEED: THE CARDS: each row of YtdenboakcbipdaaDoorRows.lean that lists a variable, with what it lists TIED to the program's text (the seventh form; the later family's looks); each row that meets fmt, with fmt's text TOLD by the authors' own Lean function (tested against real Go, not proved from fmt's source: count such statements apart). THE CARD IS WHAT COUNTS. Prove the row's statement (the work); the ties are given (YtdenboakcbipdaaDoorTie.lean); close each card by the builder's one call (the guide's Derived/Test/ToyasCard.lean, 'card_holds'). Laid BY PROGRAM, IN A SANDBOX (cutbox-door.mjs). By AI agents, Wed Nov 11 2026. No macro, syntax, notation, axiom, sorry.
-/
import Derived.Test.YtdenboakcbipdaaDoorRows
import GoSem.ClaimSeven
namespace Go.Proofs.YtdenboakcbipdaaDoor
namespace Rows

/-- THE TIED CARD OF 'inlaylaw08.CellDoes'. -/
def cellDoesCard : Claim7 := { stood := { row := cellDoesRow, standIns := [], harness := (true, "8f19cb0b1ab07d8a5b2460453ec30aec482037e94c28ed3a482530aa18f1710c"), looks := true }, kinds := [], alts := [], laidByText := true, laidKinds := [.data, .data, .data], laidTests := true, laidLooks := .later }
def CellDoesCardSaid : Prop := Claim7.holds Tryd.pinned (.plain (OpenSpec.ofChange cellDoesSpec)) cellDoesCard

/-- THE TIED CARD OF 'inlaylaw08.CellRows'. -/
def cellRowsCard : Claim7 := { stood := { row := cellRowsRow, standIns := [], harness := (true, "8f19cb0b1ab07d8a5b2460453ec30aec482037e94c28ed3a482530aa18f1710c"), looks := true }, kinds := [], alts := [], laidByText := true, laidKinds := [.data, .data, .data], laidTests := true, laidLooks := .later }
def CellRowsCardSaid : Prop := Claim7.holds Tryd.pinned (.plain (OpenSpec.ofChange cellRowsSpec)) cellRowsCard

/-- THE SECOND FORM's CARD OF 'inlaylaw08.CellDoes'. -/
def cellDoesUptoCard : Claim7 := { stood := { row := cellDoesUptoRow, standIns := [], harness := (true, "8f19cb0b1ab07d8a5b2460453ec30aec482037e94c28ed3a482530aa18f1710c"), looks := true }, kinds := [], alts := [], laidByText := true, laidKinds := [.data, .data, .data], laidTests := true, laidLooks := .later }
def CellDoesUptoCardSaid : Prop := Claim7.holds Tryd.pinned (.plain (OpenSpec.upto cellDoesSpec)) cellDoesUptoCard

/-- THE SECOND FORM's CARD OF 'inlaylaw08.CellRows'. -/
def cellRowsUptoCard : Claim7 := { stood := { row := cellRowsUptoRow, standIns := [], harness := (true, "8f19cb0b1ab07d8a5b2460453ec30aec482037e94c28ed3a482530aa18f1710c"), looks := true }, kinds := [], alts := [], laidByText := true, laidKinds := [.data, .data, .data], laidTests := true, laidLooks := .later }
def CellRowsUptoCardSaid : Prop := Claim7.holds Tryd.pinned (.plain (OpenSpec.upto cellRowsSpec)) cellRowsUptoCard
end Rows
end Go.Proofs.YtdenboakcbipdaaDoor
