/-
  DERIVED. GIVEN WITH THE SEED: THE CARDS: each row of YtmhmlhlplfkpaaaGreatDoorRows.lean that lists a variable, with what it lists TIED to the program's text (the seventh form; the later family's looks); each row that meets fmt, with fmt's text TOLD by the authors' own Lean function (tested against real Go, not proved from fmt's source: count such statements apart). THE CARD IS WHAT COUNTS. Prove the row's statement (the work); the ties are given (YtmhmlhlplfkpaaaGreatDoorTie.lean); close each card by the builder's one call (the guide's Derived/Test/ToyasCard.lean, 'card_holds'). Laid BY PROGRAM, IN A SANDBOX (cutbox-door.mjs). By AI agents, Wed Nov 11 2026. No macro, syntax, notation, axiom, sorry.
-/
import Derived.Test.YtmhmlhlplfkpaaaGreatDoorRows
import GoSem.ClaimSeven
namespace Go.Proofs.YtmhmlhlplfkpaaaGreatDoor
namespace Rows

/-- THE TIED CARD OF 'inlaylaw18.DisTables'. -/
def disTablesCard : Claim7 := { stood := { row := disTablesRow, standIns := [], harness := (true, "c681ef9ac7ccae3d2a6dc3253652fdcac25adec5552910a8893d70108504ddd7"), looks := true }, kinds := [], alts := [], laidByText := true, laidKinds := [.data, .data, .data], laidTests := true, laidLooks := .later }
def DisTablesCardSaid : Prop := Claim7.holds Tryz.pinned (.plain (OpenSpec.ofChange disTablesSpec)) disTablesCard

/-- THE TIED CARD OF 'inlaylaw18.DisBack'. -/
def disBackCard : Claim7 := { stood := { row := disBackRow, standIns := [], harness := (true, "c681ef9ac7ccae3d2a6dc3253652fdcac25adec5552910a8893d70108504ddd7"), looks := true }, kinds := [], alts := [], laidByText := true, laidKinds := [.data, .data, .data, .sentinel, .sentinel], laidTests := true, laidLooks := .later }
def DisBackCardSaid : Prop := Claim7.holds Tryz.pinned (.plain (OpenSpec.ofChange disBackSpec)) disBackCard

/-- THE SECOND FORM's CARD OF 'inlaylaw18.DisTables'. -/
def disTablesUptoCard : Claim7 := { stood := { row := disTablesUptoRow, standIns := [], harness := (true, "c681ef9ac7ccae3d2a6dc3253652fdcac25adec5552910a8893d70108504ddd7"), looks := true }, kinds := [], alts := [], laidByText := true, laidKinds := [.data, .data, .data], laidTests := true, laidLooks := .later }
def DisTablesUptoCardSaid : Prop := Claim7.holds Tryz.pinned (.plain (OpenSpec.upto disTablesSpec)) disTablesUptoCard

/-- THE SECOND FORM's CARD OF 'inlaylaw18.DisBack'. -/
def disBackUptoCard : Claim7 := { stood := { row := disBackUptoRow, standIns := [], harness := (true, "c681ef9ac7ccae3d2a6dc3253652fdcac25adec5552910a8893d70108504ddd7"), looks := true }, kinds := [], alts := [], laidByText := true, laidKinds := [.data, .data, .data, .sentinel, .sentinel], laidTests := true, laidLooks := .later }
def DisBackUptoCardSaid : Prop := Claim7.holds Tryz.pinned (.plain (OpenSpec.upto disBackSpec)) disBackUptoCard
end Rows
end Go.Proofs.YtmhmlhlplfkpaaaGreatDoor
