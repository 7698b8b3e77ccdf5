/-
  DERIVED. GIVEN WITH THE SEED: THE CARDS: each row of YtmhmlhlplfkpaaaDoorRows.lean that lists a variable, with what it lists TIED to the program's text (the seventh form; the later family's looks); each row that meets fmt, with fmt's text TOLD by the authors' own Lean function (tested against real Go, not proved from fmt's source: count such statements apart). THE CARD IS WHAT COUNTS. Prove the row's statement (the work); the ties are given (YtmhmlhlplfkpaaaDoorTie.lean); close each card by the builder's one call (the guide's Derived/Test/ToyasCard.lean, 'card_holds'). Laid BY PROGRAM, IN A SANDBOX (cutbox-door.mjs). By AI agents, Wed Nov 11 2026. No macro, syntax, notation, axiom, sorry.
-/
import Derived.Test.YtmhmlhlplfkpaaaDoorRows
import GoSem.ClaimSeven
namespace Go.Proofs.YtmhmlhlplfkpaaaDoor
namespace Rows

/-- THE TIED CARD OF 'inlaylaw18.DisTexts'. -/
def disTextsCard : Claim7 := { stood := { row := disTextsRow, standIns := [], harness := (true, "e817e85e3752bb9992e2dbd413ae6c8696c6f1b086e30f4b3dd9d3674535dda0"), looks := false }, kinds := [], alts := [], laidByText := true, laidKinds := [.data, .data, .data], laidTests := true, laidLooks := .later }
def DisTextsCardSaid : Prop := Claim7.holds Tryd.pinned (.plain (OpenSpec.ofChange disTextsSpec)) disTextsCard

/-- THE SECOND FORM's CARD OF 'inlaylaw18.DisTexts'. -/
def disTextsUptoCard : Claim7 := { stood := { row := disTextsUptoRow, standIns := [], harness := (true, "e817e85e3752bb9992e2dbd413ae6c8696c6f1b086e30f4b3dd9d3674535dda0"), looks := false }, kinds := [], alts := [], laidByText := true, laidKinds := [.data, .data, .data], laidTests := true, laidLooks := .later }
def DisTextsUptoCardSaid : Prop := Claim7.holds Tryd.pinned (.plain (OpenSpec.upto disTextsSpec)) disTextsUptoCard
end Rows
end Go.Proofs.YtmhmlhlplfkpaaaDoor
