/-
  DERIVED. GIVEN WITH THE SEED: THE CARDS: each row of YtifkoihhlhadhaaDoorRows.lean that lists a variable, with what it lists TIED to the program's text (the seventh form; the later family's looks); each row that meets fmt, with fmt's text TOLD by the authors' own Lean function (tested against real Go, not proved from fmt's source: count such statements apart). THE CARD IS WHAT COUNTS. Prove the row's statement (the work); the ties are given (YtifkoihhlhadhaaDoorTie.lean); close each card by the builder's one call (the guide's Derived/Test/ToyasCard.lean, 'card_holds'). Laid BY PROGRAM, IN A SANDBOX (cutbox-door.mjs). By AI agents, Wed Nov 11 2026. No macro, syntax, notation, axiom, sorry.
-/
import Derived.Test.YtifkoihhlhadhaaDoorRows
import GoSem.ClaimSeven
namespace Go.Proofs.YtifkoihhlhadhaaDoor
namespace Rows

/-- THE TIED CARD OF 'inlaylaw15.FncSame'. -/
def fncSameCard : Claim7 := { stood := { row := fncSameRow, standIns := [], harness := (true, "d884d235955e13eeeb1dbe4d3ddce04b4dffc6a779acd76a2be345d7a09e810f"), looks := false }, kinds := [], alts := [], laidByText := true, laidKinds := [.data], laidTests := true, laidLooks := .later }
def FncSameCardSaid : Prop := Claim7.holds Tryd.pinned (.plain (OpenSpec.ofChange fncSameSpec)) fncSameCard

/-- THE SECOND FORM's CARD OF 'inlaylaw15.FncSame'. -/
def fncSameUptoCard : Claim7 := { stood := { row := fncSameUptoRow, standIns := [], harness := (true, "d884d235955e13eeeb1dbe4d3ddce04b4dffc6a779acd76a2be345d7a09e810f"), looks := false }, kinds := [], alts := [], laidByText := true, laidKinds := [.data], laidTests := true, laidLooks := .later }
def FncSameUptoCardSaid : Prop := Claim7.holds Tryd.pinned (.plain (OpenSpec.upto fncSameSpec)) fncSameUptoCard
end Rows
end Go.Proofs.YtifkoihhlhadhaaDoor
