/-
  DERIVED. GIVEN WITH THE SEED: THE CARDS: each row of YtebdfcelgaeeoaaDoorRows.lean that lists a variable, with what it lists TIED to the program's text (the seventh form; the later family's looks); each row that meets fmt, with fmt's text TOLD by the authors' own Lean function (tested against real Go, not proved from fmt's source: count such statements apart). THE CARD IS WHAT COUNTS. Prove the row's statement (the work); the ties are given (YtebdfcelgaeeoaaDoorTie.lean); close each card by the builder's one call (the guide's Derived/Test/ToyasCard.lean, 'card_holds'). Laid BY PROGRAM, IN A SANDBOX (cutbox-door.mjs). By AI agents, Wed Nov 11 2026. No macro, syntax, notation, axiom, sorry.
-/
import Derived.Test.YtebdfcelgaeeoaaDoorRows
import GoSem.ClaimSeven
namespace Go.Proofs.YtebdfcelgaeeoaaDoor
namespace Rows

/-- THE TIED CARD OF 'inlaylaw05.NamesMay'. -/
def namesMayCard : Claim7 := { stood := { row := namesMayRow, standIns := [], harness := (true, "d98b07474fdaa2dca5637f0d63be99c09ee01fc7f16dd27b4bd029970fb9e5b4"), looks := false }, kinds := [], alts := [], laidByText := true, laidKinds := [.data, .data, .data], laidTests := true, laidLooks := .later }
def NamesMayCardSaid : Prop := Claim7.holds Tryd.pinned (.plain (OpenSpec.ofChange namesMaySpec)) namesMayCard

/-- THE TIED CARD OF 'inlaylaw05.NamesFind'. -/
def namesFindCard : Claim7 := { stood := { row := namesFindRow, standIns := [], harness := (true, "d98b07474fdaa2dca5637f0d63be99c09ee01fc7f16dd27b4bd029970fb9e5b4"), looks := false }, kinds := [], alts := [], laidByText := true, laidKinds := [.data, .data, .data], laidTests := true, laidLooks := .later }
def NamesFindCardSaid : Prop := Claim7.holds Tryd.pinned (.plain (OpenSpec.ofChange namesFindSpec)) namesFindCard

/-- THE TIED CARD OF 'inlaylaw05.NamesFresh'. -/
def namesFreshCard : Claim7 := { stood := { row := namesFreshRow, standIns := [], harness := (true, "d98b07474fdaa2dca5637f0d63be99c09ee01fc7f16dd27b4bd029970fb9e5b4"), looks := false }, kinds := [], alts := [], laidByText := true, laidKinds := [.data, .data, .data], laidTests := true, laidLooks := .later }
def NamesFreshCardSaid : Prop := Claim7.holds Tryd.pinned (.plain (OpenSpec.ofChange namesFreshSpec)) namesFreshCard

/-- THE SECOND FORM's CARD OF 'inlaylaw05.NamesMay'. -/
def namesMayUptoCard : Claim7 := { stood := { row := namesMayUptoRow, standIns := [], harness := (true, "d98b07474fdaa2dca5637f0d63be99c09ee01fc7f16dd27b4bd029970fb9e5b4"), looks := false }, kinds := [], alts := [], laidByText := true, laidKinds := [.data, .data, .data], laidTests := true, laidLooks := .later }
def NamesMayUptoCardSaid : Prop := Claim7.holds Tryd.pinned (.plain (OpenSpec.upto namesMaySpec)) namesMayUptoCard

/-- THE SECOND FORM's CARD OF 'inlaylaw05.NamesFind'. -/
def namesFindUptoCard : Claim7 := { stood := { row := namesFindUptoRow, standIns := [], harness := (true, "d98b07474fdaa2dca5637f0d63be99c09ee01fc7f16dd27b4bd029970fb9e5b4"), looks := false }, kinds := [], alts := [], laidByText := true, laidKinds := [.data, .data, .data], laidTests := true, laidLooks := .later }
def NamesFindUptoCardSaid : Prop := Claim7.holds Tryd.pinned (.plain (OpenSpec.upto namesFindSpec)) namesFindUptoCard

/-- THE SECOND FORM's CARD OF 'inlaylaw05.NamesFresh'. -/
def namesFreshUptoCard : Claim7 := { stood := { row := namesFreshUptoRow, standIns := [], harness := (true, "d98b07474fdaa2dca5637f0d63be99c09ee01fc7f16dd27b4bd029970fb9e5b4"), looks := false }, kinds := [], alts := [], laidByText := true, laidKinds := [.data, .data, .data], laidTests := true, laidLooks := .later }
def NamesFreshUptoCardSaid : Prop := Claim7.holds Tryd.pinned (.plain (OpenSpec.upto namesFreshSpec)) namesFreshUptoCard
end Rows
end Go.Proofs.YtebdfcelgaeeoaaDoor
