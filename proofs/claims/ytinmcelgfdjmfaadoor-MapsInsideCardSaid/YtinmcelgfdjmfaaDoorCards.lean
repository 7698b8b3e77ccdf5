/-
  DERIVED. GIVEN WITH THE SEED: THE CARDS: each row of YtinmcelgfdjmfaaDoorRows.lean that lists a variable, with what it lists TIED to the program's text (the seventh form; the later family's looks); each row that meets fmt, with fmt's text TOLD by the authors' own Lean function (tested against real Go, not proved from fmt's source: count such statements apart). THE CARD IS WHAT COUNTS. Prove the row's statement (the work); the ties are given (YtinmcelgfdjmfaaDoorTie.lean); close each card by the builder's one call (the guide's Derived/Test/ToyasCard.lean, 'card_holds'). Laid BY PROGRAM, IN A SANDBOX (cutbox-door.mjs). By AI agents, Wed Nov 11 2026. No macro, syntax, notation, axiom, sorry.
-/
import Derived.Test.YtinmcelgfdjmfaaDoorRows
import GoSem.ClaimSeven
namespace Go.Proofs.YtinmcelgfdjmfaaDoor
namespace Rows

/-- THE TIED CARD OF 'inlaylaw14.MapsTables'. -/
def mapsTablesCard : Claim7 := { stood := { row := mapsTablesRow, standIns := [], harness := (true, "d3dec69ed664d689a9c08fdda8edaffe537ce19b46bbd52923f7b1e8169965e6"), looks := false }, kinds := [], alts := [], laidByText := true, laidKinds := [.data], laidTests := true, laidLooks := .later }
def MapsTablesCardSaid : Prop := Claim7.holds Tryd.pinned (.plain (OpenSpec.ofChange mapsTablesSpec)) mapsTablesCard

/-- THE TIED CARD OF 'inlaylaw14.MapsInside'. -/
def mapsInsideCard : Claim7 := { stood := { row := mapsInsideRow, standIns := [], harness := (true, "d3dec69ed664d689a9c08fdda8edaffe537ce19b46bbd52923f7b1e8169965e6"), looks := false }, kinds := [], alts := [], laidByText := true, laidKinds := [.data], laidTests := true, laidLooks := .later }
def MapsInsideCardSaid : Prop := Claim7.holds Tryd.pinned (.plain (OpenSpec.ofChange mapsInsideSpec)) mapsInsideCard

/-- THE SECOND FORM's CARD OF 'inlaylaw14.MapsTables'. -/
def mapsTablesUptoCard : Claim7 := { stood := { row := mapsTablesUptoRow, standIns := [], harness := (true, "d3dec69ed664d689a9c08fdda8edaffe537ce19b46bbd52923f7b1e8169965e6"), looks := false }, kinds := [], alts := [], laidByText := true, laidKinds := [.data], laidTests := true, laidLooks := .later }
def MapsTablesUptoCardSaid : Prop := Claim7.holds Tryd.pinned (.plain (OpenSpec.upto mapsTablesSpec)) mapsTablesUptoCard

/-- THE SECOND FORM's CARD OF 'inlaylaw14.MapsInside'. -/
def mapsInsideUptoCard : Claim7 := { stood := { row := mapsInsideUptoRow, standIns := [], harness := (true, "d3dec69ed664d689a9c08fdda8edaffe537ce19b46bbd52923f7b1e8169965e6"), looks := false }, kinds := [], alts := [], laidByText := true, laidKinds := [.data], laidTests := true, laidLooks := .later }
def MapsInsideUptoCardSaid : Prop := Claim7.holds Tryd.pinned (.plain (OpenSpec.upto mapsInsideSpec)) mapsInsideUptoCard
end Rows
end Go.Proofs.YtinmcelgfdjmfaaDoor
