/-
  DERIVED. GIVEN WITH THE SEED: THE CARDS: each row of YtipeefmmnfbcoaaDoorRows.lean that lists a variable, with what it lists TIED to the program's text (the seventh form; the later family's looks); each row that meets fmt, with fmt's text TOLD by the authors' own Lean function (tested against real Go, not proved from fmt's source: count such statements apart). THE CARD IS WHAT COUNTS. Prove the row's statement (the work); the ties are given (YtipeefmmnfbcoaaDoorTie.lean); close each card by the builder's one call (the guide's Derived/Test/ToyasCard.lean, 'card_holds'). Laid BY PROGRAM, IN A SANDBOX (cutbox-door.mjs). By AI agents, Wed Nov 11 2026. No macro, syntax, notation, axiom, sorry.
-/
import Derived.Test.YtipeefmmnfbcoaaDoorRows
import GoSem.ClaimSeven
namespace Go.Proofs.YtipeefmmnfbcoaaDoor
namespace Rows

/-- THE TIED CARD OF 'inlaylaw10.InstrPuts'. -/
def instrPutsCard : Claim7 := { stood := { row := instrPutsRow, standIns := [], harness := (true, "3caff053ef331f4e55aaac71b346767e5b20c2f6948dd80e8ccbb6c7bd64ba99"), looks := true }, kinds := [], alts := [], laidByText := true, laidKinds := [.data, .data, .data, .sentinel, .sentinel], laidTests := true, laidLooks := .later }
def InstrPutsCardSaid : Prop := Claim7.holds Tryd.pinned (.plain (OpenSpec.ofChange instrPutsSpec)) instrPutsCard

/-- THE TIED CARD OF 'inlaylaw10.InstrTakes'. -/
def instrTakesCard : Claim7 := { stood := { row := instrTakesRow, standIns := [], harness := (true, "3caff053ef331f4e55aaac71b346767e5b20c2f6948dd80e8ccbb6c7bd64ba99"), looks := true }, kinds := [], alts := [], laidByText := true, laidKinds := [.data, .data, .data, .sentinel, .sentinel], laidTests := true, laidLooks := .later }
def InstrTakesCardSaid : Prop := Claim7.holds Tryd.pinned (.plain (OpenSpec.ofChange instrTakesSpec)) instrTakesCard

/-- THE TIED CARD OF 'inlaylaw10.InstrReads'. -/
def instrReadsCard : Claim7 := { stood := { row := instrReadsRow, standIns := [], harness := (true, "3caff053ef331f4e55aaac71b346767e5b20c2f6948dd80e8ccbb6c7bd64ba99"), looks := true }, kinds := [], alts := [], laidByText := true, laidKinds := [.data, .data, .data, .sentinel, .sentinel], laidTests := true, laidLooks := .later }
def InstrReadsCardSaid : Prop := Claim7.holds Tryd.pinned (.plain (OpenSpec.ofChange instrReadsSpec)) instrReadsCard

/-- THE SECOND FORM's CARD OF 'inlaylaw10.InstrPuts'. -/
def instrPutsUptoCard : Claim7 := { stood := { row := instrPutsUptoRow, standIns := [], harness := (true, "3caff053ef331f4e55aaac71b346767e5b20c2f6948dd80e8ccbb6c7bd64ba99"), looks := true }, kinds := [], alts := [], laidByText := true, laidKinds := [.data, .data, .data, .sentinel, .sentinel], laidTests := true, laidLooks := .later }
def InstrPutsUptoCardSaid : Prop := Claim7.holds Tryd.pinned (.plain (OpenSpec.upto instrPutsSpec)) instrPutsUptoCard

/-- THE SECOND FORM's CARD OF 'inlaylaw10.InstrTakes'. -/
def instrTakesUptoCard : Claim7 := { stood := { row := instrTakesUptoRow, standIns := [], harness := (true, "3caff053ef331f4e55aaac71b346767e5b20c2f6948dd80e8ccbb6c7bd64ba99"), looks := true }, kinds := [], alts := [], laidByText := true, laidKinds := [.data, .data, .data, .sentinel, .sentinel], laidTests := true, laidLooks := .later }
def InstrTakesUptoCardSaid : Prop := Claim7.holds Tryd.pinned (.plain (OpenSpec.upto instrTakesSpec)) instrTakesUptoCard

/-- THE SECOND FORM's CARD OF 'inlaylaw10.InstrReads'. -/
def instrReadsUptoCard : Claim7 := { stood := { row := instrReadsUptoRow, standIns := [], harness := (true, "3caff053ef331f4e55aaac71b346767e5b20c2f6948dd80e8ccbb6c7bd64ba99"), looks := true }, kinds := [], alts := [], laidByText := true, laidKinds := [.data, .data, .data, .sentinel, .sentinel], laidTests := true, laidLooks := .later }
def InstrReadsUptoCardSaid : Prop := Claim7.holds Tryd.pinned (.plain (OpenSpec.upto instrReadsSpec)) instrReadsUptoCard
end Rows
end Go.Proofs.YtipeefmmnfbcoaaDoor
