/-
  DERIVED. GIVEN WITH THE SEED: THE CARDS: each row of YtpfcfmpfommfaaaDoorRows.lean that lists a variable, with what it lists TIED to the program's text (the seventh form; the later family's looks); each row that meets fmt, with fmt's text TOLD by the authors' own Lean function (tested against real Go, not proved from fmt's source: count such statements apart). THE CARD IS WHAT COUNTS. Prove the row's statement (the work); the ties are given (YtpfcfmpfommfaaaDoorTie.lean); close each card by the builder's one call (the guide's Derived/Test/ToyasCard.lean, 'card_holds'). Laid BY PROGRAM, IN A SANDBOX (cutbox-door.mjs). By AI agents, Wed Nov 11 2026. No macro, syntax, notation, axiom, sorry.
-/
import Derived.Test.YtpfcfmpfommfaaaDoorRows
import GoSem.ClaimSeven
namespace Go.Proofs.YtpfcfmpfommfaaaDoor
namespace Rows

/-- THE TIED CARD OF 'inlaylaw13.TreeRight'. -/
def treeRightCard : Claim7 := { stood := { row := treeRightRow, standIns := [], harness := (true, "74f8b17d73137a5c9b10ba43aacb83ac17bef85abe379fd93cbfeee6bd15f0f6"), looks := false }, kinds := [], alts := [], laidByText := true, laidKinds := [.data, .data, .data], laidTests := true, laidLooks := .later }
def TreeRightCardSaid : Prop := Claim7.holds Tryd.pinned (.plain (OpenSpec.ofChange treeRightSpec)) treeRightCard

/-- THE TIED CARD OF 'inlaylaw13.TreeTells'. -/
def treeTellsCard : Claim7 := { stood := { row := treeTellsRow, standIns := [], harness := (true, "74f8b17d73137a5c9b10ba43aacb83ac17bef85abe379fd93cbfeee6bd15f0f6"), looks := false }, kinds := [], alts := [], laidByText := true, laidKinds := [.data, .data, .data], laidTests := true, laidLooks := .later }
def TreeTellsCardSaid : Prop := Claim7.holds Tryd.pinned (.plain (OpenSpec.ofChange treeTellsSpec)) treeTellsCard

/-- THE TIED CARD OF 'inlaylaw13.TreeTakes'. -/
def treeTakesCard : Claim7 := { stood := { row := treeTakesRow, standIns := [], harness := (true, "74f8b17d73137a5c9b10ba43aacb83ac17bef85abe379fd93cbfeee6bd15f0f6"), looks := false }, kinds := [], alts := [], laidByText := true, laidKinds := [.data, .data, .data], laidTests := true, laidLooks := .later }
def TreeTakesCardSaid : Prop := Claim7.holds Tryd.pinned (.plain (OpenSpec.ofChange treeTakesSpec)) treeTakesCard

/-- THE TIED CARD OF 'inlaylaw13.TreeApart'. -/
def treeApartCard : Claim7 := { stood := { row := treeApartRow, standIns := [], harness := (true, "74f8b17d73137a5c9b10ba43aacb83ac17bef85abe379fd93cbfeee6bd15f0f6"), looks := false }, kinds := [], alts := [], laidByText := true, laidKinds := [.data, .data, .data], laidTests := true, laidLooks := .later }
def TreeApartCardSaid : Prop := Claim7.holds Tryd.pinned (.plain (OpenSpec.ofChange treeApartSpec)) treeApartCard

/-- THE SECOND FORM's CARD OF 'inlaylaw13.TreeRight'. -/
def treeRightUptoCard : Claim7 := { stood := { row := treeRightUptoRow, standIns := [], harness := (true, "74f8b17d73137a5c9b10ba43aacb83ac17bef85abe379fd93cbfeee6bd15f0f6"), looks := false }, kinds := [], alts := [], laidByText := true, laidKinds := [.data, .data, .data], laidTests := true, laidLooks := .later }
def TreeRightUptoCardSaid : Prop := Claim7.holds Tryd.pinned (.plain (OpenSpec.upto treeRightSpec)) treeRightUptoCard

/-- THE SECOND FORM's CARD OF 'inlaylaw13.TreeTells'. -/
def treeTellsUptoCard : Claim7 := { stood := { row := treeTellsUptoRow, standIns := [], harness := (true, "74f8b17d73137a5c9b10ba43aacb83ac17bef85abe379fd93cbfeee6bd15f0f6"), looks := false }, kinds := [], alts := [], laidByText := true, laidKinds := [.data, .data, .data], laidTests := true, laidLooks := .later }
def TreeTellsUptoCardSaid : Prop := Claim7.holds Tryd.pinned (.plain (OpenSpec.upto treeTellsSpec)) treeTellsUptoCard

/-- THE SECOND FORM's CARD OF 'inlaylaw13.TreeTakes'. -/
def treeTakesUptoCard : Claim7 := { stood := { row := treeTakesUptoRow, standIns := [], harness := (true, "74f8b17d73137a5c9b10ba43aacb83ac17bef85abe379fd93cbfeee6bd15f0f6"), looks := false }, kinds := [], alts := [], laidByText := true, laidKinds := [.data, .data, .data], laidTests := true, laidLooks := .later }
def TreeTakesUptoCardSaid : Prop := Claim7.holds Tryd.pinned (.plain (OpenSpec.upto treeTakesSpec)) treeTakesUptoCard

/-- THE SECOND FORM's CARD OF 'inlaylaw13.TreeApart'. -/
def treeApartUptoCard : Claim7 := { stood := { row := treeApartUptoRow, standIns := [], harness := (true, "74f8b17d73137a5c9b10ba43aacb83ac17bef85abe379fd93cbfeee6bd15f0f6"), looks := false }, kinds := [], alts := [], laidByText := true, laidKinds := [.data, .data, .data], laidTests := true, laidLooks := .later }
def TreeApartUptoCardSaid : Prop := Claim7.holds Tryd.pinned (.plain (OpenSpec.upto treeApartSpec)) treeApartUptoCard
end Rows
end Go.Proofs.YtpfcfmpfommfaaaDoor
