/-
  No cell of these rows narrows 'for every input' (looked for: loops, veiled, ifaces, maps, wideKeys, modest, calm, conditions, laid).
  DERIVED. THE GIVEN ROWS OF THIS SEAT. 3 by the template 'for every input the law returns true; each argument reads behind the call as it read before'; 0 by the template 'total and deterministic' (their statements: YtialigkmckpjnaaTotals.lean).
  GIVEN WITH THE SEED: the statements are not yours to turn. If you find one false, say at which input.
  Laid BY PROGRAM, IN A SANDBOX (cutbox-rows.mjs): the forced cells as the released guide's own fill.sh prints them over the translation 89832728b6972065… (all of the seat's roots in one cut). By AI agents, Wed Nov 11 2026. No macro, syntax, notation, axiom, sorry.
-/
import Derived.Test.YtialigkmckpjnaaChecked
import GoSem.Claim
import GoSem.ClaimJoined
import GoSem.ClaimMapViews
import Derived.JoinedTies
import Derived.KernelRfl
namespace Go.Proofs.Ytialigkmckpjnaa
/- THE CELL 'sum', in the pinned program and in every row, IS THE sha256 OF THE DUMP (.gsa) THAT YtialigkmckpjnaaProg.lean LOADS. Nothing in Lean hashes anything: it is a label: what it is worth is what the hold of that sum in a sandbox is worth. -/
noncomputable def Try.pinned : Pinned := { name := "ytialigkmckpjnaa", sum := "89832728b6972065f5a1d24739dd7b393645ca5054a120dd13d10329b9717a1f", checked := Try.checked }
namespace Rows
def none {H : Type} : Left H := { results := [], args := [] }

/-- 'inlaylaw11.SigTexts': WHATEVER THE INPUT: true; the input reads as it did. -/
def sigTextsSpec : ChangeSpec := { name := "sigTexts", fn := fun _ => fun
  | [d1, d2, d3] => { results := [.lit (.bool true)], args := [d1, d2, d3] }
  | _ => none }
def sigTextsRow : OpenClaim := { program := "ytialigkmckpjnaa", sum := "89832728b6972065f5a1d24739dd7b393645ca5054a120dd13d10329b9717a1f", func := "inlay/inlaylaw11.SigTexts", spec := "sigTexts", inPlace := ["internal/abi.NoEscape"], unfollowed := true, recurses := true, apart := false }
def SigTextsSaid : Prop := sigTextsRow.holds Try.pinned (OpenSpec.ofChange sigTextsSpec)

/-- ITS FALSE NEIGHBOUR: 'it returns false'. Refute it at one input. -/
def sigTextsWrong : ChangeSpec := { name := "sigTexts", fn := fun _ => fun
  | [d1, d2, d3] => { results := [.lit (.bool false)], args := [d1, d2, d3] }
  | _ => none }
def SigTextsWrongFalsely : Prop := sigTextsRow.holds Try.pinned (OpenSpec.ofChange sigTextsWrong)

/-- 'inlaylaw11.SigReads': WHATEVER THE INPUT: true; the input reads as it did. -/
def sigReadsSpec : ChangeSpec := { name := "sigReads", fn := fun _ => fun
  | [d] => { results := [.lit (.bool true)], args := [d] }
  | _ => none }
def sigReadsRow : OpenClaim := { program := "ytialigkmckpjnaa", sum := "89832728b6972065f5a1d24739dd7b393645ca5054a120dd13d10329b9717a1f", func := "inlay/inlaylaw11.SigReads", spec := "sigReads", inPlace := ["internal/abi.NoEscape"], apart := false }
def SigReadsSaid : Prop := sigReadsRow.holds Try.pinned (OpenSpec.ofChange sigReadsSpec)

/-- ITS FALSE NEIGHBOUR: 'it returns false'. Refute it at one input. -/
def sigReadsWrong : ChangeSpec := { name := "sigReads", fn := fun _ => fun
  | [d] => { results := [.lit (.bool false)], args := [d] }
  | _ => none }
def SigReadsWrongFalsely : Prop := sigReadsRow.holds Try.pinned (OpenSpec.ofChange sigReadsWrong)

/-- 'inlaylaw11.SigSlots': WHATEVER THE INPUT: true; the input reads as it did. -/
def sigSlotsSpec : ChangeSpec := { name := "sigSlots", fn := fun _ => fun
  | [d1, d2, d3] => { results := [.lit (.bool true)], args := [d1, d2, d3] }
  | _ => none }
def sigSlotsRow : OpenClaim := { program := "ytialigkmckpjnaa", sum := "89832728b6972065f5a1d24739dd7b393645ca5054a120dd13d10329b9717a1f", func := "inlay/inlaylaw11.SigSlots", spec := "sigSlots", inPlace := ["internal/abi.NoEscape"], apart := false }
def SigSlotsSaid : Prop := sigSlotsRow.holds Try.pinned (OpenSpec.ofChange sigSlotsSpec)

/-- ITS FALSE NEIGHBOUR: 'it returns false'. Refute it at one input. -/
def sigSlotsWrong : ChangeSpec := { name := "sigSlots", fn := fun _ => fun
  | [d1, d2, d3] => { results := [.lit (.bool false)], args := [d1, d2, d3] }
  | _ => none }
def SigSlotsWrongFalsely : Prop := sigSlotsRow.holds Try.pinned (OpenSpec.ofChange sigSlotsWrong)

/- THE SECOND FORM. 'bulk': how many values and letters a reading holds, each counted each time it is reached (what is shared counts as often as it is met; a slice's spare places count too). A statement '..UptoSaid' is the law's where the arguments, and the package variables that the reading takes, are together of bulk at most 1048576: NARROWER than '..Said'. Prove '..Said' where nothing that the law and all that it calls make is longer than what came in: it says more and counts as full. Else prove '..UptoSaid'. A law counts once. -/
mutual
def uptoBulk {H : Type} : DataW H → Nat
  | .lit (.string bytes) => bytes.length + 1
  | .lit _ => 1
  | .nil => 1
  | .ptr d => uptoBulk d + 1
  | .slice elems spare => uptoBulkAll elems + uptoBulkAll spare + 1
  | .agg parts => uptoBulkAll parts + 1
  | .iface _ d => uptoBulk d + 1
  | .map entries => uptoBulkEntries entries + 1
  | .held _ => 1
def uptoBulkAll {H : Type} : List (DataW H) → Nat
  | [] => 0
  | d :: r => uptoBulk d + uptoBulkAll r
def uptoBulkEntries {H : Type} : List (Lit × DataW H) → Nat
  | [] => 0
  | x :: r => uptoBulkEntry x + uptoBulkEntries r
def uptoBulkEntry {H : Type} : Lit × DataW H → Nat
  | (.string bytes, d) => bytes.length + uptoBulk d + 1
  | (_, d) => uptoBulk d + 1
 end
def uptoSmall : (H : Type) → List (DataW H) → Bool := fun _ ds => decide (uptoBulkAll ds ≤ 1048576)
def OpenSpec.upto (s : _root_.Go.ChangeSpec) : _root_.Go.OpenSpec := { _root_.Go.OpenSpec.ofChange s with cond := some uptoSmall }

/-- 'inlaylaw11.SigTexts', WHERE WHAT IT READS IS OF BULK AT MOST 1048576: true; the input reads as it did. -/
def sigTextsUptoRow : OpenClaim := { program := "ytialigkmckpjnaa", sum := "89832728b6972065f5a1d24739dd7b393645ca5054a120dd13d10329b9717a1f", func := "inlay/inlaylaw11.SigTexts", spec := "sigTexts", inPlace := ["internal/abi.NoEscape"], unfollowed := true, recurses := true, apart := false, narrowed := true }
def SigTextsUptoSaid : Prop := sigTextsUptoRow.holds Try.pinned (OpenSpec.upto sigTextsSpec)

/-- 'inlaylaw11.SigReads', WHERE WHAT IT READS IS OF BULK AT MOST 1048576: true; the input reads as it did. -/
def sigReadsUptoRow : OpenClaim := { program := "ytialigkmckpjnaa", sum := "89832728b6972065f5a1d24739dd7b393645ca5054a120dd13d10329b9717a1f", func := "inlay/inlaylaw11.SigReads", spec := "sigReads", inPlace := ["internal/abi.NoEscape"], apart := false, narrowed := true }
def SigReadsUptoSaid : Prop := sigReadsUptoRow.holds Try.pinned (OpenSpec.upto sigReadsSpec)

/-- 'inlaylaw11.SigSlots', WHERE WHAT IT READS IS OF BULK AT MOST 1048576: true; the input reads as it did. -/
def sigSlotsUptoRow : OpenClaim := { program := "ytialigkmckpjnaa", sum := "89832728b6972065f5a1d24739dd7b393645ca5054a120dd13d10329b9717a1f", func := "inlay/inlaylaw11.SigSlots", spec := "sigSlots", inPlace := ["internal/abi.NoEscape"], apart := false, narrowed := true }
def SigSlotsUptoSaid : Prop := sigSlotsUptoRow.holds Try.pinned (OpenSpec.upto sigSlotsSpec)

end Rows
end Go.Proofs.Ytialigkmckpjnaa
