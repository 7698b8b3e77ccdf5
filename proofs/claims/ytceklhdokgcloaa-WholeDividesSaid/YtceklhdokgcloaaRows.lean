/-
  No cell of these rows narrows 'for every input' (looked for: loops, veiled, ifaces, maps, wideKeys, modest, calm, conditions, laid).
  DERIVED. THE GIVEN ROWS OF THIS SEAT. 3 by the template 'for every input the law returns true; each argument reads behind the call as it read before'; 0 by the template 'total and deterministic' (their statements: YtceklhdokgcloaaTotals.lean).
  GIVEN WITH THE SEED: the statements are not yours to turn. If you find one false, say at which input.
  Laid BY PROGRAM, IN A SANDBOX (cutbox-rows.mjs): the forced cells as the released guide's own fill.sh prints them over the translation 91e8708909ec2cb9… (all of the seat's roots in one cut). By AI agents, Wed Nov 11 2026. No macro, syntax, notation, axiom, sorry.
-/
import Derived.Test.YtceklhdokgcloaaChecked
import GoSem.Claim
import GoSem.ClaimJoined
import GoSem.ClaimMapViews
import Derived.JoinedTies
import Derived.KernelRfl
namespace Go.Proofs.Ytceklhdokgcloaa
/- THE CELL 'sum', in the pinned program and in every row, IS THE sha256 OF THE DUMP (.gsa) THAT YtceklhdokgcloaaProg.lean LOADS. Nothing in Lean hashes anything: it is a label: what it is worth is what the hold of that sum in a sandbox is worth. -/
noncomputable def Try.pinned : Pinned := { name := "ytceklhdokgcloaa", sum := "91e8708909ec2cb9b2d89773575938308c640b080b0507cdb97b9e3558c199f7", checked := Try.checked }
namespace Rows
def none {H : Type} : Left H := { results := [], args := [] }

/-- 'inlaylaw06.WholeTwos': WHATEVER THE INPUT: true; the input reads as it did. -/
def wholeTwosSpec : ChangeSpec := { name := "wholeTwos", fn := fun _ => fun
  | [d1, d2, d3] => { results := [.lit (.bool true)], args := [d1, d2, d3] }
  | _ => none }
def wholeTwosRow : OpenClaim := { program := "ytceklhdokgcloaa", sum := "91e8708909ec2cb9b2d89773575938308c640b080b0507cdb97b9e3558c199f7", func := "inlay/inlaylaw06.WholeTwos", spec := "wholeTwos", apart := false }
def WholeTwosSaid : Prop := wholeTwosRow.holds Try.pinned (OpenSpec.ofChange wholeTwosSpec)

/-- ITS FALSE NEIGHBOUR: 'it returns false'. Refute it at one input. -/
def wholeTwosWrong : ChangeSpec := { name := "wholeTwos", fn := fun _ => fun
  | [d1, d2, d3] => { results := [.lit (.bool false)], args := [d1, d2, d3] }
  | _ => none }
def WholeTwosWrongFalsely : Prop := wholeTwosRow.holds Try.pinned (OpenSpec.ofChange wholeTwosWrong)

/-- 'inlaylaw06.WholeOnes': WHATEVER THE INPUT: true; the input reads as it did. -/
def wholeOnesSpec : ChangeSpec := { name := "wholeOnes", fn := fun _ => fun
  | [d1, d2] => { results := [.lit (.bool true)], args := [d1, d2] }
  | _ => none }
def wholeOnesRow : OpenClaim := { program := "ytceklhdokgcloaa", sum := "91e8708909ec2cb9b2d89773575938308c640b080b0507cdb97b9e3558c199f7", func := "inlay/inlaylaw06.WholeOnes", spec := "wholeOnes", apart := false }
def WholeOnesSaid : Prop := wholeOnesRow.holds Try.pinned (OpenSpec.ofChange wholeOnesSpec)

/-- ITS FALSE NEIGHBOUR: 'it returns false'. Refute it at one input. -/
def wholeOnesWrong : ChangeSpec := { name := "wholeOnes", fn := fun _ => fun
  | [d1, d2] => { results := [.lit (.bool false)], args := [d1, d2] }
  | _ => none }
def WholeOnesWrongFalsely : Prop := wholeOnesRow.holds Try.pinned (OpenSpec.ofChange wholeOnesWrong)

/-- 'inlaylaw06.WholeDivides': WHATEVER THE INPUT: true; the input reads as it did. -/
def wholeDividesSpec : ChangeSpec := { name := "wholeDivides", fn := fun _ => fun
  | [d1, d2] => { results := [.lit (.bool true)], args := [d1, d2] }
  | _ => none }
def wholeDividesRow : OpenClaim := { program := "ytceklhdokgcloaa", sum := "91e8708909ec2cb9b2d89773575938308c640b080b0507cdb97b9e3558c199f7", func := "inlay/inlaylaw06.WholeDivides", spec := "wholeDivides", apart := false }
def WholeDividesSaid : Prop := wholeDividesRow.holds Try.pinned (OpenSpec.ofChange wholeDividesSpec)

/-- ITS FALSE NEIGHBOUR: 'it returns false'. Refute it at one input. -/
def wholeDividesWrong : ChangeSpec := { name := "wholeDivides", fn := fun _ => fun
  | [d1, d2] => { results := [.lit (.bool false)], args := [d1, d2] }
  | _ => none }
def WholeDividesWrongFalsely : Prop := wholeDividesRow.holds Try.pinned (OpenSpec.ofChange wholeDividesWrong)

/- THE SECOND FORM. 'bulk': how many values and letters a reading holds, each counted each time it is reached (what is shared counts as often as it is met; a slice's spare places count too). A statement '..UptoSaid' is the law's where the arguments, and the package variables that the reading takes, are together of bulk at most 1048576: NARROWER than '..Said'. Prove '..Said' where nothing that the law and all that it calls make is longer than what came in: it says more and counts as full. Else prove '..UptoSaid'. A law counts once. -/
mutual
def uptoBulk {H : Type} : DataW H → Nat
  | .lit (.string bytes) => bytes.length + 1
  | .lit _ => 1
  | .nil => 1
  | .ptr d => uptoBulk d + 1
  | .slice elems spare => uptoBulkAll elems + uptoBulkAll spare + 1
  | .agg parts => uptoBulkAll parts + 1
  | .iface _ d => uptoBulk d + 1
  | .map entries => uptoBulkEntries entries + 1
  | .held _ => 1
def uptoBulkAll {H : Type} : List (DataW H) → Nat
  | [] => 0
  | d :: r => uptoBulk d + uptoBulkAll r
def uptoBulkEntries {H : Type} : List (Lit × DataW H) → Nat
  | [] => 0
  | x :: r => uptoBulkEntry x + uptoBulkEntries r
def uptoBulkEntry {H : Type} : Lit × DataW H → Nat
  | (.string bytes, d) => bytes.length + uptoBulk d + 1
  | (_, d) => uptoBulk d + 1
 end
def uptoSmall : (H : Type) → List (DataW H) → Bool := fun _ ds => decide (uptoBulkAll ds ≤ 1048576)
def OpenSpec.upto (s : _root_.Go.ChangeSpec) : _root_.Go.OpenSpec := { _root_.Go.OpenSpec.ofChange s with cond := some uptoSmall }

/-- 'inlaylaw06.WholeTwos', WHERE WHAT IT READS IS OF BULK AT MOST 1048576: true; the input reads as it did. -/
def wholeTwosUptoRow : OpenClaim := { program := "ytceklhdokgcloaa", sum := "91e8708909ec2cb9b2d89773575938308c640b080b0507cdb97b9e3558c199f7", func := "inlay/inlaylaw06.WholeTwos", spec := "wholeTwos", apart := false, narrowed := true }
def WholeTwosUptoSaid : Prop := wholeTwosUptoRow.holds Try.pinned (OpenSpec.upto wholeTwosSpec)

/-- 'inlaylaw06.WholeOnes', WHERE WHAT IT READS IS OF BULK AT MOST 1048576: true; the input reads as it did. -/
def wholeOnesUptoRow : OpenClaim := { program := "ytceklhdokgcloaa", sum := "91e8708909ec2cb9b2d89773575938308c640b080b0507cdb97b9e3558c199f7", func := "inlay/inlaylaw06.WholeOnes", spec := "wholeOnes", apart := false, narrowed := true }
def WholeOnesUptoSaid : Prop := wholeOnesUptoRow.holds Try.pinned (OpenSpec.upto wholeOnesSpec)

/-- 'inlaylaw06.WholeDivides', WHERE WHAT IT READS IS OF BULK AT MOST 1048576: true; the input reads as it did. -/
def wholeDividesUptoRow : OpenClaim := { program := "ytceklhdokgcloaa", sum := "91e8708909ec2cb9b2d89773575938308c640b080b0507cdb97b9e3558c199f7", func := "inlay/inlaylaw06.WholeDivides", spec := "wholeDivides", apart := false, narrowed := true }
def WholeDividesUptoSaid : Prop := wholeDividesUptoRow.holds Try.pinned (OpenSpec.upto wholeDividesSpec)

end Rows
end Go.Proofs.Ytceklhdokgcloaa
