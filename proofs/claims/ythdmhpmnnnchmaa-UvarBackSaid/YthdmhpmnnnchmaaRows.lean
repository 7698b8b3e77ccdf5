/-
  No cell of these rows narrows 'for every input' (looked for: loops, veiled, ifaces, maps, wideKeys, modest, calm, conditions, laid).
  DERIVED. THE GIVEN ROWS OF THIS SEAT. 4 by the template 'for every input the law returns true; each argument reads behind the call as it read before'; 0 by the template 'total and deterministic' (their statements: YthdmhpmnnnchmaaTotals.lean).
  GIVEN WITH THE SEED: the statements are not yours to turn. If you find one false, say at which input.
  Laid BY PROGRAM, IN A SANDBOX (cutbox-rows.mjs): the forced cells as the released guide's own fill.sh prints them over the translation 3e8c7fec8cefbfc6… (all of the seat's roots in one cut). By AI agents, Wed Nov 11 2026. No macro, syntax, notation, axiom, sorry.
-/
import Derived.Test.YthdmhpmnnnchmaaChecked
import GoSem.Claim
import GoSem.ClaimJoined
import GoSem.ClaimMapViews
import Derived.JoinedTies
import Derived.KernelRfl
namespace Go.Proofs.Ythdmhpmnnnchmaa
/- THE CELL 'sum', in the pinned program and in every row, IS THE sha256 OF THE DUMP (.gsa) THAT YthdmhpmnnnchmaaProg.lean LOADS. Nothing in Lean hashes anything: it is a label: what it is worth is what the hold of that sum in a sandbox is worth. -/
noncomputable def Try.pinned : Pinned := { name := "ythdmhpmnnnchmaa", sum := "3e8c7fec8cefbfc6293cf42142d26529f10459867d5ee75c1caf218470869ee3", checked := Try.checked }
namespace Rows
def none {H : Type} : Left H := { results := [], args := [] }

/-- 'inlaylaw01.UvarPuts': WHATEVER THE INPUT: true; the input reads as it did. -/
def uvarPutsSpec : ChangeSpec := { name := "uvarPuts", fn := fun _ => fun
  | [d1, d2] => { results := [.lit (.bool true)], args := [d1, d2] }
  | _ => none }
def uvarPutsRow : OpenClaim := { program := "ythdmhpmnnnchmaa", sum := "3e8c7fec8cefbfc6293cf42142d26529f10459867d5ee75c1caf218470869ee3", func := "inlay/inlaylaw01.UvarPuts", spec := "uvarPuts", recurses := true, apart := false }
def UvarPutsSaid : Prop := uvarPutsRow.holds Try.pinned (OpenSpec.ofChange uvarPutsSpec)

/-- ITS FALSE NEIGHBOUR: 'it returns false'. Refute it at one input. -/
def uvarPutsWrong : ChangeSpec := { name := "uvarPuts", fn := fun _ => fun
  | [d1, d2] => { results := [.lit (.bool false)], args := [d1, d2] }
  | _ => none }
def UvarPutsWrongFalsely : Prop := uvarPutsRow.holds Try.pinned (OpenSpec.ofChange uvarPutsWrong)

/-- 'inlaylaw01.UvarGets': WHATEVER THE INPUT: true; the input reads as it did. -/
def uvarGetsSpec : ChangeSpec := { name := "uvarGets", fn := fun _ => fun
  | [d] => { results := [.lit (.bool true)], args := [d] }
  | _ => none }
def uvarGetsRow : OpenClaim := { program := "ythdmhpmnnnchmaa", sum := "3e8c7fec8cefbfc6293cf42142d26529f10459867d5ee75c1caf218470869ee3", func := "inlay/inlaylaw01.UvarGets", spec := "uvarGets", apart := false }
def UvarGetsSaid : Prop := uvarGetsRow.holds Try.pinned (OpenSpec.ofChange uvarGetsSpec)

/-- ITS FALSE NEIGHBOUR: 'it returns false'. Refute it at one input. -/
def uvarGetsWrong : ChangeSpec := { name := "uvarGets", fn := fun _ => fun
  | [d] => { results := [.lit (.bool false)], args := [d] }
  | _ => none }
def UvarGetsWrongFalsely : Prop := uvarGetsRow.holds Try.pinned (OpenSpec.ofChange uvarGetsWrong)

/-- 'inlaylaw01.UvarBack': WHATEVER THE INPUT: true; the input reads as it did. -/
def uvarBackSpec : ChangeSpec := { name := "uvarBack", fn := fun _ => fun
  | [d1, d2] => { results := [.lit (.bool true)], args := [d1, d2] }
  | _ => none }
def uvarBackRow : OpenClaim := { program := "ythdmhpmnnnchmaa", sum := "3e8c7fec8cefbfc6293cf42142d26529f10459867d5ee75c1caf218470869ee3", func := "inlay/inlaylaw01.UvarBack", spec := "uvarBack", apart := false }
def UvarBackSaid : Prop := uvarBackRow.holds Try.pinned (OpenSpec.ofChange uvarBackSpec)

/-- ITS FALSE NEIGHBOUR: 'it returns false'. Refute it at one input. -/
def uvarBackWrong : ChangeSpec := { name := "uvarBack", fn := fun _ => fun
  | [d1, d2] => { results := [.lit (.bool false)], args := [d1, d2] }
  | _ => none }
def UvarBackWrongFalsely : Prop := uvarBackRow.holds Try.pinned (OpenSpec.ofChange uvarBackWrong)

/-- 'inlaylaw01.UvarJust': WHATEVER THE INPUT: true; the input reads as it did. -/
def uvarJustSpec : ChangeSpec := { name := "uvarJust", fn := fun _ => fun
  | [d] => { results := [.lit (.bool true)], args := [d] }
  | _ => none }
def uvarJustRow : OpenClaim := { program := "ythdmhpmnnnchmaa", sum := "3e8c7fec8cefbfc6293cf42142d26529f10459867d5ee75c1caf218470869ee3", func := "inlay/inlaylaw01.UvarJust", spec := "uvarJust", apart := false }
def UvarJustSaid : Prop := uvarJustRow.holds Try.pinned (OpenSpec.ofChange uvarJustSpec)

/-- ITS FALSE NEIGHBOUR: 'it returns false'. Refute it at one input. -/
def uvarJustWrong : ChangeSpec := { name := "uvarJust", fn := fun _ => fun
  | [d] => { results := [.lit (.bool false)], args := [d] }
  | _ => none }
def UvarJustWrongFalsely : Prop := uvarJustRow.holds Try.pinned (OpenSpec.ofChange uvarJustWrong)

/- THE SECOND FORM. 'bulk': how many values and letters a reading holds, each counted each time it is reached (what is shared counts as often as it is met; a slice's spare places count too). A statement '..UptoSaid' is the law's where the arguments, and the package variables that the reading takes, are together of bulk at most 1048576: NARROWER than '..Said'. Prove '..Said' where nothing that the law and all that it calls make is longer than what came in: it says more and counts as full. Else prove '..UptoSaid'. A law counts once. -/
mutual
def uptoBulk {H : Type} : DataW H → Nat
  | .lit (.string bytes) => bytes.length + 1
  | .lit _ => 1
  | .nil => 1
  | .ptr d => uptoBulk d + 1
  | .slice elems spare => uptoBulkAll elems + uptoBulkAll spare + 1
  | .agg parts => uptoBulkAll parts + 1
  | .iface _ d => uptoBulk d + 1
  | .map entries => uptoBulkEntries entries + 1
  | .held _ => 1
def uptoBulkAll {H : Type} : List (DataW H) → Nat
  | [] => 0
  | d :: r => uptoBulk d + uptoBulkAll r
def uptoBulkEntries {H : Type} : List (Lit × DataW H) → Nat
  | [] => 0
  | x :: r => uptoBulkEntry x + uptoBulkEntries r
def uptoBulkEntry {H : Type} : Lit × DataW H → Nat
  | (.string bytes, d) => bytes.length + uptoBulk d + 1
  | (_, d) => uptoBulk d + 1
 end
def uptoSmall : (H : Type) → List (DataW H) → Bool := fun _ ds => decide (uptoBulkAll ds ≤ 1048576)
def OpenSpec.upto (s : _root_.Go.ChangeSpec) : _root_.Go.OpenSpec := { _root_.Go.OpenSpec.ofChange s with cond := some uptoSmall }

/-- 'inlaylaw01.UvarPuts', WHERE WHAT IT READS IS OF BULK AT MOST 1048576: true; the input reads as it did. -/
def uvarPutsUptoRow : OpenClaim := { program := "ythdmhpmnnnchmaa", sum := "3e8c7fec8cefbfc6293cf42142d26529f10459867d5ee75c1caf218470869ee3", func := "inlay/inlaylaw01.UvarPuts", spec := "uvarPuts", recurses := true, apart := false, narrowed := true }
def UvarPutsUptoSaid : Prop := uvarPutsUptoRow.holds Try.pinned (OpenSpec.upto uvarPutsSpec)

/-- 'inlaylaw01.UvarGets', WHERE WHAT IT READS IS OF BULK AT MOST 1048576: true; the input reads as it did. -/
def uvarGetsUptoRow : OpenClaim := { program := "ythdmhpmnnnchmaa", sum := "3e8c7fec8cefbfc6293cf42142d26529f10459867d5ee75c1caf218470869ee3", func := "inlay/inlaylaw01.UvarGets", spec := "uvarGets", apart := false, narrowed := true }
def UvarGetsUptoSaid : Prop := uvarGetsUptoRow.holds Try.pinned (OpenSpec.upto uvarGetsSpec)

/-- 'inlaylaw01.UvarBack', WHERE WHAT IT READS IS OF BULK AT MOST 1048576: true; the input reads as it did. -/
def uvarBackUptoRow : OpenClaim := { program := "ythdmhpmnnnchmaa", sum := "3e8c7fec8cefbfc6293cf42142d26529f10459867d5ee75c1caf218470869ee3", func := "inlay/inlaylaw01.UvarBack", spec := "uvarBack", apart := false, narrowed := true }
def UvarBackUptoSaid : Prop := uvarBackUptoRow.holds Try.pinned (OpenSpec.upto uvarBackSpec)

/-- 'inlaylaw01.UvarJust', WHERE WHAT IT READS IS OF BULK AT MOST 1048576: true; the input reads as it did. -/
def uvarJustUptoRow : OpenClaim := { program := "ythdmhpmnnnchmaa", sum := "3e8c7fec8cefbfc6293cf42142d26529f10459867d5ee75c1caf218470869ee3", func := "inlay/inlaylaw01.UvarJust", spec := "uvarJust", apart := false, narrowed := true }
def UvarJustUptoSaid : Prop := uvarJustUptoRow.holds Try.pinned (OpenSpec.upto uvarJustSpec)

end Rows
end Go.Proofs.Ythdmhpmnnnchmaa
