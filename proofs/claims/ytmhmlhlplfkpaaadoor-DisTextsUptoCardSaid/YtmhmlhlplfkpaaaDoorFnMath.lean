/-
 Functions: which can be laid, and why not: the plain mathematics. Conditions: none.
-/
import Derived.Test.YtmhmlhlplfkpaaaDoorNmA
import Derived.Test.YtmhmlhlplfkpaaaDoorPMa
import Derived.Test.YtmhmlhlplfkpaaaDoorMpMA
namespace Go.Proofs.YtmhmlhlplfkpaaaDoor.Fn
structure F where
 name : ByteArray
 inner : Bool
 outer : List Int
 params : List Int
 results : List Int
 locals : List Int
 code : List (Int × Int)
 lines : List Int
 nodes : List Tr.Nd
 at_ : List Int
 live : List Sl.Four
def F.zero : F := ⟨⟨#[]⟩, false, [], [], [], [], [], [], [], [], []⟩
def I64 (x : Int) : Prop := -9223372036854775808 ≤ x ∧ x ≤ 9223372036854775807
structure F.Wf (f : F) : Prop where
 code : ∀ p ∈ f.code, I64 p.1 ∧ I64 p.2
 lines : ∀ z ∈ f.lines, -9223372036854775808 ≤ z ∧ z ≤ 9223372036854775807
 nodes : ∀ n ∈ f.nodes, n.wf
 at_ : ∀ z ∈ f.at_, -9223372036854775808 ≤ z ∧ z ≤ 9223372036854775807
 live : ∀ s ∈ f.live, s.ok
variable (f : F)
def F.slots : Nat := f.params.length + f.results.length + f.locals.length
def F.bare : Bool := decide (f.nodes.length = 0) && (decide (f.at_.length = 0) && decide (f.live.length = 0))
def F.typed : Bool := Si.right f.outer 4 && (Si.right f.params 8 && (Si.right f.results 4 && (Si.right f.locals 256 && (f.inner || decide (f.outer.length = 0)))))
def F.fits : Bool := decide (f.slots ≤ 256) && (decide (1 ≤ f.code.length) && decide (f.code.length ≤ 2000))
def F.ops : Bool := f.code.all fun p => In.right p.1 p.2
def out (n : Nat) (x : Int) : Bool := decide (x < 0) || decide ((n : Int) ≤ x)
variable {f : F}
end Go.Proofs.YtmhmlhlplfkpaaaDoor.Fn
