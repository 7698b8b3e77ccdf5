/-
  Functions: which can be laid, and why not: the plain mathematics. Conditions: none.
-/
import Derived.Test.YtngkjmghhoemgaaNmA
import Derived.Test.YtngkjmghhoemgaaPMa
import Derived.Test.YtngkjmghhoemgaaMpMA
namespace Go.Proofs.Ytngkjmghhoemgaa.Fn

/-- A function. -/
structure F where
  name : ByteArray
  inner : Bool
  outer : List Int
  params : List Int
  results : List Int
  locals : List Int
  code : List (Int × Int)
  lines : List Int
  nodes : List Tr.Nd
  at_ : List Int
  live : List Sl.Four
/-- The zero one. -/
def F.zero : F := ⟨⟨#[]⟩, false, [], [], [], [], [], [], [], [], []⟩
/-- A number of 64 bits. -/
def I64 (x : Int) : Prop := -9223372036854775808 ≤ x ∧ x ≤ 9223372036854775807
/-- Numbers of their types. -/
structure F.Wf (f : F) : Prop where
  code : ∀ p ∈ f.code, I64 p.1 ∧ I64 p.2
  lines : ∀ z ∈ f.lines, -9223372036854775808 ≤ z ∧ z ≤ 9223372036854775807
  nodes : ∀ n ∈ f.nodes, n.wf
  at_ : ∀ z ∈ f.at_, -9223372036854775808 ≤ z ∧ z ≤ 9223372036854775807
  live : ∀ s ∈ f.live, s.ok

variable (f : F)
/-- How many slots it has. -/
def F.slots : Nat := f.params.length + f.results.length + f.locals.length
/-- Has it no tables? -/
def F.bare : Bool := decide (f.nodes.length = 0) && (decide (f.at_.length = 0) && decide (f.live.length = 0))
/-- May its lists of types be? -/
def F.typed : Bool := Si.right f.outer 4 && (Si.right f.params 8 && (Si.right f.results 4 && (Si.right f.locals 256 && (f.inner || decide (f.outer.length = 0)))))
/-- Are there no more slots, and as many instructions as may be? -/
def F.fits : Bool := decide (f.slots ≤ 256) && (decide (1 ≤ f.code.length) && decide (f.code.length ≤ 2000))
def F.ops : Bool := f.code.all fun p => In.right p.1 p.2
def F.lined : Bool := decide (f.lines.length = f.code.length) && Li.right f.lines
/-- Is a number none of n nodes? -/
def out (n : Nat) (x : Int) : Bool := decide (x < 0) || decide ((n : Int) ≤ x)
def F.mapped : Bool := Tr.right f.nodes && (decide (f.at_.length = f.code.length) && (decide (f.live.length = f.code.length) && (!f.at_.any (out f.nodes.length) && Mp.right f.live (f.slots : Int))))
/-- Can it be laid? 0, or what is wrong first. -/
def F.can : Nat :=
  if Nm.may f.name = false then 7 else if f.typed = false then 9 else if f.fits = false then 6 else if f.ops = false then 8 else if f.lined = false then 19 else if f.bare = false ∧ f.mapped = false then 14 else 0

variable {f : F}
theorem typed_len (h : f.typed = true) : f.outer.length ≤ 4 ∧ f.params.length ≤ 8 ∧ f.results.length ≤ 4 ∧ f.locals.length ≤ 256 := by
  unfold F.typed Si.right at h
  simp only [Bool.and_eq_true, decide_eq_true_eq] at h
  omega
theorem typed_slots (h : f.typed = true) : f.slots ≤ 268 := by
  have := typed_len h
  unfold F.slots
  omega
theorem can_ok : f.can = 0 ↔ Nm.may f.name = true ∧ f.typed = true ∧ f.fits = true ∧ f.ops = true ∧ f.lined = true ∧ (f.bare = true ∨ f.mapped = true) := by
  unfold F.can
  generalize Nm.may f.name = a
  generalize f.typed = b
  generalize f.fits = c
  generalize f.ops = d
  generalize f.lined = e
  generalize f.bare = g
  generalize f.mapped = h
  cases a <;> cases b <;> cases c <;> cases d <;> cases e <;> cases g <;> cases h <;> simp
theorem can_lt (f : F) : f.can < 20 := by
  unfold F.can
  repeat' split
  all_goals omega
theorem ops_succ {l : List (Int × Int)} {k : Nat} (h : k < l.length) : (l.take (k + 1)).all (fun p => In.right p.1 p.2) = ((l.take k).all (fun p => In.right p.1 p.2) && In.right (l.getD k (0, 0)).1 (l.getD k (0, 0)).2) := by
  rw [Ru.taken h (0, 0), List.all_append]
  simp
theorem ops_bad {l : List (Int × Int)} {k : Nat} (h : k < l.length) (hb : In.right (l.getD k (0, 0)).1 (l.getD k (0, 0)).2 = false) : l.all (fun p => In.right p.1 p.2) = false := by
  rw [List.all_eq_false]
  refine ⟨l[k], List.getElem_mem h, ?_⟩
  have : l.getD k (0, 0) = l[k] := by simp [List.getD, h]
  rw [this] at hb
  rw [hb]
  decide
theorem any_succ {l : List Int} {k : Nat} (p : Int → Bool) (h : k < l.length) : (l.take (k + 1)).any p = ((l.take k).any p || p (l.getD k 0)) := by
  rw [Ru.taken h 0, List.any_append]
  simp
theorem any_good {l : List Int} {k : Nat} {p : Int → Bool} (h : k < l.length) (hb : p (l.getD k 0) = true) : l.any p = true := by
  rw [List.any_eq_true]
  refine ⟨l[k], List.getElem_mem h, ?_⟩
  have : l.getD k 0 = l[k] := by simp [List.getD, h]
  rwa [this] at hb
end Go.Proofs.Ytngkjmghhoemgaa.Fn
