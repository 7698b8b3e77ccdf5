/-
 A table of sets taken out of bytes, run by run: the plain mathematics. Conditions: none.
-/
import Derived.Test.YtfopelegobhegaaGreatDoorCurS
import Derived.Test.YtfopelegobhegaaGreatDoorMpMA
namespace Go.Proofs.YtfopelegobhegaaGreatDoor
namespace Mp
open Sl (Four)
variable {s : List Nat × Nat} {last : Option Four} {left : Nat}
def bitsS : Nat → List Nat × Nat → List Nat × Nat
 | 0, s => s
 | j + 1, s => (bitsA (bitsS j s)).2
def bitV (s : List Nat × Nat) (j : Nat) : Nat := (bitsA (bitsS j s)).1
def fourV (s : List Nat × Nat) : Four := ⟨bitV s 0, bitV s 1, bitV s 2, bitV s 3⟩
def alike (last : Option Four) (x : Four) : Bool := match last with
 | some y => same y x
 | none => false
abbrev bad (s : List Nat × Nat) (last : Option Four) (left : Nat) : Prop := (bitsA s).1 < 1 ∨ left < (bitsA s).1 ∨ alike last (fourV (bitsA s).2) = true
def runS (s : List Nat × Nat) (last : Option Four) (left : Nat) : List Nat × Nat := if bad s last left then failA (bitsS 4 (bitsA s).2) 5 else bitsS 4 (bitsA s).2
def lastV (r : Runs) : Option Four := r.getLast?.map (·.2)
def takeL (n : Nat) : Nat → List Nat × Nat → Runs → Option Runs × (List Nat × Nat)
 | 0, s, r => (some r, s)
 | f + 1, s, r =>
   if n ≤ (row r).length then (some r, s)
   else if (runS s (lastV r) (n - (row r).length)).2 ≠ 0 then (none, runS s (lastV r) (n - (row r).length))
   else takeL n f (runS s (lastV r) (n - (row r).length)) (r ++ [((bitsA s).1, fourV (bitsA s).2)])
def takeA (s : List Nat × Nat) (n m : Int) : List Four × (List Nat × Nat) :=
 match takeL n.toNat (n.toNat + 1) s [] with
 | (none, s') => ([], s')
 | (some r, s') => if r.all (fun p => p.2.below m) then (row r, s') else ([], failA s' 14)
section
variable {n f : Nat} {r : Runs}
end
end Mp
end Go.Proofs.YtfopelegobhegaaGreatDoor
