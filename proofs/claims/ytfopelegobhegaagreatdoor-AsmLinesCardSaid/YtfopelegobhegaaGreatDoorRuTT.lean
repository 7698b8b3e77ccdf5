/-
 What was laid one behind the other is taken one behind the other: the plain mathematics. Conditions: numbers of their types; texts shorter than 2^63.
-/
import Derived.Test.YtfopelegobhegaaGreatDoorInRP
import Derived.Test.YtfopelegobhegaaGreatDoorCurS
import Derived.Test.YtfopelegobhegaaGreatDoorRuR
namespace Go.Proofs.YtfopelegobhegaaGreatDoor
end Go.Proofs.YtfopelegobhegaaGreatDoor
namespace Go.Proofs.YtfopelegobhegaaGreatDoor
def formS (s : List Nat × Nat) (left : Int) : List Nat × Nat := if (bitsA s).1 < 1 ∨ left < ((bitsA s).1 : Int) then failA (bitsA s).2 5 else (bitsA s).2
def sameS (s : List Nat × Nat) (last : Option Int) (left : Int) : List Nat × Nat := if last = some (intA (formS s left)).1 then failA (intA (formS s left)).2 5 else (intA (formS s left)).2
def runS (s : List Nat × Nat) (last : Option Int) (left low high : Int) : List Nat × Nat := if (intA (formS s left)).1 < low ∨ high < (intA (formS s left)).1 then failA (sameS s last left) 2 else sameS s last left
section
variable {s : List Nat × Nat} {last : Option Int} {left low high : Int}
end
def takeL (n : Nat) (low high : Int) : Nat → List Nat × Nat → List Int → List Int × (List Nat × Nat)
 | 0, s, out => (out, s)
 | f + 1, s, out =>
   if n ≤ out.length then (out, s)
   else if (runS s out.getLast? ((n - out.length : Nat) : Int) low high).2 ≠ 0 then ([], runS s out.getLast? ((n - out.length : Nat) : Int) low high)
   else takeL n low high f (runS s out.getLast? ((n - out.length : Nat) : Int) low high) (out ++ List.replicate (bitsA s).1 (intA (bitsA s).2).1)
def takeA (s : List Nat × Nat) (n low high : Int) : List Int × (List Nat × Nat) := takeL n.toNat low high (n.toNat + 1) s []
section
variable {n f : Nat} {low high : Int} {s : List Nat × Nat} {out : List Int}
end
end Go.Proofs.YtfopelegobhegaaGreatDoor
