/-
 A tree taken out of bytes: the plain mathematics. Conditions: none.
-/
import Derived.Test.YtfopelegobhegaaGreatDoorCurS
namespace Go.Proofs.YtfopelegobhegaaGreatDoor
namespace Tr
variable {s : List Nat × Nat}
def intsS : Nat → List Nat × Nat → List Nat × Nat
 | 0, s => s
 | k + 1, s => (intA (intsS k s)).2
def intsV (s : List Nat × Nat) (k : Nat) : Int := (intA (intsS k s)).1
def nodeV (s : List Nat × Nat) : Nd := ⟨intsV s 0, intsV s 1, intsV s 2, intsV s 3, intsV s 4, intsV s 5, intsV s 6⟩
def nodesS (k : Nat) (s : List Nat × Nat) : List Nat × Nat := intsS (7 * k) s
def nodesV (s : List Nat × Nat) : Nat → List Nd
 | 0 => []
 | k + 1 => nodesV s k ++ [nodeV (nodesS k s)]
def take (s : List Nat × Nat) : List Nd × (List Nat × Nat) :=
 if (nodesS (numA s 120).1 (numA s 120).2).2 ≠ 0 then ([], nodesS (numA s 120).1 (numA s 120).2)
 else if right (nodesV (numA s 120).2 (numA s 120).1) then (nodesV (numA s 120).2 (numA s 120).1, nodesS (numA s 120).1 (numA s 120).2)
 else ([], failA (nodesS (numA s 120).1 (numA s 120).2) 14)
theorem num_le (s : List Nat × Nat) : (numA s 120).1 ≤ 120 := by
 unfold numA
 split
 · exact Nat.zero_le _
 · rename_i h
   simp only at h ⊢
   omega
end Tr
end Go.Proofs.YtfopelegobhegaaGreatDoor
