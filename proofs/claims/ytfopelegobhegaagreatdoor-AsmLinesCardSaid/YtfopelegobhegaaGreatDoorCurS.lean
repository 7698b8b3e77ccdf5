/-
 What the cursor's calls answer where a call made the cursor. Conditions: none.
-/
import Derived.Test.YtfopelegobhegaaGreatDoorCurM
import Derived.Test.YtfopelegobhegaaGreatDoorPMa
namespace Go.Proofs.YtfopelegobhegaaGreatDoor
open Go.RowKit
end Go.Proofs.YtfopelegobhegaaGreatDoor
namespace Go.Proofs.YtfopelegobhegaaGreatDoor
end Go.Proofs.YtfopelegobhegaaGreatDoor
namespace Go.Proofs.YtfopelegobhegaaGreatDoor
namespace Si
variable {s : List Nat × Nat}
def bytesS : Nat → List Nat × Nat → List Nat × Nat
 | 0, s => s
 | k + 1, s => (byteA (bytesS k s)).2
def byteV (s : List Nat × Nat) (k : Nat) : Nat := (byteA (bytesS k s)).1
def bytesV (s : List Nat × Nat) (k : Nat) : List Int := (List.range k).map fun i => (byteV s i : Int)
def take (s : List Nat × Nat) (most : Int) : List Int × (List Nat × Nat) :=
 if (bytesS (numA s most).1 (numA s most).2).2 ≠ 0 then ([], bytesS (numA s most).1 (numA s most).2)
 else if (bytesV (numA s most).2 (numA s most).1).all may then (bytesV (numA s most).2 (numA s most).1, bytesS (numA s most).1 (numA s most).2)
 else ([], failA (bytesS (numA s most).1 (numA s most).2) 9)
end Si
end Go.Proofs.YtfopelegobhegaaGreatDoor
namespace Go.Proofs.YtfopelegobhegaaGreatDoor
open Go.RowKit
end Go.Proofs.YtfopelegobhegaaGreatDoor
