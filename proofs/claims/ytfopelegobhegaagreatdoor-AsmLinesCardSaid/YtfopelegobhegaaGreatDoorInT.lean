/-
 What instr.Take takes. Conditions: none (a cursor that a call made).
-/
import Derived.Test.YtfopelegobhegaaGreatDoorInBB
import Derived.Test.YtfopelegobhegaaGreatDoorInR
import Derived.Test.YtfopelegobhegaaGreatDoorCurM
namespace Go.Proofs.YtfopelegobhegaaGreatDoor
open Go.RowKit
namespace In
def take (s : List Nat × Nat) : (Int × Int) × (List Nat × Nat) :=
 (if (if right ((byteA s).1 : Int) (if numbered ((byteA s).1 : Int) then (intA (if known ((byteA s).1 : Int) then (byteA s).2 else failA (byteA s).2 8)).1 else 0) then (if numbered ((byteA s).1 : Int) then (intA (if known ((byteA s).1 : Int) then (byteA s).2 else failA (byteA s).2 8)).2 else (if known ((byteA s).1 : Int) then (byteA s).2 else failA (byteA s).2 8)) else failA (if numbered ((byteA s).1 : Int) then (intA (if known ((byteA s).1 : Int) then (byteA s).2 else failA (byteA s).2 8)).2 else (if known ((byteA s).1 : Int) then (byteA s).2 else failA (byteA s).2 8)) 2).2 ≠ 0 then (0, 0) else (((byteA s).1 : Int), if numbered ((byteA s).1 : Int) then (intA (if known ((byteA s).1 : Int) then (byteA s).2 else failA (byteA s).2 8)).1 else 0),
  if right ((byteA s).1 : Int) (if numbered ((byteA s).1 : Int) then (intA (if known ((byteA s).1 : Int) then (byteA s).2 else failA (byteA s).2 8)).1 else 0) then (if numbered ((byteA s).1 : Int) then (intA (if known ((byteA s).1 : Int) then (byteA s).2 else failA (byteA s).2 8)).2 else (if known ((byteA s).1 : Int) then (byteA s).2 else failA (byteA s).2 8)) else failA (if numbered ((byteA s).1 : Int) then (intA (if known ((byteA s).1 : Int) then (byteA s).2 else failA (byteA s).2 8)).2 else (if known ((byteA s).1 : Int) then (byteA s).2 else failA (byteA s).2 8)) 2)
end In
theorem Ins.kept {w w' : World} {p g : Nat} {x y : Int} (h : Ins w p x y) (hg : w.grownBy w' (some g)) (hne : g ≠ p) : Ins w' p x y := (hg.block p (ins_lt h) (by intro e; injection e with e; exact hne e.symm)).trans h
end Go.Proofs.YtfopelegobhegaaGreatDoor
