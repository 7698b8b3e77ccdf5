/-
 What names.letter, names.within and the document's May answer of a byte; names.May of a string. Conditions: none.
-/
import Derived.Test.YtmhmlhlplfkpaaaDoorBM
import Derived.Lib.SlicesS
import Derived.Lib.Strings
import Derived.BigQuiet
import Derived.Deep.QuietTactic
namespace Go.Proofs.YtmhmlhlplfkpaaaDoor
open Go.RowKit
namespace Nm
def letter (c : Nat) : Bool := decide (97 ≤ c) && decide (c ≤ 122)
def within (c : Nat) : Bool := letter c || (decide (48 ≤ c) && decide (c ≤ 57)) || (c == 95)
end Nm
namespace Nm
def byte (s : ByteArray) (i : Nat) : Nat := (s.data.toList.getD i 0).toNat
theorem byte_eq (s : ByteArray) (i : Nat) (h : i < s.size) : s[i].toNat = byte s i := by
 have h' : i < s.data.size := h
 show s.data[i].toNat = _
 have e : s.data[i]? = some s.data[i] := Array.getElem?_eq_getElem h'
 simp only [byte, List.getD, Array.getElem?_toList, e, Option.getD_some]
def may (s : ByteArray) : Bool := decide (1 ≤ s.size) && decide (s.size ≤ 12) && letter (byte s 0) && (List.range s.size).all fun i => within (byte s i)
end Nm
end Go.Proofs.YtmhmlhlplfkpaaaDoor
