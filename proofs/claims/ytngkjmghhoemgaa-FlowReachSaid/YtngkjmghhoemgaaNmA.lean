/-
  What names.letter, names.within and the document's May answer of a byte; names.May of a string. Conditions: none.
-/
import Derived.Test.YtngkjmghhoemgaaBM
import Derived.Lib.SlicesS
import Derived.Lib.Strings
import Derived.BigQuiet
import Derived.Deep.QuietTactic
namespace Go.Proofs.Ytngkjmghhoemgaa
open Go.RowKit

namespace Nm
/-- May a name begin with it? -/
def letter (c : Nat) : Bool := decide (97 ≤ c) && decide (c ≤ 122)
/-- May it stand within a name? -/
def within (c : Nat) : Bool := letter c || (decide (48 ≤ c) && decide (c ≤ 57)) || (c == 95)
end Nm


namespace Nm
/-- The byte at a place. -/
def byte (s : ByteArray) (i : Nat) : Nat := (s.data.toList.getD i 0).toNat
theorem byte_eq (s : ByteArray) (i : Nat) (h : i < s.size) : s[i].toNat = byte s i := by
  have h' : i < s.data.size := h
  show s.data[i].toNat = _
  have e : s.data[i]? = some s.data[i] := Array.getElem?_eq_getElem h'
  simp only [byte, List.getD, Array.getElem?_toList, e, Option.getD_some]
/-- May it be a name? -/
def may (s : ByteArray) : Bool := decide (1 ≤ s.size) && decide (s.size ≤ 12) && letter (byte s 0) && (List.range s.size).all fun i => within (byte s i)
theorem may_short {s : ByteArray} (h : s.size < 1) : may s = false := by simp [may]; omega
theorem may_long {s : ByteArray} (h : 12 < s.size) : may s = false := by
  have : ¬ s.size ≤ 12 := by omega
  simp [may, this]
theorem may_first {s : ByteArray} (h : letter (byte s 0) = false) : may s = false := by simp [may, h]
theorem may_not {s : ByteArray} {i : Nat} (hi : i < s.size) (h : within (byte s i) = false) : may s = false := by
  have : ((List.range s.size).all fun i => within (byte s i)) = false := by
    rw [List.all_eq_false]
    exact ⟨i, List.mem_range.2 hi, by rw [h]; decide⟩
  simp [may, this]
theorem may_all {s : ByteArray} (h0 : 1 ≤ s.size) (h1 : s.size ≤ 12) (hl : letter (byte s 0) = true) (h : ∀ i, i < s.size → within (byte s i) = true) : may s = true := by
  have : ((List.range s.size).all fun i => within (byte s i)) = true := List.all_eq_true.2 fun i hi => h i (List.mem_range.1 hi)
  simp [may, this, h0, h1, hl]
end Nm


end Go.Proofs.Ytngkjmghhoemgaa
