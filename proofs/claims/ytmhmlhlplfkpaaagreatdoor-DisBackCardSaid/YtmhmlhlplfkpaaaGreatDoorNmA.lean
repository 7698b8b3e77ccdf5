/-
 What names.letter, names.within and the document's May answer of a byte; names.May of a string. Conditions: none.
-/
import Derived.Test.YtmhmlhlplfkpaaaGreatDoorBM
import Derived.Lib.SlicesS
import Derived.Lib.Strings
import Derived.BigQuiet
import Derived.Deep.QuietTactic
set_option maxRecDepth 100000
namespace Go.Proofs.YtmhmlhlplfkpaaaGreatDoor
open Go.RowKit
namespace Nm
def letter (c : Nat) : Bool := decide (97 ≤ c) && decide (c ≤ 122)
def within (c : Nat) : Bool := letter c || (decide (48 ≤ c) && decide (c ≤ 57)) || (c == 95)
end Nm
theorem letter_any (c : Nat) (w : World) : Calls Tryz.prog 147 #[.int .u8 (c : Int)] w fun e w' => e = .returned (.bool (Nm.letter c)) ∧ w' = w := by
 unfold Nm.letter
 go_enter Tryz.func147, Tryz.ntmps147
 go_wp2
 all_goals
   go_ret
   refine ⟨retB ?_, rfl⟩
   rw [Bool.eq_iff_iff]
   simp
   omega
theorem within_any (c : Nat) (w : World) : Calls Tryz.prog 148 #[.int .u8 (c : Int)] w fun e w' => e = .returned (.bool (Nm.within c)) ∧ w' = w := by
 unfold Nm.within
 have H := letter_any c w
 generalize Nm.letter c = b at *
 cases b
 all_goals
   go_enter Tryz.func148, Tryz.ntmps148
   go_wp2_with (go_at_call 147; refine H.mono ?_; rintro _ _ ⟨rfl, rfl⟩)
   all_goals
     go_ret
     refine ⟨retB ?_, rfl⟩
     try rw [Bool.eq_iff_iff]
     try simp
     try omega
namespace Nm
def byte (s : ByteArray) (i : Nat) : Nat := (s.data.toList.getD i 0).toNat
theorem byte_eq (s : ByteArray) (i : Nat) (h : i < s.size) : s[i].toNat = byte s i := by
 have h' : i < s.data.size := h
 show s.data[i].toNat = _
 have e : s.data[i]? = some s.data[i] := Array.getElem?_eq_getElem h'
 simp only [byte, List.getD, Array.getElem?_toList, e, Option.getD_some]
def may (s : ByteArray) : Bool := decide (1 ≤ s.size) && decide (s.size ≤ 12) && letter (byte s 0) && (List.range s.size).all fun i => within (byte s i)
theorem may_short {s : ByteArray} (h : s.size < 1) : may s = false := by simp [may]; omega
theorem may_long {s : ByteArray} (h : 12 < s.size) : may s = false := by
 have : ¬ s.size ≤ 12 := by omega
 simp [may, this]
theorem may_first {s : ByteArray} (h : letter (byte s 0) = false) : may s = false := by simp [may, h]
theorem may_not {s : ByteArray} {i : Nat} (hi : i < s.size) (h : within (byte s i) = false) : may s = false := by
 have : ((List.range s.size).all fun i => within (byte s i)) = false := by
   rw [List.all_eq_false]
   exact ⟨i, List.mem_range.2 hi, by rw [h]; decide⟩
 simp [may, this]
theorem may_all {s : ByteArray} (h0 : 1 ≤ s.size) (h1 : s.size ≤ 12) (hl : letter (byte s 0) = true) (h : ∀ i, i < s.size → within (byte s i) = true) : may s = true := by
 have : ((List.range s.size).all fun i => within (byte s i)) = true := List.all_eq_true.2 fun i hi => h i (List.mem_range.1 hi)
 simp [may, this, h0, h1, hl]
end Nm
set_option maxHeartbeats 1000000 in
theorem may_any (s : ByteArray) (w : World) (hs : s.size ≤ 9223372036854775807) : Calls Tryz.prog 123 #[.string s] w fun e w' => e = .returned (.bool (Nm.may s)) ∧ w' = w := by
 by_cases h0 : s.size < 1
 · have HM := Lib.hid (Nm.may_short h0)
   go_enter Tryz.func123, Tryz.ntmps123
   go_wp2
   go_ret
   exact ⟨retB HM.out.symm, rfl⟩
 by_cases h1 : 12 < s.size
 · have HM := Lib.hid (Nm.may_long h1)
   go_enter Tryz.func123, Tryz.ntmps123
   go_wp2
   go_ret
   exact ⟨retB HM.out.symm, rfl⟩
 have hd0 : decide ((s.size : Int) < 1) = false := decide_eq_false (by omega)
 have hd1 : decide (12 < (s.size : Int)) = false := decide_eq_false (by omega)
 have HL : Calls Tryz.prog 147 #[.int .u8 (s[0].toNat : Int)] w fun e w' => e = .returned (.bool (Nm.letter (Nm.byte s 0))) ∧ w' = w := by rw [Nm.byte_eq]; exact letter_any _ _
 cases hl : Nm.letter (Nm.byte s 0)
 · rw [hl] at HL
   have HM := Lib.hid (Nm.may_first hl)
   clear hl
   go_enter Tryz.func123, Tryz.ntmps123
   go_wp2_with (go_at_call 147; refine HL.mono ?_; rintro _ w1 ⟨rfl, he⟩; obtain rfl := he.symm)
   go_ret
   exact ⟨retB HM.out.symm, rfl⟩
 · rw [hl] at HL
   have HN := Lib.hid (fun (i : Nat) (hi : i < s.size) (h : Nm.within (Nm.byte s i) = false) => Nm.may_not hi h)
   have HA := Lib.hid (Nm.may_all (by omega) (by omega) hl)
   clear hl
   go_enter Tryz.func123, Tryz.ntmps123
   go_wp2_with (go_at_call 147; refine HL.mono ?_; rintro _ w1 ⟨rfl, he⟩; obtain rfl := he.symm)
   clear HL
   go_loopw [3, 20] (fun _ i wr => ∃ k : Nat, k ≤ s.size ∧ i = .int .i64 (k : Int) ∧ wr = w ∧ ∀ j, j < k → Nm.within (Nm.byte s j) = true) (fun _ i _ => s.size - (intOf i).toNat)
   case atStart => exact ⟨0, Nat.zero_le _, rfl, rfl, fun j hj => absurd hj (Nat.not_lt_zero _)⟩
   case round =>
     obtain ⟨k, hk, rfl, rfl, hW⟩ := hrel
     have HW := Lib.hid hW
     clear hW
     by_cases hlt : k < s.size
     · have HC := within_any (Nm.byte s k) wr
       rw [← Nm.byte_eq s k hlt] at HC
       cases hw : Nm.within (s[k].toNat)
       · rw [hw] at HC
         have HM := Lib.hid (HN.out k hlt (by rw [← Nm.byte_eq s k hlt]; exact hw))
         clear hw
         go_wp2_with (go_at_call 148; refine HC.mono ?_; rintro _ w1 ⟨rfl, he⟩; obtain rfl := he.symm)
         go_ret
         exact ⟨retB HM.out.symm, rfl⟩
       · rw [hw] at HC
         have HM : Hid (Nm.within (Nm.byte s k) = true) := Lib.hid (by rw [← Nm.byte_eq s k hlt]; exact hw)
         clear hw
         go_wp2_with (go_at_call 148; refine HC.mono ?_; rintro _ w1 ⟨rfl, he⟩; obtain rfl := he.symm)
         go_roundw
         case rel =>
           refine ⟨k + 1, by omega, by go_num, by trivial, fun j hj => ?_⟩
           by_cases e : j = k
           · rw [e]; exact HM.out
           · exact HW.out j (by omega)
         case measure => simp [intOf]; omega
     · have HM := Lib.hid (HA.out fun i hi => HW.out i (by omega))
       go_wp2
       go_ret
       exact ⟨retB HM.out.symm, rfl⟩
end Go.Proofs.YtmhmlhlplfkpaaaGreatDoor
