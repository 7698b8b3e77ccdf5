/-
 What the document's May answers of a string. Conditions: none.
-/
import Derived.Test.YtfopelegobhegaaGreatDoorFnCanL
import Derived.Test.YtfopelegobhegaaGreatDoorInBB
set_option maxRecDepth 100000
namespace Go.Proofs.YtfopelegobhegaaGreatDoor
open Go.RowKit
namespace Nm
def okAt (s : ByteArray) (i : Nat) : Bool := letter (byte s i) || (decide (i ≠ 0) && within (byte s i))
theorem may_ok (s : ByteArray) : may s = (decide (1 ≤ s.size) && decide (s.size ≤ 12) && (List.range s.size).all fun i => okAt s i) := by
 by_cases h0 : s.size < 1
 · rw [may_short h0]
   have : ¬ 1 ≤ s.size := by omega
   simp [this]
 · have h1 : 1 ≤ s.size := by omega
   rw [Bool.eq_iff_iff]
   simp only [may, Bool.and_eq_true, decide_eq_true_eq, List.all_eq_true, List.mem_range]
   constructor
   · rintro ⟨⟨⟨a, b⟩, c⟩, d⟩
     refine ⟨⟨a, b⟩, fun i hi => ?_⟩
     by_cases e : i = 0
     · subst e; simp [okAt, c]
     · simp [okAt, e, d i hi]
   · rintro ⟨⟨a, b⟩, d⟩
     have c : letter (byte s 0) = true := by have := d 0 (by omega); simpa [okAt] using this
     refine ⟨⟨⟨a, b⟩, c⟩, fun i hi => ?_⟩
     have := d i hi
     simp only [okAt, Bool.or_eq_true, Bool.and_eq_true] at this
     rcases this with h | h
     · simp [within, h]
     · exact h.2
theorem okAt_true {s : ByteArray} {k : Nat} (h : (97 ≤ byte s k ∧ byte s k ≤ 122) ∨ (k ≠ 0 ∧ ((48 ≤ byte s k ∧ byte s k ≤ 57) ∨ byte s k = 95))) : okAt s k = true := by
 simp only [okAt, within, letter, Bool.or_eq_true, Bool.and_eq_true, decide_eq_true_eq, beq_iff_eq]
 omega
theorem okAt_false {s : ByteArray} {k : Nat} (h1 : byte s k < 97 ∨ 122 < byte s k) (h2 : k = 0 ∨ ((byte s k < 48 ∨ 57 < byte s k) ∧ byte s k ≠ 95)) : okAt s k = false := by
 rw [Bool.eq_false_iff]
 simp only [okAt, within, letter, ne_eq, Bool.or_eq_true, Bool.and_eq_true, decide_eq_true_eq, beq_iff_eq]
 omega
end Nm
set_option maxHeartbeats 4000000 in
theorem rmay_any (s : ByteArray) (w : World) (hs : s.size ≤ 9223372036854775807) : Calls Tryz.prog 21 #[.string s] w fun e w' => e = .returned (.bool (Nm.may s)) ∧ w' = w := by
 have HE := Lib.hid (Nm.may_ok s)
 go_enter Tryz.func21, Tryz.ntmps21
 go_wp2
 go_loopw [3] (fun i wr => ∃ k : Nat, k ≤ s.size ∧ i = .int .i64 (k : Int) ∧ wr = w ∧ ∀ j, j < k → Nm.okAt s j = true) (fun i _ => s.size - (intOf i).toNat)
 case atStart => exact ⟨0, Nat.zero_le _, rfl, rfl, fun j hj => absurd hj (Nat.not_lt_zero _)⟩
 case round =>
   obtain ⟨k, hk, rfl, rfl, hW⟩ := hrel
   have HW := Lib.hid hW
   clear hW
   by_cases hlt : k < s.size
   · have e := Nm.byte_eq s k hlt
     have HT : Hid (((97 ≤ s[k].toNat ∧ s[k].toNat ≤ 122) ∨ (k ≠ 0 ∧ ((48 ≤ s[k].toNat ∧ s[k].toNat ≤ 57) ∨ s[k].toNat = 95))) → ∀ j, j < k + 1 → Nm.okAt s j = true) := Lib.hid (fun h j hj => by
       by_cases ej : j = k
       · rw [ej]; exact Nm.okAt_true (by rw [← e]; exact h)
       · exact HW.out j (by omega))
     have HF : Hid ((s[k].toNat < 97 ∨ 122 < s[k].toNat) → (k = 0 ∨ ((s[k].toNat < 48 ∨ 57 < s[k].toNat) ∧ s[k].toNat ≠ 95)) → Nm.may s = false) := Lib.hid (fun h1 h2 => by
       rw [HE.out]
       have h := Nm.okAt_false (s := s) (k := k) (by rw [← e]; exact h1) (by rw [← e]; exact h2)
       have : ((List.range s.size).all fun i => Nm.okAt s i) = false := by
         rw [List.all_eq_false]
         exact ⟨k, List.mem_range.2 hlt, by rw [h]; decide⟩
       simp [this])
     clear e HE HW
     have hcl : (s[k].toNat < 48) ∨ (48 ≤ s[k].toNat ∧ s[k].toNat ≤ 57) ∨ (57 < s[k].toNat ∧ s[k].toNat < 97 ∧ s[k].toNat ≠ 95) ∨ (s[k].toNat = 95) ∨ (97 ≤ s[k].toNat ∧ s[k].toNat ≤ 122) ∨ (122 < s[k].toNat) := by omega
     by_cases hz : k = 0
     · subst hz
       rcases hcl with hc | hc | hc | hc | hc | hc
       · have h97 : (s[0].toNat : Int) < 97 := by omega
         have h122 : decide (122 < (s[0].toNat : Int)) = false := decide_eq_false (by omega)
         have h48 : (s[0].toNat : Int) < 48 := by omega
         have h57 : decide (57 < (s[0].toNat : Int)) = false := decide_eq_false (by omega)
         have h95 : ((s[0].toNat : Int) != 95) = true := by rw [bne_iff_ne]; omega
         have HG := Lib.hid (HF.out (by omega) (by omega))
         clear hc HT HF
         go_wp2
         go_ret
         exact ⟨retB HG.out.symm, rfl⟩
       · have h97 : (s[0].toNat : Int) < 97 := by omega
         have h122 : decide (122 < (s[0].toNat : Int)) = false := decide_eq_false (by omega)
         have h48 : decide ((s[0].toNat : Int) < 48) = false := decide_eq_false (by omega)
         have h57 : decide (57 < (s[0].toNat : Int)) = false := decide_eq_false (by omega)
         have h95 : ((s[0].toNat : Int) != 95) = true := by rw [bne_iff_ne]; omega
         have HG := Lib.hid (HF.out (by omega) (by omega))
         clear hc HT HF
         go_wp2
         go_ret
         exact ⟨retB HG.out.symm, rfl⟩
       · have h97 : (s[0].toNat : Int) < 97 := by omega
         have h122 : decide (122 < (s[0].toNat : Int)) = false := decide_eq_false (by omega)
         have h48 : decide ((s[0].toNat : Int) < 48) = false := decide_eq_false (by omega)
         have h57 : 57 < (s[0].toNat : Int) := by omega
         have h95 : ((s[0].toNat : Int) != 95) = true := by rw [bne_iff_ne]; omega
         have HG := Lib.hid (HF.out (by omega) (by omega))
         clear hc HT HF
         go_wp2
         go_ret
         exact ⟨retB HG.out.symm, rfl⟩
       · have h97 : (s[0].toNat : Int) < 97 := by omega
         have h122 : decide (122 < (s[0].toNat : Int)) = false := decide_eq_false (by omega)
         have h48 : decide ((s[0].toNat : Int) < 48) = false := decide_eq_false (by omega)
         have h57 : 57 < (s[0].toNat : Int) := by omega
         have h95 : ((s[0].toNat : Int) != 95) = false := by rw [bne_eq_false_iff_eq]; omega
         have HG := Lib.hid (HF.out (by omega) (by omega))
         clear hc HT HF
         go_wp2
         go_ret
         exact ⟨retB HG.out.symm, rfl⟩
       · have h97 : decide ((s[0].toNat : Int) < 97) = false := decide_eq_false (by omega)
         have h122 : decide (122 < (s[0].toNat : Int)) = false := decide_eq_false (by omega)
         have h48 : decide ((s[0].toNat : Int) < 48) = false := decide_eq_false (by omega)
         have h57 : 57 < (s[0].toNat : Int) := by omega
         have h95 : ((s[0].toNat : Int) != 95) = true := by rw [bne_iff_ne]; omega
         have HG := Lib.hid (HT.out (by omega))
         clear HT HF
         go_wp2
         all_goals first | (exfalso; omega) | exact ⟨⟨1, by omega, rfl, trivial, HG.out⟩, by simp [intOf]; omega⟩
       · have h97 : decide ((s[0].toNat : Int) < 97) = false := decide_eq_false (by omega)
         have h122 : 122 < (s[0].toNat : Int) := by omega
         have h48 : decide ((s[0].toNat : Int) < 48) = false := decide_eq_false (by omega)
         have h57 : 57 < (s[0].toNat : Int) := by omega
         have h95 : ((s[0].toNat : Int) != 95) = true := by rw [bne_iff_ne]; omega
         have HG := Lib.hid (HF.out (by omega) (by omega))
         clear hc HT HF
         go_wp2
         go_ret
         exact ⟨retB HG.out.symm, rfl⟩
     · have hzf : ((k : Int) == 0) = false := by rw [beq_eq_false_iff_ne]; omega
       rcases hcl with hc | hc | hc | hc | hc | hc
       · have h97 : (s[k].toNat : Int) < 97 := by omega
         have h122 : decide (122 < (s[k].toNat : Int)) = false := decide_eq_false (by omega)
         have h48 : (s[k].toNat : Int) < 48 := by omega
         have h57 : decide (57 < (s[k].toNat : Int)) = false := decide_eq_false (by omega)
         have h95 : ((s[k].toNat : Int) != 95) = true := by rw [bne_iff_ne]; omega
         have HG := Lib.hid (HF.out (by omega) (by omega))
         clear hc HT HF
         go_wp2
         go_ret
         exact ⟨retB HG.out.symm, rfl⟩
       · have h97 : (s[k].toNat : Int) < 97 := by omega
         have h122 : decide (122 < (s[k].toNat : Int)) = false := decide_eq_false (by omega)
         have h48 : decide ((s[k].toNat : Int) < 48) = false := decide_eq_false (by omega)
         have h57 : decide (57 < (s[k].toNat : Int)) = false := decide_eq_false (by omega)
         have h95 : ((s[k].toNat : Int) != 95) = true := by rw [bne_iff_ne]; omega
         have HG := Lib.hid (HT.out (by omega))
         clear hc HT HF
         go_wp2
         go_roundw
         case rel => exact ⟨k + 1, by omega, by go_num, by trivial, HG.out⟩
         case measure => simp [intOf]; omega
       · have h97 : (s[k].toNat : Int) < 97 := by omega
         have h122 : decide (122 < (s[k].toNat : Int)) = false := decide_eq_false (by omega)
         have h48 : decide ((s[k].toNat : Int) < 48) = false := decide_eq_false (by omega)
         have h57 : 57 < (s[k].toNat : Int) := by omega
         have h95 : ((s[k].toNat : Int) != 95) = true := by rw [bne_iff_ne]; omega
         have HG := Lib.hid (HF.out (by omega) (by omega))
         clear hc HT HF
         go_wp2
         go_ret
         exact ⟨retB HG.out.symm, rfl⟩
       · have h97 : (s[k].toNat : Int) < 97 := by omega
         have h122 : decide (122 < (s[k].toNat : Int)) = false := decide_eq_false (by omega)
         have h48 : decide ((s[k].toNat : Int) < 48) = false := decide_eq_false (by omega)
         have h57 : 57 < (s[k].toNat : Int) := by omega
         have h95 : ((s[k].toNat : Int) != 95) = false := by rw [bne_eq_false_iff_eq]; omega
         have HG := Lib.hid (HT.out (by omega))
         clear hc HT HF
         go_wp2
         go_roundw
         case rel => exact ⟨k + 1, by omega, by go_num, by trivial, HG.out⟩
         case measure => simp [intOf]; omega
       · have h97 : decide ((s[k].toNat : Int) < 97) = false := decide_eq_false (by omega)
         have h122 : decide (122 < (s[k].toNat : Int)) = false := decide_eq_false (by omega)
         have h48 : decide ((s[k].toNat : Int) < 48) = false := decide_eq_false (by omega)
         have h57 : 57 < (s[k].toNat : Int) := by omega
         have h95 : ((s[k].toNat : Int) != 95) = true := by rw [bne_iff_ne]; omega
         have HG := Lib.hid (HT.out (by omega))
         clear hc HT HF
         go_wp2
         go_roundw
         case rel => exact ⟨k + 1, by omega, by go_num, by trivial, HG.out⟩
         case measure => simp [intOf]; omega
       · have h97 : decide ((s[k].toNat : Int) < 97) = false := decide_eq_false (by omega)
         have h122 : 122 < (s[k].toNat : Int) := by omega
         have h48 : decide ((s[k].toNat : Int) < 48) = false := decide_eq_false (by omega)
         have h57 : 57 < (s[k].toNat : Int) := by omega
         have h95 : ((s[k].toNat : Int) != 95) = true := by rw [bne_iff_ne]; omega
         have HG := Lib.hid (HF.out (by omega) (by omega))
         clear hc HT HF
         go_wp2
         go_ret
         exact ⟨retB HG.out.symm, rfl⟩
   · have HG : Hid (((List.range s.size).all fun i => Nm.okAt s i) = true) := Lib.hid (List.all_eq_true.2 fun i hi => HW.out i (by have := List.mem_range.1 hi; omega))
     rw [HG.out, Bool.and_true] at HE
     clear HW HG
     by_cases h1 : s.size < 1
     · have h1f : decide (1 ≤ (s.size : Int)) = false := decide_eq_false (by omega)
       have h1n : decide (1 ≤ s.size) = false := decide_eq_false (by omega)
       have HM : Hid (Nm.may s = false) := Lib.hid (by rw [HE.out, h1n, Bool.false_and])
       clear HE
       go_wp2
       go_ret
       exact ⟨retB HM.out.symm, rfl⟩
     · have h1t : 1 ≤ (s.size : Int) := by omega
       have HM : Hid (Nm.may s = decide ((s.size : Int) ≤ 12)) := Lib.hid (by
         rw [HE.out, decide_eq_true (show 1 ≤ s.size by omega), Bool.true_and, Bool.eq_iff_iff]
         simp only [decide_eq_true_eq]
         omega)
       clear HE
       go_wp2
       go_ret
       exact ⟨retB HM.out.symm, rfl⟩
end Go.Proofs.YtfopelegobhegaaGreatDoor
namespace Go.Proofs.YtfopelegobhegaaGreatDoor
open Go.RowKit
end Go.Proofs.YtfopelegobhegaaGreatDoor
namespace Go.Proofs.YtfopelegobhegaaGreatDoor
open Go.RowKit
theorem ends (f t : Int) : ∃ (lo : Nat) (m : Int), Sl.range f t = Sl.span lo (m - lo).toNat ∧ m ≤ 256 ∧ m ≤ t ∧ ((t < 256 ∧ m = t) ∨ (t = 256 ∧ m = 256) ∨ (256 < t ∧ m = 256)) ∧ ((f < 0 ∧ (lo : Int) = 0) ∨ (f = 0 ∧ (lo : Int) = 0) ∨ (0 < f ∧ (lo : Int) = f)) := by
 refine ⟨(max f 0).toNat, min t 256, ?_, by omega, by omega, by omega, by omega⟩
 unfold Sl.range
 rw [show min t 256 - ((max f 0).toNat : Int) = min t 256 - max f 0 by omega]
end Go.Proofs.YtfopelegobhegaaGreatDoor
namespace Go.Proofs.YtfopelegobhegaaGreatDoor
open Go.RowKit
end Go.Proofs.YtfopelegobhegaaGreatDoor
namespace Go.Proofs.YtfopelegobhegaaGreatDoor
open Go.RowKit
end Go.Proofs.YtfopelegobhegaaGreatDoor
namespace Go.Proofs.YtfopelegobhegaaGreatDoor
open Go.RowKit
end Go.Proofs.YtfopelegobhegaaGreatDoor
namespace Go.Proofs.YtfopelegobhegaaGreatDoor
open Go.RowKit
end Go.Proofs.YtfopelegobhegaaGreatDoor
