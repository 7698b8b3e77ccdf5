/-
  What strconv.Itoa and the document's digits answer of a number below 100. Conditions: none.
-/
import Derived.Test.YtebdfcelgaeeoaaDoorBase
import Derived.Lib.ItoaNum
import Derived.Lib.ItoaWalk
import Derived.Lib.Strings
import Derived.BigCall
import Derived.Laws.BytesArg
import Derived.Laws.Concat
namespace Go.Proofs.YtebdfcelgaeeoaaDoor
open Go.RowKit

namespace Nm
/-- A number's digits. -/
def dig (i : Nat) : ByteArray := ⟨(Lib.decDigits i).toArray⟩
theorem dig_of (x : ByteArray) (i : Nat) (h : x.data.toList = Lib.decDigits i) : x = dig i := by
  unfold dig
  rw [← h]
theorem dig_size1 {i : Nat} (h : i < 10) : (dig i).size = 1 := by
  have : (Lib.decDigits i).length = 1 := by rw [Lib.decDigits_one h]; rfl
  simpa [dig, ByteArray.size] using this
theorem dig_two {i : Nat} (h10 : ¬ i < 10) (h : i < 100) : dig (i / 10) ++ dig (i % 10) = dig i := by
  apply dig_of
  have a : (dig (i / 10) ++ dig (i % 10)).data.toList = (dig (i / 10)).data.toList ++ (dig (i % 10)).data.toList := by simp
  rw [a]
  simp only [dig, Lib.decDigits_one (show i / 10 < 10 by omega), Lib.decDigits_one (show i % 10 < 10 by omega), Lib.decDigits_two h10 h]
  rfl
end Nm

theorem retS {a b : ByteArray} (h : a = b) : Ending.returned (.string a) = .returned (.string b) := by rw [h]

set_option maxHeartbeats 2000000 in
set_option maxRecDepth 100000 in
theorem small_any (i : Nat) (h : i < 100) (w : World) :
    Calls Tryd.prog 24 #[.int .i64 (i : Int)] w fun e w' => e = .returned (.string (Nm.dig i)) ∧ w' = w := by
  go_enter Tryd.func24, Tryd.ntmps24
  go_name_bytes_deep 45 SM hSM
  have eSM : SM = Lib.smalls := by rw [← hSM]; decide +kernel
  subst eSM
  clear hSM
  go_name_bytes_deep 30 DG hDG
  have eDG : DG = Lib.digits36 := by rw [← hDG]; decide +kernel
  subst eDG
  clear hDG
  by_cases h10 : i < 10
  · have hsl : ∀ w, (Instr.slice 9 (.string Lib.digits36) (some (.int .i64 (i : Int))) (some (.int .i64 ((i : Int) + 1))) none).run Tryd.prog w = .ok (.string (Lib.digits36.extract i (i + 1))) w := fun w => by
      rw [run_slice_string w 9 Lib.digits36 .i64 .i64 _ _ Tryd.underlying9 (by omega) (by omega) (by rw [Lib.digits36_size]; omega), show ((i : Int)).toNat = i by omega, show ((i : Int) + 1).toNat = i + 1 by omega]
    go_wp2
    go_ret
    exact ⟨retS (Nm.dig_of _ _ (by rw [Lib.extract_data]; exact Lib.digits36_piece h10)), rfl⟩
  · have hsl : ∀ w, (Instr.slice 9 (.string Lib.smalls) (some (.int .i64 ((i : Int) * 2))) (some (.int .i64 ((i : Int) * 2 + 2))) none).run Tryd.prog w = .ok (.string (Lib.smalls.extract (i * 2) (i * 2 + 2))) w := fun w => by
      rw [run_slice_string w 9 Lib.smalls .i64 .i64 _ _ Tryd.underlying9 (by omega) (by omega) (by rw [Lib.smalls_size]; omega), show ((i : Int) * 2).toNat = i * 2 by omega, show ((i : Int) * 2 + 2).toNat = i * 2 + 2 by omega]
    go_wp2
    go_ret
    exact ⟨retS (Nm.dig_of _ _ (by rw [Lib.extract_data]; exact Lib.smalls_piece h10 h)), rfl⟩

set_option maxHeartbeats 1000000 in
theorem format_any (i : Nat) (h : i < 100) (w : World) :
    Calls Tryd.prog 23 #[.int .i64 (i : Int), .int .i64 10] w fun e w' => e = .returned (.string (Nm.dig i)) ∧ w' = w := by
  have HC := small_any i h w
  go_enter Tryd.func23, Tryd.ntmps23
  go_wp2_with (go_at_call 24; refine HC.mono ?_; rintro _ w1 ⟨rfl, he⟩; obtain rfl := he.symm)
  go_ret
  exact ⟨rfl, rfl⟩

theorem itoa0_any (i : Nat) (h : i < 100) (w : World) :
    Calls Tryd.prog 22 #[.int .i64 (i : Int)] w fun e w' => e = .returned (.string (Nm.dig i)) ∧ w' = w := by
  have HC := format_any i h w
  go_enter Tryd.func22, Tryd.ntmps22
  go_wp2_with (go_at_call 23; refine HC.mono ?_; rintro _ w1 ⟨rfl, he⟩; obtain rfl := he.symm)
  go_ret
  exact ⟨rfl, rfl⟩

theorem itoa_any (i : Nat) (h : i < 100) (w : World) :
    Calls Tryd.prog 20 #[.int .i64 (i : Int)] w fun e w' => e = .returned (.string (Nm.dig i)) ∧ w' = w := by
  have HC := itoa0_any i h w
  go_enter Tryd.func20, Tryd.ntmps20
  go_wp2_with (go_at_call 22; refine HC.mono ?_; rintro _ w1 ⟨rfl, he⟩; obtain rfl := he.symm)
  go_ret
  exact ⟨rfl, rfl⟩

theorem conv_digit (i : Nat) (h : i < 10) (w : World) : (convert 36 9 (.slice (some ⟨w.heap.size, 0, none⟩) 1 1)).run Tryd.prog (w.alloc (.cells #[.int .u8 (48 + (i : Int))] 5)) = .ok (.string (Nm.dig i)) (w.alloc (.cells #[.int .u8 (48 + (i : Int))] 5)) := by
  have hb : (w.alloc (.cells #[.int .u8 (48 + (i : Int))] 5)).heap[w.heap.size]? = some (.cells #[.int .u8 (48 + (i : Int))] 5 (0, 0)) := heap_alloc_new w _
  have h0 := run_convert_bytes_arg (P := Tryd.prog) (w.alloc (.cells #[.int .u8 (48 + (i : Int))] 5)) 36 5 Tryd.underlying36 Tryd.underlying5 w.heap.size 0 1 1 [48 + (i : Int)] rfl (fun j hj => by
    obtain rfl : j = 0 := by omega
    exact cell_of_row _ _ 0 _ _ _ hb) 9 Tryd.underlying9
  rw [h0]
  congr 2
  apply Nm.dig_of
  rw [Lib.decDigits_one h]
  have e : ((48 : Int) + (i : Int)).toNat = 48 + i := by omega
  simp [strOfNums, e]

set_option maxHeartbeats 1000000 in
theorem digit_any (i : Nat) (h : i < 10) (w : World) :
    Calls Tryd.prog 21 #[.int .i64 (i : Int)] w fun e w' => e = .returned (.string (Nm.dig i)) ∧ Below w.heap.size w w' := by
  have hcv := conv_digit i h w
  go_enter Tryd.func21, Tryd.ntmps21
  go_wp2
  go_ret
  exact ⟨rfl, (Below.refl _ _).alloc (Nat.le_refl _) _⟩

set_option maxHeartbeats 1000000 in
theorem digits_any (i : Nat) (h : i < 100) (w : World) :
    Calls Tryd.prog 21 #[.int .i64 (i : Int)] w fun e w' => e = .returned (.string (Nm.dig i)) ∧ Below w.heap.size w w' := by
  by_cases h10 : i < 10
  · exact digit_any i h10 w
  have HA := digit_any (i / 10) (by omega) w
  have HB := Lib.hid (fun W => digit_any (i % 10) (by omega) W)
  rw [show ((i / 10 : Nat) : Int) = (i : Int) / 10 by omega] at HA
  rw [show ((i % 10 : Nat) : Int) = (i : Int) % 10 by omega] at HB
  have HD : Hid (Nm.dig (i / 10) ++ Nm.dig (i % 10) = Nm.dig i) := Lib.hid (Nm.dig_two h10 h)
  have hs1 : (Nm.dig (i / 10)).size = 1 := Nm.dig_size1 (by omega)
  have hs2 : (Nm.dig (i % 10)).size = 1 := Nm.dig_size1 (by omega)
  generalize Nm.dig (i / 10) = x at *
  generalize Nm.dig (i % 10) = y at *
  go_enter Tryd.func21, Tryd.ntmps21
  go_wp2_with (first
    | (go_at_call 21; with_reducible refine HA.mono ?_; rintro _ w1 ⟨rfl, b1⟩; clear HA)
    | (go_at_call 21; refine (HB.out w1).mono ?_; rintro _ w2 ⟨rfl, b2⟩))
  go_ret
  exact ⟨retS HD.out, b1.trans (b2.mono b1.size)⟩
end Go.Proofs.YtebdfcelgaeeoaaDoor
