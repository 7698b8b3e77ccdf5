/-
  What whole.Two answers of any operation and any two numbers. Conditions: none but the numbers' kind.
-/
import Derived.Test.YtdenboakcbipdaaDoorWhA
namespace Go.Proofs.YtdenboakcbipdaaDoor
open Go.RowKit

namespace Wh
theorem wrap_eq (x : Int) : ∃ c, wrap64 x = x - 18446744073709551616 * c := ⟨(x + 9223372036854775808) / 18446744073709551616, by unfold wrap64; omega⟩
theorem wrap_in (x : Int) : -9223372036854775808 ≤ wrap64 x ∧ wrap64 x ≤ 9223372036854775807 := by unfold wrap64; omega
/-- What differs by whole rounds, and is of the kind, is the number itself. -/
theorem wrap_of (x y c : Int) (h : x = y - 18446744073709551616 * c) (h1 : -9223372036854775808 ≤ y) (h2 : y ≤ 9223372036854775807) : wrap64 x = y := by unfold wrap64; omega
theorem wrap_sub (a b : Int) : wrap64 (a + wrap64 (-b)) = wrap64 (a - b) := by unfold wrap64; omega
theorem tmod_small (a b : Int) : (a.tmod b).natAbs ≤ a.natAbs := by rw [Int.natAbs_tmod]; exact Nat.mod_le _ _
theorem tmod_in (a b : Int) (h : -9223372036854775808 ≤ a ∧ a ≤ 9223372036854775807) : -9223372036854775808 ≤ a.tmod b ∧ a.tmod b ≤ 9223372036854775807 := by
  have h1 := tmod_small a b
  rcases Int.le_total 0 a with h0 | h0
  · have := Int.tmod_nonneg b h0
    omega
  · have h2 := Int.tmod_nonneg b (show 0 ≤ -a by omega)
    rw [Int.neg_tmod] at h2
    omega
end Wh

theorem ret_two {x y : Int} {a b : Bool} (h : x = y) (h' : a = b) : Ending.returned (.tuple #[.int .i64 x, .bool a]) = .returned (.tuple #[.int .i64 y, .bool b]) := by rw [h, h']

/-- What Two answers: a number, and whether there is one. -/
def WTwoP (op a b : Int) (w : World) (e : Ending) (w' : World) : Prop := e = .returned (.tuple #[.int .i64 (Wh.two op a b).1, .bool (Wh.two op a b).2]) ∧ w' = w

set_option maxRecDepth 100000 in
theorem wtwo_any (op a b : Int) (w : World) : Calls Tryd.prog 38 #[.int .i64 op, .int .i64 a, .int .i64 b] w (WTwoP op a b w) := by
  rcases Wh.kinds op with rfl | rfl | rfl | rfl | rfl | rfl | rfl | rfl | rfl | ⟨h1, h2, h3, h4, h5, h6, h7, h8, h9⟩
  · go_enter Tryd.func38, Tryd.ntmps38
    go_wp2
    go_ret2
    exact ⟨rfl, rfl⟩
  · go_enter Tryd.func38, Tryd.ntmps38
    go_wp2
    go_ret2
    exact ⟨ret_two (Wh.wrap_sub a b) rfl, rfl⟩
  · go_enter Tryd.func38, Tryd.ntmps38
    go_wp2
    go_ret2
    exact ⟨rfl, rfl⟩
  · by_cases hz : b = 0
    · subst hz
      go_enter Tryd.func38, Tryd.ntmps38
      go_wp2
      go_ret2
      exact ⟨rfl, rfl⟩
    · go_enter Tryd.func38, Tryd.ntmps38
      go_wp2
      go_ret2
      refine ⟨ret_two (y := (Wh.two 9 a b).1) (b := (Wh.two 9 a b).2) ?_ ?_, rfl⟩
      · simp [Wh.two, hz]
      · simp [Wh.two, hz]
  · by_cases hz : b = 0
    · subst hz
      go_enter Tryd.func38, Tryd.ntmps38
      go_wp2
      go_ret2
      exact ⟨rfl, rfl⟩
    · go_enter Tryd.func38, Tryd.ntmps38
      go_wp2
      go_ret2
      refine ⟨ret_two (y := (Wh.two 10 a b).1) (b := (Wh.two 10 a b).2) ?_ ?_, rfl⟩
      · simp [Wh.two, hz]
      · simp [Wh.two, hz]
  · go_enter Tryd.func38, Tryd.ntmps38
    go_wp2
    go_ret2
    exact ⟨rfl, rfl⟩
  · go_enter Tryd.func38, Tryd.ntmps38
    go_wp2_with (go_at_call 46; refine (truth_any _ _).mono ?_; rintro _ w1 ⟨rfl, he⟩; obtain rfl := he.symm)
    go_ret2
    exact ⟨rfl, rfl⟩
  · go_enter Tryd.func38, Tryd.ntmps38
    go_wp2_with (go_at_call 46; refine (truth_any _ _).mono ?_; rintro _ w1 ⟨rfl, he⟩; obtain rfl := he.symm)
    go_ret2
    exact ⟨rfl, rfl⟩
  · go_enter Tryd.func38, Tryd.ntmps38
    go_wp2
    go_ret2
    exact ⟨rfl, rfl⟩
  · go_enter Tryd.func38, Tryd.ntmps38
    go_wp2
    go_ret2
    refine ⟨ret_two (y := (Wh.two op a b).1) (b := (Wh.two op a b).2) ?_ ?_, rfl⟩
    · simp [Wh.two, h1, h2, h3, h4, h5, h7, h8]
    · simp [Wh.two, h1, h2, h3, h4, h5, h7, h8]
end Go.Proofs.YtdenboakcbipdaaDoor
