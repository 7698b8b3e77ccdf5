/-
  What the document's Two answers of any operation and any two numbers. Conditions: none but the numbers' kind.
-/
import Derived.Test.YtdenboakcbipdaaDoorWhB
namespace Go.Proofs.YtdenboakcbipdaaDoor
open Go.RowKit

namespace Wh
/-- By -1. -/
theorem tdiv_m1 (a : Int) : wrap64 (-a) = wrap64 (a.tdiv (-1)) := by rw [Int.tdiv_neg, Int.tdiv_one]
theorem tmod_m1 (a : Int) : 0 = a.tmod (-1) := by rw [Int.tmod_neg, Int.tmod_one]
/-- What is left, reckoned around. -/
theorem left_eq (a b : Int) (h : -9223372036854775808 ≤ a ∧ a ≤ 9223372036854775807) : wrap64 (a - wrap64 (wrap64 (a.tdiv b) * b)) = a.tmod b := by
  obtain ⟨c, hc⟩ := wrap_eq (a.tdiv b)
  obtain ⟨d, hd⟩ := wrap_eq (wrap64 (a.tdiv b) * b)
  have hm := tmod_in a b h
  have he := Int.tmod_add_tdiv_mul a b
  have hp : wrap64 (a.tdiv b) * b = a.tdiv b * b - 18446744073709551616 * (c * b) := by rw [hc, Int.sub_mul, Int.mul_assoc]
  refine wrap_of _ _ (-(c * b) - d) ?_ hm.1 hm.2
  rw [hd, hp]
  generalize a.tdiv b * b = p at *
  generalize c * b = q at *
  omega
end Wh

set_option maxRecDepth 100000 in
theorem wrtwo_any (op a b : Int) (w : World) (ha : -9223372036854775808 ≤ a ∧ a ≤ 9223372036854775807) : Calls Tryd.prog 25 #[.int .i64 op, .int .i64 a, .int .i64 b] w (WTwoP op a b w) := by
  rcases Wh.kinds op with rfl | rfl | rfl | rfl | rfl | rfl | rfl | rfl | rfl | ⟨h1, h2, h3, h4, h5, h6, h7, h8, h9⟩
  · go_enter Tryd.func25, Tryd.ntmps25
    go_wp2
    go_ret2
    exact ⟨rfl, rfl⟩
  · go_enter Tryd.func25, Tryd.ntmps25
    go_wp2
    go_ret2
    exact ⟨rfl, rfl⟩
  · go_enter Tryd.func25, Tryd.ntmps25
    go_wp2
    go_ret2
    exact ⟨rfl, rfl⟩
  · have HL := Lib.hid ha
    clear ha
    by_cases hz : b = 0
    · subst hz
      go_enter Tryd.func25, Tryd.ntmps25
      go_wp2
      go_ret2
      exact ⟨rfl, rfl⟩
    have hz' : (b == 0) = false := beq_eq_false_iff_ne.2 hz
    by_cases hm : b = -1
    · subst hm
      go_enter Tryd.func25, Tryd.ntmps25
      go_wp2
      go_ret2
      exact ⟨ret_two (Wh.tdiv_m1 a) rfl, rfl⟩
    · go_enter Tryd.func25, Tryd.ntmps25
      go_wp2
      go_ret2
      refine ⟨ret_two (y := (Wh.two 9 a b).1) (b := (Wh.two 9 a b).2) ?_ ?_, rfl⟩
      · simp [Wh.two, hz]
      · simp [Wh.two, hz]
  · have HL := Lib.hid ha
    clear ha
    by_cases hz : b = 0
    · subst hz
      go_enter Tryd.func25, Tryd.ntmps25
      go_wp2
      go_ret2
      exact ⟨rfl, rfl⟩
    have hz' : (b == 0) = false := beq_eq_false_iff_ne.2 hz
    by_cases hm : b = -1
    · subst hm
      go_enter Tryd.func25, Tryd.ntmps25
      go_wp2
      go_ret2
      exact ⟨ret_two (Wh.tmod_m1 a) rfl, rfl⟩
    · go_enter Tryd.func25, Tryd.ntmps25
      go_wp2
      go_ret2
      refine ⟨ret_two (y := (Wh.two 10 a b).1) (b := (Wh.two 10 a b).2) ?_ ?_, rfl⟩
      · simp only [Wh.two]
        rw [Wh.left_eq a b HL.out]
        simp [hz]
      · simp [Wh.two, hz]
  · go_enter Tryd.func25, Tryd.ntmps25
    go_wp2
    go_ret2
    exact ⟨rfl, rfl⟩
  · go_enter Tryd.func25, Tryd.ntmps25
    go_wp2_with (go_at_call 39; refine (yes_any _ _).mono ?_; rintro _ w1 ⟨rfl, he⟩; obtain rfl := he.symm)
    go_ret2
    exact ⟨rfl, rfl⟩
  · go_enter Tryd.func25, Tryd.ntmps25
    go_wp2_with (go_at_call 39; refine (yes_any _ _).mono ?_; rintro _ w1 ⟨rfl, he⟩; obtain rfl := he.symm)
    go_ret2
    exact ⟨rfl, rfl⟩
  · go_enter Tryd.func25, Tryd.ntmps25
    go_wp2
    go_ret2
    exact ⟨rfl, rfl⟩
  · have d9 : (op == 9) = false := beq_eq_false_iff_ne.2 h4
    have d10 : (op == 10) = false := beq_eq_false_iff_ne.2 h5
    go_enter Tryd.func25, Tryd.ntmps25
    go_wp2
    go_ret2
    refine ⟨ret_two (y := (Wh.two op a b).1) (b := (Wh.two op a b).2) ?_ ?_, rfl⟩
    · simp [Wh.two, h1, h2, h3, h4, h5, h7, h8]
    · simp [Wh.two, h1, h2, h3, h4, h5, h7, h8]
end Go.Proofs.YtdenboakcbipdaaDoor
