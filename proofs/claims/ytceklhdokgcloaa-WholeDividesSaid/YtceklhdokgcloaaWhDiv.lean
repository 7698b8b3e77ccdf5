/-
  What Div and Mod tell is what was divided, walked. Conditions: none but the numbers' kind.
-/
import Derived.Test.YtceklhdokgcloaaWhLaw
namespace Go.Proofs.Ytceklhdokgcloaa
open Go.RowKit

namespace Wh
/-- What was divided. -/
theorem whole_eq (a b : Int) (h : -9223372036854775808 ≤ a ∧ a ≤ 9223372036854775807) : wrap64 (wrap64 (wrap64 (a.tdiv b) * b) + a.tmod b) = a := by
  obtain ⟨c, hc⟩ := wrap_eq (a.tdiv b)
  obtain ⟨d, hd⟩ := wrap_eq (wrap64 (a.tdiv b) * b)
  have he := Int.tmod_add_tdiv_mul a b
  have hp : wrap64 (a.tdiv b) * b = a.tdiv b * b - 18446744073709551616 * (c * b) := by rw [hc, Int.sub_mul, Int.mul_assoc]
  refine wrap_of _ _ (c * b + d) ?_ h.1 h.2
  rw [hd, hp]
  generalize a.tdiv b * b = p at *
  generalize c * b = q at *
  omega
/-- What is left is nearer to 0 than b, and of a's sign. -/
theorem near (a b : Int) (hb : b ≠ 0) : a.tmod b = 0 ∨ (a.tmod b < 0 ∧ a < 0 ∧ b < 0 ∧ b < a.tmod b) ∨ (a.tmod b < 0 ∧ a < 0 ∧ 0 < b ∧ -b < a.tmod b) ∨ (0 < a.tmod b ∧ 0 ≤ a ∧ b < 0 ∧ b < -(a.tmod b)) ∨ (0 < a.tmod b ∧ 0 ≤ a ∧ 0 < b ∧ a.tmod b < b) := by
  have h1 : (a.tmod b).natAbs < b.natAbs := by rw [Int.natAbs_tmod]; exact Nat.mod_lt _ (by omega)
  rcases Int.le_total 0 a with h0 | h0
  · have := Int.tmod_nonneg b h0
    omega
  · have h2 := Int.tmod_nonneg b (show 0 ≤ -a by omega)
    rw [Int.neg_tmod] at h2
    by_cases ha : a = 0
    · subst ha
      left
      exact Int.zero_tmod b
    · omega
end Wh

set_option maxRecDepth 100000 in
theorem wholeDivides_walk (a b : Int) (w : World) (ha : -9223372036854775808 ≤ a ∧ a ≤ 9223372036854775807) (hb : -9223372036854775808 ≤ b ∧ b ≤ 9223372036854775807) : Calls Try.prog 5 #[.int .i64 a, .int .i64 b] w fun e w' => e = .returned (.bool true) ∧ w' = w := by
  have H5 := lives_any w
  by_cases hz : b = 0
  · subst hz
    have H1 : Calls Try.prog 6 #[.int .i64 9, .int .i64 a, .int .i64 0] w fun e w' => e = .returned (.tuple #[.int .i64 0, .bool false]) ∧ w' = w := two_any 9 a 0 w
    have H2 : Calls Try.prog 6 #[.int .i64 10, .int .i64 a, .int .i64 0] w fun e w' => e = .returned (.tuple #[.int .i64 0, .bool false]) ∧ w' = w := two_any 10 a 0 w
    clear ha hb
    go_enter Try.func5, Try.ntmps5
    go_wp2_with (first
      | (go_at_call 6; with_reducible refine H1.mono ?_; rintro _ w1 ⟨rfl, he⟩; obtain rfl := he.symm)
      | (go_at_call 6; with_reducible refine H2.mono ?_; rintro _ w1 ⟨rfl, he⟩; obtain rfl := he.symm)
      | (go_at_call 10; with_reducible refine H5.mono ?_; rintro _ w1 ⟨rfl, he⟩; obtain rfl := he.symm))
    go_ret
    exact ⟨rfl, rfl⟩
  have H1 : Calls Try.prog 6 #[.int .i64 9, .int .i64 a, .int .i64 b] w fun e w' => e = .returned (.tuple #[.int .i64 (wrap64 (a.tdiv b)), .bool true]) ∧ w' = w := by
    refine (two_any 9 a b w).mono ?_
    rintro _ w' ⟨rfl, h⟩
    exact ⟨ret_two (by simp [Wh.two, hz]) (by simp [Wh.two, hz]), h⟩
  have H2 : Calls Try.prog 6 #[.int .i64 10, .int .i64 a, .int .i64 b] w fun e w' => e = .returned (.tuple #[.int .i64 (a.tmod b), .bool true]) ∧ w' = w := by
    refine (two_any 10 a b w).mono ?_
    rintro _ w' ⟨rfl, h⟩
    exact ⟨ret_two (by simp [Wh.two, hz]) (by simp [Wh.two, hz]), h⟩
  have H3 : ∀ q, Calls Try.prog 6 #[.int .i64 8, .int .i64 q, .int .i64 b] w fun e w' => e = .returned (.tuple #[.int .i64 (wrap64 (q * b)), .bool true]) ∧ w' = w := fun q => two_any 8 q b w
  have H4 : ∀ p, Calls Try.prog 6 #[.int .i64 6, .int .i64 p, .int .i64 (a.tmod b)] w fun e w' => e = .returned (.tuple #[.int .i64 (wrap64 (p + a.tmod b)), .bool true]) ∧ w' = w := fun p => two_any 6 p _ w
  replace H3 := H3 (wrap64 (a.tdiv b))
  replace H4 := H4 (wrap64 (wrap64 (a.tdiv b) * b))
  rw [Wh.whole_eq a b ha] at H4
  have hn := Wh.near a b hz
  have hr := Wh.tmod_in a b ha
  have hz' : (b == 0) = false := beq_eq_false_iff_ne.2 hz
  have hs : (a == a) = true := beq_self_eq_true a
  generalize wrap64 (wrap64 (a.tdiv b) * b) = p at *
  generalize wrap64 (a.tdiv b) = q at *
  generalize a.tmod b = r at *
  rcases hn with rfl | ⟨h1, h2, h3, h4⟩ | ⟨h1, h2, h3, h4⟩ | ⟨h1, h2, h3, h4⟩ | ⟨h1, h2, h3, h4⟩
  · go_enter Try.func5, Try.ntmps5
    go_wp2_with (first
      | (go_at_call 6; with_reducible refine H1.mono ?_; rintro _ w1 ⟨rfl, he⟩; obtain rfl := he.symm)
      | (go_at_call 6; with_reducible refine H2.mono ?_; rintro _ w1 ⟨rfl, he⟩; obtain rfl := he.symm)
      | (go_at_call 6; with_reducible refine H3.mono ?_; rintro _ w1 ⟨rfl, he⟩; obtain rfl := he.symm)
      | (go_at_call 6; with_reducible refine H4.mono ?_; rintro _ w1 ⟨rfl, he⟩; obtain rfl := he.symm)
      | (go_at_call 10; with_reducible refine H5.mono ?_; rintro _ w1 ⟨rfl, he⟩; obtain rfl := he.symm))
    go_ret
    exact ⟨rfl, rfl⟩
  all_goals have hr0 : (r == 0) = false := beq_eq_false_iff_ne.2 (by omega)
  · go_enter Try.func5, Try.ntmps5
    go_wp2_with (first
      | (go_at_call 6; with_reducible refine H1.mono ?_; rintro _ w1 ⟨rfl, he⟩; obtain rfl := he.symm)
      | (go_at_call 6; with_reducible refine H2.mono ?_; rintro _ w1 ⟨rfl, he⟩; obtain rfl := he.symm)
      | (go_at_call 6; with_reducible refine H3.mono ?_; rintro _ w1 ⟨rfl, he⟩; obtain rfl := he.symm)
      | (go_at_call 6; with_reducible refine H4.mono ?_; rintro _ w1 ⟨rfl, he⟩; obtain rfl := he.symm)
      | (go_at_call 10; with_reducible refine H5.mono ?_; rintro _ w1 ⟨rfl, he⟩; obtain rfl := he.symm))
    go_ret
    exact ⟨rfl, rfl⟩
  · have d1 : decide (b < 0) = false := decide_eq_false (by omega)
    have d2 : decide (0 < r) = false := decide_eq_false (by omega)
    go_enter Try.func5, Try.ntmps5
    go_wp2_with (first
      | (go_at_call 6; with_reducible refine H1.mono ?_; rintro _ w1 ⟨rfl, he⟩; obtain rfl := he.symm)
      | (go_at_call 6; with_reducible refine H2.mono ?_; rintro _ w1 ⟨rfl, he⟩; obtain rfl := he.symm)
      | (go_at_call 6; with_reducible refine H3.mono ?_; rintro _ w1 ⟨rfl, he⟩; obtain rfl := he.symm)
      | (go_at_call 6; with_reducible refine H4.mono ?_; rintro _ w1 ⟨rfl, he⟩; obtain rfl := he.symm)
      | (go_at_call 10; with_reducible refine H5.mono ?_; rintro _ w1 ⟨rfl, he⟩; obtain rfl := he.symm))
    go_ret
    exact ⟨rfl, rfl⟩
  · have d1 : decide (r < 0) = false := decide_eq_false (by omega)
    have d2 : decide (a < 0) = false := decide_eq_false (by omega)
    go_enter Try.func5, Try.ntmps5
    go_wp2_with (first
      | (go_at_call 6; with_reducible refine H1.mono ?_; rintro _ w1 ⟨rfl, he⟩; obtain rfl := he.symm)
      | (go_at_call 6; with_reducible refine H2.mono ?_; rintro _ w1 ⟨rfl, he⟩; obtain rfl := he.symm)
      | (go_at_call 6; with_reducible refine H3.mono ?_; rintro _ w1 ⟨rfl, he⟩; obtain rfl := he.symm)
      | (go_at_call 6; with_reducible refine H4.mono ?_; rintro _ w1 ⟨rfl, he⟩; obtain rfl := he.symm)
      | (go_at_call 10; with_reducible refine H5.mono ?_; rintro _ w1 ⟨rfl, he⟩; obtain rfl := he.symm))
    go_ret
    exact ⟨rfl, rfl⟩
  · have d1 : decide (r < 0) = false := decide_eq_false (by omega)
    have d2 : decide (a < 0) = false := decide_eq_false (by omega)
    have d3 : decide (b < 0) = false := decide_eq_false (by omega)
    go_enter Try.func5, Try.ntmps5
    go_wp2_with (first
      | (go_at_call 6; with_reducible refine H1.mono ?_; rintro _ w1 ⟨rfl, he⟩; obtain rfl := he.symm)
      | (go_at_call 6; with_reducible refine H2.mono ?_; rintro _ w1 ⟨rfl, he⟩; obtain rfl := he.symm)
      | (go_at_call 6; with_reducible refine H3.mono ?_; rintro _ w1 ⟨rfl, he⟩; obtain rfl := he.symm)
      | (go_at_call 6; with_reducible refine H4.mono ?_; rintro _ w1 ⟨rfl, he⟩; obtain rfl := he.symm)
      | (go_at_call 10; with_reducible refine H5.mono ?_; rintro _ w1 ⟨rfl, he⟩; obtain rfl := he.symm))
    go_ret
    exact ⟨rfl, rfl⟩
end Go.Proofs.Ytceklhdokgcloaa
