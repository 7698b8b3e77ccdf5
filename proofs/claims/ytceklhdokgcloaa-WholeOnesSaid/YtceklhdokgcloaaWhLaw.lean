/-
  The statements on whole numbers, walked. Conditions: none but the numbers' kind.
-/
import Derived.Test.YtceklhdokgcloaaWhC
namespace Go.Proofs.Ytceklhdokgcloaa
open Go.RowKit

theorem Wh.eleven (w : World) : Calls Try.prog 6 #[.int .i64 9, .int .i64 (-7), .int .i64 2] w fun e w' => e = .returned (.tuple #[.int .i64 (-3), .bool true]) ∧ w' = w := by
  refine (two_any 9 (-7) 2 w).mono ?_
  rintro _ w' ⟨rfl, h⟩
  exact ⟨ret_two (by simp only [Wh.two]; unfold wrap64; decide) rfl, h⟩

set_option maxRecDepth 100000 in
theorem lives_any (w : World) : Calls Try.prog 10 #[] w fun e w' => e = .returned (.bool true) ∧ w' = w := by
  have H1 := Wh.eleven w
  have H2 : Calls Try.prog 6 #[.int .i64 10, .int .i64 (-7), .int .i64 2] w fun e w' => e = .returned (.tuple #[.int .i64 (-1), .bool true]) ∧ w' = w := two_any 10 (-7) 2 w
  have H3 : Calls Try.prog 6 #[.int .i64 9, .int .i64 1, .int .i64 0] w fun e w' => e = .returned (.tuple #[.int .i64 0, .bool false]) ∧ w' = w := two_any 9 1 0 w
  have H4 : Calls Try.prog 11 #[.int .i64 14, .int .i64 0] w fun e w' => e = .returned (.int .i64 1) ∧ w' = w := one_any 14 0 w
  go_enter Try.func10, Try.ntmps10
  go_wp2_with (first
    | (go_at_call 6; with_reducible refine H1.mono ?_; rintro _ w1 ⟨rfl, he⟩; obtain rfl := he.symm)
    | (go_at_call 6; with_reducible refine H2.mono ?_; rintro _ w1 ⟨rfl, he⟩; obtain rfl := he.symm)
    | (go_at_call 6; with_reducible refine H3.mono ?_; rintro _ w1 ⟨rfl, he⟩; obtain rfl := he.symm)
    | (go_at_call 11; with_reducible refine H4.mono ?_; rintro _ w1 ⟨rfl, he⟩; obtain rfl := he.symm))
  go_ret
  exact ⟨rfl, rfl⟩

set_option maxRecDepth 100000 in
theorem wholeTwos_walk (op a b : Int) (w : World) (ha : -9223372036854775808 ≤ a ∧ a ≤ 9223372036854775807) : Calls Try.prog 3 #[.int .i64 op, .int .i64 a, .int .i64 b] w fun e w' => e = .returned (.bool true) ∧ w' = w := by
  have H1 : Calls Try.prog 6 #[.int .i64 op, .int .i64 a, .int .i64 b] w fun e w' => e = .returned (.tuple #[.int .i64 (Wh.two op a b).1, .bool (Wh.two op a b).2]) ∧ w' = w := two_any op a b w
  have H2 : Calls Try.prog 7 #[.int .i64 op, .int .i64 a, .int .i64 b] w fun e w' => e = .returned (.tuple #[.int .i64 (Wh.two op a b).1, .bool (Wh.two op a b).2]) ∧ w' = w := rtwo_any op a b w ha
  have H3 := takes_any op w
  have H4 := rtakes_any op w
  have H5 := lives_any w
  clear ha
  generalize (Wh.two op a b).1 = x at *
  generalize (Wh.two op a b).2 = t at *
  generalize Wh.takes op = n at *
  have hx : (x == x) = true := beq_self_eq_true x
  have hn : (n == n) = true := beq_self_eq_true n
  cases t
  all_goals
    go_enter Try.func3, Try.ntmps3
    go_wp2_with (first
      | (go_at_call 6; with_reducible refine H1.mono ?_; rintro _ w1 ⟨rfl, he⟩; obtain rfl := he.symm)
      | (go_at_call 7; with_reducible refine H2.mono ?_; rintro _ w1 ⟨rfl, he⟩; obtain rfl := he.symm)
      | (go_at_call 8; with_reducible refine H3.mono ?_; rintro _ w1 ⟨rfl, he⟩; obtain rfl := he.symm)
      | (go_at_call 9; with_reducible refine H4.mono ?_; rintro _ w1 ⟨rfl, he⟩; obtain rfl := he.symm)
      | (go_at_call 10; with_reducible refine H5.mono ?_; rintro _ w1 ⟨rfl, he⟩; obtain rfl := he.symm))
    go_ret
    exact ⟨rfl, rfl⟩

set_option maxRecDepth 100000 in
theorem wholeOnes_walk (op a : Int) (w : World) : Calls Try.prog 4 #[.int .i64 op, .int .i64 a] w fun e w' => e = .returned (.bool true) ∧ w' = w := by
  have H1 := one_any op a w
  have H2 := rone_any op a w
  have H5 := lives_any w
  generalize Wh.one op a = x at *
  have hx : (x == x) = true := beq_self_eq_true x
  go_enter Try.func4, Try.ntmps4
  go_wp2_with (first
    | (go_at_call 11; with_reducible refine H1.mono ?_; rintro _ w1 ⟨rfl, he⟩; obtain rfl := he.symm)
    | (go_at_call 12; with_reducible refine H2.mono ?_; rintro _ w1 ⟨rfl, he⟩; obtain rfl := he.symm)
    | (go_at_call 10; with_reducible refine H5.mono ?_; rintro _ w1 ⟨rfl, he⟩; obtain rfl := he.symm))
  go_ret
  exact ⟨rfl, rfl⟩
end Go.Proofs.Ytceklhdokgcloaa
