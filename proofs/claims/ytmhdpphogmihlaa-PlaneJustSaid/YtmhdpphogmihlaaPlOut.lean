/-
  The walk of PlaneJust. Conditions: none but the numbers' kind.
-/
import Derived.Test.YtmhdpphogmihlaaPlC
import Derived.BigQuiet
import Derived.Deep.QuietTactic
import Derived.Handy
namespace Go.Proofs.Ytmhdpphogmihlaa
open Go.RowKit

set_option maxHeartbeats 2000000 in
set_option maxRecDepth 100000 in
theorem just_out00 (a0 a1 b0 b1 : Int) (w : World) (y0 : a0 < -1048576) : Calls Try.prog 4 #[.agg #[.int .i64 a0, .int .i64 a1], .agg #[.int .i64 b0, .int .i64 b1]] w (BoolP true w) := by
  go_enter Try.func4, Try.ntmps4
  go_wp2
  refine wp_loop_rounds 3 ?_
  rw [rounds_succ]
  go_wp2_with (go_at_call 13; refine (lives_any _).mono ?_; rintro _ w1 ⟨rfl, he⟩; obtain rfl := he.symm)
  go_ret
  exact ⟨rfl, ((Below.refl _ w).alloc (Nat.le_refl _) _).alloc (by simp) _⟩

set_option maxHeartbeats 2000000 in
set_option maxRecDepth 100000 in
theorem just_out01 (a0 a1 b0 b1 : Int) (w : World) (n00 : decide (a0 < -1048576) = false) (y0 : 1048576 < a0) : Calls Try.prog 4 #[.agg #[.int .i64 a0, .int .i64 a1], .agg #[.int .i64 b0, .int .i64 b1]] w (BoolP true w) := by
  go_enter Try.func4, Try.ntmps4
  go_wp2
  refine wp_loop_rounds 3 ?_
  rw [rounds_succ]
  go_wp2_with (go_at_call 13; refine (lives_any _).mono ?_; rintro _ w1 ⟨rfl, he⟩; obtain rfl := he.symm)
  go_ret
  exact ⟨rfl, ((Below.refl _ w).alloc (Nat.le_refl _) _).alloc (by simp) _⟩

set_option maxHeartbeats 2000000 in
set_option maxRecDepth 100000 in
theorem just_out02 (a0 a1 b0 b1 : Int) (w : World) (n00 : decide (a0 < -1048576) = false) (n01 : decide (1048576 < a0) = false) (y0 : b0 < -1048576) : Calls Try.prog 4 #[.agg #[.int .i64 a0, .int .i64 a1], .agg #[.int .i64 b0, .int .i64 b1]] w (BoolP true w) := by
  go_enter Try.func4, Try.ntmps4
  go_wp2
  refine wp_loop_rounds 3 ?_
  rw [rounds_succ]
  go_wp2_with (go_at_call 13; refine (lives_any _).mono ?_; rintro _ w1 ⟨rfl, he⟩; obtain rfl := he.symm)
  go_ret
  exact ⟨rfl, ((Below.refl _ w).alloc (Nat.le_refl _) _).alloc (by simp) _⟩

set_option maxHeartbeats 2000000 in
set_option maxRecDepth 100000 in
theorem just_out03 (a0 a1 b0 b1 : Int) (w : World) (n00 : decide (a0 < -1048576) = false) (n01 : decide (1048576 < a0) = false) (n02 : decide (b0 < -1048576) = false) (y0 : 1048576 < b0) : Calls Try.prog 4 #[.agg #[.int .i64 a0, .int .i64 a1], .agg #[.int .i64 b0, .int .i64 b1]] w (BoolP true w) := by
  go_enter Try.func4, Try.ntmps4
  go_wp2
  refine wp_loop_rounds 3 ?_
  rw [rounds_succ]
  go_wp2_with (go_at_call 13; refine (lives_any _).mono ?_; rintro _ w1 ⟨rfl, he⟩; obtain rfl := he.symm)
  go_ret
  exact ⟨rfl, ((Below.refl _ w).alloc (Nat.le_refl _) _).alloc (by simp) _⟩

set_option maxHeartbeats 2000000 in
set_option maxRecDepth 100000 in
theorem just_out10 (a0 a1 b0 b1 : Int) (w : World) (n00 : decide (a0 < -1048576) = false) (n01 : decide (1048576 < a0) = false) (n02 : decide (b0 < -1048576) = false) (n03 : decide (1048576 < b0) = false) (y1 : a1 < -1048576) : Calls Try.prog 4 #[.agg #[.int .i64 a0, .int .i64 a1], .agg #[.int .i64 b0, .int .i64 b1]] w (BoolP true w) := by
  go_enter Try.func4, Try.ntmps4
  go_wp2
  refine wp_loop_rounds 3 ?_
  rw [rounds_succ]
  go_wp2
  rw [rounds_succ]
  go_wp2_with (go_at_call 13; refine (lives_any _).mono ?_; rintro _ w1 ⟨rfl, he⟩; obtain rfl := he.symm)
  go_ret
  exact ⟨rfl, ((Below.refl _ w).alloc (Nat.le_refl _) _).alloc (by simp) _⟩

set_option maxHeartbeats 2000000 in
set_option maxRecDepth 100000 in
theorem just_out11 (a0 a1 b0 b1 : Int) (w : World) (n00 : decide (a0 < -1048576) = false) (n01 : decide (1048576 < a0) = false) (n02 : decide (b0 < -1048576) = false) (n03 : decide (1048576 < b0) = false) (n10 : decide (a1 < -1048576) = false) (y1 : 1048576 < a1) : Calls Try.prog 4 #[.agg #[.int .i64 a0, .int .i64 a1], .agg #[.int .i64 b0, .int .i64 b1]] w (BoolP true w) := by
  go_enter Try.func4, Try.ntmps4
  go_wp2
  refine wp_loop_rounds 3 ?_
  rw [rounds_succ]
  go_wp2
  rw [rounds_succ]
  go_wp2_with (go_at_call 13; refine (lives_any _).mono ?_; rintro _ w1 ⟨rfl, he⟩; obtain rfl := he.symm)
  go_ret
  exact ⟨rfl, ((Below.refl _ w).alloc (Nat.le_refl _) _).alloc (by simp) _⟩

set_option maxHeartbeats 2000000 in
set_option maxRecDepth 100000 in
theorem just_out12 (a0 a1 b0 b1 : Int) (w : World) (n00 : decide (a0 < -1048576) = false) (n01 : decide (1048576 < a0) = false) (n02 : decide (b0 < -1048576) = false) (n03 : decide (1048576 < b0) = false) (n10 : decide (a1 < -1048576) = false) (n11 : decide (1048576 < a1) = false) (y1 : b1 < -1048576) : Calls Try.prog 4 #[.agg #[.int .i64 a0, .int .i64 a1], .agg #[.int .i64 b0, .int .i64 b1]] w (BoolP true w) := by
  go_enter Try.func4, Try.ntmps4
  go_wp2
  refine wp_loop_rounds 3 ?_
  rw [rounds_succ]
  go_wp2
  rw [rounds_succ]
  go_wp2_with (go_at_call 13; refine (lives_any _).mono ?_; rintro _ w1 ⟨rfl, he⟩; obtain rfl := he.symm)
  go_ret
  exact ⟨rfl, ((Below.refl _ w).alloc (Nat.le_refl _) _).alloc (by simp) _⟩

set_option maxHeartbeats 2000000 in
set_option maxRecDepth 100000 in
theorem just_out13 (a0 a1 b0 b1 : Int) (w : World) (n00 : decide (a0 < -1048576) = false) (n01 : decide (1048576 < a0) = false) (n02 : decide (b0 < -1048576) = false) (n03 : decide (1048576 < b0) = false) (n10 : decide (a1 < -1048576) = false) (n11 : decide (1048576 < a1) = false) (n12 : decide (b1 < -1048576) = false) (y1 : 1048576 < b1) : Calls Try.prog 4 #[.agg #[.int .i64 a0, .int .i64 a1], .agg #[.int .i64 b0, .int .i64 b1]] w (BoolP true w) := by
  go_enter Try.func4, Try.ntmps4
  go_wp2
  refine wp_loop_rounds 3 ?_
  rw [rounds_succ]
  go_wp2
  rw [rounds_succ]
  go_wp2_with (go_at_call 13; refine (lives_any _).mono ?_; rintro _ w1 ⟨rfl, he⟩; obtain rfl := he.symm)
  go_ret
  exact ⟨rfl, ((Below.refl _ w).alloc (Nat.le_refl _) _).alloc (by simp) _⟩

end Go.Proofs.Ytmhdpphogmihlaa
