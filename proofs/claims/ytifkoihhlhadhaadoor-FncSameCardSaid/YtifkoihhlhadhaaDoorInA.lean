/-
  What the kinds of operands ask, which instruction is known, numbered, right. Conditions: none.
-/
import Derived.Test.YtifkoihhlhadhaaDoorInMath
import Derived.Test.YtifkoihhlhadhaaDoorOpAB
namespace Go.Proofs.YtifkoihhlhadhaaDoor
open Go.RowKit

theorem retBool {a b : Bool} (h : a = b) : Ending.returned (.bool a) = .returned (.bool b) := by rw [h]

set_option maxRecDepth 100000 in
theorem bare_any (op a : Int) (w : World) : Calls Tryd.prog 62 #[.agg #[.int .i64 op, .int .i64 a]] w (BoolP (decide (a = 0)) w) := by
  have he : (op == op) = true := beq_self_eq_true op
  by_cases h : a = 0
  · subst h
    go_enter Tryd.func62, Tryd.ntmps62
    go_wp2
    go_ret
    exact ⟨rfl, (Below.refl _ _).alloc (Nat.le_refl _) _⟩
  · have hb : (a == 0) = false := beq_eq_false_iff_ne.2 h
    go_enter Tryd.func62, Tryd.ntmps62
    go_wp2
    go_ret
    exact ⟨retBool (decide_eq_false h).symm, (Below.refl _ _).alloc (Nat.le_refl _) _⟩

set_option maxRecDepth 100000 in
theorem inbelow_any (op a n : Int) (w : World) : Calls Tryd.prog 67 #[.agg #[.int .i64 op, .int .i64 a], .int .i64 n] w (BoolP (decide (0 ≤ a) && decide (a < n)) w) := by
  by_cases h : 0 ≤ a
  · have h1 : decide (0 ≤ a) = true := decide_eq_true h
    go_enter Tryd.func67, Tryd.ntmps67
    go_wp2
    all_goals
      go_ret
      exact ⟨retBool (by simp [*]), (Below.refl _ _).alloc (Nat.le_refl _) _⟩
  · have h1 : decide (0 ≤ a) = false := decide_eq_false h
    go_enter Tryd.func67, Tryd.ntmps67
    go_wp2
    all_goals
      go_ret
      exact ⟨retBool (by simp [*]), (Below.refl _ _).alloc (Nat.le_refl _) _⟩

set_option maxRecDepth 100000 in
theorem number_s (op a : Int) (w : World) : Calls Tryd.prog 56 #[.agg #[.int .i64 op, .int .i64 a]] w (BoolP true w) := by
  go_enter Tryd.func56, Tryd.ntmps56
  go_wp2
  go_ret
  exact ⟨rfl, (Below.refl _ _).alloc (Nat.le_refl _) _⟩
set_option maxRecDepth 100000 in
theorem slot_s (op a : Int) (w : World) : Calls Tryd.prog 57 #[.agg #[.int .i64 op, .int .i64 a]] w (BoolP (decide (0 ≤ a) && decide (a < 256)) w) := by
  go_enter Tryd.func57, Tryd.ntmps57
  go_wp2_with (go_at_call 67; refine (inbelow_any op a 256 _).mono ?_; rintro _ w1 ⟨rfl, b1⟩)
  go_ret
  exact ⟨rfl, below_self ((Below.refl _ _).alloc (Nat.le_refl _) _) b1⟩
set_option maxRecDepth 100000 in
theorem place_s (op a : Int) (w : World) : Calls Tryd.prog 58 #[.agg #[.int .i64 op, .int .i64 a]] w (BoolP (decide (0 ≤ a) && decide (a < 2000)) w) := by
  go_enter Tryd.func58, Tryd.ntmps58
  go_wp2_with (go_at_call 67; refine (inbelow_any op a 2000 _).mono ?_; rintro _ w1 ⟨rfl, b1⟩)
  go_ret
  exact ⟨rfl, below_self ((Below.refl _ _).alloc (Nat.le_refl _) _) b1⟩
set_option maxRecDepth 100000 in
theorem function_s (op a : Int) (w : World) : Calls Tryd.prog 59 #[.agg #[.int .i64 op, .int .i64 a]] w (BoolP (decide (0 ≤ a) && decide (a < 40)) w) := by
  go_enter Tryd.func59, Tryd.ntmps59
  go_wp2_with (go_at_call 67; refine (inbelow_any op a 40 _).mono ?_; rintro _ w1 ⟨rfl, b1⟩)
  go_ret
  exact ⟨rfl, below_self ((Below.refl _ _).alloc (Nat.le_refl _) _) b1⟩
set_option maxRecDepth 100000 in
theorem result_s (op a : Int) (w : World) : Calls Tryd.prog 60 #[.agg #[.int .i64 op, .int .i64 a]] w (BoolP (decide (0 ≤ a) && decide (a < 4)) w) := by
  go_enter Tryd.func60, Tryd.ntmps60
  go_wp2_with (go_at_call 67; refine (inbelow_any op a 4 _).mono ?_; rintro _ w1 ⟨rfl, b1⟩)
  go_ret
  exact ⟨rfl, below_self ((Below.refl _ _).alloc (Nat.le_refl _) _) b1⟩
set_option maxRecDepth 100000 in
theorem node_s (op a : Int) (w : World) : Calls Tryd.prog 61 #[.agg #[.int .i64 op, .int .i64 a]] w (BoolP (decide (0 ≤ a) && decide (a < 120)) w) := by
  go_enter Tryd.func61, Tryd.ntmps61
  go_wp2_with (go_at_call 67; refine (inbelow_any op a 120 _).mono ?_; rintro _ w1 ⟨rfl, b1⟩)
  go_ret
  exact ⟨rfl, below_self ((Below.refl _ _).alloc (Nat.le_refl _) _) b1⟩

/-- The method that a kind asks. -/
def mayF (k : Int) : Nat := if k = 1 then 56 else if k = 2 then 57 else if k = 3 then 58 else if k = 4 then 59 else if k = 5 then 60 else if k = 6 then 61 else 62
def MayP (f : Nat) (w : World) (e : Ending) (w' : World) : Prop := e = .returned (.func (.func f) #[] #[]) ∧ w' = w
set_option maxRecDepth 100000 in
theorem inmay_any (k : Int) (h : 0 ≤ k ∧ k ≤ 6) (w : World) : Calls Tryd.prog 44 #[.int .i64 k] w (MayP (mayF k) w) := by
  obtain rfl | rfl | rfl | rfl | rfl | rfl | rfl : k = 0 ∨ k = 1 ∨ k = 2 ∨ k = 3 ∨ k = 4 ∨ k = 5 ∨ k = 6 := by omega
  all_goals
    go_enter Tryd.func44, Tryd.ntmps44
    go_wp2
    go_ret
    exact ⟨rfl, rfl⟩

set_option maxRecDepth 100000 in
theorem known_any (op : Int) (w : World) : Calls Tryd.prog 43 #[.int .i64 op] w fun e w' => e = .returned (.bool (In.known op)) ∧ w' = w := by
  by_cases h : 0 ≤ op
  · have h1 : decide (0 ≤ op) = true := decide_eq_true h
    go_enter Tryd.func43, Tryd.ntmps43
    go_wp2
    all_goals
      go_ret
      exact ⟨retBool (by simp [In.known, *]), rfl⟩
  · have h1 : decide (0 ≤ op) = false := decide_eq_false h
    go_enter Tryd.func43, Tryd.ntmps43
    go_wp2
    all_goals
      go_ret
      exact ⟨retBool (by simp [In.known, *]), rfl⟩

set_option maxRecDepth 100000 in
/-- The method that a kind asks, asked. -/
theorem asked_any (k : Int) (h : 0 ≤ k ∧ k ≤ 6) (op a : Int) (w : World) : Calls Tryd.prog (mayF k) #[.agg #[.int .i64 op, .int .i64 a]] w (BoolP (In.fits k a) w) := by
  obtain rfl | rfl | rfl | rfl | rfl | rfl | rfl : k = 0 ∨ k = 1 ∨ k = 2 ∨ k = 3 ∨ k = 4 ∨ k = 5 ∨ k = 6 := by omega
  · rw [show In.fits 0 a = decide (a = 0) by unfold In.fits In.bound; rw [Bool.eq_iff_iff]; simp; omega]
    exact bare_any op a w
  · exact number_s op a w
  · exact slot_s op a w
  · exact place_s op a w
  · exact function_s op a w
  · exact result_s op a w
  · exact node_s op a w
end Go.Proofs.YtifkoihhlhadhaaDoor
