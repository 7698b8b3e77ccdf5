/-
  What whole.Takes, whole.One, whole.Two and the document's own answer of any operation and any numbers. Conditions: none but the numbers' kind.
-/
import Derived.Test.YtdenboakcbipdaaDoorBase
namespace Go.Proofs.YtdenboakcbipdaaDoor
open Go.RowKit

namespace Wh
/-- How many numbers an operation takes. -/
def takes (op : Int) : Int := if op = 6 ∨ op = 7 ∨ op = 8 ∨ op = 9 ∨ op = 10 ∨ op = 12 ∨ op = 13 then 2 else if op = 11 ∨ op = 14 then 1 else 0
/-- 1 of what is so. -/
def yes (b : Bool) : Int := if b then 1 else 0
/-- What an operation makes of one number. -/
def one (op a : Int) : Int := if op = 11 then wrap64 (0 - a) else if op = 14 then yes (a == 0) else 0
/-- What an operation makes of two numbers. -/
def two (op a b : Int) : Int × Bool :=
  if op = 6 then (wrap64 (a + b), true) else if op = 7 then (wrap64 (a - b), true) else if op = 8 then (wrap64 (a * b), true)
  else if op = 9 then (if b = 0 then (0, false) else (wrap64 (a.tdiv b), true))
  else if op = 10 then (if b = 0 then (0, false) else (a.tmod b, true))
  else if op = 12 then (yes (decide (a < b)), true) else if op = 13 then (yes (a == b), true) else (0, false)
/-- The kinds of operations. -/
theorem kinds (op : Int) : op = 6 ∨ op = 7 ∨ op = 8 ∨ op = 9 ∨ op = 10 ∨ op = 11 ∨ op = 12 ∨ op = 13 ∨ op = 14 ∨ (op ≠ 6 ∧ op ≠ 7 ∧ op ≠ 8 ∧ op ≠ 9 ∧ op ≠ 10 ∧ op ≠ 11 ∧ op ≠ 12 ∧ op ≠ 13 ∧ op ≠ 14) := by omega
end Wh

theorem truth_any (b : Bool) (w : World) : Calls Tryd.prog 46 #[.bool b] w fun e w' => e = .returned (.int .i64 (Wh.yes b)) ∧ w' = w := by
  cases b
  all_goals
    go_enter Tryd.func46, Tryd.ntmps46
    go_wp2
    go_ret
    exact ⟨rfl, rfl⟩

theorem yes_any (b : Bool) (w : World) : Calls Tryd.prog 39 #[.bool b] w fun e w' => e = .returned (.int .i64 (Wh.yes b)) ∧ w' = w := by
  cases b
  all_goals
    go_enter Tryd.func39, Tryd.ntmps39
    go_wp2
    go_ret
    exact ⟨rfl, rfl⟩

theorem takes_any (op : Int) (w : World) : Calls Tryd.prog 33 #[.int .i64 op] w fun e w' => e = .returned (.int .i64 (Wh.takes op)) ∧ w' = w := by
  rcases Wh.kinds op with rfl | rfl | rfl | rfl | rfl | rfl | rfl | rfl | rfl | ⟨h1, h2, h3, h4, h5, h6, h7, h8, h9⟩
  all_goals
    go_enter Tryd.func33, Tryd.ntmps33
    go_wp2
    go_ret
  iterate 9 exact ⟨rfl, rfl⟩
  exact ⟨ret_int (by simp only [Wh.takes]; omega), rfl⟩

theorem rtakes_any (op : Int) (w : World) : Calls Tryd.prog 21 #[.int .i64 op] w fun e w' => e = .returned (.int .i64 (Wh.takes op)) ∧ w' = w := by
  rcases Wh.kinds op with rfl | rfl | rfl | rfl | rfl | rfl | rfl | rfl | rfl | ⟨h1, h2, h3, h4, h5, h6, h7, h8, h9⟩
  iterate 9
    · go_enter Tryd.func21, Tryd.ntmps21
      go_wp2
      go_ret
      exact ⟨rfl, rfl⟩
  have e : Wh.takes op = 0 := by simp only [Wh.takes]; omega
  have HE := Lib.hid e
  clear e
  have d11 : (op == 11) = false := beq_eq_false_iff_ne.2 h6
  have d12 : (op == 12) = false := beq_eq_false_iff_ne.2 h7
  have d13 : (op == 13) = false := beq_eq_false_iff_ne.2 h8
  have d14 : (op == 14) = false := beq_eq_false_iff_ne.2 h9
  by_cases hlo : 6 ≤ op
  · have hhi : decide (op ≤ 10) = false := decide_eq_false (by omega)
    go_enter Tryd.func21, Tryd.ntmps21
    go_wp2
    go_ret
    exact ⟨ret_int HE.out.symm, rfl⟩
  · have hhi : decide (6 ≤ op) = false := decide_eq_false (by omega)
    go_enter Tryd.func21, Tryd.ntmps21
    go_wp2
    go_ret
    exact ⟨ret_int HE.out.symm, rfl⟩

theorem one_any (op a : Int) (w : World) : Calls Tryd.prog 37 #[.int .i64 op, .int .i64 a] w fun e w' => e = .returned (.int .i64 (Wh.one op a)) ∧ w' = w := by
  rcases (by omega : op = 11 ∨ op = 14 ∨ (op ≠ 11 ∧ op ≠ 14)) with rfl | rfl | ⟨h1, h2⟩
  · go_enter Tryd.func37, Tryd.ntmps37
    go_wp2
    go_ret
    exact ⟨ret_int (by simp only [Wh.one]; simp), rfl⟩
  · go_enter Tryd.func37, Tryd.ntmps37
    go_wp2_with (go_at_call 46; refine (truth_any _ _).mono ?_; rintro _ w1 ⟨rfl, he⟩; obtain rfl := he.symm)
    go_ret
    exact ⟨rfl, rfl⟩
  · go_enter Tryd.func37, Tryd.ntmps37
    go_wp2
    go_ret
    exact ⟨ret_int (by simp [Wh.one, h1, h2]), rfl⟩

theorem rone_any (op a : Int) (w : World) : Calls Tryd.prog 24 #[.int .i64 op, .int .i64 a] w fun e w' => e = .returned (.int .i64 (Wh.one op a)) ∧ w' = w := by
  rcases (by omega : op = 11 ∨ op = 14 ∨ (op ≠ 11 ∧ op ≠ 14)) with rfl | rfl | ⟨h1, h2⟩
  · go_enter Tryd.func24, Tryd.ntmps24
    go_wp2
    go_ret
    exact ⟨ret_int (by simp only [Wh.one]; simp), rfl⟩
  · go_enter Tryd.func24, Tryd.ntmps24
    go_wp2_with (go_at_call 39; refine (yes_any _ _).mono ?_; rintro _ w1 ⟨rfl, he⟩; obtain rfl := he.symm)
    go_ret
    exact ⟨rfl, rfl⟩
  · go_enter Tryd.func24, Tryd.ntmps24
    go_wp2
    go_ret
    exact ⟨ret_int (by simp [Wh.one, h1, h2]), rfl⟩
end Go.Proofs.YtdenboakcbipdaaDoor
