/-
  What the document's most and Right tell. Conditions: none.
-/
import Derived.Test.YtipeefmmnfbcoaaDoorInMath
import Derived.Test.YtipeefmmnfbcoaaDoorOpC
import Derived.Shelf.RegionOpen
namespace Go.Proofs.YtipeefmmnfbcoaaDoor
open Go.RowKit

theorem in_drewN {B : Nat} {w w' : World} (h : Below B w w') (n : Nat) : Below B w (w'.drewN n) := ⟨h.os, h.tape, h.output, h.size, h.block⟩

/-- The greatest of each kind, in a row. -/
def mostRow : Array Value := #[.int .i64 0, .int .i64 0, .int .i64 255, .int .i64 1999, .int .i64 39, .int .i64 3, .int .i64 119]
def mostOf (k : Int) : Int := if k = 1 then 0 else In.bound k - 1
theorem most_at (k : Int) (h : 0 ≤ k ∧ k ≤ 6) (w : World) : (Instr.index 86 (.agg mostRow) (.int .i64 k)).run Tryd.prog w = .ok (.int .i64 (mostOf k)) w := by
  obtain rfl | rfl | rfl | rfl | rfl | rfl | rfl : k = 0 ∨ k = 1 ∨ k = 2 ∨ k = 3 ∨ k = 4 ∨ k = 5 ∨ k = 6 := by omega
  all_goals kernel_rfl

set_option maxRecDepth 100000 in
theorem most_any (k : Int) (h : 0 ≤ k ∧ k ≤ 6) (w : World) : Calls Tryd.prog 34 #[.int .i64 k] w fun e w' => e = .returned (.int .i64 (mostOf k)) ∧ w' = w := by
  have H := most_at k h
  clear h
  generalize mostOf k = m at *
  go_enter Tryd.func34, Tryd.ntmps34
  go_wp2_with (refine wpList_build_is rfl 86 _ rfl mostRow (by kernel_rfl) ?_)
  go_ret
  exact ⟨rfl, rfl⟩

theorem fits_most (k a : Int) : In.fits k a = (decide (k = 1) || (decide (0 ≤ a) && decide (a ≤ mostOf k))) := by
  unfold In.fits mostOf
  by_cases h1 : k = 1
  · simp [h1]
  · rw [if_neg h1, Bool.eq_iff_iff]
    simp [h1]
    omega

set_option maxHeartbeats 1000000 in
set_option maxRecDepth 100000 in
theorem rinright_any (op a0 : Int) (w : World) : Calls Tryd.prog 10 #[.agg #[.int .i64 op, .int .i64 a0]] w (BoolP (In.right op a0) w) := by
  by_cases h0 : op < 0
  · have d0 : decide (op < 0) = true := decide_eq_true h0
    have hr : In.right op a0 = false := by unfold In.right In.known; simp; omega
    rw [hr]
    go_enter Tryd.func10, Tryd.ntmps10
    go_wp2
    go_ret
    exact ⟨rfl, (Below.refl _ _).alloc (Nat.le_refl _) _⟩
  have d0 : decide (op < 0) = false := decide_eq_false h0
  by_cases h1 : 35 ≤ op
  · have d1 : decide (35 ≤ op) = true := decide_eq_true h1
    have hr : In.right op a0 = false := by unfold In.right In.known; simp; omega
    rw [hr]
    go_enter Tryd.func10, Tryd.ntmps10
    go_wp2
    go_ret
    exact ⟨rfl, (Below.refl _ _).alloc (Nat.le_refl _) _⟩
  have d1 : decide (35 ≤ op) = false := decide_eq_false h1
  have hk := In.kind_in op
  have HO := roperand_any op
  have hr : In.right op a0 = In.fits (In.kind op) a0 := by unfold In.right; rw [In.known_iff.2 ⟨by omega, by omega⟩]; rfl
  rw [hr, fits_most]
  clear hr
  have HM := fun w => most_any (In.kind op) hk w
  unfold In.kind at HM ⊢
  clear hk
  generalize mostOf (Op.row op).operand = m at *
  generalize (Op.row op).operand = k at *
  by_cases hk1 : k = 1
  · subst hk1
    go_enter Tryd.func10, Tryd.ntmps10
    go_wp2_with (go_at_call 26; refine (HO _).mono ?_; rintro _ w1 ⟨rfl, he⟩; obtain rfl := he.symm)
    go_quiet (fail)
    go_wp2
    go_ret
    exact ⟨rfl, in_drewN ((Below.refl _ _).alloc (Nat.le_refl _) _) _⟩
  · have e1 : (k == 1) = false := beq_eq_false_iff_ne.2 hk1
    have f1 : decide (k = 1) = false := decide_eq_false hk1
    rw [f1]
    clear hk1 f1
    by_cases ha : 0 ≤ a0
    · have e2 : decide (0 ≤ a0) = true := decide_eq_true ha
      rw [e2]
      go_enter Tryd.func10, Tryd.ntmps10
      go_wp2_with (go_at_call 26; refine (HO _).mono ?_; rintro _ w1 ⟨rfl, he⟩; obtain rfl := he.symm)
      go_quiet (first | (go_at_call 34; refine Calls.quiet_of_same (HM _)))
      go_wp2
      go_ret
      exact ⟨rfl, in_drewN ((Below.refl _ _).alloc (Nat.le_refl _) _) _⟩
    · have e2 : decide (0 ≤ a0) = false := decide_eq_false ha
      rw [e2]
      go_enter Tryd.func10, Tryd.ntmps10
      go_wp2_with (go_at_call 26; refine (HO _).mono ?_; rintro _ w1 ⟨rfl, he⟩; obtain rfl := he.symm)
      go_quiet (fail)
      go_wp2
      go_ret
      exact ⟨rfl, in_drewN ((Below.refl _ _).alloc (Nat.le_refl _) _) _⟩
end Go.Proofs.YtipeefmmnfbcoaaDoor
