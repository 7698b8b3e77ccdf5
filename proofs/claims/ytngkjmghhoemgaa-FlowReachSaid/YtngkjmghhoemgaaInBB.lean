/-
  What the document's Operand, Fixed, Ends, Raises tell. Conditions: none.
  What the document's most and Right tell. Conditions: none.
-/
import Derived.Test.YtngkjmghhoemgaaSiOp
import Derived.Test.YtngkjmghhoemgaaPMa
import Derived.Shelf.RegionOpen
namespace Go.Proofs.Ytngkjmghhoemgaa
open Go.RowKit

theorem forall35 {p : Nat → Prop} (h : ∀ k ∈ List.range 35, p k) (k : Nat) (hk : k < 35) : p k := h k (List.mem_range.2 hk)
theorem in_or_out {p : Int → Prop} (hi : ∀ k : Nat, k < 35 → p (k : Int)) (ho : ∀ op : Int, op < 0 ∨ 35 ≤ op → p op) (op : Int) : p op := by
  by_cases h : 0 ≤ op ∧ op < 35
  · obtain ⟨k, rfl⟩ : ∃ k : Nat, op = (k : Int) := ⟨op.toNat, by omega⟩
    exact hi k (by omega)
  · exact ho op (by omega)
theorem ne_k {op k : Int} (h : op < 0 ∨ 35 ≤ op) (h0 : 0 ≤ k) (h1 : k < 35) : (op == k) = false := beq_eq_false_iff_ne.2 (by omega)

set_option maxRecDepth 100000 in
set_option maxHeartbeats 4000000 in
theorem roperand_in (w : World) (k : Nat) (hk : k < 35) : Calls Try.prog 42 #[.int .i64 (k : Int)] w fun e w' => e = .returned (.int .i64 (Op.row (k : Int)).operand) ∧ w' = w := by
  refine forall35 (p := fun k => Calls Try.prog 42 #[.int .i64 (k : Int)] w fun e w' => e = .returned (.int .i64 (Op.row (k : Int)).operand) ∧ w' = w) ?_ k hk
  simp only [List.range, List.range.loop, List.forall_mem_cons]
  refine ⟨?_, ?_, ?_, ?_, ?_, ?_, ?_, ?_, ?_, ?_, ?_, ?_, ?_, ?_, ?_, ?_, ?_, ?_, ?_, ?_, ?_, ?_, ?_, ?_, ?_, ?_, ?_, ?_, ?_, ?_, ?_, ?_, ?_, ?_, ?_, fun _ h => absurd h (by simp)⟩
  all_goals
    go_enter Try.func42, Try.ntmps42
    go_wp2
    go_ret
    exact ⟨rfl, rfl⟩
set_option maxRecDepth 100000 in
theorem roperand_out (w : World) (op : Int) (h : op < 0 ∨ 35 ≤ op) : Calls Try.prog 42 #[.int .i64 op] w fun e w' => e = .returned (.int .i64 0) ∧ w' = w := by
  have e1 := ne_k (k := 1) h (by decide) (by decide)
  have e2 := ne_k (k := 2) h (by decide) (by decide)
  have e3 := ne_k (k := 3) h (by decide) (by decide)
  have e21 := ne_k (k := 21) h (by decide) (by decide)
  have e22 := ne_k (k := 22) h (by decide) (by decide)
  have e23 := ne_k (k := 23) h (by decide) (by decide)
  have e24 := ne_k (k := 24) h (by decide) (by decide)
  have e28 := ne_k (k := 28) h (by decide) (by decide)
  have e29 := ne_k (k := 29) h (by decide) (by decide)
  have e33 := ne_k (k := 33) h (by decide) (by decide)
  have e34 := ne_k (k := 34) h (by decide) (by decide)
  go_enter Try.func42, Try.ntmps42
  go_wp2
  go_ret
  exact ⟨rfl, rfl⟩
set_option maxRecDepth 100000 in
theorem roperand_any (op : Int) (w : World) : Calls Try.prog 42 #[.int .i64 op] w fun e w' => e = .returned (.int .i64 (Op.row op).operand) ∧ w' = w :=
  in_or_out (p := fun op => Calls Try.prog 42 #[.int .i64 op] w fun e w' => e = .returned (.int .i64 (Op.row op).operand) ∧ w' = w) (roperand_in w) (fun op h => by
    rw [Op.row_out (by omega)]
    exact roperand_out w op h) op

set_option maxRecDepth 100000 in
set_option maxHeartbeats 4000000 in
theorem rends_in (w : World) (k : Nat) (hk : k < 35) : Calls Try.prog 24 #[.int .i64 (k : Int)] w fun e w' => e = .returned (.bool (Op.row (k : Int)).ends) ∧ w' = w := by
  refine forall35 (p := fun k => Calls Try.prog 24 #[.int .i64 (k : Int)] w fun e w' => e = .returned (.bool (Op.row (k : Int)).ends) ∧ w' = w) ?_ k hk
  simp only [List.range, List.range.loop, List.forall_mem_cons]
  refine ⟨?_, ?_, ?_, ?_, ?_, ?_, ?_, ?_, ?_, ?_, ?_, ?_, ?_, ?_, ?_, ?_, ?_, ?_, ?_, ?_, ?_, ?_, ?_, ?_, ?_, ?_, ?_, ?_, ?_, ?_, ?_, ?_, ?_, ?_, ?_, fun _ h => absurd h (by simp)⟩
  all_goals
    go_enter Try.func24, Try.ntmps24
    go_wp2
    go_ret
    exact ⟨rfl, rfl⟩
set_option maxRecDepth 100000 in
theorem rends_out (w : World) (op : Int) (h : op < 0 ∨ 35 ≤ op) : Calls Try.prog 24 #[.int .i64 op] w fun e w' => e = .returned (.bool false) ∧ w' = w := by
  have e21 := ne_k (k := 21) h (by decide) (by decide)
  have e25 := ne_k (k := 25) h (by decide) (by decide)
  have e26 := ne_k (k := 26) h (by decide) (by decide)
  have e34 := ne_k (k := 34) h (by decide) (by decide)
  go_enter Try.func24, Try.ntmps24
  go_wp2
  go_ret
  exact ⟨rfl, rfl⟩
set_option maxRecDepth 100000 in
theorem rends_any (op : Int) (w : World) : Calls Try.prog 24 #[.int .i64 op] w fun e w' => e = .returned (.bool (Op.row op).ends) ∧ w' = w :=
  in_or_out (p := fun op => Calls Try.prog 24 #[.int .i64 op] w fun e w' => e = .returned (.bool (Op.row op).ends) ∧ w' = w) (rends_in w) (fun op h => by
    rw [Op.row_out (by omega)]
    exact rends_out w op h) op

set_option maxRecDepth 100000 in
set_option maxHeartbeats 4000000 in
theorem rraises_in (w : World) (k : Nat) (hk : k < 35) : Calls Try.prog 34 #[.int .i64 (k : Int)] w fun e w' => e = .returned (.bool (Op.row (k : Int)).raises) ∧ w' = w := by
  refine forall35 (p := fun k => Calls Try.prog 34 #[.int .i64 (k : Int)] w fun e w' => e = .returned (.bool (Op.row (k : Int)).raises) ∧ w' = w) ?_ k hk
  simp only [List.range, List.range.loop, List.forall_mem_cons]
  refine ⟨?_, ?_, ?_, ?_, ?_, ?_, ?_, ?_, ?_, ?_, ?_, ?_, ?_, ?_, ?_, ?_, ?_, ?_, ?_, ?_, ?_, ?_, ?_, ?_, ?_, ?_, ?_, ?_, ?_, ?_, ?_, ?_, ?_, ?_, ?_, fun _ h => absurd h (by simp)⟩
  all_goals
    go_enter Try.func34, Try.ntmps34
    go_wp2
    go_ret
    exact ⟨rfl, rfl⟩
set_option maxRecDepth 100000 in
theorem rraises_out (w : World) (op : Int) (h : op < 0 ∨ 35 ≤ op) : Calls Try.prog 34 #[.int .i64 op] w fun e w' => e = .returned (.bool false) ∧ w' = w := by
  have e9 := ne_k (k := 9) h (by decide) (by decide)
  have e10 := ne_k (k := 10) h (by decide) (by decide)
  have e23 := ne_k (k := 23) h (by decide) (by decide)
  have e25 := ne_k (k := 25) h (by decide) (by decide)
  have e26 := ne_k (k := 26) h (by decide) (by decide)
  have e33 := ne_k (k := 33) h (by decide) (by decide)
  have e34 := ne_k (k := 34) h (by decide) (by decide)
  go_enter Try.func34, Try.ntmps34
  go_wp2
  go_ret
  exact ⟨rfl, rfl⟩
set_option maxRecDepth 100000 in
theorem rraises_any (op : Int) (w : World) : Calls Try.prog 34 #[.int .i64 op] w fun e w' => e = .returned (.bool (Op.row op).raises) ∧ w' = w :=
  in_or_out (p := fun op => Calls Try.prog 34 #[.int .i64 op] w fun e w' => e = .returned (.bool (Op.row op).raises) ∧ w' = w) (rraises_in w) (fun op h => by
    rw [Op.row_out (by omega)]
    exact rraises_out w op h) op
end Go.Proofs.Ytngkjmghhoemgaa

namespace Go.Proofs.Ytngkjmghhoemgaa
open Go.RowKit

theorem in_drewN {B : Nat} {w w' : World} (h : Below B w w') (n : Nat) : Below B w (w'.drewN n) := ⟨h.os, h.tape, h.output, h.size, h.block⟩

/-- The greatest of each kind, in a row. -/
def mostRow : Array Value := #[.int .i64 0, .int .i64 0, .int .i64 255, .int .i64 1999, .int .i64 39, .int .i64 3, .int .i64 119]
def mostOf (k : Int) : Int := if k = 1 then 0 else In.bound k - 1
set_option maxRecDepth 100000 in
theorem most_at (k : Int) (h : 0 ≤ k ∧ k ≤ 6) (w : World) : (Instr.index 71 (.agg mostRow) (.int .i64 k)).run Try.prog w = .ok (.int .i64 (mostOf k)) w := by
  obtain rfl | rfl | rfl | rfl | rfl | rfl | rfl : k = 0 ∨ k = 1 ∨ k = 2 ∨ k = 3 ∨ k = 4 ∨ k = 5 ∨ k = 6 := by omega
  all_goals kernel_rfl

set_option maxRecDepth 100000 in
theorem most_any (k : Int) (h : 0 ≤ k ∧ k ≤ 6) (w : World) : Calls Try.prog 43 #[.int .i64 k] w fun e w' => e = .returned (.int .i64 (mostOf k)) ∧ w' = w := by
  have H := most_at k h
  clear h
  generalize mostOf k = m at *
  go_enter Try.func43, Try.ntmps43
  go_wp2_with (refine wpList_build_is rfl 71 _ rfl mostRow (by kernel_rfl) ?_)
  go_ret
  exact ⟨rfl, rfl⟩

theorem fits_most (k a : Int) : In.fits k a = (decide (k = 1) || (decide (0 ≤ a) && decide (a ≤ mostOf k))) := by
  unfold In.fits mostOf
  by_cases h1 : k = 1
  · simp [h1]
  · rw [if_neg h1, Bool.eq_iff_iff]
    simp [h1]
    omega

set_option maxHeartbeats 1000000 in
set_option maxRecDepth 100000 in
theorem rinright_any (op a0 : Int) (w : World) : Calls Try.prog 29 #[.agg #[.int .i64 op, .int .i64 a0]] w (BoolP (In.right op a0) w) := by
  by_cases h0 : op < 0
  · have d0 : decide (op < 0) = true := decide_eq_true h0
    have hr : In.right op a0 = false := by unfold In.right In.known; simp; omega
    rw [hr]
    go_enter Try.func29, Try.ntmps29
    go_wp2
    go_ret
    exact ⟨rfl, (Below.refl _ _).alloc (Nat.le_refl _) _⟩
  have d0 : decide (op < 0) = false := decide_eq_false h0
  by_cases h1 : 35 ≤ op
  · have d1 : decide (35 ≤ op) = true := decide_eq_true h1
    have hr : In.right op a0 = false := by unfold In.right In.known; simp; omega
    rw [hr]
    go_enter Try.func29, Try.ntmps29
    go_wp2
    go_ret
    exact ⟨rfl, (Below.refl _ _).alloc (Nat.le_refl _) _⟩
  have d1 : decide (35 ≤ op) = false := decide_eq_false h1
  have hk := In.kind_in op
  have HO := roperand_any op
  have hr : In.right op a0 = In.fits (In.kind op) a0 := by unfold In.right; rw [In.known_iff.2 ⟨by omega, by omega⟩]; rfl
  rw [hr, fits_most]
  clear hr
  have HM := fun w => most_any (In.kind op) hk w
  unfold In.kind at HM ⊢
  clear hk
  generalize mostOf (Op.row op).operand = m at *
  generalize (Op.row op).operand = k at *
  by_cases hk1 : k = 1
  · subst hk1
    go_enter Try.func29, Try.ntmps29
    go_wp2_with (go_at_call 42; refine (HO _).mono ?_; rintro _ w1 ⟨rfl, he⟩; obtain rfl := he.symm)
    go_quiet (fail)
    go_wp2
    go_ret
    exact ⟨rfl, in_drewN ((Below.refl _ _).alloc (Nat.le_refl _) _) _⟩
  · have e1 : (k == 1) = false := beq_eq_false_iff_ne.2 hk1
    have f1 : decide (k = 1) = false := decide_eq_false hk1
    rw [f1]
    clear hk1 f1
    by_cases ha : 0 ≤ a0
    · have e2 : decide (0 ≤ a0) = true := decide_eq_true ha
      rw [e2]
      go_enter Try.func29, Try.ntmps29
      go_wp2_with (go_at_call 42; refine (HO _).mono ?_; rintro _ w1 ⟨rfl, he⟩; obtain rfl := he.symm)
      go_quiet (first | (go_at_call 43; refine Calls.quiet_of_same (HM _)))
      go_wp2
      go_ret
      exact ⟨rfl, in_drewN ((Below.refl _ _).alloc (Nat.le_refl _) _) _⟩
    · have e2 : decide (0 ≤ a0) = false := decide_eq_false ha
      rw [e2]
      go_enter Try.func29, Try.ntmps29
      go_wp2_with (go_at_call 42; refine (HO _).mono ?_; rintro _ w1 ⟨rfl, he⟩; obtain rfl := he.symm)
      go_quiet (fail)
      go_wp2
      go_ret
      exact ⟨rfl, in_drewN ((Below.refl _ _).alloc (Nat.le_refl _) _) _⟩
end Go.Proofs.Ytngkjmghhoemgaa
