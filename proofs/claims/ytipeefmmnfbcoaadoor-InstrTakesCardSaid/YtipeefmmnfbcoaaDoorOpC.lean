/-
  What the document's Operand, Fixed, Ends, Raises tell. Conditions: none.
-/
import Derived.Test.YtipeefmmnfbcoaaDoorOpB
namespace Go.Proofs.YtipeefmmnfbcoaaDoor
open Go.RowKit

theorem forall35 {p : Nat → Prop} (h : ∀ k ∈ List.range 35, p k) (k : Nat) (hk : k < 35) : p k := h k (List.mem_range.2 hk)
theorem in_or_out {p : Int → Prop} (hi : ∀ k : Nat, k < 35 → p (k : Int)) (ho : ∀ op : Int, op < 0 ∨ 35 ≤ op → p op) (op : Int) : p op := by
  by_cases h : 0 ≤ op ∧ op < 35
  · obtain ⟨k, rfl⟩ : ∃ k : Nat, op = (k : Int) := ⟨op.toNat, by omega⟩
    exact hi k (by omega)
  · exact ho op (by omega)
theorem ne_k {op k : Int} (h : op < 0 ∨ 35 ≤ op) (h0 : 0 ≤ k) (h1 : k < 35) : (op == k) = false := beq_eq_false_iff_ne.2 (by omega)

set_option maxHeartbeats 4000000 in
theorem roperand_in (w : World) (k : Nat) (hk : k < 35) : Calls Tryd.prog 26 #[.int .i64 (k : Int)] w fun e w' => e = .returned (.int .i64 (Op.row (k : Int)).operand) ∧ w' = w := by
  refine forall35 (p := fun k => Calls Tryd.prog 26 #[.int .i64 (k : Int)] w fun e w' => e = .returned (.int .i64 (Op.row (k : Int)).operand) ∧ w' = w) ?_ k hk
  simp only [List.range, List.range.loop, List.forall_mem_cons]
  refine ⟨?_, ?_, ?_, ?_, ?_, ?_, ?_, ?_, ?_, ?_, ?_, ?_, ?_, ?_, ?_, ?_, ?_, ?_, ?_, ?_, ?_, ?_, ?_, ?_, ?_, ?_, ?_, ?_, ?_, ?_, ?_, ?_, ?_, ?_, ?_, fun _ h => absurd h (by simp)⟩
  all_goals
    go_enter Tryd.func26, Tryd.ntmps26
    go_wp2
    go_ret
    exact ⟨rfl, rfl⟩
theorem roperand_out (w : World) (op : Int) (h : op < 0 ∨ 35 ≤ op) : Calls Tryd.prog 26 #[.int .i64 op] w fun e w' => e = .returned (.int .i64 0) ∧ w' = w := by
  have e1 := ne_k (k := 1) h (by decide) (by decide)
  have e2 := ne_k (k := 2) h (by decide) (by decide)
  have e3 := ne_k (k := 3) h (by decide) (by decide)
  have e21 := ne_k (k := 21) h (by decide) (by decide)
  have e22 := ne_k (k := 22) h (by decide) (by decide)
  have e23 := ne_k (k := 23) h (by decide) (by decide)
  have e24 := ne_k (k := 24) h (by decide) (by decide)
  have e28 := ne_k (k := 28) h (by decide) (by decide)
  have e29 := ne_k (k := 29) h (by decide) (by decide)
  have e33 := ne_k (k := 33) h (by decide) (by decide)
  have e34 := ne_k (k := 34) h (by decide) (by decide)
  go_enter Tryd.func26, Tryd.ntmps26
  go_wp2
  go_ret
  exact ⟨rfl, rfl⟩
theorem roperand_any (op : Int) (w : World) : Calls Tryd.prog 26 #[.int .i64 op] w fun e w' => e = .returned (.int .i64 (Op.row op).operand) ∧ w' = w :=
  in_or_out (p := fun op => Calls Tryd.prog 26 #[.int .i64 op] w fun e w' => e = .returned (.int .i64 (Op.row op).operand) ∧ w' = w) (roperand_in w) (fun op h => by
    rw [Op.row_out (by omega)]
    exact roperand_out w op h) op

end Go.Proofs.YtipeefmmnfbcoaaDoor
