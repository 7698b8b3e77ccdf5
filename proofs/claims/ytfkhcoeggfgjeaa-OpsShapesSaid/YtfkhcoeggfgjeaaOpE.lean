/-
  What the document's Effect tells: what an instruction takes, and gives. Conditions: none.
-/
import Derived.Test.YtfkhcoeggfgjeaaOpC
import Derived.Test.YtfkhcoeggfgjeaaOpD
namespace Go.Proofs.Ytfkhcoeggfgjeaa
open Go.RowKit

/-- Two rows of types are answered; nothing below has turned. -/
def EffP (a b : List Int) (w : World) (e : Ending) (w' : World) : Prop := ∃ A c A2 c2, e = .returned (.tuple #[.slice A a.length c, .slice A2 b.length c2]) ∧ IntsAt w' w'.heap.size A a.length a ∧ IntsAt w' w'.heap.size A2 b.length b ∧ Below w.heap.size w w'

theorem no_ints (w : World) : IntsAt w w.heap.size none 0 [] := ⟨rfl, fun h => absurd h (by omega)⟩
theorem ints_later {w w' : World} {A : Option Addr} {n : Nat} {l : List Int} (h : IntsAt w w.heap.size A n l) (hb : Below w.heap.size w w') : IntsAt w' w'.heap.size A n l := (h.below hb).more hb.size
theorem of_11 (w : World) : Calls Try.prog 23 #[.int .i64 1, .int .i64 1] w (TysP [1] w) := opof_any 1 1 w (by decide)
theorem of_21 (w : World) : Calls Try.prog 23 #[.int .i64 2, .int .i64 1] w (TysP [1, 1] w) := opof_any 2 1 w (by decide)
theorem of_12 (w : World) : Calls Try.prog 23 #[.int .i64 1, .int .i64 2] w (TysP [2] w) := opof_any 1 2 w (by decide)
theorem of_22 (w : World) : Calls Try.prog 23 #[.int .i64 2, .int .i64 2] w (TysP [2, 2] w) := opof_any 2 2 w (by decide)
theorem effect_0 (w : World) : Calls Try.prog 10 #[.int .i64 0] w (EffP [] [] w) := by
  go_enter Try.func10, Try.ntmps10
  go_wp2
  go_ret2
  exact ⟨none, 0, none, 0, rfl, no_ints _, no_ints _, Below.refl _ _⟩
theorem effect_1 (w : World) : Calls Try.prog 10 #[.int .i64 1] w (EffP [] [1] w) := by
  go_enter Try.func10, Try.ntmps10
  go_wp2_with (go_at_call 23; refine (of_11 _).mono ?_; rintro _ w1 ⟨A1, c1, rfl, hI1, hB1⟩)
  go_ret2
  exact ⟨none, 0, A1, c1, rfl, no_ints _, hI1, hB1⟩
theorem effect_2 (w : World) : Calls Try.prog 10 #[.int .i64 2] w (EffP [] [] w) := by
  go_enter Try.func10, Try.ntmps10
  go_wp2
  go_ret2
  exact ⟨none, 0, none, 0, rfl, no_ints _, no_ints _, Below.refl _ _⟩
theorem effect_3 (w : World) : Calls Try.prog 10 #[.int .i64 3] w (EffP [] [] w) := by
  go_enter Try.func10, Try.ntmps10
  go_wp2
  go_ret2
  exact ⟨none, 0, none, 0, rfl, no_ints _, no_ints _, Below.refl _ _⟩
theorem effect_4 (w : World) : Calls Try.prog 10 #[.int .i64 4] w (EffP [] [] w) := by
  go_enter Try.func10, Try.ntmps10
  go_wp2
  go_ret2
  exact ⟨none, 0, none, 0, rfl, no_ints _, no_ints _, Below.refl _ _⟩
theorem effect_5 (w : World) : Calls Try.prog 10 #[.int .i64 5] w (EffP [] [] w) := by
  go_enter Try.func10, Try.ntmps10
  go_wp2
  go_ret2
  exact ⟨none, 0, none, 0, rfl, no_ints _, no_ints _, Below.refl _ _⟩
theorem effect_6 (w : World) : Calls Try.prog 10 #[.int .i64 6] w (EffP [1, 1] [1] w) := by
  go_enter Try.func10, Try.ntmps10
  go_wp2_with (first | (have ht := hB1; clear ht; go_at_call 23; refine (of_11 _).mono ?_; rintro _ w2 ⟨A2, c2, rfl, hI2, hB2⟩) | (go_at_call 23; refine (of_21 _).mono ?_; rintro _ w1 ⟨A1, c1, rfl, hI1, hB1⟩))
  go_ret2
  exact ⟨A1, c1, A2, c2, rfl, ints_later hI1 hB2, hI2, below_self hB1 hB2⟩
theorem effect_7 (w : World) : Calls Try.prog 10 #[.int .i64 7] w (EffP [1, 1] [1] w) := by
  go_enter Try.func10, Try.ntmps10
  go_wp2_with (first | (have ht := hB1; clear ht; go_at_call 23; refine (of_11 _).mono ?_; rintro _ w2 ⟨A2, c2, rfl, hI2, hB2⟩) | (go_at_call 23; refine (of_21 _).mono ?_; rintro _ w1 ⟨A1, c1, rfl, hI1, hB1⟩))
  go_ret2
  exact ⟨A1, c1, A2, c2, rfl, ints_later hI1 hB2, hI2, below_self hB1 hB2⟩
theorem effect_8 (w : World) : Calls Try.prog 10 #[.int .i64 8] w (EffP [1, 1] [1] w) := by
  go_enter Try.func10, Try.ntmps10
  go_wp2_with (first | (have ht := hB1; clear ht; go_at_call 23; refine (of_11 _).mono ?_; rintro _ w2 ⟨A2, c2, rfl, hI2, hB2⟩) | (go_at_call 23; refine (of_21 _).mono ?_; rintro _ w1 ⟨A1, c1, rfl, hI1, hB1⟩))
  go_ret2
  exact ⟨A1, c1, A2, c2, rfl, ints_later hI1 hB2, hI2, below_self hB1 hB2⟩
theorem effect_9 (w : World) : Calls Try.prog 10 #[.int .i64 9] w (EffP [1, 1] [1] w) := by
  go_enter Try.func10, Try.ntmps10
  go_wp2_with (first | (have ht := hB1; clear ht; go_at_call 23; refine (of_11 _).mono ?_; rintro _ w2 ⟨A2, c2, rfl, hI2, hB2⟩) | (go_at_call 23; refine (of_21 _).mono ?_; rintro _ w1 ⟨A1, c1, rfl, hI1, hB1⟩))
  go_ret2
  exact ⟨A1, c1, A2, c2, rfl, ints_later hI1 hB2, hI2, below_self hB1 hB2⟩
theorem effect_10 (w : World) : Calls Try.prog 10 #[.int .i64 10] w (EffP [1, 1] [1] w) := by
  go_enter Try.func10, Try.ntmps10
  go_wp2_with (first | (have ht := hB1; clear ht; go_at_call 23; refine (of_11 _).mono ?_; rintro _ w2 ⟨A2, c2, rfl, hI2, hB2⟩) | (go_at_call 23; refine (of_21 _).mono ?_; rintro _ w1 ⟨A1, c1, rfl, hI1, hB1⟩))
  go_ret2
  exact ⟨A1, c1, A2, c2, rfl, ints_later hI1 hB2, hI2, below_self hB1 hB2⟩
theorem effect_11 (w : World) : Calls Try.prog 10 #[.int .i64 11] w (EffP [1] [1] w) := by
  go_enter Try.func10, Try.ntmps10
  go_wp2_with (first | (have ht := hB1; clear ht; go_at_call 23; refine (of_11 _).mono ?_; rintro _ w2 ⟨A2, c2, rfl, hI2, hB2⟩) | (go_at_call 23; refine (of_11 _).mono ?_; rintro _ w1 ⟨A1, c1, rfl, hI1, hB1⟩))
  go_ret2
  exact ⟨A1, c1, A2, c2, rfl, ints_later hI1 hB2, hI2, below_self hB1 hB2⟩
theorem effect_12 (w : World) : Calls Try.prog 10 #[.int .i64 12] w (EffP [1, 1] [1] w) := by
  go_enter Try.func10, Try.ntmps10
  go_wp2_with (first | (have ht := hB1; clear ht; go_at_call 23; refine (of_11 _).mono ?_; rintro _ w2 ⟨A2, c2, rfl, hI2, hB2⟩) | (go_at_call 23; refine (of_21 _).mono ?_; rintro _ w1 ⟨A1, c1, rfl, hI1, hB1⟩))
  go_ret2
  exact ⟨A1, c1, A2, c2, rfl, ints_later hI1 hB2, hI2, below_self hB1 hB2⟩
theorem effect_13 (w : World) : Calls Try.prog 10 #[.int .i64 13] w (EffP [1, 1] [1] w) := by
  go_enter Try.func10, Try.ntmps10
  go_wp2_with (first | (have ht := hB1; clear ht; go_at_call 23; refine (of_11 _).mono ?_; rintro _ w2 ⟨A2, c2, rfl, hI2, hB2⟩) | (go_at_call 23; refine (of_21 _).mono ?_; rintro _ w1 ⟨A1, c1, rfl, hI1, hB1⟩))
  go_ret2
  exact ⟨A1, c1, A2, c2, rfl, ints_later hI1 hB2, hI2, below_self hB1 hB2⟩
theorem effect_14 (w : World) : Calls Try.prog 10 #[.int .i64 14] w (EffP [1] [1] w) := by
  go_enter Try.func10, Try.ntmps10
  go_wp2_with (first | (have ht := hB1; clear ht; go_at_call 23; refine (of_11 _).mono ?_; rintro _ w2 ⟨A2, c2, rfl, hI2, hB2⟩) | (go_at_call 23; refine (of_11 _).mono ?_; rintro _ w1 ⟨A1, c1, rfl, hI1, hB1⟩))
  go_ret2
  exact ⟨A1, c1, A2, c2, rfl, ints_later hI1 hB2, hI2, below_self hB1 hB2⟩
theorem effect_15 (w : World) : Calls Try.prog 10 #[.int .i64 15] w (EffP [1, 1] [2] w) := by
  go_enter Try.func10, Try.ntmps10
  go_wp2_with (first | (have ht := hB1; clear ht; go_at_call 23; refine (of_12 _).mono ?_; rintro _ w2 ⟨A2, c2, rfl, hI2, hB2⟩) | (go_at_call 23; refine (of_21 _).mono ?_; rintro _ w1 ⟨A1, c1, rfl, hI1, hB1⟩))
  go_ret2
  exact ⟨A1, c1, A2, c2, rfl, ints_later hI1 hB2, hI2, below_self hB1 hB2⟩
theorem effect_16 (w : World) : Calls Try.prog 10 #[.int .i64 16] w (EffP [2, 2] [2] w) := by
  go_enter Try.func10, Try.ntmps10
  go_wp2_with (first | (have ht := hB1; clear ht; go_at_call 23; refine (of_12 _).mono ?_; rintro _ w2 ⟨A2, c2, rfl, hI2, hB2⟩) | (go_at_call 23; refine (of_22 _).mono ?_; rintro _ w1 ⟨A1, c1, rfl, hI1, hB1⟩))
  go_ret2
  exact ⟨A1, c1, A2, c2, rfl, ints_later hI1 hB2, hI2, below_self hB1 hB2⟩
theorem effect_17 (w : World) : Calls Try.prog 10 #[.int .i64 17] w (EffP [2, 2] [2] w) := by
  go_enter Try.func10, Try.ntmps10
  go_wp2_with (first | (have ht := hB1; clear ht; go_at_call 23; refine (of_12 _).mono ?_; rintro _ w2 ⟨A2, c2, rfl, hI2, hB2⟩) | (go_at_call 23; refine (of_22 _).mono ?_; rintro _ w1 ⟨A1, c1, rfl, hI1, hB1⟩))
  go_ret2
  exact ⟨A1, c1, A2, c2, rfl, ints_later hI1 hB2, hI2, below_self hB1 hB2⟩
theorem effect_18 (w : World) : Calls Try.prog 10 #[.int .i64 18] w (EffP [2, 2] [2] w) := by
  go_enter Try.func10, Try.ntmps10
  go_wp2_with (first | (have ht := hB1; clear ht; go_at_call 23; refine (of_12 _).mono ?_; rintro _ w2 ⟨A2, c2, rfl, hI2, hB2⟩) | (go_at_call 23; refine (of_22 _).mono ?_; rintro _ w1 ⟨A1, c1, rfl, hI1, hB1⟩))
  go_ret2
  exact ⟨A1, c1, A2, c2, rfl, ints_later hI1 hB2, hI2, below_self hB1 hB2⟩
theorem effect_19 (w : World) : Calls Try.prog 10 #[.int .i64 19] w (EffP [2] [1] w) := by
  go_enter Try.func10, Try.ntmps10
  go_wp2_with (first | (have ht := hB1; clear ht; go_at_call 23; refine (of_11 _).mono ?_; rintro _ w2 ⟨A2, c2, rfl, hI2, hB2⟩) | (go_at_call 23; refine (of_12 _).mono ?_; rintro _ w1 ⟨A1, c1, rfl, hI1, hB1⟩))
  go_ret2
  exact ⟨A1, c1, A2, c2, rfl, ints_later hI1 hB2, hI2, below_self hB1 hB2⟩
theorem effect_20 (w : World) : Calls Try.prog 10 #[.int .i64 20] w (EffP [2] [1] w) := by
  go_enter Try.func10, Try.ntmps10
  go_wp2_with (first | (have ht := hB1; clear ht; go_at_call 23; refine (of_11 _).mono ?_; rintro _ w2 ⟨A2, c2, rfl, hI2, hB2⟩) | (go_at_call 23; refine (of_12 _).mono ?_; rintro _ w1 ⟨A1, c1, rfl, hI1, hB1⟩))
  go_ret2
  exact ⟨A1, c1, A2, c2, rfl, ints_later hI1 hB2, hI2, below_self hB1 hB2⟩
theorem effect_21 (w : World) : Calls Try.prog 10 #[.int .i64 21] w (EffP [] [] w) := by
  go_enter Try.func10, Try.ntmps10
  go_wp2
  go_ret2
  exact ⟨none, 0, none, 0, rfl, no_ints _, no_ints _, Below.refl _ _⟩
theorem effect_22 (w : World) : Calls Try.prog 10 #[.int .i64 22] w (EffP [1] [] w) := by
  go_enter Try.func10, Try.ntmps10
  go_wp2_with (go_at_call 23; refine (of_11 _).mono ?_; rintro _ w1 ⟨A1, c1, rfl, hI1, hB1⟩)
  go_ret2
  exact ⟨A1, c1, none, 0, rfl, hI1, no_ints _, hB1⟩
theorem effect_23 (w : World) : Calls Try.prog 10 #[.int .i64 23] w (EffP [] [] w) := by
  go_enter Try.func10, Try.ntmps10
  go_wp2
  go_ret2
  exact ⟨none, 0, none, 0, rfl, no_ints _, no_ints _, Below.refl _ _⟩
theorem effect_24 (w : World) : Calls Try.prog 10 #[.int .i64 24] w (EffP [] [] w) := by
  go_enter Try.func10, Try.ntmps10
  go_wp2
  go_ret2
  exact ⟨none, 0, none, 0, rfl, no_ints _, no_ints _, Below.refl _ _⟩
theorem effect_25 (w : World) : Calls Try.prog 10 #[.int .i64 25] w (EffP [] [] w) := by
  go_enter Try.func10, Try.ntmps10
  go_wp2
  go_ret2
  exact ⟨none, 0, none, 0, rfl, no_ints _, no_ints _, Below.refl _ _⟩
theorem effect_26 (w : World) : Calls Try.prog 10 #[.int .i64 26] w (EffP [1] [] w) := by
  go_enter Try.func10, Try.ntmps10
  go_wp2_with (go_at_call 23; refine (of_11 _).mono ?_; rintro _ w1 ⟨A1, c1, rfl, hI1, hB1⟩)
  go_ret2
  exact ⟨A1, c1, none, 0, rfl, hI1, no_ints _, hB1⟩
theorem effect_27 (w : World) : Calls Try.prog 10 #[.int .i64 27] w (EffP [] [1, 1] w) := by
  go_enter Try.func10, Try.ntmps10
  go_wp2_with (go_at_call 23; refine (of_21 _).mono ?_; rintro _ w1 ⟨A1, c1, rfl, hI1, hB1⟩)
  go_ret2
  exact ⟨none, 0, A1, c1, rfl, no_ints _, hI1, hB1⟩
theorem effect_28 (w : World) : Calls Try.prog 10 #[.int .i64 28] w (EffP [] [] w) := by
  go_enter Try.func10, Try.ntmps10
  go_wp2
  go_ret2
  exact ⟨none, 0, none, 0, rfl, no_ints _, no_ints _, Below.refl _ _⟩
theorem effect_29 (w : World) : Calls Try.prog 10 #[.int .i64 29] w (EffP [] [] w) := by
  go_enter Try.func10, Try.ntmps10
  go_wp2
  go_ret2
  exact ⟨none, 0, none, 0, rfl, no_ints _, no_ints _, Below.refl _ _⟩
theorem effect_30 (w : World) : Calls Try.prog 10 #[.int .i64 30] w (EffP [1] [] w) := by
  go_enter Try.func10, Try.ntmps10
  go_wp2_with (go_at_call 23; refine (of_11 _).mono ?_; rintro _ w1 ⟨A1, c1, rfl, hI1, hB1⟩)
  go_ret2
  exact ⟨A1, c1, none, 0, rfl, hI1, no_ints _, hB1⟩
theorem effect_31 (w : World) : Calls Try.prog 10 #[.int .i64 31] w (EffP [] [] w) := by
  go_enter Try.func10, Try.ntmps10
  go_wp2
  go_ret2
  exact ⟨none, 0, none, 0, rfl, no_ints _, no_ints _, Below.refl _ _⟩
theorem effect_32 (w : World) : Calls Try.prog 10 #[.int .i64 32] w (EffP [] [1] w) := by
  go_enter Try.func10, Try.ntmps10
  go_wp2_with (go_at_call 23; refine (of_11 _).mono ?_; rintro _ w1 ⟨A1, c1, rfl, hI1, hB1⟩)
  go_ret2
  exact ⟨none, 0, A1, c1, rfl, no_ints _, hI1, hB1⟩
theorem effect_33 (w : World) : Calls Try.prog 10 #[.int .i64 33] w (EffP [] [] w) := by
  go_enter Try.func10, Try.ntmps10
  go_wp2
  go_ret2
  exact ⟨none, 0, none, 0, rfl, no_ints _, no_ints _, Below.refl _ _⟩
theorem effect_34 (w : World) : Calls Try.prog 10 #[.int .i64 34] w (EffP [] [] w) := by
  go_enter Try.func10, Try.ntmps10
  go_wp2
  go_ret2
  exact ⟨none, 0, none, 0, rfl, no_ints _, no_ints _, Below.refl _ _⟩
theorem effect_out (w : World) (op : Int) (h : op < 0 ∨ 35 ≤ op) : Calls Try.prog 10 #[.int .i64 op] w (EffP [] [] w) := by
  have e1 := ne_k (k := 1) h (by decide) (by decide)
  have e32 := ne_k (k := 32) h (by decide) (by decide)
  have e6 := ne_k (k := 6) h (by decide) (by decide)
  have e7 := ne_k (k := 7) h (by decide) (by decide)
  have e8 := ne_k (k := 8) h (by decide) (by decide)
  have e9 := ne_k (k := 9) h (by decide) (by decide)
  have e10 := ne_k (k := 10) h (by decide) (by decide)
  have e12 := ne_k (k := 12) h (by decide) (by decide)
  have e13 := ne_k (k := 13) h (by decide) (by decide)
  have e11 := ne_k (k := 11) h (by decide) (by decide)
  have e14 := ne_k (k := 14) h (by decide) (by decide)
  have e15 := ne_k (k := 15) h (by decide) (by decide)
  have e16 := ne_k (k := 16) h (by decide) (by decide)
  have e17 := ne_k (k := 17) h (by decide) (by decide)
  have e18 := ne_k (k := 18) h (by decide) (by decide)
  have e19 := ne_k (k := 19) h (by decide) (by decide)
  have e20 := ne_k (k := 20) h (by decide) (by decide)
  have e22 := ne_k (k := 22) h (by decide) (by decide)
  have e26 := ne_k (k := 26) h (by decide) (by decide)
  have e30 := ne_k (k := 30) h (by decide) (by decide)
  have e27 := ne_k (k := 27) h (by decide) (by decide)
  go_enter Try.func10, Try.ntmps10
  go_wp2
  go_ret2
  exact ⟨none, 0, none, 0, rfl, no_ints _, no_ints _, Below.refl _ _⟩

theorem effect_any (op : Int) (w : World) : Calls Try.prog 10 #[.int .i64 op] w (EffP (Op.tys (Op.row op).takes) (Op.tys (Op.row op).gives) w) := by
  refine in_or_out (p := fun op => Calls Try.prog 10 #[.int .i64 op] w (EffP (Op.tys (Op.row op).takes) (Op.tys (Op.row op).gives) w)) (forall35 (p := fun k => Calls Try.prog 10 #[.int .i64 (k : Int)] w (EffP (Op.tys (Op.row (k : Int)).takes) (Op.tys (Op.row (k : Int)).gives) w)) ?_) (fun op h => ?_) op
  · simp only [List.range, List.range.loop, List.forall_mem_cons]
    exact ⟨effect_0 w, effect_1 w, effect_2 w, effect_3 w, effect_4 w, effect_5 w, effect_6 w, effect_7 w, effect_8 w, effect_9 w, effect_10 w, effect_11 w, effect_12 w, effect_13 w, effect_14 w, effect_15 w, effect_16 w, effect_17 w, effect_18 w, effect_19 w, effect_20 w, effect_21 w, effect_22 w, effect_23 w, effect_24 w, effect_25 w, effect_26 w, effect_27 w, effect_28 w, effect_29 w, effect_30 w, effect_31 w, effect_32 w, effect_33 w, effect_34 w, fun _ h => absurd h (by simp)⟩
  · rw [Op.row_out (by omega)]
    exact effect_out w op h
end Go.Proofs.Ytfkhcoeggfgjeaa
