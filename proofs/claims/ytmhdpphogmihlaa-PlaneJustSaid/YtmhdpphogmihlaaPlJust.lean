/-
  The walk of PlaneJust. Conditions: none but the numbers' kind.
-/
import Derived.Test.YtmhdpphogmihlaaPlOut
namespace Go.Proofs.Ytmhdpphogmihlaa
open Go.RowKit

/-- The two arrays, in blocks of their own. -/
def Arr (w W : World) (a0 a1 b0 b1 : Int) : Prop :=
  W.heap[w.heap.size]? = some (.cells #[.int .i64 a0, .int .i64 a1] 33 (0, 0)) ∧ W.heap[w.heap.size + 1]? = some (.cells #[.int .i64 b0, .int .i64 b1] 33 (0, 0)) ∧ Below w.heap.size w W
theorem Arr.new (w : World) (a0 a1 b0 b1 : Int) : Arr w ((w.alloc (.cells #[.int .i64 a0, .int .i64 a1] 33)).alloc (.cells #[.int .i64 b0, .int .i64 b1] 33)) a0 a1 b0 b1 := by
  refine ⟨?_, ?_, ((Below.refl _ w).alloc (Nat.le_refl _) _).alloc (by simp) _⟩
  · rw [Below.heap_alloc _ _ _ (by simp)]
    exact heap_alloc_new w _
  · have h := heap_alloc_new (w.alloc (.cells #[.int .i64 a0, .int .i64 a1] 33)) (.cells #[.int .i64 b0, .int .i64 b1] 33)
    simpa using h
theorem Arr.drewN {w W : World} {a0 a1 b0 b1 : Int} (h : Arr w W a0 a1 b0 b1) (n : Nat) : Arr w (W.drewN n) a0 a1 b0 b1 := ⟨h.1, h.2.1, ⟨h.2.2.os, h.2.2.tape, h.2.2.output, h.2.2.size, h.2.2.block⟩⟩
theorem Arr.cells {w W : World} {a0 a1 b0 b1 : Int} (h : Arr w W a0 a1 b0 b1) : W.cell? ⟨w.heap.size, 0, none⟩ = some (.int .i64 a0) ∧ W.cell? ⟨w.heap.size, 1, none⟩ = some (.int .i64 a1) ∧ W.cell? ⟨w.heap.size + 1, 0, none⟩ = some (.int .i64 b0) ∧ W.cell? ⟨w.heap.size + 1, 1, none⟩ = some (.int .i64 b1) := by
  obtain ⟨h1, h2, _⟩ := h
  refine ⟨?_, ?_, ?_, ?_⟩ <;> simp [World.cell?, h1, h2]

/-- What is asked of three answers of Two, with small whole numbers. -/
theorem just_two (op x y : Int) (a0 a1 b0 b1 : Int) (w : World) (h : ∀ re im, Pl.TwoR op (floatOfInt .f64 a0) (floatOfInt .f64 a1) (floatOfInt .f64 b0) (floatOfInt .f64 b1) re im → Pl.D (Ieee.double.read re) x ∧ Pl.D (Ieee.double.read im) y) (hx : x.natAbs < 4611686018427387904) (hy : y.natAbs < 4611686018427387904) :
    Calls Try.prog 7 #[.int .i64 op, .complex .f64 (floatOfInt .f64 a0) (floatOfInt .f64 a1), .complex .f64 (floatOfInt .f64 b0) (floatOfInt .f64 b1)] w fun e w' => ∃ re im, e = .returned (.complex .f64 re im) ∧ (Pl.part 19 re im = x ∧ Pl.part 20 re im = y) ∧ w' = w := by
  refine (two_any op _ _ _ _ w).mono ?_
  rintro _ w' ⟨re, im, rfl, hr, _, hn⟩
  obtain ⟨d1, d2⟩ := h re im hr
  refine ⟨re, im, rfl, ⟨d1.near hx, d2.near hy⟩, ?_⟩
  rcases hn with h | h | h
  · exact h
  · exact absurd h d1.not_nan
  · exact absurd h d2.not_nan

set_option maxHeartbeats 8000000 in
set_option maxRecDepth 100000 in
theorem just_in (a0 a1 b0 b1 : Int) (w : World) (n00 : decide (a0 < -1048576) = false) (n01 : decide (1048576 < a0) = false) (n02 : decide (b0 < -1048576) = false) (n03 : decide (1048576 < b0) = false) (n10 : decide (a1 < -1048576) = false) (n11 : decide (1048576 < a1) = false) (n12 : decide (b1 < -1048576) = false) (n13 : decide (1048576 < b1) = false) :
    Calls Try.prog 4 #[.agg #[.int .i64 a0, .int .i64 a1], .agg #[.int .i64 b0, .int .i64 b1]] w (BoolP true w) := by
  have m00 := of_decide_eq_false n00
  have m01 := of_decide_eq_false n01
  have m02 := of_decide_eq_false n02
  have m03 := of_decide_eq_false n03
  have m10 := of_decide_eq_false n10
  have m11 := of_decide_eq_false n11
  have m12 := of_decide_eq_false n12
  have m13 := of_decide_eq_false n13
  have la0 : a0.natAbs ≤ 1048576 := by omega
  have la1 : a1.natAbs ≤ 1048576 := by omega
  have lb0 : b0.natAbs ≤ 1048576 := by omega
  have lb1 : b1.natAbs ≤ 1048576 := by omega
  have da0 := Pl.D.int a0 (by omega)
  have da1 := Pl.D.int a1 (by omega)
  have db0 := Pl.D.int b0 (by omega)
  have db1 := Pl.D.int b1 (by omega)
  have k1 := Pl.prod_small la0 lb0
  have k2 := Pl.prod_small la1 lb1
  have k3 := Pl.prod_small la0 lb1
  have k4 := Pl.prod_small la1 lb0
  have H16 := Lib.hid (fun w => just_two 16 (a0 + b0) (a1 + b1) a0 a1 b0 b1 w (fun re im h => Pl.just_add da0 da1 db0 db1 la0 la1 lb0 lb1 h) (by omega) (by omega))
  have H17 := Lib.hid (fun w => just_two 17 (a0 - b0) (a1 - b1) a0 a1 b0 b1 w (fun re im h => Pl.just_sub da0 da1 db0 db1 la0 la1 lb0 lb1 h) (by omega) (by omega))
  have H18 := Lib.hid (fun w => just_two 18 (a0 * b0 - a1 * b1) (a0 * b1 + a1 * b0) a0 a1 b0 b1 w (fun re im h => Pl.just_mul da0 da1 db0 db1 la0 la1 lb0 lb1 h) (by generalize a0 * b0 = x at *; generalize a1 * b1 = y at *; omega) (by generalize a0 * b1 = x at *; generalize a1 * b0 = y at *; omega))
  have hp1 : -9223372036854775808 ≤ a0 * b0 ∧ a0 * b0 ≤ 9223372036854775807 := by generalize a0 * b0 = x at *; omega
  have hp2 : -9223372036854775808 ≤ a1 * b1 ∧ a1 * b1 ≤ 9223372036854775807 := by generalize a1 * b1 = x at *; omega
  have hp3 : -9223372036854775808 ≤ a0 * b1 ∧ a0 * b1 ≤ 9223372036854775807 := by generalize a0 * b1 = x at *; omega
  have hp4 : -9223372036854775808 ≤ a1 * b0 ∧ a1 * b0 ≤ 9223372036854775807 := by generalize a1 * b0 = x at *; omega
  clear da0 da1 db0 db1 la0 la1 lb0 lb1
  go_enter Try.func4, Try.ntmps4
  go_wp2
  refine wp_loop_rounds 3 ?_
  rw [rounds_succ]
  go_wp2
  rw [rounds_succ]
  go_wp2
  rw [rounds_succ]
  go_wp2
  go_quiet (first | (go_at_call 5; refine Calls.quiet_of_same (pair_any _ _ _)))
  have HA := Lib.hid ((Arr.new w a0 a1 b0 b1).drewN nq)
  generalize ((w.alloc (.cells #[.int .i64 a0, .int .i64 a1] 33)).alloc (.cells #[.int .i64 b0, .int .i64 b1] 33)).drewN nq = W at *
  obtain ⟨c0, c1, c2, c3⟩ := HA.out.cells
  go_wp2_with (first
    | (go_at_call 7; with_reducible refine (H16.out _).mono ?_; rintro _ w1 ⟨re, im, rfl, ⟨hp, hq⟩, he⟩; obtain rfl := he.symm; have HP := Lib.hid hp; have HQ := Lib.hid hq; clear hp hq)
    | (go_at_call 7; with_reducible refine (H17.out _).mono ?_; rintro _ w1 ⟨rd, id, rfl, ⟨hp, hq⟩, he⟩; obtain rfl := he.symm; have HP2 := Lib.hid hp; have HQ2 := Lib.hid hq; clear hp hq)
    | (go_at_call 7; with_reducible refine (H18.out _).mono ?_; rintro _ w1 ⟨rp, ip, rfl, ⟨hp, hq⟩, he⟩; obtain rfl := he.symm; have HP3 := Lib.hid hp; have HQ3 := Lib.hid hq; clear hp hq))
  have q1 : (Pl.part 19 re im == a0 + b0) = true := beq_iff_eq.2 HP.out
  have q2 : (Pl.part 20 re im == a1 + b1) = true := beq_iff_eq.2 HQ.out
  have q3 : (Pl.part 19 rd id == a0 - b0) = true := beq_iff_eq.2 HP2.out
  have q4 : (Pl.part 20 rd id == a1 - b1) = true := beq_iff_eq.2 HQ2.out
  have q5 : (Pl.part 19 rp ip == a0 * b0 - a1 * b1) = true := beq_iff_eq.2 HP3.out
  have q6 : (Pl.part 20 rp ip == a0 * b1 + a1 * b0) = true := beq_iff_eq.2 HQ3.out
  go_quiet (first | (go_at_call 11; refine Calls.quiet_of_same (part_any _ _ _ _)))
  clear c0 c1 c2 c3
  have HA1 := Lib.hid (HA.out.drewN nq)
  generalize W.drewN nq = W1 at *
  obtain ⟨c0, c1, c2, c3⟩ := HA1.out.cells
  go_wp2
  go_quiet (first | (go_at_call 11; refine Calls.quiet_of_same (part_any _ _ _ _)))
  clear c0 c1 c2 c3
  have HA2 := Lib.hid (HA1.out.drewN nq)
  generalize W1.drewN nq = W2 at *
  obtain ⟨c0, c1, c2, c3⟩ := HA2.out.cells
  go_wp2
  go_quiet (first
    | (go_at_call 11; refine Calls.quiet_of_same (part_any _ _ _ _))
    | (go_at_call 13; refine Calls.quiet_of_same (lives_any _)))
  have HA3 := Lib.hid (HA2.out.drewN nq)
  go_wp2
  go_ret
  exact ⟨rfl, HA3.out.2.2⟩
/-- PlaneJust answers true. -/
theorem just_walk (a0 a1 b0 b1 : Int) (w : World) : Calls Try.prog 4 #[.agg #[.int .i64 a0, .int .i64 a1], .agg #[.int .i64 b0, .int .i64 b1]] w (BoolP true w) := by
  by_cases h0 : a0 < -1048576
  · exact just_out00 a0 a1 b0 b1 w h0
  have n0 := decide_eq_false h0
  by_cases h1 : 1048576 < a0
  · exact just_out01 a0 a1 b0 b1 w n0 h1
  have n1 := decide_eq_false h1
  by_cases h2 : b0 < -1048576
  · exact just_out02 a0 a1 b0 b1 w n0 n1 h2
  have n2 := decide_eq_false h2
  by_cases h3 : 1048576 < b0
  · exact just_out03 a0 a1 b0 b1 w n0 n1 n2 h3
  have n3 := decide_eq_false h3
  by_cases h4 : a1 < -1048576
  · exact just_out10 a0 a1 b0 b1 w n0 n1 n2 n3 h4
  have n4 := decide_eq_false h4
  by_cases h5 : 1048576 < a1
  · exact just_out11 a0 a1 b0 b1 w n0 n1 n2 n3 n4 h5
  have n5 := decide_eq_false h5
  by_cases h6 : b1 < -1048576
  · exact just_out12 a0 a1 b0 b1 w n0 n1 n2 n3 n4 n5 h6
  have n6 := decide_eq_false h6
  by_cases h7 : 1048576 < b1
  · exact just_out13 a0 a1 b0 b1 w n0 n1 n2 n3 n4 n5 n6 h7
  exact just_in a0 a1 b0 b1 w n0 n1 n2 n3 n4 n5 n6 (decide_eq_false h7)
end Go.Proofs.Ytmhdpphogmihlaa
