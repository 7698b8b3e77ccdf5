/-
  What slots.Or, Sub, Count, Inside and the document's Or, Sub, Inside answer. Conditions: the words have 64 bits.
-/
import Derived.Test.YtinmcelgfdjmfaaDoorSlB
import Derived.Handy
import Derived.ChangeKeysEq
namespace Go.Proofs.YtinmcelgfdjmfaaDoor
open Go.RowKit

set_option maxRecDepth 100000 in
set_option maxHeartbeats 1000000 in
theorem sub_set (a b : Sl.Four) (ha : a.ok) (hb : b.ok) (w : World) :
    Calls Tryd.prog 38 #[setV a, setV b] w (SetP (a.sub b) w) := by
  have HA := Lib.hid ha
  have HB := Lib.hid hb
  clear ha hb
  go_enter Tryd.func38, Tryd.ntmps38
  go_wp2
  refine wp_loop_rounds 5 ?_
  rw [rounds_succ]
  go_wp2
  go_region
  go_wp2
  rw [rounds_succ]
  go_wp2
  go_region
  go_wp2
  rw [rounds_succ]
  go_wp2
  go_region
  go_wp2
  rw [rounds_succ]
  go_wp2
  go_region
  go_wp2
  rw [rounds_succ]
  go_wp2
  exact bodyPost_ret (v := .agg #[.int .u64 (bits .andNot .u64 (a.a : Int) (b.a : Int)), .int .u64 (bits .andNot .u64 (a.b : Int) (b.b : Int)), .int .u64 (bits .andNot .u64 (a.c : Int) (b.c : Int)), .int .u64 (bits .andNot .u64 (a.d : Int) (b.d : Int))]) (by simp [results, Tryd.results38, go_sem]) rfl
    ⟨set_ret (cut_any _ _ HA.out.1 HB.out.1) (cut_any _ _ HA.out.2.1 HB.out.2.1) (cut_any _ _ HA.out.2.2.1 HB.out.2.2.1) (cut_any _ _ HA.out.2.2.2 HB.out.2.2.2), ((((((((Below.refl _ _).alloc (Nat.le_refl _) _).alloc (by simp) _).alloc (by simp; omega) _).drew).drew).drew).drew)⟩

set_option maxRecDepth 100000 in
set_option maxHeartbeats 1000000 in
theorem rsub_set (a b : Sl.Four) (ha : a.ok) (hb : b.ok) (w : World) :
    Calls Tryd.prog 35 #[setV a, setV b] w (SetP (a.sub b) w) := by
  have HA := Lib.hid ha
  have HB := Lib.hid hb
  clear ha hb
  go_enter Tryd.func35, Tryd.ntmps35
  go_wp2
  refine wp_loop_rounds 5 ?_
  rw [rounds_succ]
  go_wp2
  go_region
  go_wp2
  rw [rounds_succ]
  go_wp2
  go_region
  go_wp2
  rw [rounds_succ]
  go_wp2
  go_region
  go_wp2
  rw [rounds_succ]
  go_wp2
  go_region
  go_wp2
  rw [rounds_succ]
  go_wp2
  exact bodyPost_ret (v := .agg #[.int .u64 (bits .andNot .u64 (a.a : Int) (b.a : Int)), .int .u64 (bits .andNot .u64 (a.b : Int) (b.b : Int)), .int .u64 (bits .andNot .u64 (a.c : Int) (b.c : Int)), .int .u64 (bits .andNot .u64 (a.d : Int) (b.d : Int))]) (by simp [results, Tryd.results35, go_sem]) rfl
    ⟨set_ret (cut_any _ _ HA.out.1 HB.out.1) (cut_any _ _ HA.out.2.1 HB.out.2.1) (cut_any _ _ HA.out.2.2.1 HB.out.2.2.1) (cut_any _ _ HA.out.2.2.2 HB.out.2.2.2), ((((((((Below.refl _ _).alloc (Nat.le_refl _) _).alloc (by simp) _).alloc (by simp; omega) _).drew).drew).drew).drew)⟩

set_option maxRecDepth 100000 in
theorem idx0 (x0 x1 x2 x3 : Value) (w : World) : (Instr.index 27 (.agg #[x0, x1, x2, x3]) (.int .i64 0)).run Tryd.prog w = .ok x0 w := by kernel_rfl
set_option maxRecDepth 100000 in
theorem idx1 (x0 x1 x2 x3 : Value) (w : World) : (Instr.index 27 (.agg #[x0, x1, x2, x3]) (.int .i64 1)).run Tryd.prog w = .ok x1 w := by kernel_rfl
set_option maxRecDepth 100000 in
theorem idx2 (x0 x1 x2 x3 : Value) (w : World) : (Instr.index 27 (.agg #[x0, x1, x2, x3]) (.int .i64 2)).run Tryd.prog w = .ok x2 w := by kernel_rfl
set_option maxRecDepth 100000 in
theorem idx3 (x0 x1 x2 x3 : Value) (w : World) : (Instr.index 27 (.agg #[x0, x1, x2, x3]) (.int .i64 3)).run Tryd.prog w = .ok x3 w := by kernel_rfl

theorem ones_le (x : Nat) : Lib.onesCount x ≤ 64 := by
  rw [← Sl.places_len]
  unfold Sl.places
  exact Nat.le_trans (List.length_filter_le _ _) (by simp)

set_option maxRecDepth 100000 in
theorem plain_u64 : Tryd.prog.plainKey 25 = true := by kernel_rfl
set_option maxRecDepth 100000 in
theorem cells_u64 : Tryd.prog.cellsOf 25 = 1 := by kernel_rfl
theorem range4 : List.range 4 = [0, 1, 2, 3] := rfl
set_option maxRecDepth 100000 in
theorem eq_item {xs ys : Array Value} {i : Nat} {is : List Nat} {x y : Int} (w : World) (hx : xs[i]? = some (.int .u64 x)) (hy : ys[i]? = some (.int .u64 y)) :
    (Op.eqItems 9999 25 1 xs ys (i :: is)).run Tryd.prog w = if (x == y) = true then (Op.eqItems 9999 25 1 xs ys is).run Tryd.prog w else .ok false w := by
  have p : ∀ (zs : Array Value) (z : Value), zs[i]? = some z → (part 25 zs (i * 1)).run Tryd.prog w = .ok z w := fun zs z h => run_part_plain w plain_u64 (by rw [Nat.mul_one]; exact h)
  have E : (Op.equalIn 9999 25 (.int .u64 x) (.int .u64 y)).run Tryd.prog w = .ok (x == y) w := run_equalIn_int w 9998 _ _ _ x y Tryd.underlying25
  simp only [Op.eqItems, Sem.run_bind]
  rw [p _ _ hx, Result.andThen_ok, p _ _ hy, Result.andThen_ok, E, Result.andThen_ok]
  cases x == y <;> simp

set_option maxRecDepth 100000 in
/-- Two sets compared. -/
theorem eq_four (x0 x1 x2 x3 y0 y1 y2 y3 : Int) (w : World) :
    (Op.equalIn 10000 27 (.agg #[.int .u64 x0, .int .u64 x1, .int .u64 x2, .int .u64 x3]) (.agg #[.int .u64 y0, .int .u64 y1, .int .u64 y2, .int .u64 y3])).run Tryd.prog w
      = .ok (x0 == y0 && (x1 == y1 && (x2 == y2 && x3 == y3))) w := by
  obtain ⟨i, hi⟩ : ∃ i, Tryd.prog.info? 25 = some i := ⟨_, rfl⟩
  rw [run_equalIn_array w 9999 _ _ Tryd.underlying27 hi, cells_u64, range4, eq_item w (x := x0) (y := y0) rfl rfl, eq_item w (x := x1) (y := y1) rfl rfl, eq_item w (x := x2) (y := y2) rfl rfl, eq_item w (x := x3) (y := y3) rfl rfl]
  cases x0 == y0
  · rfl
  cases x1 == y1
  · rfl
  cases x2 == y2
  · rfl
  cases x3 == y3
  · rfl
  simp [Op.eqItems]
set_option maxRecDepth 100000 in
/-- A set is the same as itself. -/
theorem eq_same (s : Sl.Four) (w : World) : (Op.equalIn 10000 27 (setV s) (setV s)).run Tryd.prog w = .ok true w := by
  rw [eq_four]
  simp

set_option maxRecDepth 100000 in
set_option maxHeartbeats 1000000 in
theorem inside_any (a b : Sl.Four) (ha : a.ok) (hb : b.ok) (w : World) :
    Calls Tryd.prog 29 #[setV a, setV b] w fun e w' => e = .returned (.bool (a.inside b)) ∧ Below w.heap.size w w' := by
  have HS := Lib.hid (fun w => sub_set a b ha hb w)
  clear ha hb
  unfold Sl.Four.inside
  generalize a.sub b = s at *
  have e4 := eq_four
  go_enter Tryd.func29, Tryd.ntmps29
  go_wp2_with (go_at_call 38; refine (HS.out _).mono ?_; rintro e w1 ⟨rfl, hbl⟩; have HBL := Lib.hid hbl; clear hbl)
  go_ret
  refine ⟨ret_bool ?_, ?_⟩
  · rw [Bool.eq_iff_iff]
    simp
  · exact (((Below.refl _ _).alloc (Nat.le_refl _) _).alloc (by simp) _).trans (HBL.out.mono (by simp; omega))

set_option maxRecDepth 100000 in
set_option maxHeartbeats 1000000 in
theorem rinside_any (a b : Sl.Four) (ha : a.ok) (hb : b.ok) (w : World) :
    Calls Tryd.prog 23 #[setV a, setV b] w fun e w' => e = .returned (.bool (a.inside b)) ∧ Below w.heap.size w w' := by
  have HS := Lib.hid (fun w => rsub_set a b ha hb w)
  clear ha hb
  unfold Sl.Four.inside
  generalize a.sub b = s at *
  have e4 := eq_four
  go_enter Tryd.func23, Tryd.ntmps23
  go_wp2_with (go_at_call 35; refine (HS.out _).mono ?_; rintro e w1 ⟨rfl, hbl⟩; have HBL := Lib.hid hbl; clear hbl)
  go_ret
  refine ⟨ret_bool ?_, ?_⟩
  · rw [Bool.eq_iff_iff]
    simp
  · exact (((Below.refl _ _).alloc (Nat.le_refl _) _).alloc (by simp) _).trans (HBL.out.mono (by simp; omega))

end Go.Proofs.YtinmcelgfdjmfaaDoor
