/-
  What cell's smallest functions and the document's own answer: a number, a complex one, what a value holds, zeros. Conditions: none.
-/
import Derived.Test.YtdenboakcbipdaaDoorPlB
namespace Go.Proofs.YtdenboakcbipdaaDoor
open Go.RowKit

namespace Ce
/-- A value: its Kind, its number, its complex number's parts. -/
structure Cv where
  k : Int
  n : Int
  re : Nat
  im : Nat

/-- It as the model has it. -/
abbrev Cv.val (v : Cv) : Value := .agg #[.int .i64 v.k, .int .i64 v.n, .complex .f64 v.re v.im]

/-- 0 of a type. -/
def zero (t : Int) : Cv := if t = 1 then ⟨1, 0, 0, 0⟩ else if t = 2 then ⟨2, 0, 0, 0⟩ else ⟨0, 0, 0, 0⟩

/-- What a value holds, by its Kind alone. -/
def held (v : Cv) : Value := if v.k = 1 then .iface 61 (.int .i64 v.n) else if v.k = 2 then .iface 64 (.complex .f64 v.re v.im) else .nilIface

/-- Are two values the same? -/
def same (a b : Cv) : Bool := if a.k = b.k then (if a.k = 2 then Pl.al a.re b.re && Pl.al a.im b.im else a.n == b.n) else false

theorem run_store_complex {P : Program} {w : World} (a : Addr) (m : Mode) (k : FloatKind) (x y : Nat) : (store a (.complex k x y) m).run P w = stored P w a (.complex k x y) m := run_store P w a _ m rfl
end Ce

attribute [local go_sem] Ce.run_store_complex

/-- A value is answered; nothing below has turned. -/
def CvP (v : Ce.Cv) (w : World) (e : Ending) (w' : World) : Prop := e = .returned v.val ∧ Below w.heap.size w w'

/-- A value's block. -/
abbrev Ce.Cv.obj (v : Ce.Cv) : Obj := .cells #[.int .i64 v.k, .int .i64 v.n, .complex .f64 v.re v.im] 29

theorem nvalue_ex (n : Int) (w : World) : Calls Tryd.prog 29 #[.int .i64 n] w fun e w' => e = .returned (.agg #[.int .i64 1, .int .i64 n, .complex .f64 0 0]) ∧ w' = w.alloc (.cells #[.int .i64 1, .int .i64 n, .complex .f64 0 0] 29) := by
  go_enter Tryd.func29, Tryd.ntmps29
  go_wp2
  exact bodyPost_ret (v := .agg #[.int .i64 1, .int .i64 n, .complex .f64 0 0]) (by simp [results, Tryd.results29, go_sem]) rfl ⟨rfl, rfl⟩

theorem pvalue_ex (re im : Nat) (w : World) : Calls Tryd.prog 32 #[.complex .f64 re im] w fun e w' => e = .returned (.agg #[.int .i64 2, .int .i64 0, .complex .f64 re im]) ∧ w' = w.alloc (.cells #[.int .i64 2, .int .i64 0, .complex .f64 re im] 29) := by
  go_enter Tryd.func32, Tryd.ntmps32
  go_wp2
  exact bodyPost_ret (v := .agg #[.int .i64 2, .int .i64 0, .complex .f64 re im]) (by simp [results, Tryd.results32, go_sem]) rfl ⟨rfl, rfl⟩

theorem num_ex (n : Int) (w : World) : Calls Tryd.prog 13 #[.int .i64 n] w fun e w' => e = .returned (.agg #[.int .i64 1, .int .i64 n, .complex .f64 0 0]) ∧ w' = (w.alloc (.cells #[.int .i64 1, .int .i64 n, .complex .f64 0 0] 29)).alloc (.cells #[.int .i64 1, .int .i64 n, .complex .f64 0 0] 29) := by
  go_enter Tryd.func13, Tryd.ntmps13
  go_wp2_with (go_at_call 29; refine (nvalue_ex _ _).mono ?_; rintro _ w1 ⟨rfl, rfl⟩)
  exact bodyPost_ret (v := .agg #[.int .i64 1, .int .i64 n, .complex .f64 0 0]) (by simp [results, Tryd.results13, go_sem]) rfl ⟨rfl, rfl⟩

theorem point_ex (re im : Nat) (w : World) : Calls Tryd.prog 16 #[.complex .f64 re im] w fun e w' => e = .returned (.agg #[.int .i64 2, .int .i64 0, .complex .f64 re im]) ∧ w' = (w.alloc (.cells #[.int .i64 2, .int .i64 0, .complex .f64 re im] 29)).alloc (.cells #[.int .i64 2, .int .i64 0, .complex .f64 re im] 29) := by
  go_enter Tryd.func16, Tryd.ntmps16
  go_wp2_with (go_at_call 32; refine (pvalue_ex _ _ _).mono ?_; rintro _ w1 ⟨rfl, rfl⟩)
  exact bodyPost_ret (v := .agg #[.int .i64 2, .int .i64 0, .complex .f64 re im]) (by simp [results, Tryd.results16, go_sem]) rfl ⟨rfl, rfl⟩

theorem below_alloc1 (w : World) (o : Obj) : Below w.heap.size w (w.alloc o) := (Below.refl _ _).alloc (Nat.le_refl _) _
theorem below_alloc2 (w : World) (o o' : Obj) : Below w.heap.size w ((w.alloc o).alloc o') := (below_alloc1 w o).trans ((below_alloc1 _ o').mono (by simp))

theorem num_any (n : Int) (w : World) : Calls Tryd.prog 13 #[.int .i64 n] w (CvP ⟨1, n, 0, 0⟩ w) :=
  (num_ex n w).mono (by rintro _ w1 ⟨rfl, rfl⟩; exact ⟨rfl, below_alloc2 _ _ _⟩)
theorem point_any (re im : Nat) (w : World) : Calls Tryd.prog 16 #[.complex .f64 re im] w (CvP ⟨2, 0, re, im⟩ w) :=
  (point_ex re im w).mono (by rintro _ w1 ⟨rfl, rfl⟩; exact ⟨rfl, below_alloc2 _ _ _⟩)
theorem nvalue_any (n : Int) (w : World) : Calls Tryd.prog 29 #[.int .i64 n] w (CvP ⟨1, n, 0, 0⟩ w) :=
  (nvalue_ex n w).mono (by rintro _ w1 ⟨rfl, rfl⟩; exact ⟨rfl, below_alloc1 _ _⟩)
theorem pvalue_any (re im : Nat) (w : World) : Calls Tryd.prog 32 #[.complex .f64 re im] w (CvP ⟨2, 0, re, im⟩ w) :=
  (pvalue_ex re im w).mono (by rintro _ w1 ⟨rfl, rfl⟩; exact ⟨rfl, below_alloc1 _ _⟩)

theorem held_ex (v : Ce.Cv) (w : World) : Calls Tryd.prog 28 #[v.val] w fun e w' => e = .returned (Ce.held v) ∧ w' = w.alloc v.obj := by
  obtain ⟨k, n, re, im⟩ := v
  rcases (by omega : k = 1 ∨ k = 2 ∨ (k ≠ 1 ∧ k ≠ 2)) with rfl | rfl | ⟨h1, h2⟩
  · go_enter Tryd.func28, Tryd.ntmps28
    go_wp2
    go_ret
    exact ⟨rfl, rfl⟩
  · go_enter Tryd.func28, Tryd.ntmps28
    go_wp2
    go_ret
    exact ⟨rfl, rfl⟩
  · go_enter Tryd.func28, Tryd.ntmps28
    go_wp2
    go_ret
    exact ⟨by simp [Ce.held, h1, h2], rfl⟩

theorem is_num (v : Value) (w : World) : (Instr.typeAssert (.iface 61 v) 51 61 true).run Tryd.prog w = .ok (.tuple #[v, .bool true]) w := by
  simp [Instr.typeAssert, run_underlying Tryd.underlying61]
theorem is_point (v : Value) (w : World) : (Instr.typeAssert (.iface 64 v) 51 64 true).run Tryd.prog w = .ok (.tuple #[v, .bool true]) w := by
  simp [Instr.typeAssert, run_underlying Tryd.underlying64]
theorem not_num (v : Value) (w : World) : (Instr.typeAssert (.iface 64 v) 51 61 true).run Tryd.prog w = .ok (.tuple #[.int .i64 0, .bool false]) w := by
  simp [Instr.typeAssert, run_underlying Tryd.underlying61, Tryd.zeroValue61]
theorem nil_num (w : World) : (Instr.typeAssert .nilIface 51 61 true).run Tryd.prog w = .ok (.tuple #[.int .i64 0, .bool false]) w := by
  simp [Instr.typeAssert, run_underlying Tryd.underlying61, Tryd.zeroValue61]
theorem nil_point (w : World) : (Instr.typeAssert .nilIface 51 64 true).run Tryd.prog w = .ok (.tuple #[.complex .f64 0 0, .bool false]) w := by
  simp [Instr.typeAssert, run_underlying Tryd.underlying64, Tryd.zeroValue64]

theorem czero_one (w : World) : Calls Tryd.prog 27 #[.iface 61 (.int .i64 0)] w fun e w' => e = .returned (.agg #[.int .i64 1, .int .i64 0, .complex .f64 0 0]) ∧ w' = ((w.alloc (.cells #[.int .i64 1, .int .i64 0, .complex .f64 0 0] 29)).alloc (.cells #[.int .i64 1, .int .i64 0, .complex .f64 0 0] 29)).alloc (.cells #[.int .i64 1, .int .i64 0, .complex .f64 0 0] 29) := by
  have i1 := is_num
  have i2 := is_point
  have i3 := not_num
  have i4 := nil_num
  have i5 := nil_point
  go_enter Tryd.func27, Tryd.ntmps27
  go_wp2_with (go_at_call 13; refine (num_ex _ _).mono ?_; rintro _ w1 ⟨rfl, rfl⟩)
  exact bodyPost_ret (v := .agg #[.int .i64 1, .int .i64 0, .complex .f64 0 0]) (by simp [results, Tryd.results27, go_sem]) rfl ⟨rfl, rfl⟩

theorem czero_two (w : World) : Calls Tryd.prog 27 #[.iface 64 (.complex .f64 0 0)] w fun e w' => e = .returned (.agg #[.int .i64 2, .int .i64 0, .complex .f64 0 0]) ∧ w' = ((w.alloc (.cells #[.int .i64 2, .int .i64 0, .complex .f64 0 0] 29)).alloc (.cells #[.int .i64 2, .int .i64 0, .complex .f64 0 0] 29)).alloc (.cells #[.int .i64 2, .int .i64 0, .complex .f64 0 0] 29) := by
  have i1 := is_num
  have i2 := is_point
  have i3 := not_num
  have i4 := nil_num
  have i5 := nil_point
  go_enter Tryd.func27, Tryd.ntmps27
  go_wp2_with (go_at_call 16; refine (point_ex _ _ _).mono ?_; rintro _ w1 ⟨rfl, rfl⟩)
  exact bodyPost_ret (v := .agg #[.int .i64 2, .int .i64 0, .complex .f64 0 0]) (by simp [results, Tryd.results27, go_sem]) rfl ⟨rfl, rfl⟩

theorem czero_none (w : World) : Calls Tryd.prog 27 #[.nilIface] w fun e w' => e = .returned (.agg #[.int .i64 0, .int .i64 0, .complex .f64 0 0]) ∧ w' = w.alloc (.cells #[.int .i64 0, .int .i64 0, .complex .f64 0 0] 29) := by
  have i1 := is_num
  have i2 := is_point
  have i3 := not_num
  have i4 := nil_num
  have i5 := nil_point
  go_enter Tryd.func27, Tryd.ntmps27
  go_wp2
  exact bodyPost_ret (v := .agg #[.int .i64 0, .int .i64 0, .complex .f64 0 0]) (by simp [results, Tryd.results27, go_sem]) rfl ⟨rfl, rfl⟩

theorem below_alloc5 (w : World) (a b c d e : Obj) : Below w.heap.size w (((((w.alloc a).alloc b).alloc c).alloc d).alloc e) :=
  (below_alloc2 w a b).trans (((below_alloc2 _ c d).trans ((below_alloc1 _ e).mono (by simp only [World.size_alloc]; omega))).mono (by simp only [World.size_alloc]; omega))
theorem below_alloc3 (w : World) (a b c : Obj) : Below w.heap.size w (((w.alloc a).alloc b).alloc c) :=
  (below_alloc2 w a b).trans ((below_alloc1 _ c).mono (by simp only [World.size_alloc]; omega))

/-- 0 of a type. -/
theorem zero_any (t : Int) (w : World) : Calls Tryd.prog 12 #[.int .i64 t] w (CvP (Ce.zero t) w) := by
  have H := fun w => held_ex ⟨t, 0, 0, 0⟩ w
  rcases (by omega : t = 1 ∨ t = 2 ∨ (t ≠ 1 ∧ t ≠ 2)) with rfl | rfl | ⟨h1, h2⟩
  · rw [show Ce.held ⟨1, 0, 0, 0⟩ = .iface 61 (.int .i64 0) from rfl] at H
    go_enter Tryd.func12, Tryd.ntmps12
    go_wp2_with (first
      | (go_at_call 28; with_reducible refine (H _).mono ?_; rintro _ w1 ⟨rfl, rfl⟩)
      | (go_at_call 27; refine (czero_one _).mono ?_; rintro _ w1 ⟨rfl, rfl⟩))
    exact bodyPost_ret (v := .agg #[.int .i64 1, .int .i64 0, .complex .f64 0 0]) (by simp [results, Tryd.results12, go_sem]) rfl ⟨rfl, below_alloc5 _ _ _ _ _ _⟩
  · rw [show Ce.held ⟨2, 0, 0, 0⟩ = .iface 64 (.complex .f64 0 0) from rfl] at H
    go_enter Tryd.func12, Tryd.ntmps12
    go_wp2_with (first
      | (go_at_call 28; with_reducible refine (H _).mono ?_; rintro _ w1 ⟨rfl, rfl⟩)
      | (go_at_call 27; refine (czero_two _).mono ?_; rintro _ w1 ⟨rfl, rfl⟩))
    exact bodyPost_ret (v := .agg #[.int .i64 2, .int .i64 0, .complex .f64 0 0]) (by simp [results, Tryd.results12, go_sem]) rfl ⟨rfl, below_alloc5 _ _ _ _ _ _⟩
  · rw [show Ce.held ⟨t, 0, 0, 0⟩ = .nilIface by simp [Ce.held, h1, h2]] at H
    rw [show Ce.zero t = ⟨0, 0, 0, 0⟩ by simp [Ce.zero, h1, h2]]
    go_enter Tryd.func12, Tryd.ntmps12
    go_wp2_with (first
      | (go_at_call 28; with_reducible refine (H _).mono ?_; rintro _ w1 ⟨rfl, rfl⟩)
      | (go_at_call 27; refine (czero_none _).mono ?_; rintro _ w1 ⟨rfl, rfl⟩))
    exact bodyPost_ret (v := .agg #[.int .i64 0, .int .i64 0, .complex .f64 0 0]) (by simp [results, Tryd.results12, go_sem]) rfl ⟨rfl, below_alloc3 _ _ _ _⟩

/-- The document's 0 of a type. -/
theorem rzero_any (t : Int) (w : World) : Calls Tryd.prog 11 #[.int .i64 t] w (CvP (Ce.zero t) w) := by
  rcases (by omega : t = 1 ∨ t = 2 ∨ (t ≠ 1 ∧ t ≠ 2)) with rfl | rfl | ⟨h1, h2⟩
  · go_enter Tryd.func11, Tryd.ntmps11
    go_wp2
    exact bodyPost_ret (v := .agg #[.int .i64 1, .int .i64 0, .complex .f64 0 0]) (by simp [results, Tryd.results11, go_sem]) rfl ⟨rfl, below_alloc1 _ _⟩
  · go_enter Tryd.func11, Tryd.ntmps11
    go_wp2
    exact bodyPost_ret (v := .agg #[.int .i64 2, .int .i64 0, .complex .f64 0 0]) (by simp [results, Tryd.results11, go_sem]) rfl ⟨rfl, below_alloc1 _ _⟩
  · rw [show Ce.zero t = ⟨0, 0, 0, 0⟩ by simp [Ce.zero, h1, h2]]
    have g1 : (t == 1) = false := by simp [h1]
    have g2 : (t == 2) = false := by simp [h2]
    clear h1 h2
    go_enter Tryd.func11, Tryd.ntmps11
    go_wp2
    exact bodyPost_ret (v := .agg #[.int .i64 0, .int .i64 0, .complex .f64 0 0]) (by simp [results, Tryd.results11, go_sem]) rfl ⟨rfl, below_alloc1 _ _⟩

theorem csame_any (a b : Ce.Cv) (w : World) : Calls Tryd.prog 14 #[a.val, b.val] w (BoolP (Ce.same a b) w) := by
  obtain ⟨k, n, re, im⟩ := a
  obtain ⟨k', n', re', im'⟩ := b
  by_cases hk : k = k'
  · subst hk
    by_cases h2 : k = 2
    · subst h2
      rw [show Ce.same ⟨2, n, re, im⟩ ⟨2, n', re', im'⟩ = (Pl.al re re' && Pl.al im im') from rfl]
      have H := fun w => same_any re im re' im' w
      generalize (Pl.al re re' && Pl.al im im') = s at *
      go_enter Tryd.func14, Tryd.ntmps14
      go_wp2_with (go_at_call 30; with_reducible refine (H _).mono ?_; rintro _ w1 ⟨rfl, he⟩; obtain rfl := he.symm)
      go_ret
      exact ⟨rfl, below_alloc2 _ _ _⟩
    · rw [show Ce.same ⟨k, n, re, im⟩ ⟨k, n', re', im'⟩ = (n == n') by simp [Ce.same, h2]]
      go_enter Tryd.func14, Tryd.ntmps14
      go_wp2
      go_ret
      exact ⟨rfl, below_alloc2 _ _ _⟩
  · rw [show Ce.same ⟨k, n, re, im⟩ ⟨k', n', re', im'⟩ = false by simp [Ce.same, hk]]
    go_enter Tryd.func14, Tryd.ntmps14
    go_wp2
    go_ret
    exact ⟨rfl, below_alloc2 _ _ _⟩

theorem rcsame_any (a b : Ce.Cv) (w : World) : Calls Tryd.prog 26 #[a.val, b.val] w (BoolP (Ce.same a b) w) := by
  obtain ⟨k, n, re, im⟩ := a
  obtain ⟨k', n', re', im'⟩ := b
  by_cases hk : k = k'
  · subst hk
    by_cases h2 : k = 2
    · subst h2
      rw [show Ce.same ⟨2, n, re, im⟩ ⟨2, n', re', im'⟩ = (Pl.al re re' && Pl.al im im') from rfl]
      have H := fun w => rsame_any re im re' im' w
      generalize (Pl.al re re' && Pl.al im im') = s at *
      go_enter Tryd.func26, Tryd.ntmps26
      go_wp2_with (go_at_call 40; with_reducible refine (H _).mono ?_; rintro _ w1 ⟨rfl, he⟩; obtain rfl := he.symm)
      go_ret
      exact ⟨rfl, below_alloc2 _ _ _⟩
    · rw [show Ce.same ⟨k, n, re, im⟩ ⟨k, n', re', im'⟩ = (n == n') by simp [Ce.same, h2]]
      go_enter Tryd.func26, Tryd.ntmps26
      go_wp2
      go_ret
      exact ⟨rfl, below_alloc2 _ _ _⟩
  · rw [show Ce.same ⟨k, n, re, im⟩ ⟨k', n', re', im'⟩ = false by simp [Ce.same, hk]]
    go_enter Tryd.func26, Tryd.ntmps26
    go_wp2
    go_ret
    exact ⟨rfl, below_alloc2 _ _ _⟩
end Go.Proofs.YtdenboakcbipdaaDoor
