/-
  What plane's functions and the document's own answer of any numbers. Conditions: none.
-/
import Derived.Test.YtdenboakcbipdaaDoorBase
import Derived.Test.YtdenboakcbipdaaDoorPlMath
namespace Go.Proofs.YtdenboakcbipdaaDoor
open Go.RowKit

namespace Pl
/-- The bits that an operation yields in a world; the world behind it. -/
def flV (w : World) (op : BinOp) (x y : Nat) : Nat := (floatBits op .f64 x y).getD (Question.cut (.nanBits .f64 x y) (w.tape w.drawn (.nanBits .f64 x y)))
def flW (w : World) (op : BinOp) (x y : Nat) : World := if (floatBits op .f64 x y).isSome then w else w.drew

theorem fr_flV (w : World) (op : BinOp) (x y : Nat) : FR op x y (flV w op x y) := by
  unfold FR flV
  cases h : floatBits op .f64 x y with
  | some r => exact .inl rfl
  | none => exact .inr ⟨rfl, nan_cut _ x y⟩

theorem below_flW {B : Nat} {w0 w : World} (h : Below B w0 w) (op : BinOp) (x y : Nat) : Below B w0 (flW w op x y) := by
  unfold flW
  split
  · exact h
  · exact h.drew

/-- The world stays as it was, or what came is no number. -/
theorem calm (w : World) (op : BinOp) (x y : Nat) : flW w op x y = w ∨ NaN (flV w op x y) := by
  unfold flV flW
  cases h : floatBits op .f64 x y with
  | some r => exact .inl (if_pos rfl)
  | none => exact .inr (nan_cut _ x y)

theorem calm2 {w w1 w2 : World} {p q : Nat} (h1 : w1 = w ∨ NaN p) (h2 : w2 = w1 ∨ NaN q) : w2 = w ∨ NaN p ∨ NaN q := by
  rcases h1 with rfl | h1
  · rcases h2 with rfl | h2
    · exact .inl rfl
    · exact .inr (.inr h2)
  · exact .inr (.inl h1)

theorem calm6 {w w1 w2 w3 w4 w5 w6 : World} {p q r s t u : Nat} (h1 : w1 = w ∨ NaN p) (h2 : w2 = w1 ∨ NaN q) (h3 : w3 = w2 ∨ NaN r) (h4 : w4 = w3 ∨ NaN s) (h5 : w5 = w4 ∨ NaN t) (h6 : w6 = w5 ∨ NaN u) (f3 : FR .sub p q r) (f6 : FR .add s t u) : w6 = w ∨ NaN r ∨ NaN u := by
  rcases h1 with rfl | h1
  · rcases h2 with rfl | h2
    · rcases h3 with rfl | h3
      · rcases h4 with rfl | h4
        · rcases h5 with rfl | h5
          · rcases h6 with rfl | h6
            · exact .inl rfl
            · exact .inr (.inr h6)
          · exact .inr (.inr (fr_nan_right (.inl rfl) h5 f6))
        · exact .inr (.inr (fr_nan_left (.inl rfl) h4 f6))
      · exact .inr (.inl h3)
    · exact .inr (.inl (fr_nan_right (.inr (.inl rfl)) h2 f3))
  · exact .inr (.inl (fr_nan_left (.inr (.inl rfl)) h1 f3))

section
variable {P : Program} (w : World)
theorem run_fl {op : BinOp} (hop : Op3 op) (x y : Nat) : (Op.floatArith op .f64 x y).run P w = .ok (.float .f64 (flV w op x y)) (flW w op x y) := by
  unfold flV flW
  cases h : floatBits op .f64 x y with
  | some r => exact run_floatArith w h
  | none => rcases hop with rfl | rfl | rfl <;> simp only [floatBits] at h <;> simp [Op.floatArith, h, Question.forced]

theorem run_carith' {op : BinOp} (hop : Op3 op) (x y : Nat) : (Op.Complex.arith op .f64 x y).run P w = .ok (flV w op x y) (flW w op x y) := by
  simp [Op.Complex.arith, run_fl w hop]

/-- One operation on floats. -/
theorem run_op {op : BinOp} (hop : Op3 op) (t : TypeId) (x y : Nat) : (binOp op t (.float .f64 x) (.float .f64 y)).run P w = .ok (.float .f64 (flV w op x y)) (flW w op x y) := by
  rcases hop with rfl | rfl | rfl
  · exact run_fl w (.inl rfl) x y
  · exact run_fl w (.inr (.inl rfl)) x y
  · exact run_fl w (.inr (.inr rfl)) x y

/-- A sum or a difference of complex numbers: part by part. -/
theorem run_cop {op : BinOp} (hop : op = .add ∨ op = .sub) (t : TypeId) (a b c d : Nat) : (binOp op t (.complex .f64 a b) (.complex .f64 c d)).run P w = .ok (.complex .f64 (flV w op a c) (flV (flW w op a c) op b d)) (flW (flW w op a c) op b d) := by
  have h3 : Op3 op := hop.elim .inl (fun h => .inr (.inl h))
  rcases hop with rfl | rfl <;> simp [binOp, Op.complexOp, run_carith' _ h3]
end

/-- What Two makes of two numbers. -/
def TwoR (op : Int) (ar ai br bi re im : Nat) : Prop :=
  (op = 16 ∧ FR .add ar br re ∧ FR .add ai bi im) ∨ (op = 17 ∧ FR .sub ar br re ∧ FR .sub ai bi im)
  ∨ (op = 18 ∧ ∃ p q s t, FR .mul ar br p ∧ FR .mul ai bi q ∧ FR .sub p q re ∧ FR .mul ar bi s ∧ FR .mul ai br t ∧ FR .add s t im)
  ∨ (op ≠ 16 ∧ op ≠ 17 ∧ op ≠ 18 ∧ re = 0 ∧ im = 0)

theorem two_al {op : Int} {ar ai br bi re im ar' ai' br' bi' re' im' : Nat} (h : TwoR op ar ai br bi re im) (h' : TwoR op ar' ai' br' bi' re' im') (h1 : Al ar ar') (h2 : Al ai ai') (h3 : Al br br') (h4 : Al bi bi') : Al re re' ∧ Al im im' := by
  have oa : Op3 .add := .inl rfl
  have os : Op3 .sub := .inr (.inl rfl)
  have om : Op3 .mul := .inr (.inr rfl)
  rcases h with ⟨e, a, b⟩ | ⟨e, a, b⟩ | ⟨e, p, q, s, t, a, b, c, d, f, g⟩ | ⟨e1, e2, e3, a, b⟩ <;>
  rcases h' with ⟨e', a', b'⟩ | ⟨e', a', b'⟩ | ⟨e', p', q', s', t', a', b', c', d', f', g'⟩ | ⟨e1', e2', e3', a', b'⟩ <;> first | (exfalso; omega) | skip
  · exact ⟨fr_al oa a a' h1 h3, fr_al oa b b' h2 h4⟩
  · exact ⟨fr_al os a a' h1 h3, fr_al os b b' h2 h4⟩
  · exact ⟨fr_al os c c' (fr_al om a a' h1 h3) (fr_al om b b' h2 h4), fr_al oa g g' (fr_al om d d' h1 h4) (fr_al om f f' h2 h3)⟩
  · subst a b a' b'
    exact ⟨.refl _, .refl _⟩

/-- A part of a number. -/
def part (op : Int) (re im : Nat) : Int := if op = 19 then near re else if op = 20 then near im else 0
end Pl

theorem pair_any (a b : Int) (w : World) : Calls Tryd.prog 34 #[.int .i64 a, .int .i64 b] w fun e w' => e = .returned (.complex .f64 (floatOfInt .f64 a) (floatOfInt .f64 b)) ∧ w' = w := by
  go_enter Tryd.func34, Tryd.ntmps34
  go_wp2
  go_ret
  exact ⟨rfl, rfl⟩

theorem rpair_any (a b : Int) (w : World) : Calls Tryd.prog 17 #[.int .i64 a, .int .i64 b] w fun e w' => e = .returned (.complex .f64 (floatOfInt .f64 a) (floatOfInt .f64 b)) ∧ w' = w := by
  go_enter Tryd.func17, Tryd.ntmps17
  go_wp2
  go_ret
  exact ⟨rfl, rfl⟩

/-- What Two answers. -/
def TwoP (op : Int) (ar ai br bi : Nat) (w : World) (e : Ending) (w' : World) : Prop := ∃ re im, e = .returned (.complex .f64 re im) ∧ Pl.TwoR op ar ai br bi re im ∧ Below w.heap.size w w' ∧ (w' = w ∨ Pl.NaN re ∨ Pl.NaN im)

theorem times_any (ar ai br bi : Nat) (w : World) : Calls Tryd.prog 44 #[.complex .f64 ar ai, .complex .f64 br bi] w (TwoP 18 ar ai br bi w) := by
  have ha : ∀ t x y w, (binOp .add t (.float .f64 x) (.float .f64 y)).run Tryd.prog w = .ok (.float .f64 (Pl.flV w .add x y)) (Pl.flW w .add x y) := fun t x y w => Pl.run_op w (.inl rfl) t x y
  have hs : ∀ t x y w, (binOp .sub t (.float .f64 x) (.float .f64 y)).run Tryd.prog w = .ok (.float .f64 (Pl.flV w .sub x y)) (Pl.flW w .sub x y) := fun t x y w => Pl.run_op w (.inr (.inl rfl)) t x y
  have hm : ∀ t x y w, (binOp .mul t (.float .f64 x) (.float .f64 y)).run Tryd.prog w = .ok (.float .f64 (Pl.flV w .mul x y)) (Pl.flW w .mul x y) := fun t x y w => Pl.run_op w (.inr (.inr rfl)) t x y
  go_enter Tryd.func44, Tryd.ntmps44
  go_wp2_with (simp only [ha, hs, hm])
  go_ret
  refine ⟨_, _, rfl, .inr (.inr (.inl ⟨rfl, _, _, _, _, Pl.fr_flV _ _ _ _, Pl.fr_flV _ _ _ _, Pl.fr_flV _ _ _ _, Pl.fr_flV _ _ _ _, Pl.fr_flV _ _ _ _, Pl.fr_flV _ _ _ _⟩)), ?_, Pl.calm6 (Pl.calm _ _ _ _) (Pl.calm _ _ _ _) (Pl.calm _ _ _ _) (Pl.calm _ _ _ _) (Pl.calm _ _ _ _) (Pl.calm _ _ _ _) (Pl.fr_flV _ _ _ _) (Pl.fr_flV _ _ _ _)⟩
  repeat refine Pl.below_flW ?_ _ _ _
  exact Below.refl _ _
end Go.Proofs.YtdenboakcbipdaaDoor
