/-
  What plane.Two, plane.Same, plane.Part and the document's own answer of any numbers. Conditions: none.
-/
import Derived.Test.YtdenboakcbipdaaDoorPlA
namespace Go.Proofs.YtdenboakcbipdaaDoor
open Go.RowKit

theorem two_any (op : Int) (ar ai br bi : Nat) (w : World) : Calls Tryd.prog 35 #[.int .i64 op, .complex .f64 ar ai, .complex .f64 br bi] w (TwoP op ar ai br bi w) := by
  have ha : ∀ t a b c d w, (binOp .add t (.complex .f64 a b) (.complex .f64 c d)).run Tryd.prog w = .ok (.complex .f64 (Pl.flV w .add a c) (Pl.flV (Pl.flW w .add a c) .add b d)) (Pl.flW (Pl.flW w .add a c) .add b d) := fun t a b c d w => Pl.run_cop w (.inl rfl) t a b c d
  have hs : ∀ t a b c d w, (binOp .sub t (.complex .f64 a b) (.complex .f64 c d)).run Tryd.prog w = .ok (.complex .f64 (Pl.flV w .sub a c) (Pl.flV (Pl.flW w .sub a c) .sub b d)) (Pl.flW (Pl.flW w .sub a c) .sub b d) := fun t a b c d w => Pl.run_cop w (.inr rfl) t a b c d
  rcases (by omega : op = 16 ∨ op = 17 ∨ op = 18 ∨ (op ≠ 16 ∧ op ≠ 17 ∧ op ≠ 18)) with rfl | rfl | rfl | ⟨h1, h2, h3⟩
  · go_enter Tryd.func35, Tryd.ntmps35
    go_wp2_with (simp only [ha])
    go_ret
    exact ⟨_, _, rfl, .inl ⟨rfl, Pl.fr_flV _ _ _ _, Pl.fr_flV _ _ _ _⟩, Pl.below_flW (Pl.below_flW (Below.refl _ _) _ _ _) _ _ _, Pl.calm2 (Pl.calm _ _ _ _) (Pl.calm _ _ _ _)⟩
  · go_enter Tryd.func35, Tryd.ntmps35
    go_wp2_with (simp only [hs])
    go_ret
    exact ⟨_, _, rfl, .inr (.inl ⟨rfl, Pl.fr_flV _ _ _ _, Pl.fr_flV _ _ _ _⟩), Pl.below_flW (Pl.below_flW (Below.refl _ _) _ _ _) _ _ _, Pl.calm2 (Pl.calm _ _ _ _) (Pl.calm _ _ _ _)⟩
  · go_enter Tryd.func35, Tryd.ntmps35
    go_wp2_with (go_at_call 44; refine (times_any _ _ _ _ _).mono ?_; rintro _ w1 ⟨re, im, rfl, hr, hb⟩)
    go_ret
    exact ⟨_, _, rfl, hr, hb⟩
  · go_enter Tryd.func35, Tryd.ntmps35
    go_wp2
    go_ret
    exact ⟨_, _, rfl, .inr (.inr (.inr ⟨h1, h2, h3, rfl, rfl⟩)), Below.refl _ _, .inl rfl⟩

theorem rtwo_any (op : Int) (ar ai br bi : Nat) (w : World) : Calls Tryd.prog 23 #[.int .i64 op, .complex .f64 ar ai, .complex .f64 br bi] w (TwoP op ar ai br bi w) := by
  have ha : ∀ t x y w, (binOp .add t (.float .f64 x) (.float .f64 y)).run Tryd.prog w = .ok (.float .f64 (Pl.flV w .add x y)) (Pl.flW w .add x y) := fun t x y w => Pl.run_op w (.inl rfl) t x y
  have hs : ∀ t x y w, (binOp .sub t (.float .f64 x) (.float .f64 y)).run Tryd.prog w = .ok (.float .f64 (Pl.flV w .sub x y)) (Pl.flW w .sub x y) := fun t x y w => Pl.run_op w (.inr (.inl rfl)) t x y
  have hm : ∀ t x y w, (binOp .mul t (.float .f64 x) (.float .f64 y)).run Tryd.prog w = .ok (.float .f64 (Pl.flV w .mul x y)) (Pl.flW w .mul x y) := fun t x y w => Pl.run_op w (.inr (.inr rfl)) t x y
  rcases (by omega : op = 16 ∨ op = 17 ∨ op = 18 ∨ (op ≠ 16 ∧ op ≠ 17 ∧ op ≠ 18)) with rfl | rfl | rfl | ⟨h1, h2, h3⟩
  · go_enter Tryd.func23, Tryd.ntmps23
    go_wp2_with (simp only [ha])
    go_ret
    exact ⟨_, _, rfl, .inl ⟨rfl, Pl.fr_flV _ _ _ _, Pl.fr_flV _ _ _ _⟩, Pl.below_flW (Pl.below_flW (Below.refl _ _) _ _ _) _ _ _, Pl.calm2 (Pl.calm _ _ _ _) (Pl.calm _ _ _ _)⟩
  · go_enter Tryd.func23, Tryd.ntmps23
    go_wp2_with (simp only [hs])
    go_ret
    exact ⟨_, _, rfl, .inr (.inl ⟨rfl, Pl.fr_flV _ _ _ _, Pl.fr_flV _ _ _ _⟩), Pl.below_flW (Pl.below_flW (Below.refl _ _) _ _ _) _ _ _, Pl.calm2 (Pl.calm _ _ _ _) (Pl.calm _ _ _ _)⟩
  · go_enter Tryd.func23, Tryd.ntmps23
    go_wp2_with (simp only [ha, hs, hm])
    go_ret
    refine ⟨_, _, rfl, .inr (.inr (.inl ⟨rfl, _, _, _, _, Pl.fr_flV _ _ _ _, Pl.fr_flV _ _ _ _, Pl.fr_flV _ _ _ _, Pl.fr_flV _ _ _ _, Pl.fr_flV _ _ _ _, Pl.fr_flV _ _ _ _⟩)), ?_, Pl.calm6 (Pl.calm _ _ _ _) (Pl.calm _ _ _ _) (Pl.calm _ _ _ _) (Pl.calm _ _ _ _) (Pl.calm _ _ _ _) (Pl.calm _ _ _ _) (Pl.fr_flV _ _ _ _) (Pl.fr_flV _ _ _ _)⟩
    repeat refine Pl.below_flW ?_ _ _ _
    exact Below.refl _ _
  · go_enter Tryd.func23, Tryd.ntmps23
    go_wp2
    go_ret
    exact ⟨_, _, rfl, .inr (.inr (.inr ⟨h1, h2, h3, rfl, rfl⟩)), Below.refl _ _, .inl rfl⟩

theorem retB {a b : Bool} (h : a = b) : Ending.returned (.bool a) = .returned (.bool b) := by rw [h]

theorem alike_any (x y : Nat) (w : World) : Calls Tryd.prog 41 #[.float .f64 x, .float .f64 y] w fun e w' => e = .returned (.bool (Pl.al x y)) ∧ w' = w := by
  have e : Pl.al x y = ((FloatKind.f64.format.order x y == some .eq) || ((FloatKind.f64.format.order x x != some .eq) && (FloatKind.f64.format.order y y != some .eq))) := rfl
  rw [e]
  clear e
  cases h1 : (FloatKind.f64.format.order x y == some .eq) <;> cases h2 : (FloatKind.f64.format.order x x != some .eq) <;> cases h3 : (FloatKind.f64.format.order y y != some .eq)
  all_goals
    go_enter Tryd.func41, Tryd.ntmps41
    go_wp2
    go_ret
    exact ⟨rfl, rfl⟩

theorem ralike_any (x y : Nat) (w : World) : Calls Tryd.prog 47 #[.float .f64 x, .float .f64 y] w fun e w' => e = .returned (.bool (Pl.al x y)) ∧ w' = w := by
  have e : Pl.al x y = ((FloatKind.f64.format.order x y == some .eq) || ((FloatKind.f64.format.order x x != some .eq) && (FloatKind.f64.format.order y y != some .eq))) := rfl
  rw [e]
  clear e
  cases h1 : (FloatKind.f64.format.order x y == some .eq) <;> cases h2 : (FloatKind.f64.format.order x x != some .eq) <;> cases h3 : (FloatKind.f64.format.order y y != some .eq)
  all_goals
    go_enter Tryd.func47, Tryd.ntmps47
    go_wp2
    go_ret
    exact ⟨rfl, rfl⟩

theorem same_any (ar ai br bi : Nat) (w : World) : Calls Tryd.prog 30 #[.complex .f64 ar ai, .complex .f64 br bi] w fun e w' => e = .returned (.bool (Pl.al ar br && Pl.al ai bi)) ∧ w' = w := by
  have H1 := alike_any ar br w
  have H2 := alike_any ai bi w
  generalize Pl.al ar br = p at *
  generalize Pl.al ai bi = q at *
  cases p
  all_goals
    go_enter Tryd.func30, Tryd.ntmps30
    go_wp2_with (first
      | (go_at_call 41; with_reducible refine H1.mono ?_; rintro _ w1 ⟨rfl, he⟩; obtain rfl := he.symm)
      | (go_at_call 41; with_reducible refine H2.mono ?_; rintro _ w1 ⟨rfl, he⟩; obtain rfl := he.symm))
    go_ret
    exact ⟨retB (by simp), rfl⟩

theorem rsame_any (ar ai br bi : Nat) (w : World) : Calls Tryd.prog 40 #[.complex .f64 ar ai, .complex .f64 br bi] w fun e w' => e = .returned (.bool (Pl.al ar br && Pl.al ai bi)) ∧ w' = w := by
  have H1 := ralike_any ar br w
  have H2 := ralike_any ai bi w
  generalize Pl.al ar br = p at *
  generalize Pl.al ai bi = q at *
  cases p
  all_goals
    go_enter Tryd.func40, Tryd.ntmps40
    go_wp2_with (first
      | (go_at_call 47; with_reducible refine H1.mono ?_; rintro _ w1 ⟨rfl, he⟩; obtain rfl := he.symm)
      | (go_at_call 47; with_reducible refine H2.mono ?_; rintro _ w1 ⟨rfl, he⟩; obtain rfl := he.symm))
    go_ret
    exact ⟨retB (by simp), rfl⟩

theorem near_any (x : Nat) (w : World) : Calls Tryd.prog 45 #[.float .f64 x] w fun e w' => e = .returned (.int .i64 (Pl.near x)) ∧ w' = w := by
  have hw : Pl.within x = ((FloatKind.f64.format.order 14109777632551763968 x == some .lt) && (FloatKind.f64.format.order x 4886405595696988160 == some .lt)) := rfl
  cases h1 : (FloatKind.f64.format.order 14109777632551763968 x == some .lt) <;> cases h2 : (FloatKind.f64.format.order x 4886405595696988160 == some .lt)
  case true.true =>
    have hc : ∀ w, (convert 65 3 (.float .f64 x)).run Tryd.prog w = .ok (.int .i64 (Pl.near x)) w := fun w => run_convert_float_int w _ _ .f64 .i64 x _ (by rw [Tryd.underlying65]; rfl) Tryd.underlying3 (Pl.int_within (by rw [hw, h1, h2]; rfl))
    clear hw
    generalize Pl.near x = n at *
    go_enter Tryd.func45, Tryd.ntmps45
    go_wp2_with (simp only [hc])
    go_ret
    exact ⟨rfl, rfl⟩
  all_goals
    have hn : Pl.near x = 0 := by unfold Pl.near; rw [hw, h1, h2]; rfl
    rw [hn]
    clear hw hn
    go_enter Tryd.func45, Tryd.ntmps45
    go_wp2
    go_ret
    exact ⟨rfl, rfl⟩

theorem part_any (op : Int) (re im : Nat) (w : World) : Calls Tryd.prog 36 #[.int .i64 op, .complex .f64 re im] w fun e w' => e = .returned (.int .i64 (Pl.part op re im)) ∧ w' = w := by
  rcases (by omega : op = 19 ∨ op = 20 ∨ (op ≠ 19 ∧ op ≠ 20)) with rfl | rfl | ⟨h1, h2⟩
  · go_enter Tryd.func36, Tryd.ntmps36
    go_wp2_with (go_at_call 45; refine (near_any _ _).mono ?_; rintro _ w1 ⟨rfl, he⟩; obtain rfl := he.symm)
    go_ret
    exact ⟨rfl, rfl⟩
  · go_enter Tryd.func36, Tryd.ntmps36
    go_wp2_with (go_at_call 45; refine (near_any _ _).mono ?_; rintro _ w1 ⟨rfl, he⟩; obtain rfl := he.symm)
    go_ret
    exact ⟨rfl, rfl⟩
  · go_enter Tryd.func36, Tryd.ntmps36
    go_wp2
    go_ret
    exact ⟨ret_int (by simp [Pl.part, h1, h2]), rfl⟩

/-- The document's part: a float that is asked the other way round. -/
theorem rpart_of (op : Int) (re im x : Nat) (w : World) (hop : (op = 19 ∧ x = re) ∨ (op = 20 ∧ x = im) ∨ (op ≠ 19 ∧ op ≠ 20 ∧ x = 0)) : Calls Tryd.prog 22 #[.int .i64 op, .complex .f64 re im] w fun e w' => e = .returned (.int .i64 (Pl.near x)) ∧ w' = w := by
  have hw : Pl.within x = ((FloatKind.f64.format.order x 14109777632551763968 == some .gt) && (FloatKind.f64.format.order x 4886405595696988160 == some .lt)) := by
    unfold Pl.within
    rw [← Pl.order_swap]
    rfl
  cases h1 : (FloatKind.f64.format.order x 14109777632551763968 == some .gt) <;> cases h2 : (FloatKind.f64.format.order x 4886405595696988160 == some .lt)
  case true.true =>
    have hc : ∀ w, (convert 65 3 (.float .f64 x)).run Tryd.prog w = .ok (.int .i64 (Pl.near x)) w := fun w => run_convert_float_int w _ _ .f64 .i64 x _ (by rw [Tryd.underlying65]; rfl) Tryd.underlying3 (Pl.int_within (by rw [hw, h1, h2]; rfl))
    clear hw
    generalize Pl.near x = n at *
    rcases hop with ⟨rfl, rfl⟩ | ⟨rfl, rfl⟩ | ⟨h3, h4, rfl⟩
    all_goals
      go_enter Tryd.func22, Tryd.ntmps22
      go_wp2_with (simp only [hc])
      go_ret
      exact ⟨rfl, rfl⟩
  all_goals
    have hn : Pl.near x = 0 := by unfold Pl.near; rw [hw, h1, h2]; rfl
    rw [hn]
    clear hw hn
    rcases hop with ⟨rfl, rfl⟩ | ⟨rfl, rfl⟩ | ⟨h3, h4, rfl⟩
    all_goals
      go_enter Tryd.func22, Tryd.ntmps22
      go_wp2
      all_goals
        go_ret
        exact ⟨rfl, rfl⟩

theorem near_zero : Pl.near 0 = 0 := by decide +kernel

theorem rpart_any (op : Int) (re im : Nat) (w : World) : Calls Tryd.prog 22 #[.int .i64 op, .complex .f64 re im] w fun e w' => e = .returned (.int .i64 (Pl.part op re im)) ∧ w' = w := by
  rcases (by omega : op = 19 ∨ op = 20 ∨ (op ≠ 19 ∧ op ≠ 20)) with rfl | rfl | ⟨h1, h2⟩
  · exact rpart_of 19 re im re w (.inl ⟨rfl, rfl⟩)
  · exact rpart_of 20 re im im w (.inr (.inl ⟨rfl, rfl⟩))
  · have e : Pl.part op re im = Pl.near 0 := by rw [near_zero]; simp [Pl.part, h1, h2]
    rw [e]
    exact rpart_of op re im 0 w (.inr (.inr ⟨h1, h2, rfl⟩))
end Go.Proofs.YtdenboakcbipdaaDoor
