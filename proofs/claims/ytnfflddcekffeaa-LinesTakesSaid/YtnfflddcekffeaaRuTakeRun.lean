/-
  What runs.takeRun answers: the run that stands next, and the first that is wrong with it. Conditions: none but that the runs ahead can be read.
-/
import Derived.Test.YtnfflddcekffeaaRuTkMath
namespace Go.Proofs.Ytnfflddcekffeaa
open Go.RowKit

/-- Block p is a run. -/
def RunBox (w : World) (p : Nat) (x y : Value) : Prop := w.heap[p]? = some (.cells #[x, y] 71 (0, 0))
set_option maxRecDepth 100000 in
theorem RunBox.new (w : World) (x y : Value) : RunBox (w.alloc (.cells #[x, y] 71)) w.heap.size x y := heap_alloc_new _ _
section
variable {w : World} {p : Nat} {x y : Value} (h : RunBox w p x y)
include h
theorem RunBox.lt : p < w.heap.size := heap_lt h
theorem RunBox.c0 : w.cell? ⟨p, 0, none⟩ = some x := by unfold RunBox at h; simp [World.cell?, h]
theorem RunBox.c1 : w.cell? ⟨p, 1, none⟩ = some y := by unfold RunBox at h; simp [World.cell?, h]
theorem RunBox.f (i : Nat) : w.frozen? ⟨p, i, none⟩ = false := by unfold RunBox at h; simp [World.frozen?, h]
theorem RunBox.kept {w' : World} {row : Option Nat} (hg : w.grownBy w' row) (hne : row ≠ some p) : RunBox w' p x y := (hg.block p (heap_lt h) (Ne.symm hne)).trans h
theorem RunBox.set (x' y' : Value) : RunBox ((w.setCell ⟨p, 0, none⟩ x').setCell ⟨p, 1, none⟩ y') p x' y' := (heap_set (heap_set h _) _).trans rfl
end

set_option maxRecDepth 100000 in
theorem bits_cur (g : Nat) (s : List Nat × Nat) (w : World) (h : Cur w g s) :
    Calls Try.prog 49 #[.pointer (some ⟨g, 0, none⟩)] w fun e w' => e = .returned (.int .u64 (bitsA s).1) ∧ Cur w' g (bitsA s).2 ∧ w.grownBy w' (some g) :=
  (bits_any (some ⟨g, 0, none⟩) s w (.inr ⟨g, rfl, h⟩)).mono fun _ _ ⟨h1, h2, h3⟩ => ⟨h1, h2.cur, h3⟩
set_option maxRecDepth 100000 in
theorem int_cur (g : Nat) (s : List Nat × Nat) (w : World) (h : Cur w g s) :
    Calls Try.prog 50 #[.pointer (some ⟨g, 0, none⟩)] w fun e w' => e = .returned (.int .i64 (intA s).1) ∧ Cur w' g (intA s).2 ∧ w.grownBy w' (some g) :=
  (int_any (some ⟨g, 0, none⟩) s w (.inr ⟨g, rfl, h⟩)).mono fun _ _ ⟨h1, h2, h3⟩ => ⟨h1, h2.cur, h3⟩
set_option maxRecDepth 100000 in
theorem err_cur (g : Nat) (s : List Nat × Nat) (w : World) (h : Cur w g s) :
    Calls Try.prog 18 #[.pointer (some ⟨g, 0, none⟩)] w fun e w' => e = .returned (.int .i64 s.2) ∧ w' = w := by
  refine (err_any (some ⟨g, 0, none⟩) s w (.inr ⟨g, rfl, h⟩)).mono ?_
  rintro e w' ⟨rfl, ⟨_, rfl⟩ | ⟨h, _⟩⟩
  · exact ⟨rfl, rfl⟩
  · cases h
/-- Rows of new memory are kept where only the cursor's block turns. -/
theorem pairs_kept {w w' : World} {B B' g n : Nat} {a : Option Addr} {r : Ru.Runs} (h : PairsAt w B a n r) (hg : w.grownBy w' (some g)) (hr : 0 < n → ∀ x, a = some x → x.block ≠ g) (hB' : B ≤ B') : PairsAt w' B' a n r := by
  refine ⟨h.1, fun hn => ?_⟩
  obtain ⟨b, off, e, hlt, hc⟩ := h.2 hn
  refine ⟨b, off, e, by omega, fun i hi => ?_⟩
  have hne : some b ≠ some g := by
    intro e'
    injection e' with e'
    exact hr hn _ e e'
  exact ⟨hg.cell (hc i hi).1 hne, hg.cell (hc i hi).2 hne⟩

/-- What is answered: a run; what the cursor is; of what was there only its block has turned. -/
def TakeRunP (x y : Int) (g : Nat) (s' : List Nat × Nat) (w : World) (e : Ending) (w' : World) : Prop :=
  e = .returned (.agg #[.int .i64 x, .int .i64 y]) ∧ Cur w' g s' ∧ w.grownBy w' (some g)

theorem grown_alloc_set {w W : World} {g p : Nat} {x y : Value} (h : w.grownBy W (some g)) (hp : w.heap.size ≤ p) : w.grownBy ((W.setCell ⟨p, 0, none⟩ x).setCell ⟨p, 1, none⟩ y) (some g) := grown_set (grown_set h hp _ _) hp _ _
theorem cur_set {W : World} {g p : Nat} {s : List Nat × Nat} {x y : Value} (h : Cur W g s) (hp : g < p) : Cur ((W.setCell ⟨p, 0, none⟩ x).setCell ⟨p, 1, none⟩ y) g s :=
  h.kept (row := some p) (Lib.grownBy_setB (Lib.grownBy_setB (World.grownBy.refl _ _) _ _) _ _) (fun k hk => by injection hk with hk; omega)

set_option maxHeartbeats 8000000 in
set_option maxRecDepth 100000 in
theorem takeRun_cur (g : Nat) (s : List Nat × Nat) (a : Option Addr) (k c : Nat) (r : Ru.Runs) (left low high : Int) (w : World) (h : Cur w g s) (hp : PairsAt w w.heap.size a k r) (ha : 0 < k → ∀ x, a = some x → x.block ≠ g) (hk : k ≤ 9223372036854775807) (hl0 : 0 < left) (hl1 : left ≤ 9223372036854775807) :
    Calls Try.prog 39 #[.pointer (some ⟨g, 0, none⟩), .slice a k c, .int .i64 left, .int .i64 low, .int .i64 high] w (TakeRunP (wrap64 ((bitsA s).1 : Int)) (intA (formS s left)).1 g (runS s (lastV r) left low high) w) := by
  have hgl := h.lt
  have HB := Lib.hid (fun W (hW : Cur W g s) => bits_cur g s W hW)
  have H := Lib.hid h
  have HP := Lib.hid hp
  have HA := Lib.hid ha
  have HF := Lib.hid (fun er (he : er ≤ 9223372036854775807) s W (hW : Cur W g s) => fail_cur g s er W hW he)
  have HQ := Lib.hid (fun v W (hg : w.grownBy W (some g)) => repeats_any a k c W.heap.size r v W (pairs_kept hp hg ha hg.size) hk)
  have hwl : IntKind.u64.wrap left = left := by rw [IntKind.wrap_u64]; omega
  have HI0 := Lib.hid (fun W (hW : Cur W g (formS s left)) => int_cur g _ W hW)
  have hC0 : runS s (lastV r) left low high = if (intA (formS s left)).1 < low ∨ high < (intA (formS s left)).1 then failA (if lastV r = some (intA (formS s left)).1 then failA (intA (formS s left)).2 5 else (intA (formS s left)).2) 2 else (if lastV r = some (intA (formS s left)).1 then failA (intA (formS s left)).2 5 else (intA (formS s left)).2) := rfl
  have hF0 : formS s left = if (bitsA s).1 < 1 ∨ left < ((bitsA s).1 : Int) then failA (bitsA s).2 5 else (bitsA s).2 := rfl
  rw [hC0]
  generalize (intA (formS s left)).1 = v at *
  generalize (intA (formS s left)).2 = si at *
  clear hC0
  generalize formS s left = fs at *
  have HFS := Lib.hid hF0
  clear hF0
  generalize (bitsA s).1 = b at *
  generalize (bitsA s).2 = sb at *
  clear h hp ha
  by_cases h1 : b < 1
  · have HE : Hid (fs = failA sb 5) := Lib.hid (by rw [HFS.out, if_pos (.inl h1)])
    have h1i : (b : Int) < 1 := by omega
    clear HFS
    rw [show wrap64 (b : Int) = (b : Int) by unfold wrap64; omega]
    by_cases h2 : lastV r = some v
    · rw [if_pos h2]
      by_cases h3 : v < low
      · rw [if_pos (.inl h3)]
        go_enter Try.func39, Try.ntmps39
        go_wp2_with fail
        refine (HB.out _ (H.out.kept (World.grownBy_alloc _ _ none) (by simp))).mono ?_
        rintro e w1 ⟨rfl, hc1, hg1⟩
        have HG1 := Lib.hid (show w.grownBy w1 (some g) from Lib.grownBy_trans (World.grownBy_alloc w (.cells #[.int .i64 0, .int .i64 0] 71) _) hg1)
        have HX1 := Lib.hid ((RunBox.new w (.int .i64 0) (.int .i64 0)).kept hg1 (by intro e; injection e with e; omega))
        have HC1 := Lib.hid hc1
        clear hg1 hc1 HB
        go_wp2_with fail
        refine (HF.out 5 (by omega) _ _ HC1.out).mono ?_
        rintro e w2 ⟨rfl, hc2, hg2⟩
        have HG2 := Lib.hid (Lib.grownBy_trans HG1.out hg2)
        have HX2 := Lib.hid (HX1.out.kept hg2 (by intro e; injection e with e; omega))
        have HC2 := Lib.hid hc2
        clear hg2 hc2
        rw [← HE.out] at HC2
        go_wp2_with fail
        refine (HI0.out _ HC2.out).mono ?_
        rintro e w3 ⟨rfl, hc3, hg3⟩
        have HG3 := Lib.hid (Lib.grownBy_trans HG2.out hg3)
        have HX3 := Lib.hid (HX2.out.kept hg3 (by intro e; injection e with e; omega))
        have HC3 := Lib.hid hc3
        have HQ3 := Lib.hid (HQ.out v _ HG3.out)
        rw [decide_eq_true h2] at HQ3
        clear hg3 hc3 HI0
        go_wp2_with fail
        refine HQ3.out.mono ?_
        rintro e w' ⟨rfl, rfl⟩
        go_wp2_with fail
        refine (HF.out 5 (by omega) _ _ HC3.out).mono ?_
        rintro e w4 ⟨rfl, hc4, hg4⟩
        have HG4 := Lib.hid (Lib.grownBy_trans HG3.out hg4)
        have HX4 := Lib.hid (HX3.out.kept hg4 (by intro e; injection e with e; omega))
        have HC4 := Lib.hid hc4
        clear hg4 hc4
        go_wp2_with fail
        refine (HF.out 2 (by omega) _ _ HC4.out).mono ?_
        rintro e w5 ⟨rfl, hc5, hg5⟩
        have HG5 := Lib.hid (Lib.grownBy_trans HG4.out hg5)
        have HX5 := Lib.hid (HX4.out.kept hg5 (by intro e; injection e with e; omega))
        have HC5 := Lib.hid hc5
        clear hg5 hc5
        have z0 := HX5.out.c0
        have z1 := HX5.out.c1
        have y0 := HX5.out.f 0
        have y1 := HX5.out.f 1
        go_wp2
        have q0 := (HX5.out.set (.int .i64 (b : Int)) (.int .i64 v)).c0
        have q1 := (HX5.out.set (.int .i64 (b : Int)) (.int .i64 v)).c1
        exact bodyPost_ret (v := .agg #[.int .i64 (b : Int), .int .i64 v]) (by simp [results, Try.results39, go_sem, q0, q1]) rfl ⟨rfl, cur_set HC5.out hgl, grown_alloc_set HG5.out (Nat.le_refl _)⟩
      by_cases h4 : high < v
      · rw [if_pos (.inr h4)]
        have h3' : ¬ v < low := h3
        go_enter Try.func39, Try.ntmps39
        go_wp2_with fail
        refine (HB.out _ (H.out.kept (World.grownBy_alloc _ _ none) (by simp))).mono ?_
        rintro e w1 ⟨rfl, hc1, hg1⟩
        have HG1 := Lib.hid (show w.grownBy w1 (some g) from Lib.grownBy_trans (World.grownBy_alloc w (.cells #[.int .i64 0, .int .i64 0] 71) _) hg1)
        have HX1 := Lib.hid ((RunBox.new w (.int .i64 0) (.int .i64 0)).kept hg1 (by intro e; injection e with e; omega))
        have HC1 := Lib.hid hc1
        clear hg1 hc1 HB
        go_wp2_with fail
        refine (HF.out 5 (by omega) _ _ HC1.out).mono ?_
        rintro e w2 ⟨rfl, hc2, hg2⟩
        have HG2 := Lib.hid (Lib.grownBy_trans HG1.out hg2)
        have HX2 := Lib.hid (HX1.out.kept hg2 (by intro e; injection e with e; omega))
        have HC2 := Lib.hid hc2
        clear hg2 hc2
        rw [← HE.out] at HC2
        go_wp2_with fail
        refine (HI0.out _ HC2.out).mono ?_
        rintro e w3 ⟨rfl, hc3, hg3⟩
        have HG3 := Lib.hid (Lib.grownBy_trans HG2.out hg3)
        have HX3 := Lib.hid (HX2.out.kept hg3 (by intro e; injection e with e; omega))
        have HC3 := Lib.hid hc3
        have HQ3 := Lib.hid (HQ.out v _ HG3.out)
        rw [decide_eq_true h2] at HQ3
        clear hg3 hc3 HI0
        go_wp2_with fail
        refine HQ3.out.mono ?_
        rintro e w' ⟨rfl, rfl⟩
        go_wp2_with fail
        refine (HF.out 5 (by omega) _ _ HC3.out).mono ?_
        rintro e w4 ⟨rfl, hc4, hg4⟩
        have HG4 := Lib.hid (Lib.grownBy_trans HG3.out hg4)
        have HX4 := Lib.hid (HX3.out.kept hg4 (by intro e; injection e with e; omega))
        have HC4 := Lib.hid hc4
        clear hg4 hc4
        go_wp2_with fail
        refine (HF.out 2 (by omega) _ _ HC4.out).mono ?_
        rintro e w5 ⟨rfl, hc5, hg5⟩
        have HG5 := Lib.hid (Lib.grownBy_trans HG4.out hg5)
        have HX5 := Lib.hid (HX4.out.kept hg5 (by intro e; injection e with e; omega))
        have HC5 := Lib.hid hc5
        clear hg5 hc5
        have z0 := HX5.out.c0
        have z1 := HX5.out.c1
        have y0 := HX5.out.f 0
        have y1 := HX5.out.f 1
        go_wp2
        have q0 := (HX5.out.set (.int .i64 (b : Int)) (.int .i64 v)).c0
        have q1 := (HX5.out.set (.int .i64 (b : Int)) (.int .i64 v)).c1
        exact bodyPost_ret (v := .agg #[.int .i64 (b : Int), .int .i64 v]) (by simp [results, Try.results39, go_sem, q0, q1]) rfl ⟨rfl, cur_set HC5.out hgl, grown_alloc_set HG5.out (Nat.le_refl _)⟩
      rw [if_neg (by omega)]
      go_enter Try.func39, Try.ntmps39
      go_wp2_with fail
      refine (HB.out _ (H.out.kept (World.grownBy_alloc _ _ none) (by simp))).mono ?_
      rintro e w1 ⟨rfl, hc1, hg1⟩
      have HG1 := Lib.hid (show w.grownBy w1 (some g) from Lib.grownBy_trans (World.grownBy_alloc w (.cells #[.int .i64 0, .int .i64 0] 71) _) hg1)
      have HX1 := Lib.hid ((RunBox.new w (.int .i64 0) (.int .i64 0)).kept hg1 (by intro e; injection e with e; omega))
      have HC1 := Lib.hid hc1
      clear hg1 hc1 HB
      go_wp2_with fail
      refine (HF.out 5 (by omega) _ _ HC1.out).mono ?_
      rintro e w2 ⟨rfl, hc2, hg2⟩
      have HG2 := Lib.hid (Lib.grownBy_trans HG1.out hg2)
      have HX2 := Lib.hid (HX1.out.kept hg2 (by intro e; injection e with e; omega))
      have HC2 := Lib.hid hc2
      clear hg2 hc2
      rw [← HE.out] at HC2
      go_wp2_with fail
      refine (HI0.out _ HC2.out).mono ?_
      rintro e w3 ⟨rfl, hc3, hg3⟩
      have HG3 := Lib.hid (Lib.grownBy_trans HG2.out hg3)
      have HX3 := Lib.hid (HX2.out.kept hg3 (by intro e; injection e with e; omega))
      have HC3 := Lib.hid hc3
      have HQ3 := Lib.hid (HQ.out v _ HG3.out)
      rw [decide_eq_true h2] at HQ3
      clear hg3 hc3 HI0
      go_wp2_with fail
      refine HQ3.out.mono ?_
      rintro e w' ⟨rfl, rfl⟩
      go_wp2_with fail
      refine (HF.out 5 (by omega) _ _ HC3.out).mono ?_
      rintro e w4 ⟨rfl, hc4, hg4⟩
      have HG4 := Lib.hid (Lib.grownBy_trans HG3.out hg4)
      have HX4 := Lib.hid (HX3.out.kept hg4 (by intro e; injection e with e; omega))
      have HC4 := Lib.hid hc4
      clear hg4 hc4
      have z0 := HX4.out.c0
      have z1 := HX4.out.c1
      have y0 := HX4.out.f 0
      have y1 := HX4.out.f 1
      go_wp2
      have q0 := (HX4.out.set (.int .i64 (b : Int)) (.int .i64 v)).c0
      have q1 := (HX4.out.set (.int .i64 (b : Int)) (.int .i64 v)).c1
      exact bodyPost_ret (v := .agg #[.int .i64 (b : Int), .int .i64 v]) (by simp [results, Try.results39, go_sem, q0, q1]) rfl ⟨rfl, cur_set HC4.out hgl, grown_alloc_set HG4.out (Nat.le_refl _)⟩
    · rw [if_neg h2]
      by_cases h3 : v < low
      · rw [if_pos (.inl h3)]
        go_enter Try.func39, Try.ntmps39
        go_wp2_with fail
        refine (HB.out _ (H.out.kept (World.grownBy_alloc _ _ none) (by simp))).mono ?_
        rintro e w1 ⟨rfl, hc1, hg1⟩
        have HG1 := Lib.hid (show w.grownBy w1 (some g) from Lib.grownBy_trans (World.grownBy_alloc w (.cells #[.int .i64 0, .int .i64 0] 71) _) hg1)
        have HX1 := Lib.hid ((RunBox.new w (.int .i64 0) (.int .i64 0)).kept hg1 (by intro e; injection e with e; omega))
        have HC1 := Lib.hid hc1
        clear hg1 hc1 HB
        go_wp2_with fail
        refine (HF.out 5 (by omega) _ _ HC1.out).mono ?_
        rintro e w2 ⟨rfl, hc2, hg2⟩
        have HG2 := Lib.hid (Lib.grownBy_trans HG1.out hg2)
        have HX2 := Lib.hid (HX1.out.kept hg2 (by intro e; injection e with e; omega))
        have HC2 := Lib.hid hc2
        clear hg2 hc2
        rw [← HE.out] at HC2
        go_wp2_with fail
        refine (HI0.out _ HC2.out).mono ?_
        rintro e w3 ⟨rfl, hc3, hg3⟩
        have HG3 := Lib.hid (Lib.grownBy_trans HG2.out hg3)
        have HX3 := Lib.hid (HX2.out.kept hg3 (by intro e; injection e with e; omega))
        have HC3 := Lib.hid hc3
        have HQ3 := Lib.hid (HQ.out v _ HG3.out)
        rw [decide_eq_false h2] at HQ3
        clear hg3 hc3 HI0
        go_wp2_with fail
        refine HQ3.out.mono ?_
        rintro e w' ⟨rfl, rfl⟩
        go_wp2_with fail
        refine (HF.out 2 (by omega) _ _ HC3.out).mono ?_
        rintro e w5 ⟨rfl, hc5, hg5⟩
        have HG5 := Lib.hid (Lib.grownBy_trans HG3.out hg5)
        have HX5 := Lib.hid (HX3.out.kept hg5 (by intro e; injection e with e; omega))
        have HC5 := Lib.hid hc5
        clear hg5 hc5
        have z0 := HX5.out.c0
        have z1 := HX5.out.c1
        have y0 := HX5.out.f 0
        have y1 := HX5.out.f 1
        go_wp2
        have q0 := (HX5.out.set (.int .i64 (b : Int)) (.int .i64 v)).c0
        have q1 := (HX5.out.set (.int .i64 (b : Int)) (.int .i64 v)).c1
        exact bodyPost_ret (v := .agg #[.int .i64 (b : Int), .int .i64 v]) (by simp [results, Try.results39, go_sem, q0, q1]) rfl ⟨rfl, cur_set HC5.out hgl, grown_alloc_set HG5.out (Nat.le_refl _)⟩
      by_cases h4 : high < v
      · rw [if_pos (.inr h4)]
        have h3' : ¬ v < low := h3
        go_enter Try.func39, Try.ntmps39
        go_wp2_with fail
        refine (HB.out _ (H.out.kept (World.grownBy_alloc _ _ none) (by simp))).mono ?_
        rintro e w1 ⟨rfl, hc1, hg1⟩
        have HG1 := Lib.hid (show w.grownBy w1 (some g) from Lib.grownBy_trans (World.grownBy_alloc w (.cells #[.int .i64 0, .int .i64 0] 71) _) hg1)
        have HX1 := Lib.hid ((RunBox.new w (.int .i64 0) (.int .i64 0)).kept hg1 (by intro e; injection e with e; omega))
        have HC1 := Lib.hid hc1
        clear hg1 hc1 HB
        go_wp2_with fail
        refine (HF.out 5 (by omega) _ _ HC1.out).mono ?_
        rintro e w2 ⟨rfl, hc2, hg2⟩
        have HG2 := Lib.hid (Lib.grownBy_trans HG1.out hg2)
        have HX2 := Lib.hid (HX1.out.kept hg2 (by intro e; injection e with e; omega))
        have HC2 := Lib.hid hc2
        clear hg2 hc2
        rw [← HE.out] at HC2
        go_wp2_with fail
        refine (HI0.out _ HC2.out).mono ?_
        rintro e w3 ⟨rfl, hc3, hg3⟩
        have HG3 := Lib.hid (Lib.grownBy_trans HG2.out hg3)
        have HX3 := Lib.hid (HX2.out.kept hg3 (by intro e; injection e with e; omega))
        have HC3 := Lib.hid hc3
        have HQ3 := Lib.hid (HQ.out v _ HG3.out)
        rw [decide_eq_false h2] at HQ3
        clear hg3 hc3 HI0
        go_wp2_with fail
        refine HQ3.out.mono ?_
        rintro e w' ⟨rfl, rfl⟩
        go_wp2_with fail
        refine (HF.out 2 (by omega) _ _ HC3.out).mono ?_
        rintro e w5 ⟨rfl, hc5, hg5⟩
        have HG5 := Lib.hid (Lib.grownBy_trans HG3.out hg5)
        have HX5 := Lib.hid (HX3.out.kept hg5 (by intro e; injection e with e; omega))
        have HC5 := Lib.hid hc5
        clear hg5 hc5
        have z0 := HX5.out.c0
        have z1 := HX5.out.c1
        have y0 := HX5.out.f 0
        have y1 := HX5.out.f 1
        go_wp2
        have q0 := (HX5.out.set (.int .i64 (b : Int)) (.int .i64 v)).c0
        have q1 := (HX5.out.set (.int .i64 (b : Int)) (.int .i64 v)).c1
        exact bodyPost_ret (v := .agg #[.int .i64 (b : Int), .int .i64 v]) (by simp [results, Try.results39, go_sem, q0, q1]) rfl ⟨rfl, cur_set HC5.out hgl, grown_alloc_set HG5.out (Nat.le_refl _)⟩
      rw [if_neg (by omega)]
      go_enter Try.func39, Try.ntmps39
      go_wp2_with fail
      refine (HB.out _ (H.out.kept (World.grownBy_alloc _ _ none) (by simp))).mono ?_
      rintro e w1 ⟨rfl, hc1, hg1⟩
      have HG1 := Lib.hid (show w.grownBy w1 (some g) from Lib.grownBy_trans (World.grownBy_alloc w (.cells #[.int .i64 0, .int .i64 0] 71) _) hg1)
      have HX1 := Lib.hid ((RunBox.new w (.int .i64 0) (.int .i64 0)).kept hg1 (by intro e; injection e with e; omega))
      have HC1 := Lib.hid hc1
      clear hg1 hc1 HB
      go_wp2_with fail
      refine (HF.out 5 (by omega) _ _ HC1.out).mono ?_
      rintro e w2 ⟨rfl, hc2, hg2⟩
      have HG2 := Lib.hid (Lib.grownBy_trans HG1.out hg2)
      have HX2 := Lib.hid (HX1.out.kept hg2 (by intro e; injection e with e; omega))
      have HC2 := Lib.hid hc2
      clear hg2 hc2
      rw [← HE.out] at HC2
      go_wp2_with fail
      refine (HI0.out _ HC2.out).mono ?_
      rintro e w3 ⟨rfl, hc3, hg3⟩
      have HG3 := Lib.hid (Lib.grownBy_trans HG2.out hg3)
      have HX3 := Lib.hid (HX2.out.kept hg3 (by intro e; injection e with e; omega))
      have HC3 := Lib.hid hc3
      have HQ3 := Lib.hid (HQ.out v _ HG3.out)
      rw [decide_eq_false h2] at HQ3
      clear hg3 hc3 HI0
      go_wp2_with fail
      refine HQ3.out.mono ?_
      rintro e w' ⟨rfl, rfl⟩
      have z0 := HX3.out.c0
      have z1 := HX3.out.c1
      have y0 := HX3.out.f 0
      have y1 := HX3.out.f 1
      go_wp2
      have q0 := (HX3.out.set (.int .i64 (b : Int)) (.int .i64 v)).c0
      have q1 := (HX3.out.set (.int .i64 (b : Int)) (.int .i64 v)).c1
      exact bodyPost_ret (v := .agg #[.int .i64 (b : Int), .int .i64 v]) (by simp [results, Try.results39, go_sem, q0, q1]) rfl ⟨rfl, cur_set HC3.out hgl, grown_alloc_set HG3.out (Nat.le_refl _)⟩
  by_cases h1b : left < (b : Int)
  · have HE : Hid (fs = failA sb 5) := Lib.hid (by rw [HFS.out, if_pos (.inr h1b)])
    have h1i : ¬ (b : Int) < 1 := by omega
    clear HFS
    by_cases h2 : lastV r = some v
    · rw [if_pos h2]
      by_cases h3 : v < low
      · rw [if_pos (.inl h3)]
        go_enter Try.func39, Try.ntmps39
        go_wp2_with fail
        refine (HB.out _ (H.out.kept (World.grownBy_alloc _ _ none) (by simp))).mono ?_
        rintro e w1 ⟨rfl, hc1, hg1⟩
        have HG1 := Lib.hid (show w.grownBy w1 (some g) from Lib.grownBy_trans (World.grownBy_alloc w (.cells #[.int .i64 0, .int .i64 0] 71) _) hg1)
        have HX1 := Lib.hid ((RunBox.new w (.int .i64 0) (.int .i64 0)).kept hg1 (by intro e; injection e with e; omega))
        have HC1 := Lib.hid hc1
        clear hg1 hc1 HB
        go_wp2_with fail
        refine (HF.out 5 (by omega) _ _ HC1.out).mono ?_
        rintro e w2 ⟨rfl, hc2, hg2⟩
        have HG2 := Lib.hid (Lib.grownBy_trans HG1.out hg2)
        have HX2 := Lib.hid (HX1.out.kept hg2 (by intro e; injection e with e; omega))
        have HC2 := Lib.hid hc2
        clear hg2 hc2
        rw [← HE.out] at HC2
        go_wp2_with fail
        refine (HI0.out _ HC2.out).mono ?_
        rintro e w3 ⟨rfl, hc3, hg3⟩
        have HG3 := Lib.hid (Lib.grownBy_trans HG2.out hg3)
        have HX3 := Lib.hid (HX2.out.kept hg3 (by intro e; injection e with e; omega))
        have HC3 := Lib.hid hc3
        have HQ3 := Lib.hid (HQ.out v _ HG3.out)
        rw [decide_eq_true h2] at HQ3
        clear hg3 hc3 HI0
        go_wp2_with fail
        refine HQ3.out.mono ?_
        rintro e w' ⟨rfl, rfl⟩
        go_wp2_with fail
        refine (HF.out 5 (by omega) _ _ HC3.out).mono ?_
        rintro e w4 ⟨rfl, hc4, hg4⟩
        have HG4 := Lib.hid (Lib.grownBy_trans HG3.out hg4)
        have HX4 := Lib.hid (HX3.out.kept hg4 (by intro e; injection e with e; omega))
        have HC4 := Lib.hid hc4
        clear hg4 hc4
        go_wp2_with fail
        refine (HF.out 2 (by omega) _ _ HC4.out).mono ?_
        rintro e w5 ⟨rfl, hc5, hg5⟩
        have HG5 := Lib.hid (Lib.grownBy_trans HG4.out hg5)
        have HX5 := Lib.hid (HX4.out.kept hg5 (by intro e; injection e with e; omega))
        have HC5 := Lib.hid hc5
        clear hg5 hc5
        have z0 := HX5.out.c0
        have z1 := HX5.out.c1
        have y0 := HX5.out.f 0
        have y1 := HX5.out.f 1
        go_wp2
        have q0 := (HX5.out.set (.int .i64 (wrap64 (b : Int))) (.int .i64 v)).c0
        have q1 := (HX5.out.set (.int .i64 (wrap64 (b : Int))) (.int .i64 v)).c1
        exact bodyPost_ret (v := .agg #[.int .i64 (wrap64 (b : Int)), .int .i64 v]) (by simp [results, Try.results39, go_sem, q0, q1]) rfl ⟨rfl, cur_set HC5.out hgl, grown_alloc_set HG5.out (Nat.le_refl _)⟩
      by_cases h4 : high < v
      · rw [if_pos (.inr h4)]
        have h3' : ¬ v < low := h3
        go_enter Try.func39, Try.ntmps39
        go_wp2_with fail
        refine (HB.out _ (H.out.kept (World.grownBy_alloc _ _ none) (by simp))).mono ?_
        rintro e w1 ⟨rfl, hc1, hg1⟩
        have HG1 := Lib.hid (show w.grownBy w1 (some g) from Lib.grownBy_trans (World.grownBy_alloc w (.cells #[.int .i64 0, .int .i64 0] 71) _) hg1)
        have HX1 := Lib.hid ((RunBox.new w (.int .i64 0) (.int .i64 0)).kept hg1 (by intro e; injection e with e; omega))
        have HC1 := Lib.hid hc1
        clear hg1 hc1 HB
        go_wp2_with fail
        refine (HF.out 5 (by omega) _ _ HC1.out).mono ?_
        rintro e w2 ⟨rfl, hc2, hg2⟩
        have HG2 := Lib.hid (Lib.grownBy_trans HG1.out hg2)
        have HX2 := Lib.hid (HX1.out.kept hg2 (by intro e; injection e with e; omega))
        have HC2 := Lib.hid hc2
        clear hg2 hc2
        rw [← HE.out] at HC2
        go_wp2_with fail
        refine (HI0.out _ HC2.out).mono ?_
        rintro e w3 ⟨rfl, hc3, hg3⟩
        have HG3 := Lib.hid (Lib.grownBy_trans HG2.out hg3)
        have HX3 := Lib.hid (HX2.out.kept hg3 (by intro e; injection e with e; omega))
        have HC3 := Lib.hid hc3
        have HQ3 := Lib.hid (HQ.out v _ HG3.out)
        rw [decide_eq_true h2] at HQ3
        clear hg3 hc3 HI0
        go_wp2_with fail
        refine HQ3.out.mono ?_
        rintro e w' ⟨rfl, rfl⟩
        go_wp2_with fail
        refine (HF.out 5 (by omega) _ _ HC3.out).mono ?_
        rintro e w4 ⟨rfl, hc4, hg4⟩
        have HG4 := Lib.hid (Lib.grownBy_trans HG3.out hg4)
        have HX4 := Lib.hid (HX3.out.kept hg4 (by intro e; injection e with e; omega))
        have HC4 := Lib.hid hc4
        clear hg4 hc4
        go_wp2_with fail
        refine (HF.out 2 (by omega) _ _ HC4.out).mono ?_
        rintro e w5 ⟨rfl, hc5, hg5⟩
        have HG5 := Lib.hid (Lib.grownBy_trans HG4.out hg5)
        have HX5 := Lib.hid (HX4.out.kept hg5 (by intro e; injection e with e; omega))
        have HC5 := Lib.hid hc5
        clear hg5 hc5
        have z0 := HX5.out.c0
        have z1 := HX5.out.c1
        have y0 := HX5.out.f 0
        have y1 := HX5.out.f 1
        go_wp2
        have q0 := (HX5.out.set (.int .i64 (wrap64 (b : Int))) (.int .i64 v)).c0
        have q1 := (HX5.out.set (.int .i64 (wrap64 (b : Int))) (.int .i64 v)).c1
        exact bodyPost_ret (v := .agg #[.int .i64 (wrap64 (b : Int)), .int .i64 v]) (by simp [results, Try.results39, go_sem, q0, q1]) rfl ⟨rfl, cur_set HC5.out hgl, grown_alloc_set HG5.out (Nat.le_refl _)⟩
      rw [if_neg (by omega)]
      go_enter Try.func39, Try.ntmps39
      go_wp2_with fail
      refine (HB.out _ (H.out.kept (World.grownBy_alloc _ _ none) (by simp))).mono ?_
      rintro e w1 ⟨rfl, hc1, hg1⟩
      have HG1 := Lib.hid (show w.grownBy w1 (some g) from Lib.grownBy_trans (World.grownBy_alloc w (.cells #[.int .i64 0, .int .i64 0] 71) _) hg1)
      have HX1 := Lib.hid ((RunBox.new w (.int .i64 0) (.int .i64 0)).kept hg1 (by intro e; injection e with e; omega))
      have HC1 := Lib.hid hc1
      clear hg1 hc1 HB
      go_wp2_with fail
      refine (HF.out 5 (by omega) _ _ HC1.out).mono ?_
      rintro e w2 ⟨rfl, hc2, hg2⟩
      have HG2 := Lib.hid (Lib.grownBy_trans HG1.out hg2)
      have HX2 := Lib.hid (HX1.out.kept hg2 (by intro e; injection e with e; omega))
      have HC2 := Lib.hid hc2
      clear hg2 hc2
      rw [← HE.out] at HC2
      go_wp2_with fail
      refine (HI0.out _ HC2.out).mono ?_
      rintro e w3 ⟨rfl, hc3, hg3⟩
      have HG3 := Lib.hid (Lib.grownBy_trans HG2.out hg3)
      have HX3 := Lib.hid (HX2.out.kept hg3 (by intro e; injection e with e; omega))
      have HC3 := Lib.hid hc3
      have HQ3 := Lib.hid (HQ.out v _ HG3.out)
      rw [decide_eq_true h2] at HQ3
      clear hg3 hc3 HI0
      go_wp2_with fail
      refine HQ3.out.mono ?_
      rintro e w' ⟨rfl, rfl⟩
      go_wp2_with fail
      refine (HF.out 5 (by omega) _ _ HC3.out).mono ?_
      rintro e w4 ⟨rfl, hc4, hg4⟩
      have HG4 := Lib.hid (Lib.grownBy_trans HG3.out hg4)
      have HX4 := Lib.hid (HX3.out.kept hg4 (by intro e; injection e with e; omega))
      have HC4 := Lib.hid hc4
      clear hg4 hc4
      have z0 := HX4.out.c0
      have z1 := HX4.out.c1
      have y0 := HX4.out.f 0
      have y1 := HX4.out.f 1
      go_wp2
      have q0 := (HX4.out.set (.int .i64 (wrap64 (b : Int))) (.int .i64 v)).c0
      have q1 := (HX4.out.set (.int .i64 (wrap64 (b : Int))) (.int .i64 v)).c1
      exact bodyPost_ret (v := .agg #[.int .i64 (wrap64 (b : Int)), .int .i64 v]) (by simp [results, Try.results39, go_sem, q0, q1]) rfl ⟨rfl, cur_set HC4.out hgl, grown_alloc_set HG4.out (Nat.le_refl _)⟩
    · rw [if_neg h2]
      by_cases h3 : v < low
      · rw [if_pos (.inl h3)]
        go_enter Try.func39, Try.ntmps39
        go_wp2_with fail
        refine (HB.out _ (H.out.kept (World.grownBy_alloc _ _ none) (by simp))).mono ?_
        rintro e w1 ⟨rfl, hc1, hg1⟩
        have HG1 := Lib.hid (show w.grownBy w1 (some g) from Lib.grownBy_trans (World.grownBy_alloc w (.cells #[.int .i64 0, .int .i64 0] 71) _) hg1)
        have HX1 := Lib.hid ((RunBox.new w (.int .i64 0) (.int .i64 0)).kept hg1 (by intro e; injection e with e; omega))
        have HC1 := Lib.hid hc1
        clear hg1 hc1 HB
        go_wp2_with fail
        refine (HF.out 5 (by omega) _ _ HC1.out).mono ?_
        rintro e w2 ⟨rfl, hc2, hg2⟩
        have HG2 := Lib.hid (Lib.grownBy_trans HG1.out hg2)
        have HX2 := Lib.hid (HX1.out.kept hg2 (by intro e; injection e with e; omega))
        have HC2 := Lib.hid hc2
        clear hg2 hc2
        rw [← HE.out] at HC2
        go_wp2_with fail
        refine (HI0.out _ HC2.out).mono ?_
        rintro e w3 ⟨rfl, hc3, hg3⟩
        have HG3 := Lib.hid (Lib.grownBy_trans HG2.out hg3)
        have HX3 := Lib.hid (HX2.out.kept hg3 (by intro e; injection e with e; omega))
        have HC3 := Lib.hid hc3
        have HQ3 := Lib.hid (HQ.out v _ HG3.out)
        rw [decide_eq_false h2] at HQ3
        clear hg3 hc3 HI0
        go_wp2_with fail
        refine HQ3.out.mono ?_
        rintro e w' ⟨rfl, rfl⟩
        go_wp2_with fail
        refine (HF.out 2 (by omega) _ _ HC3.out).mono ?_
        rintro e w5 ⟨rfl, hc5, hg5⟩
        have HG5 := Lib.hid (Lib.grownBy_trans HG3.out hg5)
        have HX5 := Lib.hid (HX3.out.kept hg5 (by intro e; injection e with e; omega))
        have HC5 := Lib.hid hc5
        clear hg5 hc5
        have z0 := HX5.out.c0
        have z1 := HX5.out.c1
        have y0 := HX5.out.f 0
        have y1 := HX5.out.f 1
        go_wp2
        have q0 := (HX5.out.set (.int .i64 (wrap64 (b : Int))) (.int .i64 v)).c0
        have q1 := (HX5.out.set (.int .i64 (wrap64 (b : Int))) (.int .i64 v)).c1
        exact bodyPost_ret (v := .agg #[.int .i64 (wrap64 (b : Int)), .int .i64 v]) (by simp [results, Try.results39, go_sem, q0, q1]) rfl ⟨rfl, cur_set HC5.out hgl, grown_alloc_set HG5.out (Nat.le_refl _)⟩
      by_cases h4 : high < v
      · rw [if_pos (.inr h4)]
        have h3' : ¬ v < low := h3
        go_enter Try.func39, Try.ntmps39
        go_wp2_with fail
        refine (HB.out _ (H.out.kept (World.grownBy_alloc _ _ none) (by simp))).mono ?_
        rintro e w1 ⟨rfl, hc1, hg1⟩
        have HG1 := Lib.hid (show w.grownBy w1 (some g) from Lib.grownBy_trans (World.grownBy_alloc w (.cells #[.int .i64 0, .int .i64 0] 71) _) hg1)
        have HX1 := Lib.hid ((RunBox.new w (.int .i64 0) (.int .i64 0)).kept hg1 (by intro e; injection e with e; omega))
        have HC1 := Lib.hid hc1
        clear hg1 hc1 HB
        go_wp2_with fail
        refine (HF.out 5 (by omega) _ _ HC1.out).mono ?_
        rintro e w2 ⟨rfl, hc2, hg2⟩
        have HG2 := Lib.hid (Lib.grownBy_trans HG1.out hg2)
        have HX2 := Lib.hid (HX1.out.kept hg2 (by intro e; injection e with e; omega))
        have HC2 := Lib.hid hc2
        clear hg2 hc2
        rw [← HE.out] at HC2
        go_wp2_with fail
        refine (HI0.out _ HC2.out).mono ?_
        rintro e w3 ⟨rfl, hc3, hg3⟩
        have HG3 := Lib.hid (Lib.grownBy_trans HG2.out hg3)
        have HX3 := Lib.hid (HX2.out.kept hg3 (by intro e; injection e with e; omega))
        have HC3 := Lib.hid hc3
        have HQ3 := Lib.hid (HQ.out v _ HG3.out)
        rw [decide_eq_false h2] at HQ3
        clear hg3 hc3 HI0
        go_wp2_with fail
        refine HQ3.out.mono ?_
        rintro e w' ⟨rfl, rfl⟩
        go_wp2_with fail
        refine (HF.out 2 (by omega) _ _ HC3.out).mono ?_
        rintro e w5 ⟨rfl, hc5, hg5⟩
        have HG5 := Lib.hid (Lib.grownBy_trans HG3.out hg5)
        have HX5 := Lib.hid (HX3.out.kept hg5 (by intro e; injection e with e; omega))
        have HC5 := Lib.hid hc5
        clear hg5 hc5
        have z0 := HX5.out.c0
        have z1 := HX5.out.c1
        have y0 := HX5.out.f 0
        have y1 := HX5.out.f 1
        go_wp2
        have q0 := (HX5.out.set (.int .i64 (wrap64 (b : Int))) (.int .i64 v)).c0
        have q1 := (HX5.out.set (.int .i64 (wrap64 (b : Int))) (.int .i64 v)).c1
        exact bodyPost_ret (v := .agg #[.int .i64 (wrap64 (b : Int)), .int .i64 v]) (by simp [results, Try.results39, go_sem, q0, q1]) rfl ⟨rfl, cur_set HC5.out hgl, grown_alloc_set HG5.out (Nat.le_refl _)⟩
      rw [if_neg (by omega)]
      go_enter Try.func39, Try.ntmps39
      go_wp2_with fail
      refine (HB.out _ (H.out.kept (World.grownBy_alloc _ _ none) (by simp))).mono ?_
      rintro e w1 ⟨rfl, hc1, hg1⟩
      have HG1 := Lib.hid (show w.grownBy w1 (some g) from Lib.grownBy_trans (World.grownBy_alloc w (.cells #[.int .i64 0, .int .i64 0] 71) _) hg1)
      have HX1 := Lib.hid ((RunBox.new w (.int .i64 0) (.int .i64 0)).kept hg1 (by intro e; injection e with e; omega))
      have HC1 := Lib.hid hc1
      clear hg1 hc1 HB
      go_wp2_with fail
      refine (HF.out 5 (by omega) _ _ HC1.out).mono ?_
      rintro e w2 ⟨rfl, hc2, hg2⟩
      have HG2 := Lib.hid (Lib.grownBy_trans HG1.out hg2)
      have HX2 := Lib.hid (HX1.out.kept hg2 (by intro e; injection e with e; omega))
      have HC2 := Lib.hid hc2
      clear hg2 hc2
      rw [← HE.out] at HC2
      go_wp2_with fail
      refine (HI0.out _ HC2.out).mono ?_
      rintro e w3 ⟨rfl, hc3, hg3⟩
      have HG3 := Lib.hid (Lib.grownBy_trans HG2.out hg3)
      have HX3 := Lib.hid (HX2.out.kept hg3 (by intro e; injection e with e; omega))
      have HC3 := Lib.hid hc3
      have HQ3 := Lib.hid (HQ.out v _ HG3.out)
      rw [decide_eq_false h2] at HQ3
      clear hg3 hc3 HI0
      go_wp2_with fail
      refine HQ3.out.mono ?_
      rintro e w' ⟨rfl, rfl⟩
      have z0 := HX3.out.c0
      have z1 := HX3.out.c1
      have y0 := HX3.out.f 0
      have y1 := HX3.out.f 1
      go_wp2
      have q0 := (HX3.out.set (.int .i64 (wrap64 (b : Int))) (.int .i64 v)).c0
      have q1 := (HX3.out.set (.int .i64 (wrap64 (b : Int))) (.int .i64 v)).c1
      exact bodyPost_ret (v := .agg #[.int .i64 (wrap64 (b : Int)), .int .i64 v]) (by simp [results, Try.results39, go_sem, q0, q1]) rfl ⟨rfl, cur_set HC3.out hgl, grown_alloc_set HG3.out (Nat.le_refl _)⟩
  · have HE : Hid (fs = sb) := Lib.hid (by rw [HFS.out, if_neg (by omega)])
    have h1i : ¬ (b : Int) < 1 := by omega
    clear HFS
    rw [show wrap64 (b : Int) = (b : Int) by unfold wrap64; omega]
    by_cases h2 : lastV r = some v
    · rw [if_pos h2]
      by_cases h3 : v < low
      · rw [if_pos (.inl h3)]
        go_enter Try.func39, Try.ntmps39
        go_wp2_with fail
        refine (HB.out _ (H.out.kept (World.grownBy_alloc _ _ none) (by simp))).mono ?_
        rintro e w1 ⟨rfl, hc1, hg1⟩
        have HG1 := Lib.hid (show w.grownBy w1 (some g) from Lib.grownBy_trans (World.grownBy_alloc w (.cells #[.int .i64 0, .int .i64 0] 71) _) hg1)
        have HX1 := Lib.hid ((RunBox.new w (.int .i64 0) (.int .i64 0)).kept hg1 (by intro e; injection e with e; omega))
        have HC1 := Lib.hid hc1
        clear hg1 hc1 HB
        have HC2 := HC1
        have HG2 := HG1
        have HX2 := HX1
        rw [← HE.out] at HC2
        go_wp2_with fail
        refine (HI0.out _ HC2.out).mono ?_
        rintro e w3 ⟨rfl, hc3, hg3⟩
        have HG3 := Lib.hid (Lib.grownBy_trans HG2.out hg3)
        have HX3 := Lib.hid (HX2.out.kept hg3 (by intro e; injection e with e; omega))
        have HC3 := Lib.hid hc3
        have HQ3 := Lib.hid (HQ.out v _ HG3.out)
        rw [decide_eq_true h2] at HQ3
        clear hg3 hc3 HI0
        go_wp2_with fail
        refine HQ3.out.mono ?_
        rintro e w' ⟨rfl, rfl⟩
        go_wp2_with fail
        refine (HF.out 5 (by omega) _ _ HC3.out).mono ?_
        rintro e w4 ⟨rfl, hc4, hg4⟩
        have HG4 := Lib.hid (Lib.grownBy_trans HG3.out hg4)
        have HX4 := Lib.hid (HX3.out.kept hg4 (by intro e; injection e with e; omega))
        have HC4 := Lib.hid hc4
        clear hg4 hc4
        go_wp2_with fail
        refine (HF.out 2 (by omega) _ _ HC4.out).mono ?_
        rintro e w5 ⟨rfl, hc5, hg5⟩
        have HG5 := Lib.hid (Lib.grownBy_trans HG4.out hg5)
        have HX5 := Lib.hid (HX4.out.kept hg5 (by intro e; injection e with e; omega))
        have HC5 := Lib.hid hc5
        clear hg5 hc5
        have z0 := HX5.out.c0
        have z1 := HX5.out.c1
        have y0 := HX5.out.f 0
        have y1 := HX5.out.f 1
        go_wp2
        have q0 := (HX5.out.set (.int .i64 (b : Int)) (.int .i64 v)).c0
        have q1 := (HX5.out.set (.int .i64 (b : Int)) (.int .i64 v)).c1
        exact bodyPost_ret (v := .agg #[.int .i64 (b : Int), .int .i64 v]) (by simp [results, Try.results39, go_sem, q0, q1]) rfl ⟨rfl, cur_set HC5.out hgl, grown_alloc_set HG5.out (Nat.le_refl _)⟩
      by_cases h4 : high < v
      · rw [if_pos (.inr h4)]
        have h3' : ¬ v < low := h3
        go_enter Try.func39, Try.ntmps39
        go_wp2_with fail
        refine (HB.out _ (H.out.kept (World.grownBy_alloc _ _ none) (by simp))).mono ?_
        rintro e w1 ⟨rfl, hc1, hg1⟩
        have HG1 := Lib.hid (show w.grownBy w1 (some g) from Lib.grownBy_trans (World.grownBy_alloc w (.cells #[.int .i64 0, .int .i64 0] 71) _) hg1)
        have HX1 := Lib.hid ((RunBox.new w (.int .i64 0) (.int .i64 0)).kept hg1 (by intro e; injection e with e; omega))
        have HC1 := Lib.hid hc1
        clear hg1 hc1 HB
        have HC2 := HC1
        have HG2 := HG1
        have HX2 := HX1
        rw [← HE.out] at HC2
        go_wp2_with fail
        refine (HI0.out _ HC2.out).mono ?_
        rintro e w3 ⟨rfl, hc3, hg3⟩
        have HG3 := Lib.hid (Lib.grownBy_trans HG2.out hg3)
        have HX3 := Lib.hid (HX2.out.kept hg3 (by intro e; injection e with e; omega))
        have HC3 := Lib.hid hc3
        have HQ3 := Lib.hid (HQ.out v _ HG3.out)
        rw [decide_eq_true h2] at HQ3
        clear hg3 hc3 HI0
        go_wp2_with fail
        refine HQ3.out.mono ?_
        rintro e w' ⟨rfl, rfl⟩
        go_wp2_with fail
        refine (HF.out 5 (by omega) _ _ HC3.out).mono ?_
        rintro e w4 ⟨rfl, hc4, hg4⟩
        have HG4 := Lib.hid (Lib.grownBy_trans HG3.out hg4)
        have HX4 := Lib.hid (HX3.out.kept hg4 (by intro e; injection e with e; omega))
        have HC4 := Lib.hid hc4
        clear hg4 hc4
        go_wp2_with fail
        refine (HF.out 2 (by omega) _ _ HC4.out).mono ?_
        rintro e w5 ⟨rfl, hc5, hg5⟩
        have HG5 := Lib.hid (Lib.grownBy_trans HG4.out hg5)
        have HX5 := Lib.hid (HX4.out.kept hg5 (by intro e; injection e with e; omega))
        have HC5 := Lib.hid hc5
        clear hg5 hc5
        have z0 := HX5.out.c0
        have z1 := HX5.out.c1
        have y0 := HX5.out.f 0
        have y1 := HX5.out.f 1
        go_wp2
        have q0 := (HX5.out.set (.int .i64 (b : Int)) (.int .i64 v)).c0
        have q1 := (HX5.out.set (.int .i64 (b : Int)) (.int .i64 v)).c1
        exact bodyPost_ret (v := .agg #[.int .i64 (b : Int), .int .i64 v]) (by simp [results, Try.results39, go_sem, q0, q1]) rfl ⟨rfl, cur_set HC5.out hgl, grown_alloc_set HG5.out (Nat.le_refl _)⟩
      rw [if_neg (by omega)]
      go_enter Try.func39, Try.ntmps39
      go_wp2_with fail
      refine (HB.out _ (H.out.kept (World.grownBy_alloc _ _ none) (by simp))).mono ?_
      rintro e w1 ⟨rfl, hc1, hg1⟩
      have HG1 := Lib.hid (show w.grownBy w1 (some g) from Lib.grownBy_trans (World.grownBy_alloc w (.cells #[.int .i64 0, .int .i64 0] 71) _) hg1)
      have HX1 := Lib.hid ((RunBox.new w (.int .i64 0) (.int .i64 0)).kept hg1 (by intro e; injection e with e; omega))
      have HC1 := Lib.hid hc1
      clear hg1 hc1 HB
      have HC2 := HC1
      have HG2 := HG1
      have HX2 := HX1
      rw [← HE.out] at HC2
      go_wp2_with fail
      refine (HI0.out _ HC2.out).mono ?_
      rintro e w3 ⟨rfl, hc3, hg3⟩
      have HG3 := Lib.hid (Lib.grownBy_trans HG2.out hg3)
      have HX3 := Lib.hid (HX2.out.kept hg3 (by intro e; injection e with e; omega))
      have HC3 := Lib.hid hc3
      have HQ3 := Lib.hid (HQ.out v _ HG3.out)
      rw [decide_eq_true h2] at HQ3
      clear hg3 hc3 HI0
      go_wp2_with fail
      refine HQ3.out.mono ?_
      rintro e w' ⟨rfl, rfl⟩
      go_wp2_with fail
      refine (HF.out 5 (by omega) _ _ HC3.out).mono ?_
      rintro e w4 ⟨rfl, hc4, hg4⟩
      have HG4 := Lib.hid (Lib.grownBy_trans HG3.out hg4)
      have HX4 := Lib.hid (HX3.out.kept hg4 (by intro e; injection e with e; omega))
      have HC4 := Lib.hid hc4
      clear hg4 hc4
      have z0 := HX4.out.c0
      have z1 := HX4.out.c1
      have y0 := HX4.out.f 0
      have y1 := HX4.out.f 1
      go_wp2
      have q0 := (HX4.out.set (.int .i64 (b : Int)) (.int .i64 v)).c0
      have q1 := (HX4.out.set (.int .i64 (b : Int)) (.int .i64 v)).c1
      exact bodyPost_ret (v := .agg #[.int .i64 (b : Int), .int .i64 v]) (by simp [results, Try.results39, go_sem, q0, q1]) rfl ⟨rfl, cur_set HC4.out hgl, grown_alloc_set HG4.out (Nat.le_refl _)⟩
    · rw [if_neg h2]
      by_cases h3 : v < low
      · rw [if_pos (.inl h3)]
        go_enter Try.func39, Try.ntmps39
        go_wp2_with fail
        refine (HB.out _ (H.out.kept (World.grownBy_alloc _ _ none) (by simp))).mono ?_
        rintro e w1 ⟨rfl, hc1, hg1⟩
        have HG1 := Lib.hid (show w.grownBy w1 (some g) from Lib.grownBy_trans (World.grownBy_alloc w (.cells #[.int .i64 0, .int .i64 0] 71) _) hg1)
        have HX1 := Lib.hid ((RunBox.new w (.int .i64 0) (.int .i64 0)).kept hg1 (by intro e; injection e with e; omega))
        have HC1 := Lib.hid hc1
        clear hg1 hc1 HB
        have HC2 := HC1
        have HG2 := HG1
        have HX2 := HX1
        rw [← HE.out] at HC2
        go_wp2_with fail
        refine (HI0.out _ HC2.out).mono ?_
        rintro e w3 ⟨rfl, hc3, hg3⟩
        have HG3 := Lib.hid (Lib.grownBy_trans HG2.out hg3)
        have HX3 := Lib.hid (HX2.out.kept hg3 (by intro e; injection e with e; omega))
        have HC3 := Lib.hid hc3
        have HQ3 := Lib.hid (HQ.out v _ HG3.out)
        rw [decide_eq_false h2] at HQ3
        clear hg3 hc3 HI0
        go_wp2_with fail
        refine HQ3.out.mono ?_
        rintro e w' ⟨rfl, rfl⟩
        go_wp2_with fail
        refine (HF.out 2 (by omega) _ _ HC3.out).mono ?_
        rintro e w5 ⟨rfl, hc5, hg5⟩
        have HG5 := Lib.hid (Lib.grownBy_trans HG3.out hg5)
        have HX5 := Lib.hid (HX3.out.kept hg5 (by intro e; injection e with e; omega))
        have HC5 := Lib.hid hc5
        clear hg5 hc5
        have z0 := HX5.out.c0
        have z1 := HX5.out.c1
        have y0 := HX5.out.f 0
        have y1 := HX5.out.f 1
        go_wp2
        have q0 := (HX5.out.set (.int .i64 (b : Int)) (.int .i64 v)).c0
        have q1 := (HX5.out.set (.int .i64 (b : Int)) (.int .i64 v)).c1
        exact bodyPost_ret (v := .agg #[.int .i64 (b : Int), .int .i64 v]) (by simp [results, Try.results39, go_sem, q0, q1]) rfl ⟨rfl, cur_set HC5.out hgl, grown_alloc_set HG5.out (Nat.le_refl _)⟩
      by_cases h4 : high < v
      · rw [if_pos (.inr h4)]
        have h3' : ¬ v < low := h3
        go_enter Try.func39, Try.ntmps39
        go_wp2_with fail
        refine (HB.out _ (H.out.kept (World.grownBy_alloc _ _ none) (by simp))).mono ?_
        rintro e w1 ⟨rfl, hc1, hg1⟩
        have HG1 := Lib.hid (show w.grownBy w1 (some g) from Lib.grownBy_trans (World.grownBy_alloc w (.cells #[.int .i64 0, .int .i64 0] 71) _) hg1)
        have HX1 := Lib.hid ((RunBox.new w (.int .i64 0) (.int .i64 0)).kept hg1 (by intro e; injection e with e; omega))
        have HC1 := Lib.hid hc1
        clear hg1 hc1 HB
        have HC2 := HC1
        have HG2 := HG1
        have HX2 := HX1
        rw [← HE.out] at HC2
        go_wp2_with fail
        refine (HI0.out _ HC2.out).mono ?_
        rintro e w3 ⟨rfl, hc3, hg3⟩
        have HG3 := Lib.hid (Lib.grownBy_trans HG2.out hg3)
        have HX3 := Lib.hid (HX2.out.kept hg3 (by intro e; injection e with e; omega))
        have HC3 := Lib.hid hc3
        have HQ3 := Lib.hid (HQ.out v _ HG3.out)
        rw [decide_eq_false h2] at HQ3
        clear hg3 hc3 HI0
        go_wp2_with fail
        refine HQ3.out.mono ?_
        rintro e w' ⟨rfl, rfl⟩
        go_wp2_with fail
        refine (HF.out 2 (by omega) _ _ HC3.out).mono ?_
        rintro e w5 ⟨rfl, hc5, hg5⟩
        have HG5 := Lib.hid (Lib.grownBy_trans HG3.out hg5)
        have HX5 := Lib.hid (HX3.out.kept hg5 (by intro e; injection e with e; omega))
        have HC5 := Lib.hid hc5
        clear hg5 hc5
        have z0 := HX5.out.c0
        have z1 := HX5.out.c1
        have y0 := HX5.out.f 0
        have y1 := HX5.out.f 1
        go_wp2
        have q0 := (HX5.out.set (.int .i64 (b : Int)) (.int .i64 v)).c0
        have q1 := (HX5.out.set (.int .i64 (b : Int)) (.int .i64 v)).c1
        exact bodyPost_ret (v := .agg #[.int .i64 (b : Int), .int .i64 v]) (by simp [results, Try.results39, go_sem, q0, q1]) rfl ⟨rfl, cur_set HC5.out hgl, grown_alloc_set HG5.out (Nat.le_refl _)⟩
      rw [if_neg (by omega)]
      go_enter Try.func39, Try.ntmps39
      go_wp2_with fail
      refine (HB.out _ (H.out.kept (World.grownBy_alloc _ _ none) (by simp))).mono ?_
      rintro e w1 ⟨rfl, hc1, hg1⟩
      have HG1 := Lib.hid (show w.grownBy w1 (some g) from Lib.grownBy_trans (World.grownBy_alloc w (.cells #[.int .i64 0, .int .i64 0] 71) _) hg1)
      have HX1 := Lib.hid ((RunBox.new w (.int .i64 0) (.int .i64 0)).kept hg1 (by intro e; injection e with e; omega))
      have HC1 := Lib.hid hc1
      clear hg1 hc1 HB
      have HC2 := HC1
      have HG2 := HG1
      have HX2 := HX1
      rw [← HE.out] at HC2
      go_wp2_with fail
      refine (HI0.out _ HC2.out).mono ?_
      rintro e w3 ⟨rfl, hc3, hg3⟩
      have HG3 := Lib.hid (Lib.grownBy_trans HG2.out hg3)
      have HX3 := Lib.hid (HX2.out.kept hg3 (by intro e; injection e with e; omega))
      have HC3 := Lib.hid hc3
      have HQ3 := Lib.hid (HQ.out v _ HG3.out)
      rw [decide_eq_false h2] at HQ3
      clear hg3 hc3 HI0
      go_wp2_with fail
      refine HQ3.out.mono ?_
      rintro e w' ⟨rfl, rfl⟩
      have z0 := HX3.out.c0
      have z1 := HX3.out.c1
      have y0 := HX3.out.f 0
      have y1 := HX3.out.f 1
      go_wp2
      have q0 := (HX3.out.set (.int .i64 (b : Int)) (.int .i64 v)).c0
      have q1 := (HX3.out.set (.int .i64 (b : Int)) (.int .i64 v)).c1
      exact bodyPost_ret (v := .agg #[.int .i64 (b : Int), .int .i64 v]) (by simp [results, Try.results39, go_sem, q0, q1]) rfl ⟨rfl, cur_set HC3.out hgl, grown_alloc_set HG3.out (Nat.le_refl _)⟩

end Go.Proofs.Ytnfflddcekffeaa
