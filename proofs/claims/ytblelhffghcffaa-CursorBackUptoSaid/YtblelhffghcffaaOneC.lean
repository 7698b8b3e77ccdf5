/-
  What the law's 'one' leaves, and what stands while both cursors take: the invariant of its drawn regions. Conditions: as each states.
-/
import Derived.Test.YtblelhffghcffaaRefText
import Derived.Test.YtblelhffghcffaaCurLives
namespace Go.Proofs.Ytblelhffghcffaa
open Go.RowKit

theorem Cur.nil {w : World} {g : Nat} {s : List Nat × Nat} (h : Cur w g s) : s.2 ≠ 0 → s.1 = [] := by
  obtain ⟨A, n, c, m, e0, _, _, _, _, _, h, _⟩ := h
  exact h

theorem Dat.kept {w w' : World} {B n c : Nat} {A : Option Addr} {s : List Nat × Nat} (h : Dat w B A n c s) {row : Option Nat} (hg : w.grownBy w' row) (hr : ∀ k, row = some k → B ≤ k) : Dat w' B A n c s := fun h0 => ⟨(h h0).1.kept hg hr, (h h0).2⟩

/-- Block p is a question. -/
def AskAt (w : World) (p : Nat) (k m : Int) : Prop := w.heap[p]? = some (.cells #[.int .i64 k, .int .i64 m] 32 (0, 0))
theorem AskAt.c1 {w : World} {p : Nat} {k m : Int} (h : AskAt w p k m) : w.cell? ⟨p, 1, none⟩ = some (.int .i64 m) := by unfold AskAt at h; simp [World.cell?, h]
theorem AskAt.kept {w w' : World} {p : Nat} {k m : Int} (h : AskAt w p k m) {row : Option Nat} (hg : w.grownBy w' row) (hne : row ≠ some p) : AskAt w' p k m := (hg.block p (heap_lt h) (Ne.symm hne)).trans h

/-- Both cursors go on alike; of what was there only the cursor's block has turned. -/
def OnePost (g B : Nat) (w : World) (e : Ending) (w' : World) : Prop :=
  ∃ (s' : List Nat × Nat) (A' : Option Addr) (n' c' : Nat), e = .returned (.tuple #[.agg #[.slice A' n' c', .int .i64 (s'.2 : Int)], .bool true]) ∧ Cur w' g s' ∧ Dat w' B A' n' c' s' ∧ w.grownBy w' (some g)

/-- The world while the region runs: behind operation ci the cursor has gone on; behind operation si the answer is laid. -/
structure OneC (ci si : Nat) (w0 : World) (g B p5 p6 p9 : Nat) (s s' : List Nat × Nat) (k m : Int) (A1 : Option Addr) (n1 c1 : Nat) (D : Nat → Bool) (w : World) : Prop where
  cur : Cur w g (if D ci = true then s' else s)
  pt : Two w p9 (.slice A1 n1 c1) (.int .i64 (s'.2 : Int))
  ask : AskAt w p5 k m
  res : ∃ x y, Two w p6 x y ∧ (D si = true → x = .slice A1 n1 c1 ∧ y = .int .i64 (s'.2 : Int))
  dat : Dat w B A1 n1 c1 s'
  row : w0.grownBy w (some g)
  lt : g < w0.heap.size
  a5 : w0.heap.size ≤ p5
  a6 : w0.heap.size ≤ p6
  a9 : w0.heap.size ≤ p9
  n5 : p5 ≠ p6
  n9 : p9 ≠ p6
  bg : B ≤ g
  nc : ci ≠ si

section
variable {ci si : Nat} {w0 : World} {g B p5 p6 p9 : Nat} {s s' : List Nat × Nat} {k m : Int} {A1 : Option Addr} {n1 c1 : Nat} {D : Nat → Bool} {w : World}

theorem OneC.up (h : OneC ci si w0 g B p5 p6 p9 s s' k m A1 n1 c1 D w) {i : Nat} (h1 : (ci == i) = false) (h2 : (si == i) = false) : OneC ci si w0 g B p5 p6 p9 s s' k m A1 n1 c1 (add D i) w := by
  obtain ⟨a, b, c, d, e⟩ := h
  exact ⟨by rw [up_other h1]; exact a, b, c, by rw [up_other h2]; exact d, e, by assumption, by assumption, by assumption, by assumption, by assumption, by assumption, by assumption, by assumption, by assumption⟩

theorem OneC.drew (h : OneC ci si w0 g B p5 p6 p9 s s' k m A1 n1 c1 D w) : OneC ci si w0 g B p5 p6 p9 s s' k m A1 n1 c1 D w.drew := by
  have hg : w.grownBy w.drew none := ⟨rfl, rfl, rfl, Nat.le_refl _, fun _ _ _ => rfl⟩
  obtain ⟨x, y, ht, hr⟩ := h.res
  exact { cur := h.cur.kept hg (by simp), pt := h.pt.kept hg (by simp), ask := h.ask.kept hg (by simp), res := ⟨x, y, ht.kept hg (by simp), hr⟩, dat := h.dat.kept hg (by simp), row := ⟨h.row.os, h.row.tape, h.row.output, h.row.size, h.row.block⟩, lt := h.lt, a5 := h.a5, a6 := h.a6, a9 := h.a9, n5 := h.n5, n9 := h.n9, bg := h.bg, nc := h.nc }

theorem OneC.curB (h : OneC ci si w0 g B p5 p6 p9 s s' k m A1 n1 c1 D w) (hD : D ci = false) : Cur w g s := by
  have := h.cur
  rw [hD] at this
  exact this

theorem OneC.called (h : OneC ci si w0 g B p5 p6 p9 s s' k m A1 n1 c1 D w) {w' : World} (hc : CurP w' (some ⟨g, 0, none⟩) s') (ho : Only (some ⟨g, 0, none⟩) w w') : OneC ci si w0 g B p5 p6 p9 s s' k m A1 n1 c1 (add D ci) w' := by
  obtain ⟨x, y, ht, hr⟩ := h.res
  have hlt := h.lt
  have ne : ∀ p, w0.heap.size ≤ p → (some g : Option Nat) ≠ some p := fun p hp e => by injection e with e; omega
  refine { cur := ?_, pt := h.pt.kept ho (ne _ h.a9), ask := h.ask.kept ho (ne _ h.a5), res := ⟨x, y, ht.kept ho (ne _ h.a6), ?_⟩, dat := h.dat.kept ho (fun k hk => by injection hk with hk; subst hk; exact h.bg), row := Lib.grownBy_trans h.row ho, lt := h.lt, a5 := h.a5, a6 := h.a6, a9 := h.a9, n5 := h.n5, n9 := h.n9, bg := h.bg, nc := h.nc }
  · rw [up_self, if_pos rfl]
    exact hc.cur
  · intro hs
    have hsc := h.nc
    rw [up_other (by simpa using Ne.symm hsc)] at hs
    exact hr hs

theorem OneC.stored (h : OneC ci si w0 g B p5 p6 p9 s s' k m A1 n1 c1 D w) : OneC ci si w0 g B p5 p6 p9 s s' k m A1 n1 c1 (add D si) ((w.setCell ⟨p6, 0, none⟩ (.slice A1 n1 c1)).setCell ⟨p6, 1, none⟩ (.int .i64 (s'.2 : Int))) := by
  obtain ⟨x, y, ht, hr⟩ := h.res
  have hlt := h.lt
  have h6 := h.a6
  have hbg := h.bg
  have hg : w.grownBy ((w.setCell ⟨p6, 0, none⟩ (.slice A1 n1 c1)).setCell ⟨p6, 1, none⟩ (.int .i64 (s'.2 : Int))) (some p6) := Lib.grownBy_setB (Lib.grownBy_setB (World.grownBy.refl _ _) _ _) _ _
  refine { cur := ?_, pt := h.pt.kept hg (fun e => by injection e with e; exact h.n9 e.symm), ask := h.ask.kept hg (fun e => by injection e with e; exact h.n5 e.symm), res := ⟨_, _, ht.set _ _, fun _ => ⟨rfl, rfl⟩⟩, dat := h.dat.kept hg (fun k hk => by injection hk with hk; omega), row := grown_set (grown_set h.row h6 _ _) h6 _ _, lt := h.lt, a5 := h.a5, a6 := h.a6, a9 := h.a9, n5 := h.n5, n9 := h.n9, bg := h.bg, nc := h.nc }
  have hsc := h.nc
  rw [up_other (by simpa using hsc)]
  exact h.cur.kept hg (fun k hk => by injection hk with hk; omega)

theorem one_start {A : Option Addr} {n c e : Nat} {w1 : World} (hn : ci ≠ si) (hc : Cur w0 g s) (hd1 : Dat w1 B A1 n1 c1 s')
    (hbl : Below (((w0.alloc (.cells #[.slice A n c, .int .i64 (e : Int)] 28)).alloc (.cells #[.int .i64 k, .int .i64 m] 32)).alloc (.cells #[.slice none 0 0, .int .i64 0] 28)).heap.size (((w0.alloc (.cells #[.slice A n c, .int .i64 (e : Int)] 28)).alloc (.cells #[.int .i64 k, .int .i64 m] 32)).alloc (.cells #[.slice none 0 0, .int .i64 0] 28)) w1) (hBg : B ≤ g) :
    OneC ci si w0 g B (w0.heap.size + 1) (w0.heap.size + 1 + 1) w1.heap.size s s' k m A1 n1 c1 (fun _ => false) (w1.alloc (.cells #[.slice A1 n1 c1, .int .i64 (s'.2 : Int)] 28)) := by
  have hlt := hc.lt
  have hsz := hbl.size
  simp at hsz
  have hg0 : w0.grownBy w1 none := Lib.grownBy_below (Lib.grownBy_allocR (Lib.grownBy_allocR (World.grownBy_alloc _ _ _) _) _) hbl
  have hg1 : w0.grownBy (w1.alloc (.cells #[.slice A1 n1 c1, .int .i64 (s'.2 : Int)] 28)) none := Lib.grownBy_allocR hg0 _
  have hga : w1.grownBy (w1.alloc (.cells #[.slice A1 n1 c1, .int .i64 (s'.2 : Int)] 28)) none := World.grownBy_alloc _ _ _
  have t6 := (Two.new _ (.slice none 0 0) (.int .i64 0)).below hbl (by simp)
  simp only [World.size_alloc] at t6
  have a5 : AskAt ((w0.alloc (.cells #[.slice A n c, .int .i64 (e : Int)] 28)).alloc (.cells #[.int .i64 k, .int .i64 m] 32)) (w0.heap.size + 1) k m := by
    have := heap_alloc_new (w0.alloc (.cells #[.slice A n c, .int .i64 (e : Int)] 28)) (.cells #[.int .i64 k, .int .i64 m] 32)
    simp only [World.size_alloc] at this
    exact this
  have hgb : ((w0.alloc (.cells #[.slice A n c, .int .i64 (e : Int)] 28)).alloc (.cells #[.int .i64 k, .int .i64 m] 32)).grownBy w1 none := Lib.grownBy_below (World.grownBy_alloc _ _ _) hbl
  exact { cur := hc.kept hg1 (by simp), pt := Two.new _ _ _, ask := (a5.kept hgb (by simp)).kept hga (by simp), res := ⟨_, _, t6.alloc _, fun h => by cases h⟩, dat := hd1.kept hga (by simp), row := ⟨hg1.os, hg1.tape, hg1.output, hg1.size, fun k hk _ => hg1.block k hk (by simp)⟩, lt := hlt, a5 := by omega, a6 := by omega, a9 := by omega, n5 := by omega, n9 := by omega, bg := hBg, nc := hn }

theorem one_end {tmps : Array Value} (h : OneC ci si w0 g B p5 p6 p9 s s' k m A1 n1 c1 D w) (hci : D ci = true) (hsi : D si = true)
    (e6 : (⟨tmps, []⟩ : Act).eval (.tmp 6) = .pointer (some ⟨p6, 0, none⟩)) (e7 : (⟨tmps, []⟩ : Act).eval (.tmp 7) = .bool true) :
    bodyPost Try.prog Try.f7 (OnePost g B w0) .ret ⟨tmps, []⟩ w := by
  obtain ⟨x, y, ht, hr⟩ := h.res
  obtain ⟨rfl, rfl⟩ := hr hsi
  have hcur := h.cur
  rw [if_pos hci] at hcur
  have z0 := ht.c0
  have z1 := ht.c1
  have e6' : tmps[6]?.getD undef = .pointer (some ⟨p6, 0, none⟩) := by rw [← Array.getD_eq_getD_getElem?]; exact e6
  have e7' : tmps[7]?.getD undef = .bool true := by rw [← Array.getD_eq_getD_getElem?]; exact e7
  refine bodyPost_ret (v := .tuple #[.agg #[.slice A1 n1 c1, .int .i64 (s'.2 : Int)], .bool true]) (by simp [results, Try.results7, go_sem, e6', e7', z0, z1]) rfl ⟨s', A1, n1, c1, rfl, hcur, h.dat, h.row⟩
end
end Go.Proofs.Ytblelhffghcffaa
