/-
  What stands while CursorReads runs: both cursors alike at each round, and inside a round's two drawn statements. Conditions: as each states.
-/
import Derived.Test.YtblelhffghcffaaOne
import Derived.Test.YtblelhffghcffaaRegionG
namespace Go.Proofs.Ytblelhffghcffaa
open Go.RowKit

/-- Questions that can be read. -/
def AsksAt (w : World) (L : Option Addr) (len : Nat) : Prop :=
  0 < len → ∃ lb lo, L = some ⟨lb, lo, none⟩ ∧ lb < w.heap.size ∧ ∀ i, i < len → ∃ kk mm : Int, w.cell? ⟨lb, lo + i * 2, none⟩ = some (.int .i64 kk) ∧ w.cell? ⟨lb, lo + i * 2 + 1, none⟩ = some (.int .i64 mm) ∧ -9223372036854775808 ≤ mm ∧ mm ≤ 9223372036854775807

/-- A round's head. -/
def RdRel (w0 : World) (g p len : Nat) (i : Value) (W : World) : Prop :=
  ∃ (k : Nat) (s : List Nat × Nat) (A : Option Addr) (n c : Nat), i = .int .i64 (k : Int) ∧ k ≤ len ∧ k ≤ 40 ∧ Cur W g s ∧ Two W p (.slice A n c) (.int .i64 (s.2 : Int)) ∧ Dat W w0.heap.size A n c s ∧ Below w0.heap.size w0 W

theorem rd_start {w0 w1 : World} {A : Option Addr} {n c g len : Nat} {l : List Nat} (hb : BytesAt w0 w0.heap.size A n l) (hnc : n ≤ c) (hcc : c ≤ 9223372036854775807) (hc : Cur w1 g (l, 0)) (hbl : Below w0.heap.size w0 w1) :
    RdRel w0 g w1.heap.size len (.int .i64 0) (w1.alloc (.cells #[.slice A n c, .int .i64 0] 28)) := by
  have hb2 := hbl.alloc hbl.size (.cells #[.slice A n c, .int .i64 0] 28)
  exact ⟨0, (l, 0), A, n, c, rfl, Nat.zero_le _, Nat.zero_le _, hc.kept (World.grownBy_alloc _ _ none) (by simp), Two.new _ _ _, fun _ => ⟨hb.below hb2, hnc, hcc⟩, hb2⟩

/-- What the call leaves open: the state, the document's slice, and where the answer is laid. -/
structure RdX where
  s : List Nat × Nat
  A : Option Addr
  n : Nat
  c : Nat
  q : Nat

/-- The world while a round's call runs. -/
structure RdC (w0 : World) (g p : Nat) (s : List Nat × Nat) (Ad : Option Addr) (nd cd : Nat) (x : RdX) (D : Nat → Bool) (w : World) : Prop where
  cur : Cur w g (if D 6 = true then x.s else s)
  two : Two w p (.slice Ad nd cd) (.int .i64 (s.2 : Int))
  dat : if D 6 = true then Dat w w0.heap.size x.A x.n x.c x.s else Dat w w0.heap.size Ad nd cd s
  new : D 10 = true → ∃ u v, Two w x.q u v ∧ (D 11 = true → u = .slice x.A x.n x.c ∧ v = .int .i64 (x.s.2 : Int))
  newq : D 10 = true → p < x.q
  row : Below w0.heap.size w0 w
  lt : g < p
  bg : w0.heap.size ≤ g

section
variable {w0 : World} {g p : Nat} {s : List Nat × Nat} {Ad : Option Addr} {nd cd : Nat} {x : RdX} {D : Nat → Bool} {w : World}

theorem RdC.up (h : RdC w0 g p s Ad nd cd x D w) {i : Nat} (h1 : ((6 : Nat) == i) = false) (h2 : ((10 : Nat) == i) = false) (h3 : ((11 : Nat) == i) = false) : RdC w0 g p s Ad nd cd x (add D i) w := by
  obtain ⟨a, b, c, d, e, f, j, k⟩ := h
  exact ⟨by rw [up_other h1]; exact a, b, by rw [up_other h1]; exact c, by rw [up_other h2, up_other h3]; exact d, by rw [up_other h2]; exact e, f, j, k⟩

theorem RdC.curB (h : RdC w0 g p s Ad nd cd x D w) (hD : D 6 = false) : Cur w g s := by
  have := h.cur
  rw [hD] at this
  exact this
theorem RdC.datB (h : RdC w0 g p s Ad nd cd x D w) (hD : D 6 = false) : Dat w w0.heap.size Ad nd cd s := by
  have := h.dat
  rw [hD] at this
  exact this

theorem RdC.called (h : RdC w0 g p s Ad nd cd x D w) {w' : World} {s' : List Nat × Nat} {A' : Option Addr} {n' c' : Nat} (hc : Cur w' g s') (hd : Dat w' w0.heap.size A' n' c' s') (hg : w.grownBy w' (some g)) (h11 : D 11 = false) :
    RdC w0 g p s Ad nd cd ⟨s', A', n', c', x.q⟩ (add D 6) w' := by
  have hlt := h.lt
  have hbg := h.bg
  refine { cur := by rw [up_self, if_pos rfl]; exact hc, two := h.two.kept hg (fun e => by injection e with e; omega), dat := by rw [up_self, if_pos rfl]; exact hd, new := ?_, newq := ?_, row := h.row.grown hg h.row.size (fun k hk => by injection hk with hk; omega), lt := h.lt, bg := h.bg }
  · intro h10
    rw [up_other rfl] at h10
    obtain ⟨u, v, ht, _⟩ := h.new h10
    have := h.newq h10
    refine ⟨u, v, ht.kept hg (fun e => by injection e with e; omega), fun h => ?_⟩
    rw [up_other rfl, h11] at h
    cases h
  · intro h10
    rw [up_other rfl] at h10
    exact h.newq h10

theorem RdC.alloced (h : RdC w0 g p s Ad nd cd x D w) (h11 : D 11 = false) :
    RdC w0 g p s Ad nd cd ⟨x.s, x.A, x.n, x.c, w.heap.size⟩ (add D 10) (w.alloc (.cells #[.slice none 0 0, .int .i64 0] 28)) := by
  have hg : w.grownBy (w.alloc (.cells #[.slice none 0 0, .int .i64 0] 28)) none := World.grownBy_alloc _ _ _
  have hp := h.two.lt
  refine { cur := ?_, two := h.two.kept hg (by simp), dat := ?_, new := fun _ => ⟨_, _, Two.new _ _ _, fun h => ?_⟩, newq := fun _ => hp, row := h.row.alloc h.row.size _, lt := h.lt, bg := h.bg }
  · rw [up_other rfl]
    exact h.cur.kept hg (by simp)
  · rw [up_other rfl]
    have hd := h.dat
    by_cases h6 : D 6 = true
    · rw [if_pos h6] at hd ⊢
      exact hd.kept hg (by simp)
    · rw [if_neg h6] at hd ⊢
      exact hd.kept hg (by simp)
  · rw [up_other rfl, h11] at h
    cases h

theorem RdC.stored (h : RdC w0 g p s Ad nd cd x D w) (h10 : D 10 = true) :
    RdC w0 g p s Ad nd cd x (add D 11) ((w.setCell ⟨x.q, 0, none⟩ (.slice x.A x.n x.c)).setCell ⟨x.q, 1, none⟩ (.int .i64 (x.s.2 : Int))) := by
  obtain ⟨u, v, ht, _⟩ := h.new h10
  have hq := h.newq h10
  have hlt := h.lt
  have hbg := h.bg
  have hg : w.grownBy ((w.setCell ⟨x.q, 0, none⟩ (.slice x.A x.n x.c)).setCell ⟨x.q, 1, none⟩ (.int .i64 (x.s.2 : Int))) (some x.q) := Lib.grownBy_setB (Lib.grownBy_setB (World.grownBy.refl _ _) _ _) _ _
  refine { cur := ?_, two := h.two.kept hg (fun e => by injection e with e; omega), dat := ?_, new := fun _ => ⟨_, _, ht.set _ _, fun _ => ⟨rfl, rfl⟩⟩, newq := fun _ => hq, row := h.row.grown hg h.row.size (fun k hk => by injection hk with hk; omega), lt := h.lt, bg := h.bg }
  · rw [up_other rfl]
    exact h.cur.kept hg (fun k hk => by injection hk with hk; omega)
  · rw [up_other rfl]
    have hd := h.dat
    by_cases h6 : D 6 = true
    · rw [if_pos h6] at hd ⊢
      exact hd.kept hg (fun k hk => by injection hk with hk; omega)
    · rw [if_neg h6] at hd ⊢
      exact hd.kept hg (fun k hk => by injection hk with hk; omega)

theorem rd_before {y : RdX} (h : Cur w g s ∧ Two w p (.slice Ad nd cd) (.int .i64 (s.2 : Int)) ∧ Dat w w0.heap.size Ad nd cd s ∧ Below w0.heap.size w0 w) (hg : w0.heap.size ≤ g) (hgp : g < p) : RdC w0 g p s Ad nd cd y (fun _ => false) w.drew := by
  obtain ⟨h1, h2, h3, h4⟩ := h
  have hd : w.grownBy w.drew none := ⟨rfl, rfl, rfl, Nat.le_refl _, fun _ _ _ => rfl⟩
  exact { cur := h1.kept hd (by simp), two := h2.kept hd (by simp), dat := h3.kept hd (by simp), new := (fun h => by cases h), newq := (fun h => by cases h), row := h4.drew, lt := hgp, bg := hg }

theorem RdC.all (h : RdC w0 g p s Ad nd cd x D w) (h6 : D 6 = true) (h10 : D 10 = true) (h11 : D 11 = true) :
    Cur w g x.s ∧ Dat w w0.heap.size x.A x.n x.c x.s ∧ Two w x.q (.slice x.A x.n x.c) (.int .i64 (x.s.2 : Int)) ∧ Two w p (.slice Ad nd cd) (.int .i64 (s.2 : Int)) ∧ Below w0.heap.size w0 w := by
  obtain ⟨u, v, ht, hr⟩ := h.new h10
  obtain ⟨rfl, rfl⟩ := hr h11
  have h1 := h.cur
  have h2 := h.dat
  rw [if_pos h6] at h1 h2
  exact ⟨h1, h2, ht, h.two, h.row⟩
end

/-- The world while a round's test runs: both cursors stand alike. -/
structure RdK (w0 : World) (g p : Nat) (x : RdX) (w : World) : Prop where
  cur : Cur w g x.s
  two : Two w p (.slice x.A x.n x.c) (.int .i64 (x.s.2 : Int))
  dat : Dat w w0.heap.size x.A x.n x.c x.s
  row : Below w0.heap.size w0 w

theorem RdK.drew {w0 w : World} {g p : Nat} {x : RdX} (h : RdK w0 g p x w) : RdK w0 g p x w.drew := by
  have hd : w.grownBy w.drew none := ⟨rfl, rfl, rfl, Nat.le_refl _, fun _ _ _ => rfl⟩
  exact ⟨h.cur.kept hd (by simp), h.two.kept hd (by simp), h.dat.kept hd (by simp), h.row.drew⟩
theorem RdK.below {w0 w w' : World} {g p : Nat} {x : RdX} (h : RdK w0 g p x w) (hb : Below w.heap.size w w') : RdK w0 g p x w' := by
  have hd : w.grownBy w' none := ⟨hb.os, hb.tape, hb.output, hb.size, fun k hk _ => hb.block k hk⟩
  exact ⟨h.cur.kept hd (by simp), h.two.kept hd (by simp), h.dat.kept hd (by simp), h.row.trans (hb.mono h.row.size)⟩

theorem rd_test {w0 w : World} {g p : Nat} {x : RdX} {u v : Value} (h1 : Cur w g x.s) (h2 : Dat w w0.heap.size x.A x.n x.c x.s) (h3 : Two w p u v) (h4 : Below w0.heap.size w0 w) (hg : w0.heap.size ≤ g) (hgp : g < p) :
    RdK w0 g p x ((w.setCell ⟨p, 0, none⟩ (.slice x.A x.n x.c)).setCell ⟨p, 1, none⟩ (.int .i64 (x.s.2 : Int))) := by
  have hs : w.grownBy ((w.setCell ⟨p, 0, none⟩ (.slice x.A x.n x.c)).setCell ⟨p, 1, none⟩ (.int .i64 (x.s.2 : Int))) (some p) := Lib.grownBy_setB (Lib.grownBy_setB (World.grownBy.refl _ _) _ _) _ _
  exact ⟨h1.kept hs (fun k hk => by injection hk with hk; omega), h3.set _ _, h2.kept hs (fun k hk => by injection hk with hk; omega), h4.grown hs h4.size (fun k hk => by injection hk with hk; omega)⟩
end Go.Proofs.Ytblelhffghcffaa
