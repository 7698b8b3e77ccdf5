/-
  What a cursor's Text answers, and what it leaves. Conditions: none.
-/
import Derived.Test.YtpfcfmpfommfaaaDoorCurD
import Derived.Test.YtpfcfmpfommfaaaDoorRegionD
namespace Go.Proofs.YtpfcfmpfommfaaaDoor
open Go.RowKit


/-- Ahead of the call the world is W; behind it the cursor has turned. -/
def T1C (g : Nat) (s' : List Nat × Nat) (W : World) (D : Nat → Bool) (w : World) : Prop := (D 4 = false → w = W) ∧ (D 4 = true → Cur w g s' ∧ W.grownBy w (some g))
theorem T1_up {g : Nat} {s' : List Nat × Nat} {W w : World} {D : Nat → Bool} {i : Nat} (h : T1C g s' W D w) (hi : ((4 : Nat) == i) = false) : T1C g s' W (add D i) w := by unfold T1C at *; rw [up_other hi]; exact h
theorem T1_before {g : Nat} {s' : List Nat × Nat} {W w : World} {D : Nat → Bool} (h : T1C g s' W D w) (h4 : D 4 = false) : w = W := h.1 h4
theorem T1_after {g : Nat} {s' : List Nat × Nat} {W w : World} {D : Nat → Bool} (h : Cur w g s' ∧ W.grownBy w (some g)) : T1C g s' W (add D 4) w := ⟨(fun h => by rw [up_self] at h; cases h), fun _ => h⟩

/-- What each operation yields. -/
def T1G (g z : Nat) (t : ByteArray) (er : Nat) : Nat → Value → Prop
  | 0, v | 1, v | 2, v => v = .pointer (some ⟨g, 0, none⟩)
  | 3, v => v = .int .i64 (z : Int)
  | 4, v => v = .tuple #[.string t, .int .i64 (er : Int)]
  | 5, v | 7, v => v = .string t
  | _, v => v = .int .i64 (er : Int)

/-- The next text, if it is at most so long. -/
def textA (s : List Nat × Nat) (most : Int) : ByteArray × List Nat × Nat :=
  ((textB (numA s most).2.1 (numA s most).1).1, failA ((numA s most).2.1.drop (textB (numA s most).2.1 (numA s most).1).2.1, (numA s most).2.2) (textB (numA s most).2.1 (numA s most).1).2.2)

theorem textB_err (l : List Nat) (z : Nat) : (textB l z).2.2 ≤ 3 := by unfold textB; split <;> simp
theorem numA_le (s : List Nat × Nat) (most : Int) (h : most ≤ 9223372036854775807) : (numA s most).1 ≤ 9223372036854775807 := by
  unfold numA
  split
  · simp
  · simp only; omega

theorem Cur.kept' {w w' : World} {g : Nat} {s : List Nat × Nat} (h : Cur w g s) {row : Option Nat} (hg : w.grownBy w' row) (hr : ∀ k, row = some k → k ≠ g ∧ (s.1 = [] ∨ g < k)) : Cur w' g s := by
  obtain ⟨A, n, c, m, e0, h1, h2, h3⟩ := h
  refine ⟨A, n, c, m, e0, h1.kept hg (fun e => (hr g e).1 rfl), ⟨h2.1, h2.2.1, fun hp => ?_⟩, h3⟩
  obtain ⟨b, off, e, hlt, hc⟩ := h2.2.2 hp
  refine ⟨b, off, e, hlt, fun i hi => hg.cell (hc i hi) (fun e => ?_)⟩
  rcases (hr b e.symm).2 with h0 | h0
  · have := h2.1; rw [h0] at this; simp at this; omega
  · omega

theorem grown_set {a w : World} {row : Option Nat} (h : a.grownBy w row) {p : Nat} (hp : a.heap.size ≤ p) (i : Nat) (v : Value) : a.grownBy (w.setCell ⟨p, i, none⟩ v) row :=
  ⟨h.os, h.tape, h.output, by simpa [World.setCell] using h.size, fun k hk hne => by
    rw [Below.heap_setCell w ⟨p, i, none⟩ v k (by show k ≠ p; omega)]
    exact h.block k hk hne⟩

theorem Only.of_row {q : Option Addr} {g : Nat} {w w2 : World} (h : q = some ⟨g, 0, none⟩ ∨ (q = none ∧ w.heap.size ≤ g)) (hg : w.grownBy w2 (some g)) : Only q w w2 := by
  rcases h with rfl | ⟨rfl, h⟩
  · exact hg
  · exact ⟨hg.os, hg.tape, hg.output, hg.size, fun k hk _ => hg.block k hk (by intro e; injection e with e; omega)⟩

theorem CurP.cur {w : World} {g : Nat} {s : List Nat × Nat} (h : CurP w (some ⟨g, 0, none⟩) s) : Cur w g s := by
  rcases h with ⟨h, _⟩ | ⟨g', he, hc⟩
  · cases h
  · injection he with he
    injection he with he
    subst he
    exact hc

theorem CurP.kept {w w' : World} {q : Option Addr} {s : List Nat × Nat} (h : CurP w q s) {row : Option Nat} (hg : w.grownBy w' row) (hr : ∀ k, row = some k → w.heap.size ≤ k) : CurP w' q s := by
  rcases h with h | ⟨g, e, h⟩
  · exact .inl h
  · exact .inr ⟨g, e, h.kept hg (fun k hk => by have := hr k hk; have := h.lt; omega)⟩

def Holds (w : World) (p : Nat) (v : Value) (t : TypeId) : Prop := w.heap[p]? = some (.cells #[v] t (0, 0))
theorem Holds.cell {w : World} {p : Nat} {v : Value} {t : TypeId} (h : Holds w p v t) : w.cell? ⟨p, 0, none⟩ = some v := by unfold Holds at h; simp [World.cell?, h]
theorem Holds.free {w : World} {p : Nat} {v : Value} {t : TypeId} (h : Holds w p v t) : w.frozen? ⟨p, 0, none⟩ = false := by unfold Holds at h; simp [World.frozen?, h]
theorem Holds.set {w : World} {p : Nat} {v : Value} {t : TypeId} (h : Holds w p v t) (u : Value) : Holds (w.setCell ⟨p, 0, none⟩ u) p u t := (heap_set h _).trans rfl
theorem Holds.kept {w w' : World} {p : Nat} {v : Value} {t : TypeId} (h : Holds w p v t) {row : Option Nat} (hg : w.grownBy w' row) (hne : row ≠ some p) : Holds w' p v t := (hg.block p (heap_lt h) (Ne.symm hne)).trans h

theorem numA_nil (most : Int) : numA ([], 1) most = (0, [], 1) := by
  unfold numA
  split <;> rfl

end Go.Proofs.YtpfcfmpfommfaaaDoor
