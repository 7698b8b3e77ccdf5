/-
  A cursor in memory: its block, the bytes that it has still, and its error; what a store into its block leaves. Conditions: as each states.
-/
import Derived.Test.YtpfcfmpfommfaaaDoorAppend
import Derived.Lib.BufferOwn
namespace Go.Proofs.YtpfcfmpfommfaaaDoor
open Go.RowKit

/-- Block g is a cursor's. -/
def Cells (w : World) (g : Nat) (A : Option Addr) (n c : Nat) (m : Bool) (e : Nat) : Prop := w.heap[g]? = some (.cells #[.slice A n c, .bool m, .int .i64 (e : Int)] 85 (0, 0))

theorem heap_lt {w : World} {g : Nat} {o : Obj} (h : w.heap[g]? = some o) : g < w.heap.size := by
  rcases Nat.lt_or_ge g w.heap.size with h1 | h1
  · exact h1
  · rw [Array.getElem?_eq_none h1] at h; cases h

theorem heap_set {w : World} {g i : Nat} {cur : Array Value} {t : TypeId} {f : Nat × Nat} (h : w.heap[g]? = some (.cells cur t f)) (v : Value) : (w.setCell ⟨g, i, none⟩ v).heap[g]? = some (.cells (cur.setIfInBounds i v) t f) := by
  have hlt := heap_lt h
  rw [Array.getElem?_eq_getElem hlt] at h
  injection h with h
  unfold World.setCell
  simp only
  rw [Array.getElem?_eq_getElem (by simpa using hlt), Array.getElem_modify_self, h]
  simp

section
variable {w : World} {g : Nat} {A : Option Addr} {n c : Nat} {m : Bool} {e : Nat} (h : Cells w g A n c m e)
include h
theorem Cells.lt : g < w.heap.size := heap_lt h
theorem Cells.c0 : w.cell? ⟨g, 0, none⟩ = some (.slice A n c) := by unfold Cells at h; simp [World.cell?, h]
theorem Cells.c1 : w.cell? ⟨g, 1, none⟩ = some (.bool m) := by unfold Cells at h; simp [World.cell?, h]
theorem Cells.c2 : w.cell? ⟨g, 2, none⟩ = some (.int .i64 (e : Int)) := by unfold Cells at h; simp [World.cell?, h]
theorem Cells.f (i : Nat) : w.frozen? ⟨g, i, none⟩ = false := by unfold Cells at h; simp [World.frozen?, h]
theorem Cells.set0 (A' : Option Addr) (n' c' : Nat) : Cells (w.setCell ⟨g, 0, none⟩ (.slice A' n' c')) g A' n' c' m e := (heap_set h _).trans rfl
theorem Cells.set2 (e' : Nat) : Cells (w.setCell ⟨g, 2, none⟩ (.int .i64 (e' : Int))) g A n c m e' := (heap_set h _).trans rfl
theorem Cells.kept {w' : World} {row : Option Nat} (hg : w.grownBy w' row) (hne : row ≠ some g) : Cells w' g A n c m e := (hg.block g (heap_lt h) (Ne.symm hne)).trans h
end

theorem BytesAt.kept {w w' : World} {B n : Nat} {A : Option Addr} {l : List Nat} (h : BytesAt w B A n l) {row : Option Nat} (hg : w.grownBy w' row) (hr : ∀ k, row = some k → B ≤ k) : BytesAt w' B A n l :=
  ⟨h.1, h.2.1, fun hp => by
    obtain ⟨b, off, e, hlt, hc⟩ := h.2.2 hp
    exact ⟨b, off, e, hlt, fun i hi => hg.cell (hc i hi) (fun e => by have := hr b e.symm; omega)⟩⟩

/-- What is left behind k bytes. -/
theorem BytesAt.cut {w : World} {B n c k : Nat} {A : Option Addr} {l : List Nat} (h : BytesAt w B A n l) (hk : k ≤ n) (hc : n ≤ c) : BytesAt w B (if c = k then A else A.map (·.add (k * 1))) (n - k) (l.drop k) := by
  refine ⟨by simp [h.1], fun x hx => h.2.1 x (List.mem_of_mem_drop hx), fun hp => ?_⟩
  obtain ⟨b, off, e, hlt, hcell⟩ := h.2.2 (by omega)
  subst e
  rw [if_neg (by omega)]
  refine ⟨b, off + k, ?_, hlt, fun i hi => ?_⟩
  · simp [Addr.add]
  · rw [Nat.add_assoc, hcell (k + i) (by omega)]
    simp [List.getD, List.getElem?_drop]

/-- A cursor at block g: the bytes l are there still; e is what Err tells. -/
def Cur (w : World) (g : Nat) (s : List Nat × Nat) : Prop :=
  ∃ A n c m e0, Cells w g A n c m e0 ∧ BytesAt w g A n s.1 ∧ n ≤ c ∧ c ≤ 9223372036854775807 ∧ s.2 = (if m then e0 else 1) ∧ (s.2 ≠ 0 → s.1 = []) ∧ s.2 ≤ 9223372036854775807

theorem Cur.lt {w : World} {g : Nat} {s : List Nat × Nat} (h : Cur w g s) : g < w.heap.size := by
  obtain ⟨A, n, c, m, e0, h, _⟩ := h
  exact h.lt

theorem Cur.kept {w w' : World} {g : Nat} {s : List Nat × Nat} (h : Cur w g s) {row : Option Nat} (hg : w.grownBy w' row) (hr : ∀ k, row = some k → g < k) : Cur w' g s := by
  obtain ⟨A, n, c, m, e0, h1, h2, h3⟩ := h
  exact ⟨A, n, c, m, e0, h1.kept hg (fun e => by have := hr g e; omega), h2.kept hg (fun k e => by have := hr k e; omega), h3⟩

end Go.Proofs.YtpfcfmpfommfaaaDoor
