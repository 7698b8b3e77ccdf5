/-
 A cursor in memory: its block, the bytes that it has still, and its error; what a store into its block leaves. Conditions: as each states.
-/
import Derived.Test.YtfopelegobhegaaGreatDoorUv
import Derived.Test.YtfopelegobhegaaGreatDoorReg
namespace Go.Proofs.YtfopelegobhegaaGreatDoor
open Go.RowKit
theorem heap_lt {w : World} {g : Nat} {o : Obj} (h : w.heap[g]? = some o) : g < w.heap.size := by
 rcases Nat.lt_or_ge g w.heap.size with h1 | h1
 · exact h1
 · rw [Array.getElem?_eq_none h1] at h; cases h
theorem heap_set {w : World} {g i : Nat} {cur : Array Value} {t : TypeId} {f : Nat × Nat} (h : w.heap[g]? = some (.cells cur t f)) (v : Value) : (w.setCell ⟨g, i, none⟩ v).heap[g]? = some (.cells (cur.setIfInBounds i v) t f) := by
 have hlt := heap_lt h
 rw [Array.getElem?_eq_getElem hlt] at h
 injection h with h
 unfold World.setCell
 simp only
 rw [Array.getElem?_eq_getElem (by simpa using hlt), Array.getElem_modify_self, h]
 simp
section
end
theorem BytesAt.kept {w w' : World} {B n : Nat} {A : Option Addr} {l : List Nat} (h : BytesAt w B A n l) {row : Option Nat} (hg : w.grownBy w' row) (hr : ∀ k, row = some k → B ≤ k) : BytesAt w' B A n l :=
 ⟨h.1, h.2.1, fun hp => by
   obtain ⟨b, off, e, hlt, hc⟩ := h.2.2 hp
   exact ⟨b, off, e, hlt, fun i hi => hg.cell (hc i hi) (fun e => by have := hr b e.symm; omega)⟩⟩
theorem BytesAt.cut {w : World} {B n c k : Nat} {A : Option Addr} {l : List Nat} (h : BytesAt w B A n l) (hk : k ≤ n) (hc : n ≤ c) : BytesAt w B (if c = k then A else A.map (·.add (k * 1))) (n - k) (l.drop k) := by
 refine ⟨by simp [h.1], fun x hx => h.2.1 x (List.mem_of_mem_drop hx), fun hp => ?_⟩
 obtain ⟨b, off, e, hlt, hcell⟩ := h.2.2 (by omega)
 subst e
 rw [if_neg (by omega)]
 refine ⟨b, off + k, ?_, hlt, fun i hi => ?_⟩
 · simp [Addr.add]
 · rw [Nat.add_assoc, hcell (k + i) (by omega)]
   simp [List.getD, List.getElem?_drop]
end Go.Proofs.YtfopelegobhegaaGreatDoor
namespace Go.Proofs.YtfopelegobhegaaGreatDoor
open Go.RowKit
def Only (q : Option Addr) (w w' : World) : Prop := w.grownBy w' (q.map (·.block))
end Go.Proofs.YtfopelegobhegaaGreatDoor
namespace Go.Proofs.YtfopelegobhegaaGreatDoor
open Go.RowKit
def Same (q : Option Addr) (w w' : World) : Prop := (q ≠ none ∧ w' = w) ∨ (q = none ∧ Below w.heap.size w w')
theorem Same.grown {q : Option Addr} {w w' : World} (h : Same q w w') (row : Option Nat) : w.grownBy w' row := by
 rcases h with ⟨_, rfl⟩ | ⟨_, hb⟩
 · exact World.grownBy.refl _ _
 · exact ⟨hb.os, hb.tape, hb.output, hb.size, fun k hk _ => hb.block k hk⟩
theorem Same.refl (q : Option Addr) (w : World) : Same q w w := by
 cases q with
 | none => exact .inr ⟨rfl, Below.refl _ _⟩
 | some a => exact .inl ⟨by simp, rfl⟩
theorem Same.trans {q : Option Addr} {w w1 w2 : World} (h : Same q w w1) (k : Same q w1 w2) : Same q w w2 := by
 rcases h with ⟨hq, rfl⟩ | ⟨hq, hb⟩
 · exact k
 · rcases k with ⟨hq', _⟩ | ⟨_, hb'⟩
   · exact absurd hq hq'
   · exact .inr ⟨hq, hb.trans (hb'.mono hb.size)⟩
def Told (k : IntKind) (x : Int) (q : Option Addr) (w : World) (e : Ending) (w' : World) : Prop := e = .returned (.int k x) ∧ Same q w w'
def failA (s : List Nat × Nat) (er : Nat) : List Nat × Nat := if er = 0 ∨ s.2 ≠ 0 then s else ([], er)
theorem Only.same {q : Option Addr} {w w' : World} (h : Same q w w') : Only q w w' := h.grown _
end Go.Proofs.YtfopelegobhegaaGreatDoor
namespace Go.Proofs.YtfopelegobhegaaGreatDoor
open Go.RowKit
def octB (l : List Nat) : Nat × Nat × Nat := match l with | [] => (0, 0, 3) | c :: _ => (c, 1, 0)
def textB (l : List Nat) (z : Nat) : ByteArray × Nat × Nat := if l.length < z then (str [], 0, 3) else (str (l.take z), z, 0)
end Go.Proofs.YtfopelegobhegaaGreatDoor
namespace Go.Proofs.YtfopelegobhegaaGreatDoor
open Go.RowKit
def bitsA (s : List Nat × Nat) : Nat × List Nat × Nat := ((Uv.get s.1).1, failA (s.1.drop (Uv.get s.1).2.1, s.2) (Uv.get s.1).2.2)
def intA (s : List Nat × Nat) : Int × List Nat × Nat := (Uv.unfold_ (Uv.get s.1).1, failA (s.1.drop (Uv.get s.1).2.1, s.2) (Uv.get s.1).2.2)
def byteA (s : List Nat × Nat) : Nat × List Nat × Nat := ((octB s.1).1, failA (s.1.drop (octB s.1).2.1, s.2) (octB s.1).2.2)
def numA (s : List Nat × Nat) (most : Int) : Nat × List Nat × Nat := if most < 0 ∨ most < ((bitsA s).1 : Int) then (0, failA (bitsA s).2 6) else ((bitsA s).1, (bitsA s).2)
theorem Only.trans {q : Option Addr} {w w1 w2 : World} (h : Only q w w1) (k : Only q w1 w2) : Only q w w2 := Lib.grownBy_trans h k
end Go.Proofs.YtfopelegobhegaaGreatDoor
namespace Go.Proofs.YtfopelegobhegaaGreatDoor
open Go.RowKit
def textA (s : List Nat × Nat) (most : Int) : ByteArray × List Nat × Nat :=
 ((textB (numA s most).2.1 (numA s most).1).1, failA ((numA s most).2.1.drop (textB (numA s most).2.1 (numA s most).1).2.1, (numA s most).2.2) (textB (numA s most).2.1 (numA s most).1).2.2)
def Holds (w : World) (p : Nat) (v : Value) (t : TypeId) : Prop := w.heap[p]? = some (.cells #[v] t (0, 0))
theorem Holds.cell {w : World} {p : Nat} {v : Value} {t : TypeId} (h : Holds w p v t) : w.cell? ⟨p, 0, none⟩ = some v := by unfold Holds at h; simp [World.cell?, h]
theorem Holds.free {w : World} {p : Nat} {v : Value} {t : TypeId} (h : Holds w p v t) : w.frozen? ⟨p, 0, none⟩ = false := by unfold Holds at h; simp [World.frozen?, h]
theorem Holds.set {w : World} {p : Nat} {v : Value} {t : TypeId} (h : Holds w p v t) (u : Value) : Holds (w.setCell ⟨p, 0, none⟩ u) p u t := (heap_set h _).trans rfl
theorem Holds.kept {w w' : World} {p : Nat} {v : Value} {t : TypeId} (h : Holds w p v t) {row : Option Nat} (hg : w.grownBy w' row) (hne : row ≠ some p) : Holds w' p v t := (hg.block p (heap_lt h) (Ne.symm hne)).trans h
end Go.Proofs.YtfopelegobhegaaGreatDoor
