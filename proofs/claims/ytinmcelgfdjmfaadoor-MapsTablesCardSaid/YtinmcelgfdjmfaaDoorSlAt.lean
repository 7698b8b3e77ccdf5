/-
  A set in memory; a row of whole numbers in memory. Conditions: none.
-/
import Derived.Test.YtinmcelgfdjmfaaDoorSlC
namespace Go.Proofs.YtinmcelgfdjmfaaDoor
open Go.RowKit

/-- Block g is just the set s. -/
def SetAt (w : World) (g : Nat) (s : Sl.Four) : Prop := w.heap[g]? = some (.cells #[.int .u64 (s.a : Int), .int .u64 (s.b : Int), .int .u64 (s.c : Int), .int .u64 (s.d : Int)] 27 (0, 0))

theorem SetAt.lt {w : World} {g : Nat} {s : Sl.Four} (h : SetAt w g s) : g < w.heap.size := by
  apply Nat.lt_of_not_le
  intro hle
  unfold SetAt at h
  rw [Array.getElem?_eq_none hle] at h
  cases h
set_option maxRecDepth 100000 in
theorem SetAt.new (w : World) (s : Sl.Four) : SetAt (w.alloc (.cells #[.int .u64 (s.a : Int), .int .u64 (s.b : Int), .int .u64 (s.c : Int), .int .u64 (s.d : Int)] 27)) w.heap.size s := heap_alloc_new w _
theorem SetAt.alloc {w : World} {g : Nat} {s : Sl.Four} (h : SetAt w g s) (o : Obj) : SetAt (w.alloc o) g s := (Below.heap_alloc w o g h.lt).trans h
theorem SetAt.below {w w' : World} {g B : Nat} {s : Sl.Four} (h : SetAt w g s) (hb : Below B w w') (hg : g < B) : SetAt w' g s := (hb.block g hg).trans h
theorem SetAt.far {w : World} {g : Nat} {s : Sl.Four} (h : SetAt w g s) {p : Addr} (hp : g ≠ p.block) (u : Value) : SetAt (w.setCell p u) g s := (Below.heap_setCell w p u g hp).trans h
/-- What the walk asks: the four cells, and that they may be written. -/
theorem SetAt.reads {w : World} {g : Nat} {s : Sl.Four} (h : SetAt w g s) :
    (w.cell? ⟨g, 0, none⟩ = some (.int .u64 (s.a : Int)) ∧ w.cell? ⟨g, 1, none⟩ = some (.int .u64 (s.b : Int)) ∧ w.cell? ⟨g, 2, none⟩ = some (.int .u64 (s.c : Int)) ∧ w.cell? ⟨g, 3, none⟩ = some (.int .u64 (s.d : Int))) ∧
    (w.frozen? ⟨g, 0, none⟩ = false ∧ w.frozen? ⟨g, 1, none⟩ = false ∧ w.frozen? ⟨g, 2, none⟩ = false ∧ w.frozen? ⟨g, 3, none⟩ = false) := by
  unfold SetAt at h
  refine ⟨⟨cell_of_row w g 0 _ _ _ h, cell_of_row w g 1 _ _ _ h, cell_of_row w g 2 _ _ _ h, cell_of_row w g 3 _ _ _ h⟩, ?_⟩
  simp [World.frozen?, h]
theorem SetAt.store {w : World} {g : Nat} {s : Sl.Four} (h : SetAt w g s) (t : Sl.Four) :
    SetAt ((((w.setCell ⟨g, 0, none⟩ (.int .u64 (t.a : Int))).setCell ⟨g, 1, none⟩ (.int .u64 (t.b : Int))).setCell ⟨g, 2, none⟩ (.int .u64 (t.c : Int))).setCell ⟨g, 3, none⟩ (.int .u64 (t.d : Int))) g t := by
  unfold SetAt at h ⊢
  simp [World.setCell, Array.getElem?_modify, h]

end Go.Proofs.YtinmcelgfdjmfaaDoor
