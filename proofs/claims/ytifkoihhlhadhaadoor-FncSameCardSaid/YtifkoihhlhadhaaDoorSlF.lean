/-
  What the document's List answers: the slots one by one, rising, as a row of its own. Conditions: none.
-/
import Derived.Test.YtifkoihhlhadhaaDoorSlD
import Derived.Laws.OwnMore
import Derived.Deep.AppendLies
import Derived.LoopTactic
namespace Go.Proofs.YtifkoihhlhadhaaDoor
open Go.RowKit

/-- What a loop that collects holds: l is collected in out; s lies in its box; nothing below has turned. -/
def Coll (w : World) (g : Nat) (s : Sl.Four) (out : Value) (l : List Int) (wr : World) : Prop :=
  wr.ownsRow (g + 1) 3 1 out l.length (vs l) ∧ SetAt wr g s ∧ Below w.heap.size w wr
theorem Coll.kept {w wr w1 : World} {g : Nat} {s : Sl.Four} {out : Value} {l : List Int} (h : Coll w g s out l wr) (hb : Below wr.heap.size wr w1) : Coll w g s out l w1 := by
  obtain ⟨h1, h2, h3⟩ := h
  exact ⟨ownsRow_below h1 hb, h2.below hb h2.lt, h3.trans (hb.mono h3.size)⟩
set_option maxRecDepth 100000 in
theorem Coll.step {w wr w2 : World} {g : Nat} {s : Sl.Four} {out : Value} {l : List Int} (h : Coll w g s out l wr) (hg : w.heap.size ≤ g) {x : Int} {o : Obj} {ga cap : Nat}
    (hown : w2.ownsRow (g + 1) 3 1 (.slice (some ⟨ga, 0, none⟩) (l.length + 1) cap) (l.length + 1) (vs l ++ vs [x])) (hgr : (wr.alloc o).grownBy w2 out.ownBlock) :
    Coll w g s (.slice (some ⟨ga, 0, none⟩) (l.length + 1) cap) (l ++ [x]) w2 := by
  obtain ⟨h1, h2, h3⟩ := h
  have hlt := h1.lt
  have hs := h2.lt
  have hne : some g ≠ out.ownBlock := fun e => by have := (hlt g e.symm).1; omega
  refine ⟨by rw [List.length_append, vs_append]; exact hown, ?_, ?_⟩
  · have := hgr.block g (by simp; omega) hne
    exact this.trans ((Below.heap_alloc wr o g hs).trans h2)
  · exact (h3.alloc h3.size o).grown hgr (by have := h3.size; simp; omega) (fun k hk => by have := (hlt k hk).1; omega)

def LsRel (w : World) (s : Sl.Four) (out i : Value) (wr : World) : Prop :=
  ∃ (k : Nat) (z : Int), k ≤ 256 ∧ i = .int .i64 z ∧ z = (k : Int) ∧ Coll w w.heap.size s out (((List.range k).filter s.has).map (fun n : Nat => (n : Int))) wr

theorem range_true (s : Sl.Four) (k : Nat) (h : s.has k = true) : ((List.range (k + 1)).filter s.has).map (fun n : Nat => (n : Int)) = ((List.range k).filter s.has).map (fun n : Nat => (n : Int)) ++ [(k : Int)] := by
  rw [List.range_succ, List.filter_append, List.map_append, List.filter_cons_of_pos h]
  rfl
theorem range_false (s : Sl.Four) (k : Nat) (h : s.has k = false) : ((List.range (k + 1)).filter s.has).map (fun n : Nat => (n : Int)) = ((List.range k).filter s.has).map (fun n : Nat => (n : Int)) := by
  rw [List.range_succ, List.filter_append, List.map_append, List.filter_cons_of_neg (by rw [h]; simp)]
  simp
theorem range_le (s : Sl.Four) (k : Nat) : (((List.range k).filter s.has).map (fun n : Nat => (n : Int))).length ≤ k := by
  rw [List.length_map]
  exact Nat.le_trans (List.length_filter_le _ _) (by simp)

/-- A row of the slots is answered. -/
def ListP (s : Sl.Four) (w : World) (e : Ending) (w' : World) : Prop :=
  ∃ A c, e = .returned (.slice A s.list.length c) ∧ IntsAt w' w'.heap.size A s.list.length s.list ∧ Below w.heap.size w w'

theorem list_end {s : Sl.Four} {w wr : World} {v : Value} (h : Coll w w.heap.size s v s.list wr) : ListP s w (.returned v) wr := by
  obtain ⟨h1, _, h3⟩ := h
  rcases h1.2 with ⟨rfl, hn⟩ | ⟨g, cap, cur, rfl, _⟩
  · have hi := ints_of_own h1
    rw [← hn] at hi
    exact ⟨none, 0, by rw [hn], hi.2.1, h3⟩
  · exact ⟨_, cap, rfl, (ints_of_own h1).2.1, h3⟩

end Go.Proofs.YtifkoihhlhadhaaDoor
