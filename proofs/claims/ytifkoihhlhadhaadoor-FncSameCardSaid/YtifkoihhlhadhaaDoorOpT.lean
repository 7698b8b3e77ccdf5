/-
  What ops.types tells of letters. Conditions: the letters are of ASCII, 4096 at most.
-/
import Derived.Test.YtifkoihhlhadhaaDoorBase
import Derived.Lib.OthersKept
import Derived.OwnWalk
import Derived.Laws.RangeString
namespace Go.Proofs.YtifkoihhlhadhaaDoor
open Go.RowKit

namespace Op
/-- The type of a letter. -/
def ty (c : Nat) : Int := if c = 99 then 2 else 1
/-- The types of letters. -/
def tys (s : ByteArray) : List Int := s.data.toList.map fun c => ty c.toNat
theorem tys_length (s : ByteArray) : (tys s).length = s.size := by
  unfold tys
  rw [List.length_map]
  rfl
theorem tys_at (s : ByteArray) (i : Nat) (h : i < s.size) : (tys s).getD i 0 = ty (s[i]).toNat := by
  have h' : i < s.data.size := h
  show _ = ty s.data[i].toNat
  have e : s.data[i]? = some s.data[i] := Array.getElem?_eq_getElem h'
  simp only [tys, List.getD, List.getElem?_map, Array.getElem?_toList, e, Option.map_some, Option.getD_some]
end Op

/-- A row of types of the call's own, read. -/
theorem ints_of_rowE {w : World} {b n : Nat} {E : TypeId} {A : Option Addr} {k c : Nat} {l : List Int} (h : w.ownsRow b E 1 (.slice A k c) n (vs l)) : k = n ∧ IntsAt w w.heap.size A k l ∧ l.length = n := by
  have hl : l.length = n := by have := h.1; unfold vs at this; simpa using this
  have hlt := h.lt
  rcases h.2 with ⟨hv, hn⟩ | ⟨g, cap, cur, hv, hg, hh, hnc, hcm, hcs, ht⟩
  · injection hv with h1 h2 h3
    subst h1 h2 hn
    exact ⟨rfl, ⟨hl, fun h => absurd h (by omega)⟩, hl⟩
  · injection hv with h1 h2 h3
    subst h1 h2
    refine ⟨rfl, ⟨hl, fun hn => ⟨g, 0, rfl, (hlt g rfl).2, fun i hi => ?_⟩⟩, hl⟩
    rw [Nat.zero_add, cell_of_row w g i cur _ _ hh]
    have e := congrArg (fun z => z[i]?) ht
    simp only [Nat.mul_one, List.getElem?_take, hi, if_true, vs] at e
    rw [← Array.getElem?_toList, e]
    simp [List.getD, hl, hi]

/-- What is owned stays owned while an iterator in another block moves on. -/
theorem ownsRow_iter {w : World} {b : Nat} {e : TypeId} {size n g k c : Nat} {xs : List Value} (h : w.ownsRow b e size (.slice (some ⟨g, 0, none⟩) k c) n xs) {r : Nat} (hr : r ≠ g) (s : ByteArray) (p : Nat) : (w.iterAt r s p).ownsRow b e size (.slice (some ⟨g, 0, none⟩) k c) n xs := by
  obtain ⟨h1, h2⟩ := h
  refine ⟨h1, ?_⟩
  rcases h2 with h2 | ⟨g', cap, cur, hv, hg, hh, rest⟩
  · exact .inl h2
  · have e : g' = g := by injection hv with h1 _ _; injection h1 with h1; injection h1 with h1; exact h1.symm
    refine .inr ⟨g', cap, cur, hv, hg, ?_, rest⟩
    rw [Lib.iterAt_other _ _ _ _ _ (by rw [e]; exact Ne.symm hr)]
    exact hh

theorem made_ints (n : Nat) : (madeCells #[.int .i64 0] n).toList = vs (List.replicate n 0) := by
  simp only [madeCells, vs, List.map_replicate]
  simp [Nat.mod_one, List.map_const']

set_option maxRecDepth 100000 in
theorem info_type : (Tryd.prog.info? 51).map (fun i => (i.zero, i.size, i.bytes)) = some (some (.int .i64 0), 1, 8) := by kernel_rfl

/-- A row of whole numbers of the call's own is answered; nothing below has turned. -/
def TysP (l : List Int) (w : World) (e : Ending) (w' : World) : Prop := ∃ A c, e = .returned (.slice A l.length c) ∧ IntsAt w' w'.heap.size A l.length l ∧ Below w.heap.size w w'

def TysRel (w : World) (it : Nat) (t : ByteArray) (_ : Value) (wr : World) : Prop :=
  ∃ (k : Nat) (r : List Int), k ≤ t.size ∧ r.length = t.size ∧ (∀ j, j < k → r.getD j 0 = (Op.tys t).getD j 0) ∧ wr.heap[it]? = some (.stringIter t k) ∧ wr.ownsRow w.heap.size 51 1 (.slice (some ⟨w.heap.size, 0, none⟩) t.size t.size) t.size (vs r) ∧ Below w.heap.size w wr

theorem vs_at (r : List Int) (k : Nat) (h : k < r.length) : (vs r)[k]? = some (.int .i64 (r.getD k 0)) := by
  simp [vs, List.getD, h]

theorem vs_set (r : List Int) (k : Nat) (v : Int) : (vs r).set k (.int .i64 v) = vs (r.set k v) := by simp [vs, List.map_set]

set_option maxRecDepth 100000 in
/-- One letter more. -/
theorem tysRel_next {w w2 : World} {it k : Nat} {t : ByteArray} {r : List Int} {v : Int} {u : Value} (hlt : k < t.size) (hr : r.length = t.size) (hW : ∀ j, j < k → r.getD j 0 = (Op.tys t).getD j 0) (hv : (Op.tys t).getD k 0 = v) (hit : w2.heap[it]? = some (.stringIter t (k + 1)))
    (hO : w2.ownsRow w.heap.size 51 1 (.slice (some ⟨w.heap.size, 0, none⟩) t.size t.size) t.size (vs (r.set k v))) (hB : Below w.heap.size w w2) : TysRel w it t u w2 := by
  refine ⟨k + 1, r.set k v, hlt, by rw [List.length_set]; exact hr, fun j hj => ?_, hit, hO, hB⟩
  by_cases hjk : j = k
  · subst hjk
    have : j < r.length := by omega
    rw [hv]
    simp [List.getD, this]
  · rw [← hW j (by omega)]
    simp [List.getD, Ne.symm hjk]

end Go.Proofs.YtifkoihhlhadhaaDoor
