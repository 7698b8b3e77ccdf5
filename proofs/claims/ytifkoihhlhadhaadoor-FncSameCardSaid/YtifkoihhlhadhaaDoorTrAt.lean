/-
  Nodes in memory: a slice of nodes that can be read; one that the call itself has made. Conditions: none.
-/
import Derived.Test.YtifkoihhlhadhaaDoorBase
import Derived.Test.YtifkoihhlhadhaaDoorTrMath
namespace Go.Proofs.YtifkoihhlhadhaaDoor
open Go.RowKit

/-- Nodes as cells. -/
def nds : List Tr.Nd → List Value
  | [] => []
  | n :: r => vs n.list ++ nds r
theorem nds_append (a b : List Tr.Nd) : nds (a ++ b) = nds a ++ nds b := by
  induction a with
  | nil => rfl
  | cons n r ih => simp only [List.cons_append, nds, ih, List.append_assoc]
theorem nds_length (r : List Tr.Nd) : (nds r).length = r.length * 7 := by
  induction r with
  | nil => rfl
  | cons n r ih => simp only [nds, List.length_append, List.length_cons, ih, vs, List.length_map, Tr.Nd.list, List.length_nil]; omega
theorem nds_one (r : List Tr.Nd) : ∀ u ∈ nds r, u.oneCell' = true := by
  induction r with
  | nil => intro u hu; simp [nds] at hu
  | cons n r ih =>
    intro u hu
    rcases List.mem_append.1 hu with hu | hu
    · exact vs_one _ u hu
    · exact ih u hu
/-- Number j of node i. -/
def fld (r : List Tr.Nd) (i j : Nat) : Int := (r.getD i Tr.Nd.nil).list.getD j 0
theorem nds_get (r : List Tr.Nd) : ∀ i, i < r.length → ∀ j, j < 7 → (nds r)[i * 7 + j]? = some (.int .i64 (fld r i j)) := by
  induction r with
  | nil => intro i hi; simp at hi
  | cons n r ih =>
    intro i hi j hj
    have hl : (vs n.list).length = 7 := by simp [vs, Tr.Nd.list]
    cases i with
    | zero =>
      rw [Nat.zero_mul, Nat.zero_add, nds, List.getElem?_append_left (by omega)]
      rcases (show j = 0 ∨ j = 1 ∨ j = 2 ∨ j = 3 ∨ j = 4 ∨ j = 5 ∨ j = 6 by omega) with rfl | rfl | rfl | rfl | rfl | rfl | rfl <;> rfl
    | succ i =>
      have h := ih i (by simpa using hi) j hj
      rw [nds, List.getElem?_append_right (by omega), hl, show (i + 1) * 7 + j - 7 = i * 7 + j by omega, h]
      rfl

/-- A slice of n nodes, below block B. -/
def NodesAt (w : World) (B : Nat) (a : Option Addr) (n : Nat) (r : List Tr.Nd) : Prop :=
  r.length = n ∧ (0 < n → ∃ b off, a = some ⟨b, off, none⟩ ∧ b < B ∧ ∀ i, i < n → ∀ j, j < 7 → w.cell? ⟨b, off + i * 7 + j, none⟩ = some (.int .i64 (fld r i j)))
theorem NodesAt.below {w w' : World} {B : Nat} {a : Option Addr} {n : Nat} {r : List Tr.Nd} (h : NodesAt w B a n r) (hb : Below B w w') : NodesAt w' B a n r := by
  refine ⟨h.1, fun hn => ?_⟩
  obtain ⟨b, off, e, hlt, hc⟩ := h.2 hn
  exact ⟨b, off, e, hlt, fun i hi j hj => (hb.cell (p := ⟨b, off + i * 7 + j, none⟩) hlt).trans (hc i hi j hj)⟩
theorem NodesAt.more {w : World} {B B' : Nat} {a : Option Addr} {n : Nat} {r : List Tr.Nd} (h : NodesAt w B a n r) (hb : B ≤ B') : NodesAt w B' a n r := by
  refine ⟨h.1, fun hn => ?_⟩
  obtain ⟨b, off, e, hlt, hc⟩ := h.2 hn
  exact ⟨b, off, e, by omega, hc⟩
theorem NodesAt.on {w w' : World} {a : Option Addr} {n : Nat} {r : List Tr.Nd} (h : NodesAt w w.heap.size a n r) (hb : Below w.heap.size w w') : NodesAt w' w'.heap.size a n r := (h.below hb).more hb.size
/-- The cells of node k, and what they hold. -/
theorem nodes_cell {w : World} {B n : Nat} {a : Option Addr} {r : List Tr.Nd} (h : NodesAt w B a n r) {k : Nat} (hk : k < n) :
    ∃ b off x, a = some ⟨b, off, none⟩ ∧ b < B ∧ r.getD k Tr.Nd.nil = x ∧ k < r.length ∧ w.cell? ⟨b, off + k * 7, none⟩ = some (.int .i64 x.p) ∧ w.cell? ⟨b, off + k * 7 + 1, none⟩ = some (.int .i64 x.f) ∧ w.cell? ⟨b, off + k * 7 + 2, none⟩ = some (.int .i64 x.l) ∧ w.cell? ⟨b, off + k * 7 + 3, none⟩ = some (.int .i64 x.a) ∧
      w.cell? ⟨b, off + k * 7 + 4, none⟩ = some (.int .i64 x.g) ∧ w.cell? ⟨b, off + k * 7 + 5, none⟩ = some (.int .i64 x.t) ∧ w.cell? ⟨b, off + k * 7 + 6, none⟩ = some (.int .i64 x.r) := by
  obtain ⟨b, off, e, hlt, hc⟩ := h.2 (by omega)
  exact ⟨b, off, _, e, hlt, rfl, by rw [h.1]; exact hk, hc k hk 0 (by decide), hc k hk 1 (by decide), hc k hk 2 (by decide), hc k hk 3 (by decide), hc k hk 4 (by decide), hc k hk 5 (by decide), hc k hk 6 (by decide)⟩

/-- Nodes that the call itself has made, read. -/
theorem nodes_of_own {w : World} {b n : Nat} {e : TypeId} {A : Option Addr} {k c : Nat} {r : List Tr.Nd} (h : w.ownsRow b e 7 (.slice A k c) n (nds r)) : k = n ∧ NodesAt w w.heap.size A k r ∧ r.length = n ∧ k ≤ c := by
  have hl : r.length = n := by have := h.1; rw [nds_length] at this; omega
  have hlt := h.lt
  rcases h.2 with ⟨hv, hn⟩ | ⟨g, cap, cur, hv, hg, hh, hnc, hcm, hcs, ht⟩
  · injection hv with h1 h2 h3
    subst h1 h2 h3 hn
    exact ⟨rfl, ⟨hl, fun h => absurd h (by omega)⟩, hl, Nat.le_refl _⟩
  · injection hv with h1 h2 h3
    subst h1 h2 h3
    refine ⟨rfl, ⟨hl, fun hn => ⟨g, 0, rfl, (hlt g rfl).2, fun i hi j hj => ?_⟩⟩, hl, hnc⟩
    have e0 := nds_get r i (by omega) j hj
    rw [← ht, List.getElem?_take, if_pos (by omega), Array.getElem?_toList] at e0
    rw [Nat.zero_add, cell_of_row w g _ cur _ _ hh]
    exact e0
theorem nodes_slice {w : World} {b : Nat} {e : TypeId} {v : Value} {r : List Tr.Nd} (h : w.ownsRow b e 7 v r.length (nds r)) : ∃ A c, v = .slice A r.length c ∧ NodesAt w w.heap.size A r.length r ∧ r.length ≤ c := by
  rcases h.2 with ⟨rfl, hn⟩ | ⟨g, cap, cur, rfl, _⟩
  · have hi := nodes_of_own h
    rw [← hn] at hi
    exact ⟨none, 0, by rw [hn], hi.2.1, by omega⟩
  · exact ⟨_, cap, rfl, (nodes_of_own h).2.1, (nodes_of_own h).2.2.2⟩
/-- One node more: its cells in new memory. -/
theorem new_node (w : World) (t : TypeId) (n : Tr.Nd) : ∀ j u, (nds [n])[j]? = some u → (w.alloc (.cells #[.int .i64 n.p, .int .i64 n.f, .int .i64 n.l, .int .i64 n.a, .int .i64 n.g, .int .i64 n.t, .int .i64 n.r] t)).cell? ((⟨w.heap.size, 0, none⟩ : Addr).add j) = some u :=
  World.news_of_block (heap_alloc_new w (.cells #[.int .i64 n.p, .int .i64 n.f, .int .i64 n.l, .int .i64 n.a, .int .i64 n.g, .int .i64 n.t, .int .i64 n.r] t))

/-- A node in a block of its own. -/
def NodeAt (w : World) (B : Nat) (t : TypeId) (n : Tr.Nd) : Prop := w.heap[B]? = some (.cells #[.int .i64 n.p, .int .i64 n.f, .int .i64 n.l, .int .i64 n.a, .int .i64 n.g, .int .i64 n.t, .int .i64 n.r] t (0, 0))
theorem NodeAt.new (w : World) (t : TypeId) (n : Tr.Nd) : NodeAt (w.alloc (.cells #[.int .i64 n.p, .int .i64 n.f, .int .i64 n.l, .int .i64 n.a, .int .i64 n.g, .int .i64 n.t, .int .i64 n.r] t)) w.heap.size t n := heap_alloc_new w _
theorem NodeAt.lt {w : World} {B : Nat} {t : TypeId} {n : Tr.Nd} (h : NodeAt w B t n) : B < w.heap.size := (Array.getElem?_eq_some_iff.1 h).1
theorem NodeAt.below {w w' : World} {B T : Nat} {t : TypeId} {n : Tr.Nd} (h : NodeAt w B t n) (hb : Below T w w') (hT : B < T) : NodeAt w' B t n := (hb.block B hT).trans h
theorem NodeAt.cells {w : World} {B : Nat} {t : TypeId} {n : Tr.Nd} (h : NodeAt w B t n) : w.cell? ⟨B, 0, none⟩ = some (.int .i64 n.p) ∧ w.cell? ⟨B, 1, none⟩ = some (.int .i64 n.f) ∧ w.cell? ⟨B, 2, none⟩ = some (.int .i64 n.l) ∧ w.cell? ⟨B, 3, none⟩ = some (.int .i64 n.a) ∧ w.cell? ⟨B, 4, none⟩ = some (.int .i64 n.g) ∧ w.cell? ⟨B, 5, none⟩ = some (.int .i64 n.t) ∧ w.cell? ⟨B, 6, none⟩ = some (.int .i64 n.r) := by
  unfold NodeAt at h
  refine ⟨?_, ?_, ?_, ?_, ?_, ?_, ?_⟩ <;> simp [World.cell?, h]

end Go.Proofs.YtifkoihhlhadhaaDoor
