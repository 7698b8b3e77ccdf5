/-
  Runs in memory: a slice of pairs that can be read; one that the call itself has made. Conditions: none.
-/
import Derived.Test.YtifkoihhlhadhaaDoorBase
import Derived.Test.YtifkoihhlhadhaaDoorRuMath
namespace Go.Proofs.YtifkoihhlhadhaaDoor
open Go.RowKit

/-- Runs as cells. -/
def ps : Ru.Runs → List Value
  | [] => []
  | p :: r => .int .i64 p.1 :: .int .i64 p.2 :: ps r
theorem ps_append (a b : Ru.Runs) : ps (a ++ b) = ps a ++ ps b := by
  induction a with
  | nil => rfl
  | cons p r ih => simp [ps, ih]
theorem ps_length (r : Ru.Runs) : (ps r).length = r.length * 2 := by
  induction r with
  | nil => rfl
  | cons p r ih => simp only [ps, List.length_cons, ih]; omega
theorem ps_one (r : Ru.Runs) : ∀ u ∈ ps r, u.oneCell' = true := by
  induction r with
  | nil => intro u hu; simp [ps] at hu
  | cons p r ih =>
    intro u hu
    simp only [ps, List.mem_cons] at hu
    rcases hu with rfl | rfl | hu
    · rfl
    · rfl
    · exact ih u hu
theorem ps_get (r : Ru.Runs) : ∀ i, i < r.length → (ps r)[i * 2]? = some (.int .i64 (r.getD i (0, 0)).1) ∧ (ps r)[i * 2 + 1]? = some (.int .i64 (r.getD i (0, 0)).2) := by
  induction r with
  | nil => intro i hi; simp at hi
  | cons p r ih =>
    intro i hi
    cases i with
    | zero => exact ⟨rfl, rfl⟩
    | succ i =>
      have h := ih i (by simpa using hi)
      rw [show (i + 1) * 2 = i * 2 + 1 + 1 by omega]
      simpa [ps] using h

/-- A slice of n runs, below block B. -/
def PairsAt (w : World) (B : Nat) (a : Option Addr) (n : Nat) (r : Ru.Runs) : Prop :=
  r.length = n ∧ (0 < n → ∃ b off, a = some ⟨b, off, none⟩ ∧ b < B ∧ ∀ i, i < n → w.cell? ⟨b, off + i * 2, none⟩ = some (.int .i64 (r.getD i (0, 0)).1) ∧ w.cell? ⟨b, off + i * 2 + 1, none⟩ = some (.int .i64 (r.getD i (0, 0)).2))
theorem PairsAt.below {w w' : World} {B : Nat} {a : Option Addr} {n : Nat} {r : Ru.Runs} (h : PairsAt w B a n r) (hb : Below B w w') : PairsAt w' B a n r := by
  refine ⟨h.1, fun hn => ?_⟩
  obtain ⟨b, off, e, hlt, hc⟩ := h.2 hn
  exact ⟨b, off, e, hlt, fun i hi => ⟨(hb.cell (p := ⟨b, off + i * 2, none⟩) hlt).trans (hc i hi).1, (hb.cell (p := ⟨b, off + i * 2 + 1, none⟩) hlt).trans (hc i hi).2⟩⟩
theorem PairsAt.more {w : World} {B B' : Nat} {a : Option Addr} {n : Nat} {r : Ru.Runs} (h : PairsAt w B a n r) (hb : B ≤ B') : PairsAt w B' a n r := by
  refine ⟨h.1, fun hn => ?_⟩
  obtain ⟨b, off, e, hlt, hc⟩ := h.2 hn
  exact ⟨b, off, e, by omega, hc⟩
/-- The first k of them. -/
theorem PairsAt.take {w : World} {B : Nat} {a : Option Addr} {n : Nat} {r : Ru.Runs} (h : PairsAt w B a n r) {k : Nat} (hk : k ≤ n) : PairsAt w B a k (r.take k) := by
  refine ⟨by rw [List.length_take, h.1]; omega, fun hn => ?_⟩
  obtain ⟨b, off, e, hlt, hc⟩ := h.2 (by omega)
  refine ⟨b, off, e, hlt, fun i hi => ?_⟩
  have : (r.take k).getD i (0, 0) = r.getD i (0, 0) := by simp [List.getD, hi]
  rw [this]
  exact hc i (by omega)

/-- Runs that the call itself has made, read. -/
theorem pairs_of_own {w : World} {b n : Nat} {e : TypeId} {A : Option Addr} {k c : Nat} {r : Ru.Runs} (h : w.ownsRow b e 2 (.slice A k c) n (ps r)) : k = n ∧ PairsAt w w.heap.size A k r ∧ r.length = n ∧ k ≤ c := by
  have hl : r.length = n := by have := h.1; rw [ps_length] at this; omega
  have hlt := h.lt
  rcases h.2 with ⟨hv, hn⟩ | ⟨g, cap, cur, hv, hg, hh, hnc, hcm, hcs, ht⟩
  · injection hv with h1 h2 h3
    subst h1 h2 h3 hn
    exact ⟨rfl, ⟨hl, fun h => absurd h (by omega)⟩, hl, Nat.le_refl _⟩
  · injection hv with h1 h2 h3
    subst h1 h2 h3
    refine ⟨rfl, ⟨hl, fun hn => ⟨g, 0, rfl, (hlt g rfl).2, fun i hi => ?_⟩⟩, hl, hnc⟩
    obtain ⟨e0, e1⟩ := ps_get r i (by omega)
    rw [← ht, List.getElem?_take, if_pos (by omega), Array.getElem?_toList] at e0 e1
    rw [Nat.zero_add, cell_of_row w g _ cur _ _ hh, cell_of_row w g _ cur _ _ hh]
    exact ⟨e0, e1⟩

/-- One run more: its cells in new memory. -/
theorem new_run (w : World) (t : TypeId) (x y : Int) : ∀ j u, (ps [(x, y)])[j]? = some u → (w.alloc (.cells #[.int .i64 x, .int .i64 y] t)).cell? ((⟨w.heap.size, 0, none⟩ : Addr).add j) = some u :=
  World.news_of_block (heap_alloc_new w (.cells #[.int .i64 x, .int .i64 y] t))

/-- Runs of the call's own are answered; nothing below has turned. -/
def RunsP (e : TypeId) (r : Ru.Runs) (w : World) (en : Ending) (w' : World) : Prop :=
  ∃ v, en = .returned v ∧ w'.ownsRow w.heap.size e 2 v r.length (ps r) ∧ Below w.heap.size w w'
/-- Numbers of the call's own are answered. -/
def NumsP (l : List Int) (w : World) (en : Ending) (w' : World) : Prop :=
  ∃ v, en = .returned v ∧ w'.ownsRow w.heap.size 3 1 v l.length (vs l) ∧ Below w.heap.size w w'
theorem vs_length (l : List Int) : (vs l).length = l.length := by simp [vs]
set_option maxRecDepth 100000 in
/-- What is owned, as a slice that can be read. -/
theorem nums_slice {w : World} {b : Nat} {v : Value} {l : List Int} (h : w.ownsRow b 3 1 v l.length (vs l)) : ∃ A c, v = .slice A l.length c ∧ IntsAt w w.heap.size A l.length l := by
  rcases h.2 with ⟨rfl, hn⟩ | ⟨g, cap, cur, rfl, _⟩
  · have hi := ints_of_own h
    rw [← hn] at hi
    exact ⟨none, 0, by rw [hn], hi.2.1⟩
  · exact ⟨_, cap, rfl, (ints_of_own h).2.1⟩
theorem runs_slice {w : World} {b : Nat} {e : TypeId} {v : Value} {r : Ru.Runs} (h : w.ownsRow b e 2 v r.length (ps r)) : ∃ A c, v = .slice A r.length c ∧ PairsAt w w.heap.size A r.length r ∧ r.length ≤ c := by
  rcases h.2 with ⟨rfl, hn⟩ | ⟨g, cap, cur, rfl, _⟩
  · have hi := pairs_of_own h
    rw [← hn] at hi
    exact ⟨none, 0, by rw [hn], hi.2.1, by omega⟩
  · exact ⟨_, cap, rfl, (pairs_of_own h).2.1, (pairs_of_own h).2.2.2⟩

end Go.Proofs.YtifkoihhlhadhaaDoor
