/-
  Sets in memory: a slice of sets that can be read; runs of alike sets; what the call itself has made of both. Conditions: none.
-/
import Derived.Test.YtifkoihhlhadhaaDoorBase
import Derived.Test.YtifkoihhlhadhaaDoorMpMath
import Derived.Test.YtifkoihhlhadhaaDoorSlAA
namespace Go.Proofs.YtifkoihhlhadhaaDoor
open Go.RowKit

/-- A set as cells, and sets. -/
def words (s : Sl.Four) : List Value := [.int .u64 (s.a : Int), .int .u64 (s.b : Int), .int .u64 (s.c : Int), .int .u64 (s.d : Int)]
def sets : List Sl.Four → List Value
  | [] => []
  | s :: r => words s ++ sets r
theorem words_length (s : Sl.Four) : (words s).length = 4 := rfl
theorem words_one (s : Sl.Four) : ∀ u ∈ words s, u.oneCell' = true := by
  intro u hu
  simp only [words, List.mem_cons, List.not_mem_nil, or_false] at hu
  rcases hu with rfl | rfl | rfl | rfl <;> rfl
theorem words_get (s : Sl.Four) {j : Nat} (h : j < 4) : (words s)[j]? = some (.int .u64 (s.word j : Int)) := by
  rcases (show j = 0 ∨ j = 1 ∨ j = 2 ∨ j = 3 by omega) with rfl | rfl | rfl | rfl <;> rfl
theorem sets_append (a b : List Sl.Four) : sets (a ++ b) = sets a ++ sets b := by
  induction a with
  | nil => rfl
  | cons n r ih => simp only [List.cons_append, sets, ih, List.append_assoc]
theorem sets_length (r : List Sl.Four) : (sets r).length = r.length * 4 := by
  induction r with
  | nil => rfl
  | cons n r ih => simp only [sets, List.length_append, List.length_cons, ih, words_length]; omega
theorem sets_one (r : List Sl.Four) : ∀ u ∈ sets r, u.oneCell' = true := by
  induction r with
  | nil => intro u hu; simp [sets] at hu
  | cons n r ih =>
    intro u hu
    rcases List.mem_append.1 hu with hu | hu
    · exact words_one _ u hu
    · exact ih u hu
theorem sets_get (r : List Sl.Four) : ∀ i, i < r.length → ∀ j, j < 4 → (sets r)[i * 4 + j]? = some (.int .u64 ((r.getD i Sl.no).word j : Int)) := by
  induction r with
  | nil => intro i hi; simp at hi
  | cons n r ih =>
    intro i hi j hj
    cases i with
    | zero =>
      rw [Nat.zero_mul, Nat.zero_add, sets, List.getElem?_append_left (by rw [words_length]; omega), words_get n hj]
      rfl
    | succ i =>
      have h := ih i (by simpa using hi) j hj
      rw [sets, List.getElem?_append_right (by rw [words_length]; omega), words_length, show (i + 1) * 4 + j - 4 = i * 4 + j by omega, h]
      rfl

/-- A slice of n sets, below block B. -/
def SetsAt (w : World) (B : Nat) (a : Option Addr) (n : Nat) (r : List Sl.Four) : Prop :=
  r.length = n ∧ (0 < n → ∃ b off, a = some ⟨b, off, none⟩ ∧ b < B ∧ ∀ i, i < n → ∀ j, j < 4 → w.cell? ⟨b, off + i * 4 + j, none⟩ = some (.int .u64 ((r.getD i Sl.no).word j : Int)))
theorem SetsAt.below {w w' : World} {B : Nat} {a : Option Addr} {n : Nat} {r : List Sl.Four} (h : SetsAt w B a n r) (hb : Below B w w') : SetsAt w' B a n r := by
  refine ⟨h.1, fun hn => ?_⟩
  obtain ⟨b, off, e, hlt, hc⟩ := h.2 hn
  exact ⟨b, off, e, hlt, fun i hi j hj => (hb.cell (p := ⟨b, off + i * 4 + j, none⟩) hlt).trans (hc i hi j hj)⟩
theorem SetsAt.more {w : World} {B B' : Nat} {a : Option Addr} {n : Nat} {r : List Sl.Four} (h : SetsAt w B a n r) (hb : B ≤ B') : SetsAt w B' a n r := by
  refine ⟨h.1, fun hn => ?_⟩
  obtain ⟨b, off, e, hlt, hc⟩ := h.2 hn
  exact ⟨b, off, e, by omega, hc⟩
theorem SetsAt.on {w w' : World} {a : Option Addr} {n : Nat} {r : List Sl.Four} (h : SetsAt w w.heap.size a n r) (hb : Below w.heap.size w w') : SetsAt w' w'.heap.size a n r := (h.below hb).more hb.size
/-- The cells of set k, and what they hold. -/
theorem sets_cell {w : World} {B n : Nat} {a : Option Addr} {r : List Sl.Four} (h : SetsAt w B a n r) {k : Nat} (hk : k < n) :
    ∃ b off x, a = some ⟨b, off, none⟩ ∧ b < B ∧ r.getD k Sl.no = x ∧ k < r.length ∧ w.cell? ⟨b, off + k * 4, none⟩ = some (.int .u64 (x.a : Int)) ∧ w.cell? ⟨b, off + k * 4 + 1, none⟩ = some (.int .u64 (x.b : Int)) ∧ w.cell? ⟨b, off + k * 4 + 2, none⟩ = some (.int .u64 (x.c : Int)) ∧ w.cell? ⟨b, off + k * 4 + 3, none⟩ = some (.int .u64 (x.d : Int)) := by
  obtain ⟨b, off, e, hlt, hc⟩ := h.2 (by omega)
  exact ⟨b, off, _, e, hlt, rfl, by rw [h.1]; exact hk, hc k hk 0 (by decide), hc k hk 1 (by decide), hc k hk 2 (by decide), hc k hk 3 (by decide)⟩

/-- Sets that the call itself has made, read. -/
theorem sets_of_own {w : World} {b n : Nat} {e : TypeId} {A : Option Addr} {k c : Nat} {r : List Sl.Four} (h : w.ownsRow b e 4 (.slice A k c) n (sets r)) : k = n ∧ SetsAt w w.heap.size A k r ∧ r.length = n ∧ k ≤ c := by
  have hl : r.length = n := by have := h.1; rw [sets_length] at this; omega
  have hlt := h.lt
  rcases h.2 with ⟨hv, hn⟩ | ⟨g, cap, cur, hv, hg, hh, hnc, hcm, hcs, ht⟩
  · injection hv with h1 h2 h3
    subst h1 h2 h3 hn
    exact ⟨rfl, ⟨hl, fun h => absurd h (by omega)⟩, hl, Nat.le_refl _⟩
  · injection hv with h1 h2 h3
    subst h1 h2 h3
    refine ⟨rfl, ⟨hl, fun hn => ⟨g, 0, rfl, (hlt g rfl).2, fun i hi j hj => ?_⟩⟩, hl, hnc⟩
    have e0 := sets_get r i (by omega) j hj
    rw [← ht, List.getElem?_take, if_pos (by omega), Array.getElem?_toList] at e0
    rw [Nat.zero_add, cell_of_row w g _ cur _ _ hh]
    exact e0
theorem sets_slice {w : World} {b : Nat} {e : TypeId} {v : Value} {r : List Sl.Four} (h : w.ownsRow b e 4 v r.length (sets r)) : ∃ A c, v = .slice A r.length c ∧ SetsAt w w.heap.size A r.length r ∧ r.length ≤ c := by
  rcases h.2 with ⟨rfl, hn⟩ | ⟨g, cap, cur, rfl, _⟩
  · have hi := sets_of_own h
    rw [← hn] at hi
    exact ⟨none, 0, by rw [hn], hi.2.1, by omega⟩
  · exact ⟨_, cap, rfl, (sets_of_own h).2.1, (sets_of_own h).2.2.2⟩
/-- One set more: its cells in new memory. -/
theorem new_set (w : World) (t : TypeId) (s : Sl.Four) : ∀ j u, (sets [s])[j]? = some u → (w.alloc (.cells #[.int .u64 (s.a : Int), .int .u64 (s.b : Int), .int .u64 (s.c : Int), .int .u64 (s.d : Int)] t)).cell? ((⟨w.heap.size, 0, none⟩ : Addr).add j) = some u :=
  World.news_of_block (heap_alloc_new w (.cells #[.int .u64 (s.a : Int), .int .u64 (s.b : Int), .int .u64 (s.c : Int), .int .u64 (s.d : Int)] t))

/-- Runs as cells: how many, and the set. -/
def runs : Mp.Runs → List Value
  | [] => []
  | p :: r => .int .i64 (p.1 : Int) :: words p.2 ++ runs r
theorem runs_append (a b : Mp.Runs) : runs (a ++ b) = runs a ++ runs b := by
  induction a with
  | nil => rfl
  | cons n r ih => simp only [List.cons_append, runs, ih, List.append_assoc]
theorem runs_length (r : Mp.Runs) : (runs r).length = r.length * 5 := by
  induction r with
  | nil => rfl
  | cons n r ih => simp only [runs, List.length_append, List.length_cons, ih, words_length]; omega
theorem runs_one (r : Mp.Runs) : ∀ u ∈ runs r, u.oneCell' = true := by
  induction r with
  | nil => intro u hu; simp [runs] at hu
  | cons n r ih =>
    intro u hu
    rcases List.mem_append.1 hu with hu | hu
    · rcases List.mem_cons.1 hu with rfl | hu
      · rfl
      · exact words_one _ u hu
    · exact ih u hu
theorem runs_get (r : Mp.Runs) : ∀ i, i < r.length → (runs r)[i * 5]? = some (.int .i64 ((r.getD i (0, Sl.no)).1 : Int)) ∧ ∀ j, j < 4 → (runs r)[i * 5 + (j + 1)]? = some (.int .u64 ((r.getD i (0, Sl.no)).2.word j : Int)) := by
  induction r with
  | nil => intro i hi; simp at hi
  | cons n r ih =>
    intro i hi
    have hl : (Value.int .i64 (n.1 : Int) :: words n.2).length = 5 := rfl
    cases i with
    | zero =>
      refine ⟨rfl, fun j hj => ?_⟩
      rw [Nat.zero_mul, Nat.zero_add, runs, List.getElem?_append_left (by rw [hl]; omega), List.getElem?_cons_succ, words_get n.2 hj]
      rfl
    | succ i =>
      obtain ⟨h1, h2⟩ := ih i (by simpa using hi)
      refine ⟨?_, fun j hj => ?_⟩
      · rw [runs, List.getElem?_append_right (by rw [hl]; omega), hl, show (i + 1) * 5 - 5 = i * 5 by omega, h1]
        rfl
      · rw [runs, List.getElem?_append_right (by rw [hl]; omega), hl, show (i + 1) * 5 + (j + 1) - 5 = i * 5 + (j + 1) by omega, h2 j hj]
        rfl
/-- A slice of n runs, below block B. -/
def SetRunsAt (w : World) (B : Nat) (a : Option Addr) (n : Nat) (r : Mp.Runs) : Prop :=
  r.length = n ∧ (0 < n → ∃ b off, a = some ⟨b, off, none⟩ ∧ b < B ∧ ∀ i, i < n → w.cell? ⟨b, off + i * 5, none⟩ = some (.int .i64 ((r.getD i (0, Sl.no)).1 : Int)) ∧ ∀ j, j < 4 → w.cell? ⟨b, off + i * 5 + (j + 1), none⟩ = some (.int .u64 ((r.getD i (0, Sl.no)).2.word j : Int)))
theorem SetRunsAt.below {w w' : World} {B : Nat} {a : Option Addr} {n : Nat} {r : Mp.Runs} (h : SetRunsAt w B a n r) (hb : Below B w w') : SetRunsAt w' B a n r := by
  refine ⟨h.1, fun hn => ?_⟩
  obtain ⟨b, off, e, hlt, hc⟩ := h.2 hn
  exact ⟨b, off, e, hlt, fun i hi => ⟨(hb.cell (p := ⟨b, off + i * 5, none⟩) hlt).trans (hc i hi).1, fun j hj => (hb.cell (p := ⟨b, off + i * 5 + (j + 1), none⟩) hlt).trans ((hc i hi).2 j hj)⟩⟩
theorem SetRunsAt.more {w : World} {B B' : Nat} {a : Option Addr} {n : Nat} {r : Mp.Runs} (h : SetRunsAt w B a n r) (hb : B ≤ B') : SetRunsAt w B' a n r := by
  refine ⟨h.1, fun hn => ?_⟩
  obtain ⟨b, off, e, hlt, hc⟩ := h.2 hn
  exact ⟨b, off, e, by omega, hc⟩
theorem SetRunsAt.on {w w' : World} {a : Option Addr} {n : Nat} {r : Mp.Runs} (h : SetRunsAt w w.heap.size a n r) (hb : Below w.heap.size w w') : SetRunsAt w' w'.heap.size a n r := (h.below hb).more hb.size
theorem set_runs_cell {w : World} {B n : Nat} {a : Option Addr} {r : Mp.Runs} (h : SetRunsAt w B a n r) {k : Nat} (hk : k < n) :
    ∃ b off m x, a = some ⟨b, off, none⟩ ∧ b < B ∧ r.getD k (0, Sl.no) = (m, x) ∧ k < r.length ∧ w.cell? ⟨b, off + k * 5, none⟩ = some (.int .i64 (m : Int)) ∧ w.cell? ⟨b, off + k * 5 + 1, none⟩ = some (.int .u64 (x.a : Int)) ∧ w.cell? ⟨b, off + k * 5 + 2, none⟩ = some (.int .u64 (x.b : Int)) ∧ w.cell? ⟨b, off + k * 5 + 3, none⟩ = some (.int .u64 (x.c : Int)) ∧ w.cell? ⟨b, off + k * 5 + 4, none⟩ = some (.int .u64 (x.d : Int)) := by
  obtain ⟨b, off, e, hlt, hc⟩ := h.2 (by omega)
  obtain ⟨h1, h2⟩ := hc k hk
  exact ⟨b, off, _, _, e, hlt, rfl, by rw [h.1]; exact hk, h1, h2 0 (by decide), h2 1 (by decide), h2 2 (by decide), h2 3 (by decide)⟩
theorem set_runs_of_own {w : World} {b n : Nat} {e : TypeId} {A : Option Addr} {k c : Nat} {r : Mp.Runs} (h : w.ownsRow b e 5 (.slice A k c) n (runs r)) : k = n ∧ SetRunsAt w w.heap.size A k r ∧ r.length = n ∧ k ≤ c := by
  have hl : r.length = n := by have := h.1; rw [runs_length] at this; omega
  have hlt := h.lt
  rcases h.2 with ⟨hv, hn⟩ | ⟨g, cap, cur, hv, hg, hh, hnc, hcm, hcs, ht⟩
  · injection hv with h1 h2 h3
    subst h1 h2 h3 hn
    exact ⟨rfl, ⟨hl, fun h => absurd h (by omega)⟩, hl, Nat.le_refl _⟩
  · injection hv with h1 h2 h3
    subst h1 h2 h3
    refine ⟨rfl, ⟨hl, fun hn => ⟨g, 0, rfl, (hlt g rfl).2, fun i hi => ?_⟩⟩, hl, hnc⟩
    obtain ⟨e0, e1⟩ := runs_get r i (by omega)
    refine ⟨?_, fun j hj => ?_⟩
    · rw [← ht, List.getElem?_take, if_pos (by omega), Array.getElem?_toList] at e0
      rw [Nat.zero_add, cell_of_row w g _ cur _ _ hh]
      exact e0
    · have e2 := e1 j hj
      rw [← ht, List.getElem?_take, if_pos (by omega), Array.getElem?_toList] at e2
      rw [Nat.zero_add, cell_of_row w g _ cur _ _ hh]
      exact e2
theorem set_runs_slice {w : World} {b : Nat} {e : TypeId} {v : Value} {r : Mp.Runs} (h : w.ownsRow b e 5 v r.length (runs r)) : ∃ A c, v = .slice A r.length c ∧ SetRunsAt w w.heap.size A r.length r ∧ r.length ≤ c := by
  rcases h.2 with ⟨rfl, hn⟩ | ⟨g, cap, cur, rfl, _⟩
  · have hi := set_runs_of_own h
    rw [← hn] at hi
    exact ⟨none, 0, by rw [hn], hi.2.1, by omega⟩
  · exact ⟨_, cap, rfl, (set_runs_of_own h).2.1, (set_runs_of_own h).2.2.2⟩
/-- One run more: its cells in new memory. -/
theorem new_set_run (w : World) (t : TypeId) (m : Nat) (s : Sl.Four) : ∀ j u, (runs [(m, s)])[j]? = some u → (w.alloc (.cells #[.int .i64 (m : Int), .int .u64 (s.a : Int), .int .u64 (s.b : Int), .int .u64 (s.c : Int), .int .u64 (s.d : Int)] t)).cell? ((⟨w.heap.size, 0, none⟩ : Addr).add j) = some u :=
  World.news_of_block (heap_alloc_new w (.cells #[.int .i64 (m : Int), .int .u64 (s.a : Int), .int .u64 (s.b : Int), .int .u64 (s.c : Int), .int .u64 (s.d : Int)] t))
end Go.Proofs.YtifkoihhlhadhaaDoor
