/-
  Tables of sets: which may be, runs of alike sets, their bytes: the plain mathematics. Conditions: none.
  Sets in memory: a slice of sets that can be read; runs of alike sets; what the call itself has made of both. Conditions: none.
-/
import Derived.Test.YtngkjmghhoemgaaBM
import Derived.Test.YtngkjmghhoemgaaSlM
import Derived.Test.YtngkjmghhoemgaaSlAA
namespace Go.Proofs.Ytngkjmghhoemgaa.Mp
open Sl (Four)

def same (s t : Four) : Bool := s.a == t.a && (s.b == t.b && (s.c == t.c && s.d == t.d))
theorem same_iff {s t : Four} : same s t = true ↔ s = t := by
  cases s
  cases t
  simp [same]
theorem same_self (s : Four) : same s s = true := same_iff.2 rfl
theorem same_not {s t : Four} (h : s ≠ t) : same s t = false := by
  rcases Bool.eq_false_or_eq_true (same s t) with e | e
  · exact absurd (same_iff.1 e) h
  · exact e

/-- Induction from a list's end. -/
theorem snoc_ind {α : Type} {p : List α → Prop} (h0 : p []) (h1 : ∀ l x, p l → p (l ++ [x])) (l : List α) : p l := by
  have h : ∀ r : List α, p r.reverse := fun r => by
    induction r with
    | nil => exact h0
    | cons x r ih =>
      rw [List.reverse_cons]
      exact h1 _ x ih
  have e := h l.reverse
  rwa [List.reverse_reverse] at e

/-- The set of an instruction. -/
def at_ (l : List Four) (pc : Int) : Four := if pc < 0 ∨ (l.length : Int) ≤ pc then Sl.no else l.getD pc.toNat Sl.no
theorem at_out {l : List Four} {pc : Int} (h : pc < 0 ∨ (l.length : Int) ≤ pc) : at_ l pc = Sl.no := if_pos h
theorem at_in {l : List Four} {k : Nat} (h : k < l.length) : at_ l (k : Int) = l.getD k Sl.no := by
  unfold at_
  rw [if_neg (by omega), Int.toNat_natCast]
/-- May a table be? -/
def right (l : List Four) (m : Int) : Bool := (l.all fun s => s.inside (Sl.range 0 m)) && decide (l.length ≤ 2000)
/-- Is each of one inside the one of the other? -/
def inside (a b : List Four) : Bool := decide (a.length = b.length) && (List.range a.length).all fun i => (a.getD i Sl.no).inside (b.getD i Sl.no)
def move (l : List Four) (d : Int) : List Four := l.map (·.move d)

theorem take_snoc {l : List Four} {k : Nat} (h : k < l.length) : l.take (k + 1) = l.take k ++ [l.getD k Sl.no] := by
  rw [List.take_succ_eq_append_getElem h]
  simp [List.getD, h]
theorem move_take {l : List Four} {k : Nat} (d : Int) (h : k < l.length) : move (l.take (k + 1)) d = move (l.take k) d ++ [(l.getD k Sl.no).move d] := by
  rw [take_snoc h, move, List.map_append]
  rfl
theorem all_take_succ {l : List Four} {k : Nat} (p : Four → Bool) (h : k < l.length) : (l.take (k + 1)).all p = ((l.take k).all p && p (l.getD k Sl.no)) := by
  rw [take_snoc h, List.all_append]
  simp
theorem all_bad {l : List Four} {k : Nat} {p : Four → Bool} (h : k < l.length) (hp : p (l.getD k Sl.no) = false) : l.all p = false := by
  refine List.all_eq_false.2 ⟨l[k], List.getElem_mem h, ?_⟩
  have e : l.getD k Sl.no = l[k] := by simp [List.getD, h]
  rw [← e, hp]
  decide
theorem inside_bad {a b : List Four} {k : Nat} (h : k < a.length) (hp : (a.getD k Sl.no).inside (b.getD k Sl.no) = false) : inside a b = false := by
  unfold inside
  rw [show ((List.range a.length).all fun i => (a.getD i Sl.no).inside (b.getD i Sl.no)) = false from List.all_eq_false.2 ⟨k, List.mem_range.2 h, by rw [hp]; decide⟩, Bool.and_false]
theorem inside_good {a b : List Four} (hl : a.length = b.length) (h : ∀ k, k < a.length → (a.getD k Sl.no).inside (b.getD k Sl.no) = true) : inside a b = true := by
  unfold inside
  rw [decide_eq_true hl, Bool.true_and]
  exact List.all_eq_true.2 fun k hk => h k (List.mem_range.1 hk)
theorem inside_length {a b : List Four} (h : a.length ≠ b.length) : inside a b = false := by
  unfold inside
  rw [decide_eq_false h, Bool.false_and]
theorem four_inside {s : Four} (h : s.ok) : s.inside s = true := (Sl.inside_iff h h).2 fun _ _ h => h
theorem inside_self {a : List Four} (h : ∀ s ∈ a, s.ok) : inside a a = true := inside_good rfl fun k hk => by
  have e : a.getD k Sl.no = a[k] := by simp [List.getD, hk]
  rw [e]
  exact four_inside (h _ (List.getElem_mem hk))

/-- Runs of alike sets. -/
abbrev Runs := List (Nat × Four)
def step (r : Runs) (x : Four) : Runs := match r.getLast? with
  | some (n, y) => if same y x then r.dropLast ++ [(n + 1, y)] else r ++ [(1, x)]
  | none => [(1, x)]
def of (l : List Four) : Runs := l.foldl step []
theorem of_snoc (l : List Four) (x : Four) : of (l ++ [x]) = step (of l) x := by
  unfold of
  rw [List.foldl_append]
  rfl
theorem step_more (r : Runs) (n : Nat) (x : Four) : step (r ++ [(n, x)]) x = r ++ [(n + 1, x)] := by
  unfold step
  simp [same_self]
theorem step_other {r : Runs} {x : Four} (h : ∀ p, r.getLast? = some p → p.2 ≠ x) : step r x = r ++ [(1, x)] := by
  unfold step
  cases hl : r.getLast? with
  | none =>
    rw [List.getLast?_eq_none_iff.1 hl]
    rfl
  | some p =>
    obtain ⟨n, y⟩ := p
    simp only
    rw [if_neg (by rw [same_not (h _ hl)]; decide)]
theorem of_last : ∀ l : List Four, (of l).getLast?.map (·.2) = l.getLast? := fun l => by
  induction l using snoc_ind with
  | h0 => rfl
  | h1 l x ih =>
    rw [of_snoc]
    cases hl : (of l).getLast? with
    | none => simp [step, hl]
    | some p =>
      obtain ⟨n, y⟩ := p
      unfold step
      rw [hl]
      simp only
      split
      · rename_i h
        rw [same_iff.1 h]
        simp
      · simp
theorem of_reps {l : List Four} {x : Four} (h : l.getLast? ≠ some x) : ∀ c, of (l ++ List.replicate (c + 1) x) = of l ++ [(c + 1, x)]
  | 0 => by
    show of (l ++ [x]) = _
    rw [of_snoc, step_other fun p hp e => h ?_]
    have := of_last l
    rw [hp] at this
    rw [← this, ← e]
    rfl
  | c + 1 => by
    rw [List.replicate_succ', ← List.append_assoc, of_snoc, of_reps h c, step_more]
/-- A row of them. -/
def row (r : Runs) : List Four := r.flatMap fun p => List.replicate p.1 p.2
theorem row_of : ∀ l : List Four, row (of l) = l := fun l => by
  induction l using snoc_ind with
  | h0 => rfl
  | h1 l x ih =>
    rw [of_snoc]
    unfold step
    cases hl : (of l).getLast? with
    | none =>
      have e := List.getLast?_eq_none_iff.1 hl
      rw [e] at ih
      simp only [row, List.flatMap_nil] at ih
      rw [← ih]
      simp [row]
    | some p =>
      obtain ⟨n, y⟩ := p
      simp only
      split
      · rename_i h
        obtain rfl := same_iff.1 h
        have e : of l = (of l).dropLast ++ [(n, y)] := by
          rw [List.getLast?_eq_some_iff] at hl
          obtain ⟨r, hr⟩ := hl
          rw [hr]
          simp
        rw [e] at ih
        have e2 : row ((of l).dropLast ++ [(n + 1, y)]) = row ((of l).dropLast ++ [(n, y)]) ++ [y] := by
          simp [row, List.replicate_succ']
        rw [e2, ih]
      · have e2 : row (of l ++ [(1, x)]) = row (of l) ++ [x] := by
          simp [row]
        rw [e2, ih]
theorem of_len : ∀ l : List Four, (of l).length ≤ l.length := fun l => by
  induction l using snoc_ind with
  | h0 => exact Nat.le_refl _
  | h1 l x ih =>
    rw [of_snoc, List.length_append, List.length_singleton]
    unfold step
    cases hl : (of l).getLast? with
    | none => simp
    | some p =>
      obtain ⟨n, y⟩ := p
      simp only
      split
      · rw [List.length_append, List.length_dropLast, List.length_singleton]
        omega
      · rw [List.length_append, List.length_singleton]
        omega

/-- A set's bytes, runs', and a table's. -/
def words (s : Four) : List Nat := Uv.put s.a ++ (Uv.put s.b ++ (Uv.put s.c ++ Uv.put s.d))
def one (p : Nat × Four) : List Nat := Uv.put p.1 ++ words p.2
def laid (r : Runs) : List Nat := r.flatMap one
def bytes (l : List Four) : List Nat := laid (of l)
theorem laid_append (a b : Runs) : laid (a ++ b) = laid a ++ laid b := List.flatMap_append
theorem laid_one (p : Nat × Four) : laid [p] = one p := by simp [laid]
theorem one_byte (p : Nat × Four) : ∀ c ∈ one p, c < 256 := by
  intro c hc
  unfold one words at hc
  simp only [List.mem_append] at hc
  rcases hc with h | h | h | h | h <;> exact Uv.put_byte _ c h
theorem bytes_byte (l : List Four) : ∀ c ∈ bytes l, c < 256 := by
  intro c hc
  obtain ⟨p, _, h⟩ := List.mem_flatMap.1 hc
  exact one_byte p c h
theorem one_len {p : Nat × Four} (h1 : p.1 < 18446744073709551616) (h2 : p.2.ok) : (one p).length ≤ 50 := by
  obtain ⟨ha, hb, hc, hd⟩ := h2
  have e0 := Uv.put_len_10 h1
  have e1 := Uv.put_len_10 ha
  have e2 := Uv.put_len_10 hb
  have e3 := Uv.put_len_10 hc
  have e4 := Uv.put_len_10 hd
  unfold one words
  simp only [List.length_append]
  omega
theorem laid_len {r : Runs} (h : ∀ p ∈ r, p.1 < 18446744073709551616 ∧ p.2.ok) : (laid r).length ≤ 50 * r.length := by
  induction r with
  | nil => exact Nat.le_refl _
  | cons p r ih =>
    have h1 := one_len (h p (by simp)).1 (h p (by simp)).2
    have h2 := ih fun q hq => h q (by simp [hq])
    unfold laid at h2 ⊢
    rw [List.flatMap_cons, List.length_append, List.length_cons]
    omega
theorem of_fits {l : List Four} (h : ∀ s ∈ l, s.ok) : ∀ p ∈ of l, 1 ≤ p.1 ∧ p.1 ≤ l.length ∧ p.2.ok := by
  induction l using snoc_ind with
  | h0 => intro p hp; cases hp
  | h1 l x ih =>
    have ih := ih fun s hs => h s (by simp [hs])
    have hx := h x (by simp)
    intro p hp
    rw [of_snoc] at hp
    rw [List.length_append, List.length_singleton]
    unfold step at hp
    cases hl : (of l).getLast? with
    | none =>
      rw [hl] at hp
      simp at hp
      subst hp
      exact ⟨Nat.le_refl _, by omega, hx⟩
    | some q =>
      obtain ⟨n, y⟩ := q
      rw [hl] at hp
      simp only at hp
      have hq := ih (n, y) (List.mem_of_getLast? hl)
      split at hp
      · rcases List.mem_append.1 hp with hp | hp
        · have := ih p (List.dropLast_subset _ hp)
          exact ⟨this.1, by omega, this.2.2⟩
        · rw [List.mem_singleton] at hp
          subst hp
          exact ⟨by have := hq.1; simp, by have := hq.2.1; simp at this ⊢; omega, hq.2.2⟩
      · rcases List.mem_append.1 hp with hp | hp
        · have := ih p hp
          exact ⟨this.1, by omega, this.2.2⟩
        · rw [List.mem_singleton] at hp
          subst hp
          exact ⟨Nat.le_refl _, by simp, hx⟩
theorem bytes_len {l : List Four} (h : ∀ s ∈ l, s.ok) (hl : l.length < 18446744073709551616) : (bytes l).length ≤ 50 * l.length := by
  have h1 := laid_len (r := of l) fun p hp => ⟨by have := (of_fits h p hp).2.1; omega, (of_fits h p hp).2.2⟩
  have h2 := of_len l
  unfold bytes
  omega

/-- The first k are gone over; the runs of the first fr are told; from fr on all up to k are alike. -/
structure Part (l : List Four) (k fr : Nat) : Prop where
  le : fr ≤ k
  alike : ∀ j, fr ≤ j → j ≤ k → j < l.length → l.getD j Sl.no = l.getD fr Sl.no
  last : 0 < fr → fr < l.length → l.getD (fr - 1) Sl.no ≠ l.getD fr Sl.no
  done : k = l.length → fr = k
theorem Part.zero (l : List Four) : Part l 0 0 := ⟨Nat.le_refl _, fun j h1 h2 _ => by rw [show j = 0 by omega], fun h => absurd h (by omega), fun _ => rfl⟩
theorem Part.cut {l : List Four} {k fr : Nat} (_ : Part l k fr) (hc : k + 1 < l.length → l.getD (k + 1) Sl.no ≠ l.getD k Sl.no) : Part l (k + 1) (k + 1) :=
  ⟨Nat.le_refl _, fun j h1 h2 _ => by rw [show j = k + 1 by omega], fun _ hl => by rw [Nat.add_sub_cancel]; exact fun e => hc hl e.symm, fun _ => rfl⟩
theorem Part.more {l : List Four} {k fr : Nat} (h : Part l k fr) (hk : k + 1 < l.length) (he : l.getD (k + 1) Sl.no = l.getD k Sl.no) : Part l (k + 1) fr :=
  ⟨Nat.le_trans h.le (Nat.le_succ k), fun j h1 h2 h3 => by
    rcases (show j ≤ k ∨ j = k + 1 by omega) with h4 | rfl
    · exact h.alike j h1 h4 h3
    · rw [he]; exact h.alike k h.le (Nat.le_refl _) (by omega), h.last, fun e => absurd e (by omega)⟩
theorem Part.take {l : List Four} {k fr : Nat} (h : Part l k fr) (hk : k < l.length) : l.take (k + 1) = l.take fr ++ List.replicate (k - fr + 1) (l.getD k Sl.no) := by
  have hle := h.le
  apply List.ext_getElem
  · simp
    omega
  · intro i h1 h2
    have hi : i < l.length := by simp at h1; omega
    by_cases hf : i < fr
    · rw [List.getElem_append_left (by simp; omega)]
      simp
    · rw [List.getElem_append_right (by simp; omega)]
      simp only [List.getElem_take, List.getElem_replicate]
      have e1 := h.alike i (by omega) (by simp at h1; omega) hi
      have e2 := h.alike k hle (Nat.le_refl _) hk
      rw [e2, ← e1]
      simp [List.getD, hi]
theorem Part.of_take {l : List Four} {k fr : Nat} (h : Part l k fr) (hk : k < l.length) : of (l.take (k + 1)) = of (l.take fr) ++ [(k + 1 - fr, l.getD k Sl.no)] := by
  have hle := h.le
  rw [h.take hk, of_reps ?_ (k - fr), show k - fr + 1 = k + 1 - fr by omega]
  intro e
  rcases Nat.eq_zero_or_pos fr with rfl | hp
  · simp at e
  · have e1 := h.last hp (by omega)
    have e2 := h.alike k hle (Nat.le_refl _) hk
    rw [List.getLast?_eq_getElem?, List.getElem?_take] at e
    have hm : (l.take fr).length - 1 = fr - 1 := by simp; omega
    rw [hm, if_pos (by omega)] at e
    apply e1
    rw [← e2]
    simp [List.getD, e]
end Go.Proofs.Ytngkjmghhoemgaa.Mp

namespace Go.Proofs.Ytngkjmghhoemgaa
open Go.RowKit

/-- A set as cells, and sets. -/
def words (s : Sl.Four) : List Value := [.int .u64 (s.a : Int), .int .u64 (s.b : Int), .int .u64 (s.c : Int), .int .u64 (s.d : Int)]
def sets : List Sl.Four → List Value
  | [] => []
  | s :: r => words s ++ sets r
theorem words_length (s : Sl.Four) : (words s).length = 4 := rfl
theorem words_one (s : Sl.Four) : ∀ u ∈ words s, u.oneCell' = true := by
  intro u hu
  simp only [words, List.mem_cons, List.not_mem_nil, or_false] at hu
  rcases hu with rfl | rfl | rfl | rfl <;> rfl
theorem words_get (s : Sl.Four) {j : Nat} (h : j < 4) : (words s)[j]? = some (.int .u64 (s.word j : Int)) := by
  rcases (show j = 0 ∨ j = 1 ∨ j = 2 ∨ j = 3 by omega) with rfl | rfl | rfl | rfl <;> rfl
theorem sets_append (a b : List Sl.Four) : sets (a ++ b) = sets a ++ sets b := by
  induction a with
  | nil => rfl
  | cons n r ih => simp only [List.cons_append, sets, ih, List.append_assoc]
theorem sets_length (r : List Sl.Four) : (sets r).length = r.length * 4 := by
  induction r with
  | nil => rfl
  | cons n r ih => simp only [sets, List.length_append, List.length_cons, ih, words_length]; omega
theorem sets_one (r : List Sl.Four) : ∀ u ∈ sets r, u.oneCell' = true := by
  induction r with
  | nil => intro u hu; simp [sets] at hu
  | cons n r ih =>
    intro u hu
    rcases List.mem_append.1 hu with hu | hu
    · exact words_one _ u hu
    · exact ih u hu
theorem sets_get (r : List Sl.Four) : ∀ i, i < r.length → ∀ j, j < 4 → (sets r)[i * 4 + j]? = some (.int .u64 ((r.getD i Sl.no).word j : Int)) := by
  induction r with
  | nil => intro i hi; simp at hi
  | cons n r ih =>
    intro i hi j hj
    cases i with
    | zero =>
      rw [Nat.zero_mul, Nat.zero_add, sets, List.getElem?_append_left (by rw [words_length]; omega), words_get n hj]
      rfl
    | succ i =>
      have h := ih i (by simpa using hi) j hj
      rw [sets, List.getElem?_append_right (by rw [words_length]; omega), words_length, show (i + 1) * 4 + j - 4 = i * 4 + j by omega, h]
      rfl

/-- A slice of n sets, below block B. -/
def SetsAt (w : World) (B : Nat) (a : Option Addr) (n : Nat) (r : List Sl.Four) : Prop :=
  r.length = n ∧ (0 < n → ∃ b off, a = some ⟨b, off, none⟩ ∧ b < B ∧ ∀ i, i < n → ∀ j, j < 4 → w.cell? ⟨b, off + i * 4 + j, none⟩ = some (.int .u64 ((r.getD i Sl.no).word j : Int)))
theorem SetsAt.below {w w' : World} {B : Nat} {a : Option Addr} {n : Nat} {r : List Sl.Four} (h : SetsAt w B a n r) (hb : Below B w w') : SetsAt w' B a n r := by
  refine ⟨h.1, fun hn => ?_⟩
  obtain ⟨b, off, e, hlt, hc⟩ := h.2 hn
  exact ⟨b, off, e, hlt, fun i hi j hj => (hb.cell (p := ⟨b, off + i * 4 + j, none⟩) hlt).trans (hc i hi j hj)⟩
theorem SetsAt.more {w : World} {B B' : Nat} {a : Option Addr} {n : Nat} {r : List Sl.Four} (h : SetsAt w B a n r) (hb : B ≤ B') : SetsAt w B' a n r := by
  refine ⟨h.1, fun hn => ?_⟩
  obtain ⟨b, off, e, hlt, hc⟩ := h.2 hn
  exact ⟨b, off, e, by omega, hc⟩
theorem SetsAt.on {w w' : World} {a : Option Addr} {n : Nat} {r : List Sl.Four} (h : SetsAt w w.heap.size a n r) (hb : Below w.heap.size w w') : SetsAt w' w'.heap.size a n r := (h.below hb).more hb.size
/-- The cells of set k, and what they hold. -/
theorem sets_cell {w : World} {B n : Nat} {a : Option Addr} {r : List Sl.Four} (h : SetsAt w B a n r) {k : Nat} (hk : k < n) :
    ∃ b off x, a = some ⟨b, off, none⟩ ∧ b < B ∧ r.getD k Sl.no = x ∧ k < r.length ∧ w.cell? ⟨b, off + k * 4, none⟩ = some (.int .u64 (x.a : Int)) ∧ w.cell? ⟨b, off + k * 4 + 1, none⟩ = some (.int .u64 (x.b : Int)) ∧ w.cell? ⟨b, off + k * 4 + 2, none⟩ = some (.int .u64 (x.c : Int)) ∧ w.cell? ⟨b, off + k * 4 + 3, none⟩ = some (.int .u64 (x.d : Int)) := by
  obtain ⟨b, off, e, hlt, hc⟩ := h.2 (by omega)
  exact ⟨b, off, _, e, hlt, rfl, by rw [h.1]; exact hk, hc k hk 0 (by decide), hc k hk 1 (by decide), hc k hk 2 (by decide), hc k hk 3 (by decide)⟩

/-- Sets that the call itself has made, read. -/
theorem sets_of_own {w : World} {b n : Nat} {e : TypeId} {A : Option Addr} {k c : Nat} {r : List Sl.Four} (h : w.ownsRow b e 4 (.slice A k c) n (sets r)) : k = n ∧ SetsAt w w.heap.size A k r ∧ r.length = n ∧ k ≤ c := by
  have hl : r.length = n := by have := h.1; rw [sets_length] at this; omega
  have hlt := h.lt
  rcases h.2 with ⟨hv, hn⟩ | ⟨g, cap, cur, hv, hg, hh, hnc, hcm, hcs, ht⟩
  · injection hv with h1 h2 h3
    subst h1 h2 h3 hn
    exact ⟨rfl, ⟨hl, fun h => absurd h (by omega)⟩, hl, Nat.le_refl _⟩
  · injection hv with h1 h2 h3
    subst h1 h2 h3
    refine ⟨rfl, ⟨hl, fun hn => ⟨g, 0, rfl, (hlt g rfl).2, fun i hi j hj => ?_⟩⟩, hl, hnc⟩
    have e0 := sets_get r i (by omega) j hj
    rw [← ht, List.getElem?_take, if_pos (by omega), Array.getElem?_toList] at e0
    rw [Nat.zero_add, cell_of_row w g _ cur _ _ hh]
    exact e0
theorem sets_slice {w : World} {b : Nat} {e : TypeId} {v : Value} {r : List Sl.Four} (h : w.ownsRow b e 4 v r.length (sets r)) : ∃ A c, v = .slice A r.length c ∧ SetsAt w w.heap.size A r.length r ∧ r.length ≤ c := by
  rcases h.2 with ⟨rfl, hn⟩ | ⟨g, cap, cur, rfl, _⟩
  · have hi := sets_of_own h
    rw [← hn] at hi
    exact ⟨none, 0, by rw [hn], hi.2.1, by omega⟩
  · exact ⟨_, cap, rfl, (sets_of_own h).2.1, (sets_of_own h).2.2.2⟩
/-- One set more: its cells in new memory. -/
theorem new_set (w : World) (t : TypeId) (s : Sl.Four) : ∀ j u, (sets [s])[j]? = some u → (w.alloc (.cells #[.int .u64 (s.a : Int), .int .u64 (s.b : Int), .int .u64 (s.c : Int), .int .u64 (s.d : Int)] t)).cell? ((⟨w.heap.size, 0, none⟩ : Addr).add j) = some u :=
  World.news_of_block (heap_alloc_new w (.cells #[.int .u64 (s.a : Int), .int .u64 (s.b : Int), .int .u64 (s.c : Int), .int .u64 (s.d : Int)] t))

/-- Runs as cells: how many, and the set. -/
def runs : Mp.Runs → List Value
  | [] => []
  | p :: r => .int .i64 (p.1 : Int) :: words p.2 ++ runs r
theorem runs_append (a b : Mp.Runs) : runs (a ++ b) = runs a ++ runs b := by
  induction a with
  | nil => rfl
  | cons n r ih => simp only [List.cons_append, runs, ih, List.append_assoc]
theorem runs_length (r : Mp.Runs) : (runs r).length = r.length * 5 := by
  induction r with
  | nil => rfl
  | cons n r ih => simp only [runs, List.length_append, List.length_cons, ih, words_length]; omega
theorem runs_one (r : Mp.Runs) : ∀ u ∈ runs r, u.oneCell' = true := by
  induction r with
  | nil => intro u hu; simp [runs] at hu
  | cons n r ih =>
    intro u hu
    rcases List.mem_append.1 hu with hu | hu
    · rcases List.mem_cons.1 hu with rfl | hu
      · rfl
      · exact words_one _ u hu
    · exact ih u hu
theorem runs_get (r : Mp.Runs) : ∀ i, i < r.length → (runs r)[i * 5]? = some (.int .i64 ((r.getD i (0, Sl.no)).1 : Int)) ∧ ∀ j, j < 4 → (runs r)[i * 5 + (j + 1)]? = some (.int .u64 ((r.getD i (0, Sl.no)).2.word j : Int)) := by
  induction r with
  | nil => intro i hi; simp at hi
  | cons n r ih =>
    intro i hi
    have hl : (Value.int .i64 (n.1 : Int) :: words n.2).length = 5 := rfl
    cases i with
    | zero =>
      refine ⟨rfl, fun j hj => ?_⟩
      rw [Nat.zero_mul, Nat.zero_add, runs, List.getElem?_append_left (by rw [hl]; omega), List.getElem?_cons_succ, words_get n.2 hj]
      rfl
    | succ i =>
      obtain ⟨h1, h2⟩ := ih i (by simpa using hi)
      refine ⟨?_, fun j hj => ?_⟩
      · rw [runs, List.getElem?_append_right (by rw [hl]; omega), hl, show (i + 1) * 5 - 5 = i * 5 by omega, h1]
        rfl
      · rw [runs, List.getElem?_append_right (by rw [hl]; omega), hl, show (i + 1) * 5 + (j + 1) - 5 = i * 5 + (j + 1) by omega, h2 j hj]
        rfl
/-- A slice of n runs, below block B. -/
def SetRunsAt (w : World) (B : Nat) (a : Option Addr) (n : Nat) (r : Mp.Runs) : Prop :=
  r.length = n ∧ (0 < n → ∃ b off, a = some ⟨b, off, none⟩ ∧ b < B ∧ ∀ i, i < n → w.cell? ⟨b, off + i * 5, none⟩ = some (.int .i64 ((r.getD i (0, Sl.no)).1 : Int)) ∧ ∀ j, j < 4 → w.cell? ⟨b, off + i * 5 + (j + 1), none⟩ = some (.int .u64 ((r.getD i (0, Sl.no)).2.word j : Int)))
theorem SetRunsAt.below {w w' : World} {B : Nat} {a : Option Addr} {n : Nat} {r : Mp.Runs} (h : SetRunsAt w B a n r) (hb : Below B w w') : SetRunsAt w' B a n r := by
  refine ⟨h.1, fun hn => ?_⟩
  obtain ⟨b, off, e, hlt, hc⟩ := h.2 hn
  exact ⟨b, off, e, hlt, fun i hi => ⟨(hb.cell (p := ⟨b, off + i * 5, none⟩) hlt).trans (hc i hi).1, fun j hj => (hb.cell (p := ⟨b, off + i * 5 + (j + 1), none⟩) hlt).trans ((hc i hi).2 j hj)⟩⟩
theorem SetRunsAt.more {w : World} {B B' : Nat} {a : Option Addr} {n : Nat} {r : Mp.Runs} (h : SetRunsAt w B a n r) (hb : B ≤ B') : SetRunsAt w B' a n r := by
  refine ⟨h.1, fun hn => ?_⟩
  obtain ⟨b, off, e, hlt, hc⟩ := h.2 hn
  exact ⟨b, off, e, by omega, hc⟩
theorem SetRunsAt.on {w w' : World} {a : Option Addr} {n : Nat} {r : Mp.Runs} (h : SetRunsAt w w.heap.size a n r) (hb : Below w.heap.size w w') : SetRunsAt w' w'.heap.size a n r := (h.below hb).more hb.size
theorem set_runs_cell {w : World} {B n : Nat} {a : Option Addr} {r : Mp.Runs} (h : SetRunsAt w B a n r) {k : Nat} (hk : k < n) :
    ∃ b off m x, a = some ⟨b, off, none⟩ ∧ b < B ∧ r.getD k (0, Sl.no) = (m, x) ∧ k < r.length ∧ w.cell? ⟨b, off + k * 5, none⟩ = some (.int .i64 (m : Int)) ∧ w.cell? ⟨b, off + k * 5 + 1, none⟩ = some (.int .u64 (x.a : Int)) ∧ w.cell? ⟨b, off + k * 5 + 2, none⟩ = some (.int .u64 (x.b : Int)) ∧ w.cell? ⟨b, off + k * 5 + 3, none⟩ = some (.int .u64 (x.c : Int)) ∧ w.cell? ⟨b, off + k * 5 + 4, none⟩ = some (.int .u64 (x.d : Int)) := by
  obtain ⟨b, off, e, hlt, hc⟩ := h.2 (by omega)
  obtain ⟨h1, h2⟩ := hc k hk
  exact ⟨b, off, _, _, e, hlt, rfl, by rw [h.1]; exact hk, h1, h2 0 (by decide), h2 1 (by decide), h2 2 (by decide), h2 3 (by decide)⟩
theorem set_runs_of_own {w : World} {b n : Nat} {e : TypeId} {A : Option Addr} {k c : Nat} {r : Mp.Runs} (h : w.ownsRow b e 5 (.slice A k c) n (runs r)) : k = n ∧ SetRunsAt w w.heap.size A k r ∧ r.length = n ∧ k ≤ c := by
  have hl : r.length = n := by have := h.1; rw [runs_length] at this; omega
  have hlt := h.lt
  rcases h.2 with ⟨hv, hn⟩ | ⟨g, cap, cur, hv, hg, hh, hnc, hcm, hcs, ht⟩
  · injection hv with h1 h2 h3
    subst h1 h2 h3 hn
    exact ⟨rfl, ⟨hl, fun h => absurd h (by omega)⟩, hl, Nat.le_refl _⟩
  · injection hv with h1 h2 h3
    subst h1 h2 h3
    refine ⟨rfl, ⟨hl, fun hn => ⟨g, 0, rfl, (hlt g rfl).2, fun i hi => ?_⟩⟩, hl, hnc⟩
    obtain ⟨e0, e1⟩ := runs_get r i (by omega)
    refine ⟨?_, fun j hj => ?_⟩
    · rw [← ht, List.getElem?_take, if_pos (by omega), Array.getElem?_toList] at e0
      rw [Nat.zero_add, cell_of_row w g _ cur _ _ hh]
      exact e0
    · have e2 := e1 j hj
      rw [← ht, List.getElem?_take, if_pos (by omega), Array.getElem?_toList] at e2
      rw [Nat.zero_add, cell_of_row w g _ cur _ _ hh]
      exact e2
theorem set_runs_slice {w : World} {b : Nat} {e : TypeId} {v : Value} {r : Mp.Runs} (h : w.ownsRow b e 5 v r.length (runs r)) : ∃ A c, v = .slice A r.length c ∧ SetRunsAt w w.heap.size A r.length r ∧ r.length ≤ c := by
  rcases h.2 with ⟨rfl, hn⟩ | ⟨g, cap, cur, rfl, _⟩
  · have hi := set_runs_of_own h
    rw [← hn] at hi
    exact ⟨none, 0, by rw [hn], hi.2.1, by omega⟩
  · exact ⟨_, cap, rfl, (set_runs_of_own h).2.1, (set_runs_of_own h).2.2.2⟩
/-- One run more: its cells in new memory. -/
theorem new_set_run (w : World) (t : TypeId) (m : Nat) (s : Sl.Four) : ∀ j u, (runs [(m, s)])[j]? = some u → (w.alloc (.cells #[.int .i64 (m : Int), .int .u64 (s.a : Int), .int .u64 (s.b : Int), .int .u64 (s.c : Int), .int .u64 (s.d : Int)] t)).cell? ((⟨w.heap.size, 0, none⟩ : Addr).add j) = some u :=
  World.news_of_block (heap_alloc_new w (.cells #[.int .i64 (m : Int), .int .u64 (s.a : Int), .int .u64 (s.b : Int), .int .u64 (s.c : Int), .int .u64 (s.d : Int)] t))
end Go.Proofs.Ytngkjmghhoemgaa
