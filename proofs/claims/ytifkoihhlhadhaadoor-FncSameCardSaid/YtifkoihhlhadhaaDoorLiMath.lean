/-
  Which instructions a line is of: the plain mathematics. Conditions: none.
-/
import Derived.Test.YtifkoihhlhadhaaDoorRuMath
namespace Go.Proofs.YtifkoihhlhadhaaDoor.Li

/-- May a number be a line? -/
def may (x : Int) : Bool := decide (0 ≤ x) && decide (x ≤ 65535)
/-- May a row be a table of lines? -/
def right (l : List Int) : Bool := decide (l.length ≤ 2000) && l.all may
/-- The line of an instruction. -/
def at_ (l : List Int) (pc : Int) : Int := if pc < 0 ∨ (l.length : Int) ≤ pc then 0 else l.getD pc.toNat 0
theorem all_take_succ {l : List Int} {k : Nat} (h : k < l.length) : (l.take (k + 1)).all may = ((l.take k).all may && may (l.getD k 0)) := by
  rw [Ru.take_snoc l k h, List.all_append]
  simp
theorem all_bad {l : List Int} {k : Nat} (h : k < l.length) (hb : may (l.getD k 0) = false) : l.all may = false := by
  rw [List.all_eq_false]
  refine ⟨l[k], List.getElem_mem h, ?_⟩
  have : l.getD k 0 = l[k] := by simp [List.getD, h]
  rw [this] at hb
  simp [hb]

/-- How many numbers runs have. -/
def total : Ru.Runs → Int
  | [] => 0
  | p :: r => p.1 + total r
/-- Where a line is in runs that begin at a: from, and ahead of. -/
def spans (line : Int) : Int → Ru.Runs → Ru.Runs
  | _, [] => []
  | a, p :: r => (if p.2 = line then [(a, a + p.1)] else []) ++ spans line (a + p.1) r
/-- Where a line is in a row. -/
def of (line : Int) (l : List Int) : Ru.Runs := spans line 0 (Ru.of l)
/-- Instruction i more, of line x. -/
def step (line : Int) (out : Ru.Runs) (i x : Int) : Ru.Runs :=
  if x = line then
    match out.getLast? with
    | some p => if p.2 = i then out.dropLast ++ [(p.1, i + 1)] else out ++ [(i, i + 1)]
    | none => [(i, i + 1)]
  else out

theorem total_snoc (r : Ru.Runs) (p : Int × Int) : total (r ++ [p]) = total r + p.1 := by
  induction r with
  | nil => simp [total]
  | cons q r ih => simp only [List.cons_append, total, ih]; omega
theorem total_append (a b : Ru.Runs) : total (a ++ b) = total a + total b := by
  induction a with
  | nil => simp [total]
  | cons q r ih => simp only [List.cons_append, total, ih]; omega
theorem total_pos {r : Ru.Runs} (h : ∀ p ∈ r, 1 ≤ p.1) : 0 ≤ total r := by
  induction r with
  | nil => exact Int.le_refl _
  | cons q r ih =>
    have h1 := h q (by simp)
    have h2 := ih (fun p hp => h p (by simp [hp]))
    simp only [total]
    omega
theorem total_take {r : Ru.Runs} {k : Nat} (h : k < r.length) : total (r.take (k + 1)) = total (r.take k) + (r.getD k (0, 0)).1 := by
  rw [Ru.taken h (0, 0), total_snoc]
theorem total_part {r : Ru.Runs} (h : ∀ p ∈ r, 1 ≤ p.1) (k : Nat) : 0 ≤ total (r.take k) ∧ total (r.take k) ≤ total r := by
  have h1 := total_pos (r := r.take k) (fun p hp => h p (List.mem_of_mem_take hp))
  have h2 := total_pos (r := r.drop k) (fun p hp => h p (List.mem_of_mem_drop hp))
  have h3 := total_append (r.take k) (r.drop k)
  rw [List.take_append_drop] at h3
  omega
theorem total_of (l : List Int) : total (Ru.of l) = (l.length : Int) := by
  induction l using Ru.snocRec with
  | nil => rfl
  | append_singleton l x ih =>
    rw [Ru.of_snoc, List.length_append, List.length_singleton]
    rcases Ru.last_cases (Ru.of l) with h | ⟨pre, ⟨n, v⟩, h⟩
    · rw [h] at ih ⊢
      rw [Ru.snoc_nil]
      simp only [total] at ih ⊢
      omega
    · rw [h] at ih ⊢
      rw [total_snoc] at ih
      by_cases e : v = x
      · subst e
        rw [Ru.snoc_same, total_snoc]
        simp only at ih ⊢
        omega
      · rw [Ru.snoc_other _ _ _ _ e, total_snoc, total_snoc]
        simp only at ih ⊢
        omega

theorem spans_snoc (line : Int) (r : Ru.Runs) (p : Int × Int) : ∀ a, spans line a (r ++ [p]) = spans line a r ++ (if p.2 = line then [(a + total r, a + total r + p.1)] else []) := by
  induction r with
  | nil => intro a; simp [spans, total]
  | cons q r ih =>
    intro a
    simp only [List.cons_append, spans, total, ih, List.append_assoc, Int.add_assoc]
theorem spans_take {line a : Int} {r : Ru.Runs} {k : Nat} (h : k < r.length) : spans line a (r.take (k + 1)) = spans line a (r.take k) ++ (if (r.getD k (0, 0)).2 = line then [(a + total (r.take k), a + total (r.take k) + (r.getD k (0, 0)).1)] else []) := by
  rw [Ru.taken h (0, 0), spans_snoc]
theorem spans_len (line : Int) (r : Ru.Runs) : ∀ a, (spans line a r).length ≤ r.length := by
  induction r with
  | nil => intro a; exact Nat.le_refl _
  | cons q r ih =>
    intro a
    have := ih (a + q.1)
    simp only [spans, List.length_append, List.length_cons]
    split <;> simp <;> omega
theorem spans_end {line : Int} {r : Ru.Runs} (h : ∀ p ∈ r, 1 ≤ p.1) : ∀ a, ∀ q ∈ spans line a r, q.2 ≤ a + total r := by
  induction r with
  | nil => intro a q hq; simp [spans] at hq
  | cons p r ih =>
    intro a q hq
    have h1 := h p (by simp)
    have h2 := total_pos (r := r) (fun p hp => h p (by simp [hp]))
    simp only [total]
    rcases List.mem_append.1 hq with hq | hq
    · split at hq
      · rw [List.mem_singleton] at hq
        subst hq
        simp only
        omega
      · simp at hq
    · have := ih (fun p hp => h p (by simp [hp])) _ q hq
      omega
theorem of_len (line : Int) (l : List Int) : (of line l).length ≤ l.length := Nat.le_trans (spans_len _ _ _) (Ru.of_len l)

theorem step_other {line x : Int} (out : Ru.Runs) (i : Int) (h : x ≠ line) : step line out i x = out := by rw [step, if_neg h]
theorem step_nil (line i : Int) : step line [] i line = [(i, i + 1)] := by simp [step]
theorem step_same (line i f : Int) (pre : Ru.Runs) : step line (pre ++ [(f, i)]) i line = pre ++ [(f, i + 1)] := by simp [step]
theorem step_new {line i f t : Int} (pre : Ru.Runs) (h : t ≠ i) : step line (pre ++ [(f, t)]) i line = pre ++ [(f, t)] ++ [(i, i + 1)] := by simp [step, h]
theorem of_snoc (line : Int) (l : List Int) (x : Int) : of line (l ++ [x]) = step line (of line l) l.length x := by
  have ht := total_of l
  have hp := Ru.of_pos l
  unfold of
  rw [Ru.of_snoc]
  rcases Ru.last_cases (Ru.of l) with h | ⟨pre, ⟨n, v⟩, h⟩
  · rw [h] at ht ⊢
    simp only [total] at ht
    rw [Ru.snoc_nil, ← ht]
    by_cases e : x = line
    · subst e
      simp [spans, step]
    · simp [spans, step, e]
  · rw [h] at ht hp ⊢
    rw [total_snoc] at ht
    have hn : 1 ≤ n := hp (n, v) (by simp)
    by_cases e : v = x
    · subst e
      rw [Ru.snoc_same, spans_snoc, spans_snoc]
      by_cases e2 : v = line
      · subst e2
        simp only [if_true, Int.zero_add]
        simp only at ht
        rw [ht, step_same, ← ht, Int.add_assoc]
      · simp only [if_neg e2]
        rw [step_other _ _ e2]
    · rw [Ru.snoc_other _ _ _ _ e, spans_snoc, total_snoc, spans_snoc]
      by_cases e2 : x = line
      · subst e2
        simp only [if_true, if_neg e, List.append_nil, Int.zero_add]
        simp only at ht
        rw [ht]
        rcases Ru.last_cases (spans x 0 pre) with hs | ⟨q, ⟨f, t⟩, hs⟩
        · rw [hs, step_nil]
          rfl
        · have := spans_end (line := x) (r := pre) (fun p hp' => hp p (by simp [hp'])) 0 (f, t) (by rw [hs]; simp)
          rw [hs, step_new]
          simp only at this
          omega
      · simp only [if_neg e2, List.append_nil]
        rw [step_other _ _ e2]
theorem of_take (line : Int) (l : List Int) (k : Nat) (h : k < l.length) : of line (l.take (k + 1)) = step line (of line (l.take k)) (k : Int) (l.getD k 0) := by
  rw [Ru.take_snoc l k h, of_snoc, List.length_take, Nat.min_eq_left (Nat.le_of_lt h)]

end Go.Proofs.YtifkoihhlhadhaaDoor.Li
