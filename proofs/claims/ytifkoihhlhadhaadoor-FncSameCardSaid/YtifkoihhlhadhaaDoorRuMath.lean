/-
  Rows of numbers as runs: the plain mathematics. Conditions: none.
-/
import Derived.Test.YtifkoihhlhadhaaDoorMath
namespace Go.Proofs.YtifkoihhlhadhaaDoor.Ru

theorem snocRec {α : Type} {motive : List α → Prop} (nil : motive []) (append_singleton : ∀ l x, motive l → motive (l ++ [x])) (l : List α) : motive l := by
  rw [← List.reverse_reverse l]
  induction l.reverse with
  | nil => exact nil
  | cons x r ih => rw [List.reverse_cons]; exact append_singleton _ _ ih

/-- Runs: how many alike there are, and what they are. -/
abbrev Runs := List (Int × Int)

/-- One number more behind runs. -/
def snoc (r : Runs) (x : Int) : Runs :=
  match r.getLast? with
  | some p => if p.2 = x then r.dropLast ++ [(p.1 + 1, x)] else r ++ [(1, x)]
  | none => [(1, x)]
/-- The runs of a row. -/
def of (l : List Int) : Runs := l.foldl snoc []
theorem of_snoc (l : List Int) (x : Int) : of (l ++ [x]) = snoc (of l) x := by simp [of, List.foldl_append]
theorem snoc_nil (x : Int) : snoc [] x = [(1, x)] := rfl
theorem snoc_same (pre : Runs) (n x : Int) : snoc (pre ++ [(n, x)]) x = pre ++ [(n + 1, x)] := by simp [snoc]
theorem snoc_other (pre : Runs) (n v x : Int) (h : v ≠ x) : snoc (pre ++ [(n, v)]) x = pre ++ [(n, v)] ++ [(1, x)] := by simp [snoc, h]
theorem last_cases (r : Runs) : r = [] ∨ ∃ pre p, r = pre ++ [p] := by
  rcases List.eq_nil_or_concat r with h | ⟨a, b, h⟩
  · exact .inl h
  · exact .inr ⟨a, b, by simpa using h⟩
theorem take_snoc (l : List Int) (k : Nat) (h : k < l.length) : l.take (k + 1) = l.take k ++ [l.getD k 0] := by
  rw [List.take_succ_eq_append_getElem h]
  simp [List.getD, h]
theorem of_take (l : List Int) (k : Nat) (h : k < l.length) : of (l.take (k + 1)) = snoc (of (l.take k)) (l.getD k 0) := by rw [take_snoc l k h, of_snoc]

/-- Ahead of number k: the runs pre are told, m numbers of the next one are gone by. -/
def Part (l : List Int) (k : Nat) (pre : Runs) (m : Nat) : Prop :=
  m ≤ k ∧ pre.length ≤ k ∧ (k < l.length → snoc (of (l.take k)) (l.getD k 0) = pre ++ [((m : Int) + 1, l.getD k 0)]) ∧ (l.length ≤ k → pre = of l)
theorem part_start (l : List Int) : Part l 0 [] 0 := by
  refine ⟨Nat.le_refl _, Nat.le_refl _, fun _ => ?_, fun h => ?_⟩
  · simp [of, snoc_nil]
  · rw [List.eq_nil_of_length_eq_zero (Nat.le_zero.1 h)]
    rfl
theorem part_go {l : List Int} {k m : Nat} {pre : Runs} (h : Part l k pre m) (hk : k + 1 < l.length) (he : l.getD (k + 1) 0 = l.getD k 0) : Part l (k + 1) pre (m + 1) := by
  obtain ⟨h1, h2, h3, h4⟩ := h
  refine ⟨by omega, by omega, fun _ => ?_, fun h => by omega⟩
  rw [of_take l k (by omega), h3 (by omega), he, snoc_same]
  simp
theorem part_tell {l : List Int} {k m : Nat} {pre : Runs} (h : Part l k pre m) (hk : k < l.length) (he : k + 1 < l.length → l.getD (k + 1) 0 ≠ l.getD k 0) : Part l (k + 1) (pre ++ [((m : Int) + 1, l.getD k 0)]) 0 := by
  obtain ⟨h1, h2, h3, h4⟩ := h
  refine ⟨by omega, by simp; omega, fun h => ?_, fun h => ?_⟩
  · rw [of_take l k (by omega), h3 hk, snoc_other _ _ _ _ (fun e => he h e.symm)]
    simp
  · rw [← h3 hk, ← of_take l k hk, List.take_of_length_le h]

/-- The row of runs, up to 2000. -/
def rowStep (out : List Int) (p : Int × Int) : List Int := out ++ List.replicate (min p.1 (2000 - (out.length : Int))).toNat p.2
def row (r : Runs) : List Int := r.foldl rowStep []
theorem row_snoc (r : Runs) (p : Int × Int) : row (r ++ [p]) = rowStep (row r) p := by simp [row, List.foldl_append]
theorem rowStep_len {out : List Int} (p : Int × Int) (h : out.length ≤ 2000) : (rowStep out p).length ≤ 2000 := by
  simp only [rowStep, List.length_append, List.length_replicate]
  omega
theorem row_len (r : Runs) : (row r).length ≤ 2000 := by
  have : ∀ (r : Runs) (o : List Int), o.length ≤ 2000 → (r.foldl rowStep o).length ≤ 2000 := by
    intro r
    induction r with
    | nil => exact fun o h => h
    | cons p r ih => exact fun o h => ih _ (rowStep_len p h)
  exact this r [] (by simp)
theorem taken {α : Type} {l : List α} {k : Nat} (h : k < l.length) (d : α) : l.take (k + 1) = l.take k ++ [l.getD k d] := by
  rw [List.take_succ_eq_append_getElem h]
  simp [List.getD, h]
theorem row_take {r : Runs} {k : Nat} (h : k < r.length) : row (r.take (k + 1)) = rowStep (row (r.take k)) (r.getD k (0, 0)) := by rw [taken h (0, 0), row_snoc]

/-- All numbers of runs. -/
def flat (r : Runs) : List Int := r.flatMap fun p => List.replicate p.1.toNat p.2
theorem flat_append (a b : Runs) : flat (a ++ b) = flat a ++ flat b := by simp [flat]
theorem flat_one (p : Int × Int) : flat [p] = List.replicate p.1.toNat p.2 := by simp [flat]
theorem row_flat (r : Runs) : (flat r).length ≤ 2000 → row r = flat r := by
  induction r using snocRec with
  | nil => exact fun _ => rfl
  | append_singleton r p ih =>
    intro h
    rw [flat_append, flat_one, List.length_append, List.length_replicate] at h
    rw [row_snoc, flat_append, flat_one, ih (by omega), rowStep]
    congr 2
    omega
theorem snoc_pos {r : Runs} (h : ∀ p ∈ r, 1 ≤ p.1) (x : Int) : ∀ p ∈ snoc r x, 1 ≤ p.1 := by
  rcases last_cases r with rfl | ⟨pre, ⟨n, v⟩, rfl⟩
  · intro p hp
    rw [snoc_nil, List.mem_singleton] at hp
    subst hp
    exact Int.le_refl _
  · have hn : 1 ≤ n := h (n, v) (by simp)
    have hpre : ∀ p ∈ pre, 1 ≤ p.1 := fun p hp => h p (by simp [hp])
    by_cases e : v = x
    · subst e
      rw [snoc_same]
      intro p hp
      rcases List.mem_append.1 hp with hp | hp
      · exact hpre p hp
      · rw [List.mem_singleton] at hp
        subst hp
        show 1 ≤ n + 1
        omega
    · rw [snoc_other _ _ _ _ e]
      intro p hp
      rcases List.mem_append.1 hp with hp | hp
      · rcases List.mem_append.1 hp with hp | hp
        · exact hpre p hp
        · rw [List.mem_singleton] at hp
          subst hp
          exact hn
      · rw [List.mem_singleton] at hp
        subst hp
        exact Int.le_refl _
theorem flat_snoc {r : Runs} (h : ∀ p ∈ r, 1 ≤ p.1) (x : Int) : flat (snoc r x) = flat r ++ [x] := by
  rcases last_cases r with rfl | ⟨pre, ⟨n, v⟩, rfl⟩
  · rfl
  · have hn : 1 ≤ n := h (n, v) (by simp)
    by_cases e : v = x
    · subst e
      rw [snoc_same, flat_append, flat_append, flat_one, flat_one, List.append_assoc, show (n + 1).toNat = n.toNat + 1 by omega, List.replicate_succ']
    · rw [snoc_other _ _ _ _ e, flat_append, flat_one]
      rfl
theorem of_pos (l : List Int) : ∀ p ∈ of l, 1 ≤ p.1 := by
  induction l using snocRec with
  | nil => intro p hp; simp [of] at hp
  | append_singleton l x ih => rw [of_snoc]; exact snoc_pos ih x
theorem flat_of (l : List Int) : flat (of l) = l := by
  induction l using snocRec with
  | nil => rfl
  | append_singleton l x ih => rw [of_snoc, flat_snoc (of_pos l), ih]
theorem row_of {l : List Int} (h : l.length ≤ 2000) : row (of l) = l := by
  rw [row_flat _ (by rw [flat_of]; exact h), flat_of]
theorem of_len (l : List Int) : (of l).length ≤ l.length := by
  induction l using snocRec with
  | nil => exact Nat.le_refl _
  | append_singleton l x ih =>
    rw [of_snoc]
    rcases last_cases (of l) with e | ⟨pre, ⟨n, v⟩, e⟩
    · rw [e, snoc_nil]; simp
    · rw [e] at ih ⊢
      by_cases ev : v = x
      · subst ev
        rw [snoc_same]
        simp at ih ⊢
        omega
      · rw [snoc_other _ _ _ _ ev]
        simp at ih ⊢
        omega

/-- Whether runs are a row's: what is left, and the last one's number; none: they are not. -/
def stepR (st : Option (Int × Option Int)) (p : Int × Int) : Option (Int × Option Int) :=
  match st with
  | none => none
  | some (left, prev) => if p.1 < 1 ∨ left < p.1 ∨ prev = some p.2 then none else some (left - p.1, some p.2)
def rightS (r : Runs) : Option (Int × Option Int) := r.foldl stepR (some (2000, none))
def right (r : Runs) : Bool := (rightS r).isSome
theorem rightS_snoc (r : Runs) (p : Int × Int) : rightS (r ++ [p]) = stepR (rightS r) p := by simp [rightS, List.foldl_append]
theorem rightS_take {r : Runs} {k : Nat} (h : k < r.length) : rightS (r.take (k + 1)) = stepR (rightS (r.take k)) (r.getD k (0, 0)) := by rw [taken h (0, 0), rightS_snoc]
theorem step_none (r : Runs) : r.foldl stepR none = none := by
  induction r with
  | nil => rfl
  | cons p r ih => exact ih
theorem right_false {r : Runs} {k : Nat} (h : rightS (r.take k) = none) : right r = false := by
  unfold right rightS
  rw [← List.take_append_drop k r, List.foldl_append]
  unfold rightS at h
  rw [h, step_none]
  rfl
theorem rightS_of (l : List Int) : l.length ≤ 2000 → rightS (of l) = some (2000 - (l.length : Int), l.getLast?) := by
  induction l using snocRec with
  | nil => exact fun _ => rfl
  | append_singleton l x ih =>
    intro h
    rw [List.length_append, List.length_singleton] at h
    have ih := ih (by omega)
    rw [of_snoc]
    have hp := of_pos l
    rcases last_cases (of l) with e | ⟨pre, ⟨n, v⟩, e⟩
    · have hl : l = [] := by rw [← flat_of l, e]; rfl
      subst hl
      rw [e, snoc_nil]
      rfl
    · rw [e] at ih hp ⊢
      have hn : 1 ≤ n := hp (n, v) (by simp)
      rw [rightS_snoc] at ih
      cases hs : rightS pre with
      | none => rw [hs] at ih; cases ih
      | some st =>
        obtain ⟨left, prev⟩ := st
        rw [hs] at ih
        simp only [stepR] at ih
        by_cases hc : n < 1 ∨ left < n ∨ prev = some v
        · rw [if_pos hc] at ih; cases ih
        · rw [if_neg hc] at ih
          injection ih with ih
          injection ih with ih1 ih2
          have hc2 : ¬ prev = some v := fun e => hc (.inr (.inr e))
          by_cases ev : v = x
          · subst ev
            rw [snoc_same, rightS_snoc, hs]
            simp only [stepR]
            rw [if_neg (by rintro (a | a | a) <;> first | omega | exact hc2 a)]
            simp
            omega
          · rw [snoc_other _ _ _ _ ev, rightS_snoc, rightS_snoc, hs]
            simp only [stepR]
            rw [if_neg hc]
            simp only
            rw [if_neg (by rintro (a | a | a) <;> first | omega | (injection a with a; exact ev a))]
            simp
            omega
theorem right_of {l : List Int} (h : l.length ≤ 2000) : right (of l) = true := by
  unfold right
  rw [rightS_of l h]
  rfl

/-- The bytes of runs. -/
def laid (r : Runs) : List Nat := r.flatMap fun p => Uv.put p.1.toNat ++ Uv.put (Uv.fold p.2)
theorem laid_append (a b : Runs) : laid (a ++ b) = laid a ++ laid b := by simp [laid]
theorem laid_one (p : Int × Int) : laid [p] = Uv.put p.1.toNat ++ Uv.put (Uv.fold p.2) := by simp [laid]
theorem laid_byte (r : Runs) : ∀ c ∈ laid r, c < 256 := by
  intro c hc
  obtain ⟨p, _, hp⟩ := List.mem_flatMap.1 hc
  rcases List.mem_append.1 hp with h | h
  · exact Uv.put_byte _ c h
  · exact Uv.put_byte _ c h
/-- Runs whose numbers are of their type. -/
def Fits (r : Runs) : Prop := ∀ p ∈ r, 0 ≤ p.1 ∧ p.1 ≤ 9223372036854775807 ∧ -9223372036854775808 ≤ p.2 ∧ p.2 ≤ 9223372036854775807
theorem laid_len {r : Runs} (h : Fits r) : (laid r).length ≤ 20 * r.length := by
  induction r with
  | nil => exact Nat.le_refl _
  | cons p r ih =>
    obtain ⟨h0, h1, h2, h3⟩ := h p (by simp)
    have a := Uv.put_len_10 (n := p.1.toNat) (by omega)
    have b := Uv.put_len_10 (Uv.fold_lt h2 h3)
    have c := ih (fun q hq => h q (by simp [hq]))
    have e : laid (p :: r) = laid [p] ++ laid r := laid_append [p] r
    rw [e, laid_one]
    simp only [List.length_append, List.length_cons]
    omega

end Go.Proofs.YtifkoihhlhadhaaDoor.Ru
