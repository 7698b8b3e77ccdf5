/-
  Where a function's instructions lead: the plain mathematics. Conditions: none.
-/
import Derived.Test.YtngkjmghhoemgaaFnMath
import Derived.Test.YtngkjmghhoemgaaPMa
namespace Go.Proofs.Ytngkjmghhoemgaa.Fw

variable (f : Fn.F)
def has (x : Int) : Bool := decide (0 ≤ x ∧ x < (f.code.length : Int))
def op (k : Nat) : Int := (f.code.getD k (0, 0)).1
def arg (k : Nat) : Int := (f.code.getD k (0, 0)).2
def node (k : Nat) : Int := f.at_.getD k 0
/-- Where a node ends. -/
def resume (n : Int) : List Int := if 1 ≤ n ∧ n < (f.nodes.length : Int) then [(f.nodes.getD n.toNat Tr.Nd.nil).r] else []
def next (k : Nat) : List Int :=
  if op f k = 22 then (if arg f k = (k : Int) + 1 then [arg f k] else [(k : Int) + 1, arg f k])
  else if op f k = 21 then [arg f k]
  else if op f k = 34 then resume f (arg f k)
  else if op f k = 25 ∨ op f k = 26 then []
  else [(k : Int) + 1]
def caught (l : List Int) : List Int := l.flatMap (resume f)
def catch_ (k : Nat) : List Int := if (Op.row (op f k)).raises then caught f (Tr.ups f.nodes (node f k)) else []
def opens (k : Nat) : List Int := if op f k = 33 then resume f (arg f k) else []
def leads (k : Nat) : List Int := next f k ++ (catch_ f k ++ opens f k)
/-- Is there each that it leads to? -/
def good (k : Nat) : Bool := (next f k ++ catch_ f k).all (has f)
def within : Bool := (List.range f.code.length).all (good f)

/-- What is reached of what is to do, behind what was reached: R. -/
inductive Runs : List Bool → List Int → List Bool → Prop
  | done (out : List Bool) : Runs out [] out
  | skip (out : List Bool) (x : Int) (r : List Int) (R : List Bool) : (has f x = false ∨ out.getD x.toNat false = true) → Runs out r R → Runs out (x :: r) R
  | go (out : List Bool) (k : Nat) (r : List Int) (R : List Bool) : k < f.code.length → out.getD k false = false → Runs (out.set k true) (r ++ leads f k) R → Runs out ((k : Int) :: r) R

variable {f}
theorem has_in {k : Nat} (h : k < f.code.length) : has f (k : Int) = true := decide_eq_true ⟨by omega, by omega⟩
theorem has_nat {x : Int} (h : has f x = true) : ∃ k : Nat, x = (k : Int) ∧ k < f.code.length := by
  have := of_decide_eq_true h
  exact ⟨x.toNat, by omega, by omega⟩
theorem runs_end {out R : List Bool} (h : Runs f out [] R) : R = out := by
  cases h
  rfl
theorem runs_skip {out R : List Bool} {x : Int} {r : List Int} (h : Runs f out (x :: r) R) (hs : has f x = false ∨ out.getD x.toNat false = true) : Runs f out r R := by
  cases h with
  | skip _ _ _ _ _ h => exact h
  | go _ k _ _ hk ho h =>
    rcases hs with hs | hs
    · rw [has_in hk] at hs; cases hs
    · rw [Int.toNat_natCast, ho] at hs; cases hs
theorem runs_go {out R : List Bool} {k : Nat} {r : List Int} (h : Runs f out ((k : Int) :: r) R) (hk : k < f.code.length) (ho : out.getD k false = false) : Runs f (out.set k true) (r ++ leads f k) R := by
  generalize hx : (k : Int) = x at h
  cases h with
  | skip _ _ _ _ hs h =>
    subst hx
    rcases hs with hs | hs
    · rw [has_in hk] at hs; cases hs
    · rw [Int.toNat_natCast, ho] at hs; cases hs
  | go _ j _ _ hj ho' h =>
    obtain rfl : j = k := by omega
    exact h

theorem resume_len (n : Int) : (resume f n).length ≤ 1 := by
  unfold resume
  split <;> simp
theorem next_len (k : Nat) : (next f k).length ≤ 2 := by
  unfold next
  have := resume_len (f := f) (arg f k)
  repeat' split
  all_goals first | (simp; done) | omega
theorem caught_len : ∀ l : List Int, (caught f l).length ≤ l.length
  | [] => Nat.le_refl _
  | x :: l => by
    have h1 := caught_len l
    have h2 := resume_len (f := f) x
    unfold caught at h1 ⊢
    rw [List.flatMap_cons, List.length_append, List.length_cons]
    omega
theorem catch_len (k : Nat) : (catch_ f k).length ≤ f.nodes.length + 1 := by
  unfold catch_
  split
  · exact Nat.le_trans (caught_len _) (Tr.up_len _ _ _)
  · simp
theorem opens_len (k : Nat) : (opens f k).length ≤ 1 := by
  unfold opens
  split
  · exact resume_len _
  · simp
theorem leads_len (k : Nat) : (leads f k).length ≤ f.nodes.length + 4 := by
  unfold leads
  have h1 := next_len (f := f) k
  have h2 := catch_len (f := f) k
  have h3 := opens_len (f := f) k
  rw [List.length_append, List.length_append]
  omega
theorem caught_succ {l : List Int} {k : Nat} (h : k < l.length) : caught f (l.take (k + 1)) = caught f (l.take k) ++ resume f (l.getD k 0) := by
  rw [take_snoc l k h]
  unfold caught
  rw [List.flatMap_append]
  simp

/-- How many are not reached. -/
def falses (l : List Bool) : Nat := l.countP (fun b => !b)
theorem falses_set {l : List Bool} {k : Nat} (h : k < l.length) (ho : l.getD k false = false) : falses (l.set k true) + 1 = falses l := by
  have hk : l[k] = false := by
    simp only [List.getD, List.getElem?_eq_getElem h, Option.getD_some] at ho
    exact ho
  unfold falses
  rw [List.countP_set h, hk]
  have : 0 < l.countP (fun b => !b) := List.countP_pos_iff.2 ⟨l[k], List.getElem_mem h, by rw [hk]; rfl⟩
  simp
  omega
/-- It ends. -/
theorem runs_ends (f : Fn.F) : ∀ (n : Nat) (out : List Bool) (todo : List Int), out.length = f.code.length → falses out * (f.nodes.length + 5) + todo.length ≤ n → ∃ R, Runs f out todo R ∧ R.length = f.code.length
  | n, out, [], hl, _ => ⟨out, .done out, hl⟩
  | 0, out, x :: r, _, h => by simp at h
  | n + 1, out, x :: r, hl, h => by
    rw [List.length_cons] at h
    by_cases hs : has f x = false ∨ out.getD x.toNat false = true
    · obtain ⟨R, hR, hn⟩ := runs_ends f n out r hl (by omega)
      exact ⟨R, .skip _ _ _ _ hs hR, hn⟩
    · have h1 : has f x = true := by
        cases e : has f x with
        | true => rfl
        | false => exact absurd (.inl e) hs
      have h2 : out.getD x.toNat false = false := by
        cases e : out.getD x.toNat false with
        | false => rfl
        | true => exact absurd (.inr e) hs
      obtain ⟨k, rfl, hk⟩ := has_nat h1
      rw [Int.toNat_natCast] at h2
      have hf := falses_set (by omega) h2
      have hle := leads_len (f := f) k
      have e : (falses (out.set k true) + 1) * (f.nodes.length + 5) = falses (out.set k true) * (f.nodes.length + 5) + (f.nodes.length + 5) := by rw [Nat.add_mul, Nat.one_mul]
      rw [hf] at e
      obtain ⟨R, hR, hn⟩ := runs_ends f n (out.set k true) (r ++ leads f k) (by rw [List.length_set]; exact hl) (by rw [List.length_append]; omega)
      exact ⟨R, .go _ _ _ _ hk h2 hR, hn⟩

theorem within_true (h : ∀ k, k < f.code.length → good f k = true) : within f = true := List.all_eq_true.2 (fun k hk => h k (List.mem_range.1 hk))
theorem within_bad {k : Nat} (h : k < f.code.length) (hb : good f k = false) : within f = false := by
  cases e : within f with
  | false => rfl
  | true =>
    have := List.all_eq_true.1 e k (List.mem_range.2 h)
    rw [hb] at this
    cases this

variable (f)
/-- The instructions at which pieces begin, by instruction k. -/
def turns (k : Nat) : List Int := (if op f k = 21 ∨ op f k = 22 then [arg f k] else []) ++ (if op f k = 22 ∨ (Op.row (op f k)).ends = true then [(k : Int) + 1] else [])
def begun (k : Nat) : List Int := catch_ f k ++ opens f k ++ turns f k
def marks : Nat → List Int
  | 0 => [0]
  | k + 1 => marks k ++ begun f k
/-- Of n numbers those in a list. -/
def mk (n : Nat) (M : List Int) : List Bool := (List.range n).map fun (j : Nat) => decide ((j : Int) ∈ M)
/-- Those of the first k that are marked. -/
def picks (b : List Bool) : Nat → List Int
  | 0 => []
  | k + 1 => picks b k ++ (if b.getD k false = true then [(k : Int)] else [])
def starts : List Int := picks (mk f.code.length (marks f f.code.length)) f.code.length
variable {f}
theorem mk_len (n : Nat) (M : List Int) : (mk n M).length = n := by simp [mk]
theorem mk_get {n : Nat} (M : List Int) {j : Nat} (h : j < n) : (mk n M).getD j false = decide ((j : Int) ∈ M) := by
  simp [mk, List.getD, h]
theorem mk_none (n : Nat) : mk n [] = List.replicate n false := by
  apply List.ext_getElem <;> simp [mk]
theorem mk_set {n k : Nat} (M : List Int) : (mk n M).set k true = mk n (M ++ [(k : Int)]) := by
  apply List.ext_getElem
  · simp [mk]
  · intro i h1 h2
    simp only [mk, List.getElem_set, List.getElem_map, List.getElem_range, List.mem_append, List.mem_singleton]
    by_cases e : k = i
    · subst e
      simp
    · simp [e]
      omega
theorem mk_out {n : Nat} (M : List Int) {x : Int} (h : ¬ (0 ≤ x ∧ x < (n : Int))) : mk n (M ++ [x]) = mk n M := by
  apply List.ext_getElem
  · simp [mk]
  · intro i h1 h2
    simp only [mk, List.length_map, List.length_range] at h1
    simp only [mk, List.getElem_map, List.getElem_range, List.mem_append, List.mem_singleton]
    have : ¬ ((i : Int) = x) := by omega
    simp [this]
theorem picks_mk {n m : Nat} (h : n ≤ m) (M : List Int) : ∀ k, k ≤ n → picks (mk m M) k = picks (mk n M) k
  | 0, _ => rfl
  | k + 1, hk => by rw [picks, picks, picks_mk h M k (by omega), mk_get M (by omega), mk_get M (by omega)]
theorem picks_len (b : List Bool) : ∀ k, (picks b k).length ≤ k
  | 0 => Nat.le_refl _
  | k + 1 => by
    have := picks_len b k
    rw [picks, List.length_append]
    split <;> simp <;> omega
/-- The first one is one. -/
theorem ends_kinds (op : Int) : (op = 22 ∨ (Op.row op).ends = true) ↔ (op = 21 ∨ op = 22 ∨ op = 25 ∨ op = 26 ∨ op = 34) := by
  by_cases h : 0 ≤ op ∧ op < 35
  · obtain ⟨k, rfl⟩ : ∃ k : Nat, op = (k : Int) := ⟨op.toNat, by omega⟩
    have h35 : ∀ j : Nat, j < 35 → (((j : Int) = 22 ∨ (Op.row (j : Int)).ends = true) ↔ ((j : Int) = 21 ∨ (j : Int) = 22 ∨ (j : Int) = 25 ∨ (j : Int) = 26 ∨ (j : Int) = 34)) := by decide
    exact h35 k (by omega)
  · rw [Op.row_out h]
    simp [Op.none_, Op.R]
    omega
theorem begun_len (k : Nat) : (begun f k).length ≤ f.nodes.length + 4 := by
  unfold begun turns
  have h2 := catch_len (f := f) k
  have h3 := opens_len (f := f) k
  rw [List.length_append, List.length_append, List.length_append]
  split <;> split <;> simp <;> omega

/-- What is told of where nodes end lies below 2000. -/
theorem resume_bound (h : f.can = 0) (n : Int) : ∀ x ∈ resume f n, 0 ≤ x ∧ x < 2000 := by
  intro x hx
  unfold resume at hx
  split at hx
  · rename_i hn
    rw [List.mem_singleton] at hx
    obtain ⟨_, _, _, _, _, hb⟩ := Fn.can_ok.1 h
    have hr : Tr.right f.nodes = true := by
      rcases hb with hb | hb
      · unfold Fn.F.bare at hb
        simp only [Bool.and_eq_true, decide_eq_true_eq] at hb
        omega
      · unfold Fn.F.mapped at hb
        rw [Bool.and_eq_true] at hb
        exact hb.1
    have := Tr.right_other hr (k := n.toNat) (by omega) (by omega)
    omega
  · cases hx
theorem caught_bound (h : f.can = 0) (l : List Int) : ∀ x ∈ caught f l, 0 ≤ x ∧ x < 2000 := by
  intro x hx
  obtain ⟨y, _, hy⟩ := List.mem_flatMap.1 hx
  exact resume_bound h y x hy
theorem arg_bound (h : f.can = 0) {k : Nat} (hk : k < f.code.length) (ho : op f k = 21 ∨ op f k = 22) : 0 ≤ arg f k ∧ arg f k < 2000 := by
  obtain ⟨_, _, _, hb, _⟩ := Fn.can_ok.1 h
  have hm := List.all_eq_true.1 hb (f.code[k]) (List.getElem_mem hk)
  have e : f.code.getD k (0, 0) = f.code[k] := by simp [List.getD, hk]
  unfold op at ho
  unfold arg
  rw [e] at ho ⊢
  unfold In.right In.fits at hm
  rw [Bool.and_eq_true, Bool.or_eq_true, Bool.and_eq_true] at hm
  have hk2 : In.kind (f.code[k]).1 = 3 := by
    rcases ho with ho | ho <;> rw [ho] <;> decide
  rw [hk2] at hm
  have := hm.2
  simp [In.bound] at this
  omega
theorem begun_bound (h : f.can = 0) {k : Nat} (hk : k < f.code.length) : ∀ x ∈ begun f k, 0 ≤ x ∧ x < (f.code.length : Int) + 2000 := by
  intro x hx
  unfold begun catch_ opens turns at hx
  rcases List.mem_append.1 hx with hx | hx
  · rcases List.mem_append.1 hx with hx | hx
    · split at hx
      · have := caught_bound h _ x hx; omega
      · cases hx
    · split at hx
      · have := resume_bound h _ x hx; omega
      · cases hx
  · rcases List.mem_append.1 hx with hx | hx
    · split at hx
      · rename_i ho
        rw [List.mem_singleton] at hx
        have := arg_bound h hk ho
        omega
      · cases hx
    · split at hx
      · rw [List.mem_singleton] at hx
        omega
      · cases hx
end Go.Proofs.Ytngkjmghhoemgaa.Fw
