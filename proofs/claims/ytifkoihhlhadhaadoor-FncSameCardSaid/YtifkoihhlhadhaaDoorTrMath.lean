/-
  Inline trees: the plain mathematics. Conditions: none.
-/
import Derived.Test.YtifkoihhlhadhaaDoorMath
import Derived.Test.YtifkoihhlhadhaaDoorSlM
namespace Go.Proofs.YtifkoihhlhadhaaDoor.Tr

/-- A node: parent, function, line, from, parameters, to, resume. -/
structure Nd where
  p : Int
  f : Int
  l : Int
  a : Int
  g : Int
  t : Int
  r : Int
def Nd.nil : Nd := ⟨0, 0, 0, 0, 0, 0, 0⟩
def Nd.list (n : Nd) : List Int := [n.p, n.f, n.l, n.a, n.g, n.t, n.r]

/-- May a node's numbers be, where to is the greatest To ahead? -/
def fits (to : Int) (n : Nd) : Bool := decide (0 ≤ n.f ∧ n.f ≤ 39 ∧ 0 ≤ n.l ∧ n.l ≤ 65535 ∧ 0 ≤ n.g ∧ n.g ≤ 8 ∧ to ≤ n.a ∧ n.a ≤ 256 ∧ n.a ≤ n.t ∧ n.t ≤ 256 ∧ n.g ≤ n.t - n.a)
def head (n : Nd) : Bool := decide (n.p = -1 ∧ n.l = 0 ∧ n.a = 0 ∧ n.r = 0)
def other (i : Nat) (n : Nd) : Bool := decide (0 ≤ n.p ∧ n.p < (i : Int) ∧ 1 ≤ n.r ∧ n.r ≤ 1999)
def ok (i : Nat) (to : Int) (n : Nd) : Bool := fits to n && (if i = 0 then head n else other i n)
def run : Nat → Int → List Nd → Bool
  | _, _, [] => true
  | i, to, n :: r => ok i to n && run (i + 1) n.t r
/-- May nodes be a tree? -/
def right (l : List Nd) : Bool := decide (1 ≤ l.length) && decide (l.length ≤ 120) && run 0 0 l

theorem drop_at {l : List Nd} {k : Nat} (h : k < l.length) : l.drop k = l.getD k Nd.nil :: l.drop (k + 1) := by
  rw [List.drop_eq_getElem_cons h]
  simp [List.getD, h]
theorem run_at {l : List Nd} {k : Nat} (h : k < l.length) (to : Int) : run k to (l.drop k) = (ok k to (l.getD k Nd.nil) && run (k + 1) (l.getD k Nd.nil).t (l.drop (k + 1))) := by
  rw [drop_at h]
  rfl
theorem run_end {l : List Nd} {k : Nat} (h : l.length ≤ k) (to : Int) : run k to (l.drop k) = true := by
  rw [List.drop_eq_nil_of_le h]
  rfl
theorem right_run {l : List Nd} (h : right l = true) : 1 ≤ l.length ∧ l.length ≤ 120 ∧ run 0 0 l = true := by
  unfold right at h
  simp only [Bool.and_eq_true, decide_eq_true_eq] at h
  exact ⟨h.1.1, h.1.2, h.2⟩
/-- The greatest To ahead of node k. -/
def tos (l : List Nd) (k : Nat) : Int := if k = 0 then 0 else (l.getD (k - 1) Nd.nil).t
theorem tos_succ (l : List Nd) (k : Nat) : tos l (k + 1) = (l.getD k Nd.nil).t := by simp [tos]
theorem right_part {l : List Nd} (h : right l = true) : ∀ k, k ≤ l.length → run k (tos l k) (l.drop k) = true
  | 0, _ => (right_run h).2.2
  | k + 1, hk => by
    have ih := right_part h k (by omega)
    rw [run_at (by omega), Bool.and_eq_true] at ih
    rw [tos_succ]
    exact ih.2
theorem right_ok {l : List Nd} (h : right l = true) {k : Nat} (hk : k < l.length) : ok k (tos l k) (l.getD k Nd.nil) = true := by
  have := right_part h k (by omega)
  rw [run_at hk, Bool.and_eq_true] at this
  exact this.1
theorem fits_iff {to : Int} {n : Nd} : fits to n = true ↔ 0 ≤ n.f ∧ n.f ≤ 39 ∧ 0 ≤ n.l ∧ n.l ≤ 65535 ∧ 0 ≤ n.g ∧ n.g ≤ 8 ∧ to ≤ n.a ∧ n.a ≤ 256 ∧ n.a ≤ n.t ∧ n.t ≤ 256 ∧ n.g ≤ n.t - n.a := decide_eq_true_iff
theorem right_fits {l : List Nd} (h : right l = true) {k : Nat} (hk : k < l.length) : fits (tos l k) (l.getD k Nd.nil) = true := by
  have := right_ok h hk
  unfold ok at this
  rw [Bool.and_eq_true] at this
  exact this.1
theorem right_head {l : List Nd} (h : right l = true) : (l.getD 0 Nd.nil).p = -1 ∧ (l.getD 0 Nd.nil).l = 0 ∧ (l.getD 0 Nd.nil).a = 0 ∧ (l.getD 0 Nd.nil).r = 0 := by
  have := right_ok h (k := 0) (right_run h).1
  unfold ok at this
  rw [Bool.and_eq_true, if_pos rfl] at this
  exact of_decide_eq_true this.2
theorem right_other {l : List Nd} (h : right l = true) {k : Nat} (hk : k < l.length) (h0 : k ≠ 0) : 0 ≤ (l.getD k Nd.nil).p ∧ (l.getD k Nd.nil).p < (k : Int) ∧ 1 ≤ (l.getD k Nd.nil).r ∧ (l.getD k Nd.nil).r ≤ 1999 := by
  have := right_ok h hk
  unfold ok at this
  rw [Bool.and_eq_true, if_neg h0] at this
  exact of_decide_eq_true this.2
theorem right_up {l : List Nd} (h : right l = true) {k : Nat} (hk : k < l.length) : -1 ≤ (l.getD k Nd.nil).p ∧ (l.getD k Nd.nil).p < (k : Int) := by
  by_cases h0 : k = 0
  · subst h0
    have := right_head h
    omega
  · have := right_other h hk h0
    omega

/-- A node, its parent, and so on. -/
def up (l : List Nd) : Nat → Int → List Int
  | 0, _ => []
  | fuel + 1, n => if 0 ≤ n ∧ n < (l.length : Int) then n :: up l fuel (l.getD n.toNat Nd.nil).p else []
def ups (l : List Nd) (n : Int) : List Int := up l (l.length + 1) n
theorem up_out {l : List Nd} {n : Int} (h : ¬ (0 ≤ n ∧ n < (l.length : Int))) : ∀ f, up l f n = []
  | 0 => rfl
  | f + 1 => by rw [up, if_neg h]
theorem up_in {l : List Nd} {n : Int} (h : 0 ≤ n ∧ n < (l.length : Int)) (f : Nat) : up l (f + 1) n = n :: up l f (l.getD n.toNat Nd.nil).p := by rw [up, if_pos h]
theorem up_fuel {l : List Nd} (h : right l = true) : ∀ (f g : Nat) (n : Int), n < (f : Int) → n < (g : Int) → up l f n = up l g n
  | f, g, n, hf, hg => by
    by_cases hn : 0 ≤ n ∧ n < (l.length : Int)
    · obtain ⟨f', rfl⟩ : ∃ f', f = f' + 1 := ⟨f - 1, by omega⟩
      obtain ⟨g', rfl⟩ : ∃ g', g = g' + 1 := ⟨g - 1, by omega⟩
      have hu := right_up h (k := n.toNat) (by omega)
      rw [up_in hn, up_in hn, up_fuel h f' g' _ (by omega) (by omega)]
    · rw [up_out hn, up_out hn]
theorem ups_in {l : List Nd} (h : right l = true) {n : Int} (hn : 0 ≤ n ∧ n < (l.length : Int)) : ups l n = n :: ups l (l.getD n.toNat Nd.nil).p := by
  have hu := right_up h (k := n.toNat) (by omega)
  unfold ups
  rw [up_in hn, up_fuel h l.length (l.length + 1) _ (by omega) (by omega)]
theorem ups_out {l : List Nd} {n : Int} (h : ¬ (0 ≤ n ∧ n < (l.length : Int))) : ups l n = [] := up_out h _
theorem up_len (l : List Nd) : ∀ (f : Nat) (n : Int), (up l f n).length ≤ f
  | 0, _ => Nat.le_refl _
  | f + 1, n => by
    rw [up]
    split
    · have := up_len l f (l.getD n.toNat Nd.nil).p
      rw [List.length_cons]
      omega
    · simp
theorem ups_len {l : List Nd} (h : right l = true) (n : Int) : (ups l n).length ≤ l.length := by
  by_cases hn : 0 ≤ n ∧ n < (l.length : Int)
  · have := up_len l l.length n
    rwa [up_fuel h l.length (l.length + 1) n (by omega) (by omega)] at this
  · rw [ups_out hn]
    exact Nat.zero_le _
theorem up_bound (l : List Nd) : ∀ (f : Nat) (n : Int), ∀ x ∈ up l f n, 0 ≤ x ∧ x < (l.length : Int)
  | 0, _ => by intro x hx; simp [up] at hx
  | f + 1, n => by
    intro x hx
    rw [up] at hx
    split at hx
    · rename_i hn
      rcases List.mem_cons.1 hx with rfl | hx
      · exact hn
      · exact up_bound l f _ x hx
    · simp at hx
/-- Each node stands under the first one. -/
theorem ups_zero {l : List Nd} (h : right l = true) : ∀ k, k < l.length → (0 : Int) ∈ ups l (k : Int) := fun k => by
  induction k using Nat.strongRecOn with
  | ind k ih =>
    intro hk
    rw [ups_in h ⟨by omega, by omega⟩]
    by_cases h0 : k = 0
    · subst h0
      simp
    · have ho := right_other h hk h0
      rw [Int.toNat_natCast]
      obtain ⟨j, hj⟩ : ∃ j : Nat, (l.getD k Nd.nil).p = (j : Int) := ⟨(l.getD k Nd.nil).p.toNat, by omega⟩
      rw [hj] at ho ⊢
      exact List.mem_cons_of_mem _ (ih j (by omega) (by omega))
def inside (l : List Nd) (n under : Int) : Bool := (ups l n).any (· == under)
theorem inside_zero {l : List Nd} (h : right l = true) {k : Nat} (hk : k < l.length) : inside l (k : Int) 0 = true := List.any_eq_true.2 ⟨0, ups_zero h k hk, by simp⟩

/-- The kids among the first k. -/
def kidsTo (l : List Nd) (n : Int) : Nat → List Int
  | 0 => []
  | k + 1 => kidsTo l n k ++ (if 0 ≤ n ∧ (l.getD k Nd.nil).p = n then [(k : Int)] else [])
def kids (l : List Nd) (n : Int) : List Int := kidsTo l n l.length
theorem kidsTo_len (l : List Nd) (n : Int) : ∀ k, (kidsTo l n k).length ≤ k
  | 0 => Nat.le_refl _
  | k + 1 => by
    have := kidsTo_len l n k
    rw [kidsTo, List.length_append]
    split <;> simp <;> omega
theorem kidsTo_none {l : List Nd} {n : Int} (h : n < 0) : ∀ k, kidsTo l n k = []
  | 0 => rfl
  | k + 1 => by rw [kidsTo, kidsTo_none h k, if_neg (by omega)]; rfl

/-- A node's slots. -/
def own (l : List Nd) (n : Int) : Sl.Four := if n < 0 ∨ (l.length : Int) ≤ n then Sl.no else Sl.range (l.getD n.toNat Nd.nil).a (l.getD n.toNat Nd.nil).t
theorem own_in {l : List Nd} {k : Nat} (hk : k < l.length) : own l (k : Int) = Sl.range (l.getD k Nd.nil).a (l.getD k Nd.nil).t := by
  unfold own
  rw [if_neg (by omega), Int.toNat_natCast]
/-- The slots of the first k. -/
def all (l : List Nd) : Nat → Sl.Four
  | 0 => Sl.no
  | k + 1 => (all l k).or (own l (k : Int))
theorem ok_own (l : List Nd) (n : Int) : (own l n).ok := by
  unfold own
  split
  · exact Sl.ok_no
  · exact Sl.ok_span _ _
theorem ok_all (l : List Nd) : ∀ k, (all l k).ok
  | 0 => Sl.ok_no
  | k + 1 => Sl.ok_or (ok_all l k) (ok_own l _)
theorem tos_mono {l : List Nd} (h : right l = true) {k : Nat} (hk : k < l.length) : tos l k ≤ tos l (k + 1) := by
  have := fits_iff.1 (right_fits h hk)
  rw [tos_succ]
  omega
theorem all_below {l : List Nd} (h : right l = true) : ∀ k, k ≤ l.length → ∀ m, m < 256 → (all l k).has m = true → (m : Int) < tos l k
  | 0, _, m, _, hm => by rw [all, Sl.has_no] at hm; cases hm
  | k + 1, hk, m, hm2, hm => by
    rw [all, Sl.has_or, Bool.or_eq_true] at hm
    rcases hm with hm | hm
    · exact Int.lt_of_lt_of_le (all_below h k (by omega) m hm2 hm) (tos_mono h (by omega))
    · rw [own_in (by omega), Sl.has_range _ _ _ hm2, decide_eq_true_eq] at hm
      rw [tos_succ]
      exact hm.2
/-- No slot of node k is one of those ahead. -/
theorem apart {l : List Nd} (h : right l = true) {k : Nat} (hk : k < l.length) : (own l (k : Int)).sub (all l k) = own l (k : Int) := by
  refine Sl.four_ext (Sl.ok_sub _ (ok_own l _)) (ok_own l _) (fun m hm => ?_)
  rw [Sl.has_sub _ (ok_all l k)]
  cases ho : (own l (k : Int)).has m with
  | false => rfl
  | true =>
    cases ha : (all l k).has m with
    | false => rfl
    | true =>
      have h1 := all_below h k (by omega) m hm ha
      rw [own_in hk, Sl.has_range _ _ _ hm, decide_eq_true_eq] at ho
      have h2 := fits_iff.1 (right_fits h hk)
      omega

/-- A node's bytes, and a tree's. -/
def one (n : Nd) : List Nat := n.list.flatMap fun x => Uv.put (Uv.fold x)
def bytes (l : List Nd) : List Nat := Uv.put l.length ++ l.flatMap one
theorem one_append (n : Nd) : one n = Uv.put (Uv.fold n.p) ++ (Uv.put (Uv.fold n.f) ++ (Uv.put (Uv.fold n.l) ++ (Uv.put (Uv.fold n.a) ++ (Uv.put (Uv.fold n.g) ++ (Uv.put (Uv.fold n.t) ++ Uv.put (Uv.fold n.r)))))) := by simp [one, Nd.list]
theorem flat_take {l : List Nd} {k : Nat} (h : k < l.length) : (l.take (k + 1)).flatMap one = (l.take k).flatMap one ++ one (l.getD k Nd.nil) := by
  have e : l.take (k + 1) = l.take k ++ [l.getD k Nd.nil] := by
    rw [List.take_succ_eq_append_getElem h]
    simp [List.getD, h]
  rw [e, List.flatMap_append]
  simp
theorem one_byte (n : Nd) : ∀ c ∈ one n, c < 256 := by
  intro c hc
  obtain ⟨x, _, hx⟩ := List.mem_flatMap.1 hc
  exact Uv.put_byte _ c hx
theorem bytes_byte (l : List Nd) : ∀ c ∈ bytes l, c < 256 := by
  intro c hc
  rcases List.mem_append.1 hc with hc | hc
  · exact Uv.put_byte _ c hc
  · obtain ⟨x, _, hx⟩ := List.mem_flatMap.1 hc
    exact one_byte x c hx
/-- Numbers of their type. -/
def Nd.wf (n : Nd) : Prop := ∀ x ∈ n.list, -9223372036854775808 ≤ x ∧ x ≤ 9223372036854775807
theorem one_len {n : Nd} (h : n.wf) : (one n).length ≤ 70 := by
  have each : ∀ x ∈ n.list, (Uv.put (Uv.fold x)).length ≤ 10 := fun x hx => Uv.put_len_10 (Uv.fold_lt (h x hx).1 (h x hx).2)
  have h0 := each n.p (by simp [Nd.list])
  have h1 := each n.f (by simp [Nd.list])
  have h2 := each n.l (by simp [Nd.list])
  have h3 := each n.a (by simp [Nd.list])
  have h4 := each n.g (by simp [Nd.list])
  have h5 := each n.t (by simp [Nd.list])
  have h6 := each n.r (by simp [Nd.list])
  rw [one_append]
  simp only [List.length_append]
  omega
theorem flat_len {l : List Nd} (h : ∀ n ∈ l, n.wf) : (l.flatMap one).length ≤ 70 * l.length := by
  induction l with
  | nil => exact Nat.le_refl _
  | cons n r ih =>
    have h1 := one_len (h n (by simp))
    have h2 := ih (fun m hm => h m (by simp [hm]))
    rw [List.flatMap_cons, List.length_append, List.length_cons]
    omega
theorem bytes_len {l : List Nd} (h : ∀ n ∈ l, n.wf) (hl : l.length < 18446744073709551616) : (bytes l).length ≤ 10 + 70 * l.length := by
  have h1 := Uv.put_len_10 hl
  have h2 := flat_len h
  rw [bytes, List.length_append]
  omega

end Go.Proofs.YtifkoihhlhadhaaDoor.Tr
