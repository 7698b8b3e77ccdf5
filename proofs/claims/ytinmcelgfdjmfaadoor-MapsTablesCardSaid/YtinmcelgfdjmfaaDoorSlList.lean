/-
  The slots of a set one by one, rising; how many; each by as much greater; of no program. Conditions: as each states.
-/
import Derived.Test.YtinmcelgfdjmfaaDoorSlMath
namespace Go.Proofs.YtinmcelgfdjmfaaDoor.Sl

/-- The places of a word's bits, rising. -/
def places (x : Nat) : List Nat := (List.range 64).filter x.testBit

theorem filter_range' (p : Nat → Bool) (k : Nat) : ∀ (n a : Nat), a ≤ k → k < a + n → p k = true → (∀ j, j < k → p j = false) →
    (List.range' a n).filter p = k :: (List.range' a n).filter (fun j => p j && decide (j ≠ k))
  | 0, a, h1, h2, _, _ => by omega
  | n + 1, a, h1, h2, hk, hj => by
    rw [List.range'_succ]
    by_cases e : a = k
    · subst e
      rw [List.filter_cons_of_pos hk, List.filter_cons_of_neg (by simp)]
      congr 1
      apply List.filter_congr
      intro j hjm
      have := (List.mem_range'_1.1 hjm).1
      have h3 : j ≠ a := by omega
      simp [h3]
    · rw [List.filter_cons_of_neg (by rw [hj a (by omega)]; simp), List.filter_cons_of_neg (by rw [hj a (by omega)]; simp)]
      exact filter_range' p k n (a + 1) (by omega) (by omega) hk hj

theorem pow_split {k m j : Nat} : (2 ^ k * (2 * m + 1)).testBit j = (decide (k ≤ j) && (2 * m + 1).testBit (j - k)) := by
  rw [Nat.mul_comm, Nat.testBit_mul_two_pow]
theorem low_bit {x : Nat} (h0 : x ≠ 0) (hx : x < 18446744073709551616) : ∃ m, x = 2 ^ Lib.ctz 64 x * (2 * m + 1) ∧ Lib.ctz 64 x < 64 := by
  unfold Lib.ctz
  rw [if_neg h0]
  exact Lib.ctzFrom_spec 64 x (by omega) (by rw [← lt_two64]; exact hx)

/-- A word without its lowest bit. -/
theorem drop_low {x : Nat} (h0 : x ≠ 0) (hx : x < 18446744073709551616) : (x &&& (x - 1)) < x ∧ places x = Lib.ctz 64 x :: places (x &&& (x - 1)) := by
  obtain ⟨m, e, hk⟩ := low_bit h0 hx
  generalize Lib.ctz 64 x = k at *
  have hp : 0 < 2 ^ k := Nat.two_pow_pos k
  have e1 : x - 1 = 2 ^ k * (2 * m) + (2 ^ k - 1) := by
    rw [e, Nat.mul_add, Nat.mul_one]
    omega
  have hb : ∀ j, (x &&& (x - 1)).testBit j = (x.testBit j && decide (j ≠ k)) := by
    intro j
    rw [Nat.testBit_and, e1, Nat.testBit_two_pow_mul_add _ (by omega)]
    by_cases hj : j < k
    · have : x.testBit j = false := by rw [e, pow_split]; simp; omega
      rw [this, Bool.false_and, Bool.false_and]
    · rw [if_neg hj]
      by_cases hjk : j = k
      · subst hjk
        simp
      · rw [e, pow_split]
        obtain ⟨i, rfl⟩ : ∃ i, j = k + (i + 1) := ⟨j - k - 1, by omega⟩
        have e3 : k + (i + 1) - k = i + 1 := by omega
        rw [e3, Nat.testBit_succ, Nat.testBit_succ, show (2 * m + 1) / 2 = m by omega, show 2 * m / 2 = m by omega]
        simp
  have hkx : x.testBit k = true := by rw [e, pow_split]; simp
  have hlo : ∀ j, j < k → x.testBit j = false := by
    intro j hj
    rw [e, pow_split]
    simp
    omega
  constructor
  · have h1 : (x &&& (x - 1)) ≤ x := Nat.and_le_left
    have h2 : (x &&& (x - 1)) ≠ x := by
      intro h
      have h3 := hb k
      rw [h, hkx] at h3
      simp at h3
    omega
  · unfold places
    rw [List.range_eq_range', filter_range' x.testBit k 64 0 (by omega) (by omega) hkx hlo]
    congr 1
    apply List.filter_congr
    intro j _
    rw [hb j]

theorem places_zero : places 0 = [] := by
  unfold places
  rw [List.filter_eq_nil_iff]
  simp

/-- A set's slots, rising, word by word. -/
def at_ (q x : Nat) : List Int := (places x).map fun j => ((64 * q + j : Nat) : Int)
def Four.list (s : Four) : List Int := at_ 0 s.a ++ at_ 1 s.b ++ at_ 2 s.c ++ at_ 3 s.d

theorem range_split (p : Nat → Bool) : ∀ (n a b : Nat), (List.range' a (b + n)).filter p = (List.range' a b).filter p ++ (List.range' (a + b) n).filter p := by
  intro n a b
  rw [← List.range'_append_1, List.filter_append]
theorem range_word (s : Four) (q : Nat) : ((List.range' (64 * q) 64).filter s.has).map (fun n : Nat => (n : Int)) = at_ q (s.word q) := by
  unfold at_ places
  have e : List.range' (64 * q) 64 = (List.range 64).map (fun j => 64 * q + j) := by
    rw [List.range_eq_range', List.map_add_range', Nat.add_zero]
  rw [e, List.filter_map, List.map_map]
  have : List.filter (s.has ∘ fun j => 64 * q + j) (List.range 64) = List.filter (s.word q).testBit (List.range 64) := by
    apply List.filter_congr
    intro j hj
    rw [List.mem_range] at hj
    unfold Four.has
    simp only [Function.comp]
    rw [show (64 * q + j) / 64 = q by omega, show (64 * q + j) % 64 = j by omega]
  rw [this]
  rfl
theorem list_eq (s : Four) : s.list = ((List.range 256).filter s.has).map (fun n : Nat => (n : Int)) := by
  unfold Four.list
  rw [List.range_eq_range', show (256 : Nat) = 64 + 192 from rfl, range_split, show (192 : Nat) = 64 + 128 from rfl, range_split, show (128 : Nat) = 64 + 64 from rfl, range_split]
  simp only [List.map_append]
  rw [show (0 : Nat) = 64 * 0 from rfl, range_word, show (64 * 0 + 64 : Nat) = 64 * 1 from rfl, range_word, show (64 * 1 + 64 : Nat) = 64 * 2 from rfl, range_word, show (64 * 2 + 64 : Nat) = 64 * 3 from rfl, range_word]
  simp only [List.append_assoc]
  rfl
theorem mem_list (s : Four) (n : Int) : n ∈ s.list ↔ ∃ m : Nat, m < 256 ∧ s.has m = true ∧ (m : Int) = n := by
  rw [list_eq]
  simp only [List.mem_map, List.mem_filter, List.mem_range]
  constructor
  · rintro ⟨m, ⟨h1, h2⟩, h3⟩; exact ⟨m, h1, h2, h3⟩
  · rintro ⟨m, h1, h2, h3⟩; exact ⟨m, ⟨h1, h2⟩, h3⟩

/-- How many bits. -/
theorem places_len (x : Nat) : (places x).length = Lib.onesCount x := by
  have key : ∀ f x, ((List.range f).filter (Nat.testBit x)).length = Lib.popAux f x := by
    intro f
    induction f with
    | zero => intro x; rfl
    | succ f ih =>
      intro x
      rw [List.range_succ_eq_map, List.filter_cons, List.filter_map]
      have e : (Nat.testBit x ∘ Nat.succ) = Nat.testBit (x / 2) := by
        funext j
        simp only [Function.comp, Nat.succ_eq_add_one, Nat.testBit_succ]
      rw [e]
      unfold Lib.popAux
      rw [← ih (x / 2), Nat.testBit_zero]
      by_cases h : x % 2 = 1
      · rw [if_pos (by simpa using h)]
        simp
        omega
      · rw [if_neg (by simpa using h)]
        simp
        omega
  exact key 64 x
theorem list_len (s : Four) : s.list.length = Lib.onesCount s.a + Lib.onesCount s.b + Lib.onesCount s.c + Lib.onesCount s.d := by
  unfold Four.list at_
  simp only [List.length_append, List.length_map, places_len]
theorem list_le (s : Four) : s.list.length ≤ 256 := by
  rw [list_eq, List.length_map]
  exact Nat.le_trans (List.length_filter_le _ _) (by simp)

theorem ok_range (f t : Int) : (range f t).ok := ok_span _ _
/-- Each below n? -/
def Four.below (s : Four) (n : Int) : Bool := s.list.all fun m => decide (m < n)
theorem below_eq {s : Four} (hs : s.ok) (n : Int) : s.below n = s.inside (range 0 n) := by
  rw [Bool.eq_iff_iff, inside_iff hs (ok_range _ _)]
  unfold Four.below
  rw [List.all_eq_true]
  constructor
  · intro h m hm h1
    rw [has_range _ _ _ hm, decide_eq_true_iff]
    have := h _ ((mem_list s m).2 ⟨m, hm, h1, rfl⟩)
    rw [decide_eq_true_iff] at this
    omega
  · intro h m hm
    obtain ⟨k, hk, h1, rfl⟩ := (mem_list s m).1 hm
    have := h k hk h1
    rw [has_range _ _ _ hk, decide_eq_true_iff] at this
    rw [decide_eq_true_iff]
    omega

/-- Each by as much greater. -/
def Four.move (s : Four) (by_ : Int) : Four := of (if -255 ≤ by_ ∧ by_ ≤ 255 then s.list.map (· + by_) else [])
theorem foldl_out (l : List Int) (s : Four) (h : ∀ n ∈ l, n < 0 ∨ 256 ≤ n) : l.foldl Four.with_ s = s := by
  induction l generalizing s with
  | nil => rfl
  | cons x l ih =>
    show l.foldl Four.with_ (s.with_ x) = s
    rw [with_out (h x (by simp))]
    exact ih s fun n hn => h n (by simp [hn])
/-- As far as 256 all are gone. -/
theorem move_eq (s : Four) (by_ : Int) : of (s.list.map (· + max (-256) (min by_ 256))) = s.move by_ := by
  unfold Four.move
  split
  · rename_i h
    rw [show max (-256) (min by_ 256) = by_ by omega]
  · rename_i h
    unfold of
    rw [foldl_out _ _ fun n hn => ?_]
    · rfl
    · obtain ⟨x, hx, rfl⟩ := List.mem_map.1 hn
      obtain ⟨k, hk, _, rfl⟩ := (mem_list s x).1 hx
      omega
theorem ok_move (s : Four) (by_ : Int) : (s.move by_).ok := ok_of _

end Go.Proofs.YtinmcelgfdjmfaaDoor.Sl
