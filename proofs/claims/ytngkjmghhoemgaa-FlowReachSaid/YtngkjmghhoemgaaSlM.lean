/-
  Sets of slots as four words, of no program: what is in them, one slot more, one less, either of two, the first alone, the slots one by one, rising. Conditions: as each states.
  The slots of a set one by one, rising; how many; each by as much greater; of no program. Conditions: as each states.
  The bits of a word counted in fields, as math/bits does it: of no program. Conditions: the word has 64 bits.
-/
import Derived.Lib.TrailingZeros
import Derived.Lib.BitFns
import Derived.Laws.BitsAllLaws
namespace Go.Proofs.Ytngkjmghhoemgaa.Sl

/-- Four words of 64 slots each. -/
structure Four where
  a : Nat
  b : Nat
  c : Nat
  d : Nat

def Four.ok (s : Four) : Prop := s.a < 18446744073709551616 ∧ s.b < 18446744073709551616 ∧ s.c < 18446744073709551616 ∧ s.d < 18446744073709551616

def Four.word (s : Four) : Nat → Nat
  | 0 => s.a
  | 1 => s.b
  | 2 => s.c
  | _ => s.d

def Four.put (s : Four) (q x : Nat) : Four :=
  match q with
  | 0 => ⟨x, s.b, s.c, s.d⟩
  | 1 => ⟨s.a, x, s.c, s.d⟩
  | 2 => ⟨s.a, s.b, x, s.d⟩
  | _ => ⟨s.a, s.b, s.c, x⟩

def no : Four := ⟨0, 0, 0, 0⟩

/-- Is n, a slot, in s? -/
def Four.has (s : Four) (n : Nat) : Bool := (s.word (n / 64)).testBit (n % 64)

/-- The same of any number. -/
def Four.hasI (s : Four) (n : Int) : Bool := decide (0 ≤ n ∧ n < 256) && s.has n.toNat

theorem ok_no : no.ok := by unfold Four.ok no; simp
theorem ok_word {s : Four} (h : s.ok) (q : Nat) : s.word q < 18446744073709551616 := by
  obtain ⟨h1, h2, h3, h4⟩ := h
  unfold Four.word
  split <;> assumption
theorem ok_put {s : Four} (h : s.ok) (q : Nat) {x : Nat} (hx : x < 18446744073709551616) : (s.put q x).ok := by
  obtain ⟨h1, h2, h3, h4⟩ := h
  unfold Four.put
  split <;> exact ⟨by assumption, by assumption, by assumption, by assumption⟩
theorem word_put (s : Four) (q p x : Nat) (hq : q < 4) (hp : p < 4) : (s.put q x).word p = if p = q then x else s.word p := by
  obtain rfl | rfl | rfl | rfl : q = 0 ∨ q = 1 ∨ q = 2 ∨ q = 3 := by omega
  all_goals (obtain rfl | rfl | rfl | rfl : p = 0 ∨ p = 1 ∨ p = 2 ∨ p = 3 := by omega) <;> rfl

theorem lt_of_bits {x y : Nat} (hx : x < 18446744073709551616) (hy : y < 18446744073709551616) (h : ∀ j, j < 64 → x.testBit j = y.testBit j) : x = y := by
  apply Nat.eq_of_testBit_eq
  intro i
  by_cases hi : i < 64
  · exact h i hi
  · have e : ∀ z : Nat, z < 18446744073709551616 → z.testBit i = false := fun z hz => Nat.testBit_lt_two_pow (Nat.lt_of_lt_of_le hz (by
      have : 2 ^ 64 ≤ 2 ^ i := Nat.pow_le_pow_right (by decide) (by omega)
      exact this))
    rw [e x hx, e y hy]

theorem four_ext {s t : Four} (hs : s.ok) (ht : t.ok) (h : ∀ n, n < 256 → s.has n = t.has n) : s = t := by
  have key : ∀ q, q < 4 → s.word q = t.word q := fun q hq => lt_of_bits (ok_word hs q) (ok_word ht q) fun j hj => by
    have := h (64 * q + j) (by omega)
    unfold Four.has at this
    rwa [show (64 * q + j) / 64 = q by omega, show (64 * q + j) % 64 = j by omega] at this
  have h0 := key 0 (by omega)
  have h1 := key 1 (by omega)
  have h2 := key 2 (by omega)
  have h3 := key 3 (by omega)
  cases s
  cases t
  simp only [Four.word] at h0 h1 h2 h3
  subst h0 h1 h2 h3
  rfl

def Four.or (s t : Four) : Four := ⟨s.a ||| t.a, s.b ||| t.b, s.c ||| t.c, s.d ||| t.d⟩
/-- One word's slots but another's. -/
def cut (x y : Nat) : Nat := x &&& (18446744073709551615 - y)
def Four.sub (s t : Four) : Four := ⟨cut s.a t.a, cut s.b t.b, cut s.c t.c, cut s.d t.d⟩

theorem lt_two64 : (18446744073709551616 : Nat) = 2 ^ 64 := by decide
theorem or_lt {x y : Nat} (hx : x < 18446744073709551616) (hy : y < 18446744073709551616) : x ||| y < 18446744073709551616 := by
  rw [lt_two64] at *
  exact Nat.or_lt_two_pow hx hy
theorem cut_lt {x : Nat} (y : Nat) (hx : x < 18446744073709551616) : cut x y < 18446744073709551616 := Nat.lt_of_le_of_lt Nat.and_le_left hx
theorem bit_lt {r : Nat} (hr : r < 64) : 2 ^ r < 18446744073709551616 := by
  rw [lt_two64]
  exact Nat.pow_lt_pow_right (by decide) hr

theorem testBit_cut (x y j : Nat) (hy : y < 18446744073709551616) (hj : j < 64) : (cut x y).testBit j = (x.testBit j && !y.testBit j) := by
  unfold cut
  rw [Nat.testBit_and, show 18446744073709551615 - y = 2 ^ 64 - (y + 1) by omega, Nat.testBit_two_pow_sub_succ (by rw [← lt_two64]; exact hy)]
  simp [hj]

theorem ok_or {s t : Four} (hs : s.ok) (ht : t.ok) : (s.or t).ok := ⟨or_lt hs.1 ht.1, or_lt hs.2.1 ht.2.1, or_lt hs.2.2.1 ht.2.2.1, or_lt hs.2.2.2 ht.2.2.2⟩
theorem ok_sub {s : Four} (t : Four) (hs : s.ok) : (s.sub t).ok := ⟨cut_lt _ hs.1, cut_lt _ hs.2.1, cut_lt _ hs.2.2.1, cut_lt _ hs.2.2.2⟩

theorem word_or (s t : Four) (q : Nat) : (s.or t).word q = s.word q ||| t.word q := by
  unfold Four.word
  split <;> rfl
theorem word_sub (s t : Four) (q : Nat) : (s.sub t).word q = cut (s.word q) (t.word q) := by
  unfold Four.word
  split <;> rfl

theorem has_or (s t : Four) (n : Nat) : (s.or t).has n = (s.has n || t.has n) := by
  unfold Four.has
  rw [word_or, Nat.testBit_or]
theorem has_sub (s : Four) {t : Four} (ht : t.ok) (n : Nat) : (s.sub t).has n = (s.has n && !t.has n) := by
  unfold Four.has
  rw [word_sub, testBit_cut _ _ _ (ok_word ht _) (by omega)]
theorem has_no (n : Nat) : no.has n = false := by
  unfold Four.has Four.word no
  split <;> simp
theorem has_put (s : Four) (q x n : Nat) (hq : q < 4) (hn : n < 256) : (s.put q x).has n = if n / 64 = q then x.testBit (n % 64) else s.has n := by
  unfold Four.has
  rw [word_put _ _ _ _ hq (by omega)]
  split <;> rfl

/-- s and n. -/
def Four.with_ (s : Four) (n : Int) : Four := if 0 ≤ n ∧ n < 256 then s.put (n.toNat / 64) (s.word (n.toNat / 64) ||| 2 ^ (n.toNat % 64)) else s
/-- s but n. -/
def Four.without (s : Four) (n : Int) : Four := if 0 ≤ n ∧ n < 256 then s.put (n.toNat / 64) (cut (s.word (n.toNat / 64)) (2 ^ (n.toNat % 64))) else s
/-- The set of l's numbers. -/
def of (l : List Int) : Four := l.foldl Four.with_ no

theorem ok_with {s : Four} (h : s.ok) (n : Int) : (s.with_ n).ok := by
  unfold Four.with_
  split
  · exact ok_put h _ (or_lt (ok_word h _) (bit_lt (by omega)))
  · exact h
theorem ok_without {s : Four} (h : s.ok) (n : Int) : (s.without n).ok := by
  unfold Four.without
  split
  · exact ok_put h _ (cut_lt _ (ok_word h _))
  · exact h

theorem has_with (s : Four) (n : Int) (m : Nat) (hm : m < 256) : (s.with_ n).has m = (s.has m || decide (n = (m : Int))) := by
  unfold Four.with_
  split
  · rename_i hn
    rw [has_put _ _ _ _ (by omega) hm]
    unfold Four.has
    split
    · rename_i e
      rw [Nat.testBit_or, e, Nat.testBit_two_pow]
      congr 1
      rw [decide_eq_decide]
      omega
    · rename_i e
      have : decide (n = (m : Int)) = false := by rw [decide_eq_false_iff_not]; intro h; subst h; simp at e
      rw [this, Bool.or_false]
  · rename_i hn
    have : decide (n = (m : Int)) = false := by rw [decide_eq_false_iff_not]; intro h; subst h; omega
    rw [this, Bool.or_false]
theorem has_without (s : Four) (n : Int) (m : Nat) (hm : m < 256) : (s.without n).has m = (s.has m && !decide (n = (m : Int))) := by
  unfold Four.without
  split
  · rename_i hn
    rw [has_put _ _ _ _ (by omega) hm]
    unfold Four.has
    split
    · rename_i e
      rw [testBit_cut _ _ _ (bit_lt (by omega)) (by omega), e, Nat.testBit_two_pow]
      congr 2
      rw [decide_eq_decide]
      omega
    · rename_i e
      have : decide (n = (m : Int)) = false := by rw [decide_eq_false_iff_not]; intro h; subst h; simp at e
      rw [this, Bool.not_false, Bool.and_true]
  · rename_i hn
    have : decide (n = (m : Int)) = false := by rw [decide_eq_false_iff_not]; intro h; subst h; omega
    rw [this, Bool.not_false, Bool.and_true]

theorem ok_foldl (l : List Int) {s : Four} (h : s.ok) : (l.foldl Four.with_ s).ok := by
  induction l generalizing s with
  | nil => exact h
  | cons x l ih => exact ih (ok_with h x)
theorem ok_of (l : List Int) : (of l).ok := ok_foldl l ok_no
theorem of_snoc (l : List Int) (n : Int) : of (l ++ [n]) = (of l).with_ n := by
  unfold of
  rw [List.foldl_append]
  rfl

/-- With is Or with a set of one slot; Without is Sub of it. -/
theorem with_or {s : Four} (h : s.ok) (n : Int) : s.with_ n = s.or (of [n]) := by
  refine four_ext (ok_with h n) (ok_or h (ok_of _)) fun m hm => ?_
  rw [has_with _ _ _ hm, has_or]
  show _ = (s.has m || (no.with_ n).has m)
  rw [has_with _ _ _ hm, has_no, Bool.false_or]
theorem without_sub {s : Four} (h : s.ok) (n : Int) : s.without n = s.sub (of [n]) := by
  refine four_ext (ok_without h n) (ok_sub _ h) fun m hm => ?_
  rw [has_without _ _ _ hm, has_sub _ (ok_of _)]
  show _ = (s.has m && !(no.with_ n).has m)
  rw [has_with _ _ _ hm, has_no, Bool.false_or]

/-- A bit that is not there, added. -/
theorem add_bit {x r : Nat} (hr : r < 64) (hx : x < 18446744073709551616) (h : x.testBit r = false) : x + 2 ^ r = x ||| 2 ^ r := by
  have e := nat_bit r x
  have hz : x / 2 ^ r % 2 = 0 := by
    rw [Nat.testBit_eq_decide_div_mod_eq, decide_eq_false_iff_not] at h
    omega
  rw [hz, Nat.zero_mul] at e
  have hb := BitVec.add_eq_or_of_and_eq_zero (BitVec.ofNat 65 x) (BitVec.ofNat 65 (2 ^ r)) (by
    apply BitVec.eq_of_toNat_eq
    have h2 := bit_lt hr
    rw [BitVec.toNat_and, BitVec.toNat_ofNat, BitVec.toNat_ofNat, Nat.mod_eq_of_lt (by omega), Nat.mod_eq_of_lt (by omega), e]
    rfl)
  have h2 := bit_lt hr
  have := congrArg BitVec.toNat hb
  rw [BitVec.toNat_add, BitVec.toNat_or, BitVec.toNat_ofNat, BitVec.toNat_ofNat, Nat.mod_eq_of_lt (a := x) (by omega), Nat.mod_eq_of_lt (a := 2 ^ r) (by omega), Nat.mod_eq_of_lt (by omega)] at this
  exact this
/-- A bit that is there already. -/
theorem or_bit {x r : Nat} (h : x.testBit r = true) : x ||| 2 ^ r = x := by
  apply Nat.eq_of_testBit_eq
  intro i
  rw [Nat.testBit_or, Nat.testBit_two_pow]
  by_cases e : r = i
  · subst e; simp [h]
  · simp [e]

theorem put_word (s : Four) : (q : Nat) → s.put q (s.word q) = s
  | 0 => rfl
  | 1 => rfl
  | 2 => rfl
  | _ + 3 => rfl

/-- The document's step: where it is not there, its bit is added. -/
theorem with_add {s : Four} (h : s.ok) {n : Nat} (hn : n < 256) (hh : s.has n = false) : s.with_ (n : Int) = s.put (n / 64) (s.word (n / 64) + 2 ^ (n % 64)) := by
  unfold Four.with_
  rw [if_pos (by omega), Int.toNat_natCast, add_bit (by omega) (ok_word h _) hh]
theorem with_had {s : Four} {n : Nat} (hn : n < 256) (hh : s.has n = true) : s.with_ (n : Int) = s := by
  unfold Four.with_
  rw [if_pos (by omega), Int.toNat_natCast, or_bit hh, put_word]
theorem with_out {s : Four} {n : Int} (hn : n < 0 ∨ 256 ≤ n) : s.with_ n = s := by
  unfold Four.with_
  rw [if_neg (by omega)]
theorem without_out {s : Four} {n : Int} (hn : n < 0 ∨ 256 ≤ n) : s.without n = s := by
  unfold Four.without
  rw [if_neg (by omega)]

/-- k slots from lo on. -/
def span (lo : Nat) : Nat → Four
  | 0 => no
  | k + 1 => (span lo k).with_ ((lo + k : Nat) : Int)
theorem ok_span (lo k : Nat) : (span lo k).ok := by
  induction k with
  | zero => exact ok_no
  | succ k ih => exact ok_with ih _
theorem has_span (lo k m : Nat) (hm : m < 256) : (span lo k).has m = decide (lo ≤ m ∧ m < lo + k) := by
  induction k with
  | zero => rw [show span lo 0 = no from rfl, has_no]; symm; rw [decide_eq_false_iff_not]; omega
  | succ k ih =>
    rw [show span lo (k + 1) = (span lo k).with_ ((lo + k : Nat) : Int) from rfl, has_with _ _ _ hm, ih, ← Bool.decide_or, decide_eq_decide]
    omega
/-- Those from f on, ahead of t. -/
def range (f t : Int) : Four := span (max f 0).toNat (min t 256 - max f 0).toNat
theorem has_range (f t : Int) (m : Nat) (hm : m < 256) : (range f t).has m = decide (f ≤ (m : Int) ∧ (m : Int) < t) := by
  unfold range
  rw [has_span _ _ _ hm, decide_eq_decide]
  omega

def Four.inside (s t : Four) : Bool := decide ((s.sub t).a = 0 ∧ (s.sub t).b = 0 ∧ (s.sub t).c = 0 ∧ (s.sub t).d = 0)
theorem inside_iff {s t : Four} (hs : s.ok) (ht : t.ok) : s.inside t = true ↔ ∀ m, m < 256 → s.has m = true → t.has m = true := by
  have e : s.inside t = true ↔ s.sub t = no := by
    unfold Four.inside no
    rw [decide_eq_true_iff]
    generalize s.sub t = u
    cases u
    simp
  rw [e]
  constructor
  · intro h m hm h1
    have := congrArg (fun u => Four.has u m) h
    simp only [has_sub _ ht, has_no, h1, Bool.true_and] at this
    simpa using this
  · intro h
    refine four_ext (ok_sub _ hs) ok_no fun m hm => ?_
    rw [has_sub _ ht, has_no]
    have := h m hm
    cases h1 : s.has m
    · rfl
    · rw [this h1]; rfl

end Go.Proofs.Ytngkjmghhoemgaa.Sl

namespace Go.Proofs.Ytngkjmghhoemgaa.Sl

/-- The places of a word's bits, rising. -/
def places (x : Nat) : List Nat := (List.range 64).filter x.testBit

theorem filter_range' (p : Nat → Bool) (k : Nat) : ∀ (n a : Nat), a ≤ k → k < a + n → p k = true → (∀ j, j < k → p j = false) →
    (List.range' a n).filter p = k :: (List.range' a n).filter (fun j => p j && decide (j ≠ k))
  | 0, a, h1, h2, _, _ => by omega
  | n + 1, a, h1, h2, hk, hj => by
    rw [List.range'_succ]
    by_cases e : a = k
    · subst e
      rw [List.filter_cons_of_pos hk, List.filter_cons_of_neg (by simp)]
      congr 1
      apply List.filter_congr
      intro j hjm
      have := (List.mem_range'_1.1 hjm).1
      have h3 : j ≠ a := by omega
      simp [h3]
    · rw [List.filter_cons_of_neg (by rw [hj a (by omega)]; simp), List.filter_cons_of_neg (by rw [hj a (by omega)]; simp)]
      exact filter_range' p k n (a + 1) (by omega) (by omega) hk hj

theorem pow_split {k m j : Nat} : (2 ^ k * (2 * m + 1)).testBit j = (decide (k ≤ j) && (2 * m + 1).testBit (j - k)) := by
  rw [Nat.mul_comm, Nat.testBit_mul_two_pow]
theorem low_bit {x : Nat} (h0 : x ≠ 0) (hx : x < 18446744073709551616) : ∃ m, x = 2 ^ Lib.ctz 64 x * (2 * m + 1) ∧ Lib.ctz 64 x < 64 := by
  unfold Lib.ctz
  rw [if_neg h0]
  exact Lib.ctzFrom_spec 64 x (by omega) (by rw [← lt_two64]; exact hx)

/-- A word without its lowest bit. -/
theorem drop_low {x : Nat} (h0 : x ≠ 0) (hx : x < 18446744073709551616) : (x &&& (x - 1)) < x ∧ places x = Lib.ctz 64 x :: places (x &&& (x - 1)) := by
  obtain ⟨m, e, hk⟩ := low_bit h0 hx
  generalize Lib.ctz 64 x = k at *
  have hp : 0 < 2 ^ k := Nat.two_pow_pos k
  have e1 : x - 1 = 2 ^ k * (2 * m) + (2 ^ k - 1) := by
    rw [e, Nat.mul_add, Nat.mul_one]
    omega
  have hb : ∀ j, (x &&& (x - 1)).testBit j = (x.testBit j && decide (j ≠ k)) := by
    intro j
    rw [Nat.testBit_and, e1, Nat.testBit_two_pow_mul_add _ (by omega)]
    by_cases hj : j < k
    · have : x.testBit j = false := by rw [e, pow_split]; simp; omega
      rw [this, Bool.false_and, Bool.false_and]
    · rw [if_neg hj]
      by_cases hjk : j = k
      · subst hjk
        simp
      · rw [e, pow_split]
        obtain ⟨i, rfl⟩ : ∃ i, j = k + (i + 1) := ⟨j - k - 1, by omega⟩
        have e3 : k + (i + 1) - k = i + 1 := by omega
        rw [e3, Nat.testBit_succ, Nat.testBit_succ, show (2 * m + 1) / 2 = m by omega, show 2 * m / 2 = m by omega]
        simp
  have hkx : x.testBit k = true := by rw [e, pow_split]; simp
  have hlo : ∀ j, j < k → x.testBit j = false := by
    intro j hj
    rw [e, pow_split]
    simp
    omega
  constructor
  · have h1 : (x &&& (x - 1)) ≤ x := Nat.and_le_left
    have h2 : (x &&& (x - 1)) ≠ x := by
      intro h
      have h3 := hb k
      rw [h, hkx] at h3
      simp at h3
    omega
  · unfold places
    rw [List.range_eq_range', filter_range' x.testBit k 64 0 (by omega) (by omega) hkx hlo]
    congr 1
    apply List.filter_congr
    intro j _
    rw [hb j]

theorem places_zero : places 0 = [] := by
  unfold places
  rw [List.filter_eq_nil_iff]
  simp

/-- A set's slots, rising, word by word. -/
def at_ (q x : Nat) : List Int := (places x).map fun j => ((64 * q + j : Nat) : Int)
def Four.list (s : Four) : List Int := at_ 0 s.a ++ at_ 1 s.b ++ at_ 2 s.c ++ at_ 3 s.d

theorem range_split (p : Nat → Bool) : ∀ (n a b : Nat), (List.range' a (b + n)).filter p = (List.range' a b).filter p ++ (List.range' (a + b) n).filter p := by
  intro n a b
  rw [← List.range'_append_1, List.filter_append]
theorem range_word (s : Four) (q : Nat) : ((List.range' (64 * q) 64).filter s.has).map (fun n : Nat => (n : Int)) = at_ q (s.word q) := by
  unfold at_ places
  have e : List.range' (64 * q) 64 = (List.range 64).map (fun j => 64 * q + j) := by
    rw [List.range_eq_range', List.map_add_range', Nat.add_zero]
  rw [e, List.filter_map, List.map_map]
  have : List.filter (s.has ∘ fun j => 64 * q + j) (List.range 64) = List.filter (s.word q).testBit (List.range 64) := by
    apply List.filter_congr
    intro j hj
    rw [List.mem_range] at hj
    unfold Four.has
    simp only [Function.comp]
    rw [show (64 * q + j) / 64 = q by omega, show (64 * q + j) % 64 = j by omega]
  rw [this]
  rfl
theorem list_eq (s : Four) : s.list = ((List.range 256).filter s.has).map (fun n : Nat => (n : Int)) := by
  unfold Four.list
  rw [List.range_eq_range', show (256 : Nat) = 64 + 192 from rfl, range_split, show (192 : Nat) = 64 + 128 from rfl, range_split, show (128 : Nat) = 64 + 64 from rfl, range_split]
  simp only [List.map_append]
  rw [show (0 : Nat) = 64 * 0 from rfl, range_word, show (64 * 0 + 64 : Nat) = 64 * 1 from rfl, range_word, show (64 * 1 + 64 : Nat) = 64 * 2 from rfl, range_word, show (64 * 2 + 64 : Nat) = 64 * 3 from rfl, range_word]
  simp only [List.append_assoc]
  rfl
theorem mem_list (s : Four) (n : Int) : n ∈ s.list ↔ ∃ m : Nat, m < 256 ∧ s.has m = true ∧ (m : Int) = n := by
  rw [list_eq]
  simp only [List.mem_map, List.mem_filter, List.mem_range]
  constructor
  · rintro ⟨m, ⟨h1, h2⟩, h3⟩; exact ⟨m, h1, h2, h3⟩
  · rintro ⟨m, h1, h2, h3⟩; exact ⟨m, ⟨h1, h2⟩, h3⟩

/-- How many bits. -/
theorem places_len (x : Nat) : (places x).length = Lib.onesCount x := by
  have key : ∀ f x, ((List.range f).filter (Nat.testBit x)).length = Lib.popAux f x := by
    intro f
    induction f with
    | zero => intro x; rfl
    | succ f ih =>
      intro x
      rw [List.range_succ_eq_map, List.filter_cons, List.filter_map]
      have e : (Nat.testBit x ∘ Nat.succ) = Nat.testBit (x / 2) := by
        funext j
        simp only [Function.comp, Nat.succ_eq_add_one, Nat.testBit_succ]
      rw [e]
      unfold Lib.popAux
      rw [← ih (x / 2), Nat.testBit_zero]
      by_cases h : x % 2 = 1
      · rw [if_pos (by simpa using h)]
        simp
        omega
      · rw [if_neg (by simpa using h)]
        simp
        omega
  exact key 64 x
theorem list_len (s : Four) : s.list.length = Lib.onesCount s.a + Lib.onesCount s.b + Lib.onesCount s.c + Lib.onesCount s.d := by
  unfold Four.list at_
  simp only [List.length_append, List.length_map, places_len]
theorem list_le (s : Four) : s.list.length ≤ 256 := by
  rw [list_eq, List.length_map]
  exact Nat.le_trans (List.length_filter_le _ _) (by simp)

theorem ok_range (f t : Int) : (range f t).ok := ok_span _ _
/-- Each below n? -/
def Four.below (s : Four) (n : Int) : Bool := s.list.all fun m => decide (m < n)
theorem below_eq {s : Four} (hs : s.ok) (n : Int) : s.below n = s.inside (range 0 n) := by
  rw [Bool.eq_iff_iff, inside_iff hs (ok_range _ _)]
  unfold Four.below
  rw [List.all_eq_true]
  constructor
  · intro h m hm h1
    rw [has_range _ _ _ hm, decide_eq_true_iff]
    have := h _ ((mem_list s m).2 ⟨m, hm, h1, rfl⟩)
    rw [decide_eq_true_iff] at this
    omega
  · intro h m hm
    obtain ⟨k, hk, h1, rfl⟩ := (mem_list s m).1 hm
    have := h k hk h1
    rw [has_range _ _ _ hk, decide_eq_true_iff] at this
    rw [decide_eq_true_iff]
    omega

/-- Each by as much greater. -/
def Four.move (s : Four) (by_ : Int) : Four := of (if -255 ≤ by_ ∧ by_ ≤ 255 then s.list.map (· + by_) else [])
theorem foldl_out (l : List Int) (s : Four) (h : ∀ n ∈ l, n < 0 ∨ 256 ≤ n) : l.foldl Four.with_ s = s := by
  induction l generalizing s with
  | nil => rfl
  | cons x l ih =>
    show l.foldl Four.with_ (s.with_ x) = s
    rw [with_out (h x (by simp))]
    exact ih s fun n hn => h n (by simp [hn])
/-- As far as 256 all are gone. -/
theorem move_eq (s : Four) (by_ : Int) : of (s.list.map (· + max (-256) (min by_ 256))) = s.move by_ := by
  unfold Four.move
  split
  · rename_i h
    rw [show max (-256) (min by_ 256) = by_ by omega]
  · rename_i h
    unfold of
    rw [foldl_out _ _ fun n hn => ?_]
    · rfl
    · obtain ⟨x, hx, rfl⟩ := List.mem_map.1 hn
      obtain ⟨k, hk, _, rfl⟩ := (mem_list s x).1 hx
      omega
theorem ok_move (s : Four) (by_ : Int) : (s.move by_).ok := ok_of _

end Go.Proofs.Ytngkjmghhoemgaa.Sl

namespace Go.Proofs.Ytngkjmghhoemgaa.Sl

/-- A byte n times. -/
def msk (c : Nat) : Nat → Nat
  | 0 => 0
  | n + 1 => c + 256 * msk c n

theorem and_byte (x y : Nat) : x &&& y = ((x % 256) &&& (y % 256)) + 256 * ((x / 256) &&& (y / 256)) := by
  have h1 := Nat.and_mod_two_pow (a := x) (b := y) (n := 8)
  have h2 := Nat.and_div_two_pow (a := x) (b := y) (n := 8)
  simp only [show (2 : Nat) ^ 8 = 256 from rfl] at h1 h2
  rw [← h1, ← h2]
  omega
theorem and_msk (x c n : Nat) (hc : c < 256) : x &&& msk c (n + 1) = ((x % 256) &&& c) + 256 * ((x / 256) &&& msk c n) := by
  rw [and_byte, show msk c (n + 1) = c + 256 * msk c n from rfl, show (c + 256 * msk c n) % 256 = c by omega, show (c + 256 * msk c n) / 256 = msk c n by omega]

def one (n x : Nat) : Nat := ((x / 2) &&& msk 85 n) + (x &&& msk 85 n)
def two (n x : Nat) : Nat := ((x / 4) &&& msk 51 n) + (x &&& msk 51 n)
def thr (n x : Nat) : Nat := (x / 16 + x) &&& msk 15 n
def one8 (b : Nat) : Nat := ((b / 2) &&& 85) + (b &&& 85)
def two8 (b : Nat) : Nat := ((b / 4) &&& 51) + (b &&& 51)

theorem one_at : ∀ (b : Fin 256) (t : Fin 2), (b.val / 2 + 128 * t.val) &&& 85 = (b.val / 2) &&& 85 := by decide +kernel
theorem two_at : ∀ (b : Fin 256) (t : Fin 4), (b.val / 4 + 64 * t.val) &&& 51 = (b.val / 4) &&& 51 := by decide +kernel
theorem bytes : ∀ b : Fin 256, one8 b.val < 256 ∧ two8 (one8 b.val) ≤ 68 ∧ two8 (one8 b.val) % 16 ≤ 4 ∧ (two8 (one8 b.val) / 16 + two8 (one8 b.val)) % 16 = Lib.popAux 8 b.val ∧ Lib.popAux 8 b.val ≤ 8 := by decide +kernel

theorem one_step (n x : Nat) : one (n + 1) x = one8 (x % 256) + 256 * one n (x / 256) := by
  unfold one one8
  have h := one_at ⟨x % 256, by omega⟩ ⟨x / 256 % 2, by omega⟩
  simp only at h
  rw [and_msk _ _ _ (by omega), and_msk _ _ _ (by omega), show x / 2 % 256 = x % 256 / 2 + 128 * (x / 256 % 2) by omega, h, show x / 2 / 256 = x / 256 / 2 by omega]
  omega
theorem two_step (n x : Nat) : two (n + 1) x = two8 (x % 256) + 256 * two n (x / 256) := by
  unfold two two8
  have h := two_at ⟨x % 256, by omega⟩ ⟨x / 256 % 4, by omega⟩
  simp only at h
  rw [and_msk _ _ _ (by omega), and_msk _ _ _ (by omega), show x / 4 % 256 = x % 256 / 4 + 64 * (x / 256 % 4) by omega, h, show x / 4 / 256 = x / 256 / 4 by omega]
  omega
theorem both_step (n x : Nat) : two (n + 1) (one (n + 1) x) = two8 (one8 (x % 256)) + 256 * two n (one n (x / 256)) := by
  obtain ⟨h, _⟩ := bytes ⟨x % 256, by omega⟩
  simp only at h
  rw [one_step, two_step, show (one8 (x % 256) + 256 * one n (x / 256)) % 256 = one8 (x % 256) by omega, show (one8 (x % 256) + 256 * one n (x / 256)) / 256 = one n (x / 256) by omega]
theorem both_low (n x : Nat) : two n (one n x) % 16 ≤ 4 := by
  cases n with
  | zero => unfold two; simp [msk]
  | succ n =>
    obtain ⟨_, _, h, _⟩ := bytes ⟨x % 256, by omega⟩
    simp only at h
    rw [both_step]
    omega
theorem thr_step (n e v : Nat) (he : e ≤ 68) (hv : v % 16 ≤ 4) : thr (n + 1) (e + 256 * v) = (e / 16 + e) % 16 + 256 * thr n v := by
  unfold thr
  rw [and_msk _ _ _ (by omega), nat_mask4, show ((e + 256 * v) / 16 + (e + 256 * v)) / 256 = v / 16 + v by omega]
  omega

/-- Each byte's bits, in that byte. -/
def cnt (n x : Nat) : Nat := thr n (two n (one n x))
theorem cnt_step (n x : Nat) : cnt (n + 1) x = Lib.popAux 8 (x % 256) + 256 * cnt n (x / 256) := by
  obtain ⟨_, h2, _, h4, _⟩ := bytes ⟨x % 256, by omega⟩
  simp only at h2 h4
  unfold cnt
  rw [both_step, thr_step _ _ _ h2 (both_low _ _), h4]
theorem cnt_zero (x : Nat) : cnt 0 x = 0 := by unfold cnt thr; simp [msk]

theorem pop_byte (f x : Nat) : Lib.popAux (f + 8) x = Lib.popAux 8 (x % 256) + Lib.popAux f (x / 256) := by
  simp only [Lib.popAux, Nat.div_div_eq_div_mul, Nat.reduceMul]
  omega

theorem div_of (lo R m : Nat) (h : lo < m) : (lo + m * R) / m = R := by
  rw [Nat.add_mul_div_left _ _ (by omega), Nat.div_eq_of_lt h, Nat.zero_add]
theorem mod_of (a b : Nat) (h : b < 128) : (128 * a + b) % 128 = b := by omega

theorem fold_y (c0 c1 c2 r3 : Nat) : c0 + 256 * (c1 + 256 * (c2 + 256 * r3)) + (c1 + 256 * (c2 + 256 * r3)) = (c0 + c1 + 256 * (c1 + c2)) + 65536 * (c2 + 256 * r3 + r3) := by omega
theorem fold_u (s0 s1 c2 c3 c4 c5 c6 r7 : Nat) :
    s0 + 256 * s1 + 65536 * (c2 + 256 * (c3 + 256 * (c4 + 256 * (c5 + 256 * (c6 + 256 * r7)))) + (c3 + 256 * (c4 + 256 * (c5 + 256 * (c6 + 256 * r7))))) + (c2 + 256 * (c3 + 256 * (c4 + 256 * (c5 + 256 * (c6 + 256 * r7)))) + (c3 + 256 * (c4 + 256 * (c5 + 256 * (c6 + 256 * r7)))))
      = (s0 + c2 + c3 + 256 * (s1 + c3 + c4) + 65536 * (c2 + c3 + c4 + c5) + 16777216 * (c3 + c4 + c5 + c6)) + 4294967296 * ((c4 + 256 * (c5 + 256 * (c6 + 256 * r7))) + (c5 + 256 * (c6 + 256 * r7)) + (c6 + 256 * r7) + r7) := by omega
theorem fold_t (s0 s1 s2 s3 c4 c5 c6 c7 : Nat) :
    s0 + 256 * s1 + 65536 * s2 + 16777216 * s3 + 4294967296 * ((c4 + 256 * (c5 + 256 * (c6 + 256 * c7))) + (c5 + 256 * (c6 + 256 * c7)) + (c6 + 256 * c7) + c7) + ((c4 + 256 * (c5 + 256 * (c6 + 256 * c7))) + (c5 + 256 * (c6 + 256 * c7)) + (c6 + 256 * c7) + c7)
      = 128 * (2 * s1 + 512 * s2 + 131072 * s3 + 33554432 * ((c4 + 256 * (c5 + 256 * (c6 + 256 * c7))) + (c5 + 256 * (c6 + 256 * c7)) + (c6 + 256 * c7) + c7) + 2 * ((c5 + 256 * (c6 + 256 * c7)) + (c6 + 256 * c7) + c7)) + (s0 + (c4 + c5 + c6 + c7)) := by omega

theorem fold_lo (c0 c1 c2 c3 c4 c5 c6 : Nat) (h0 : c0 ≤ 8) (h1 : c1 ≤ 8) (h2 : c2 ≤ 8) (h3 : c3 ≤ 8) (h4 : c4 ≤ 8) (h5 : c5 ≤ 8) (h6 : c6 ≤ 8) :
    c0 < 256 ∧ c0 + c1 + 256 * (c1 + c2) < 65536 ∧ (c0 + c1 + c2 + c3 + 256 * (c1 + c2 + c3 + c4) + 65536 * (c2 + c3 + c4 + c5) + 16777216 * (c3 + c4 + c5 + c6)) < 4294967296 := by
  refine ⟨by omega, by omega, by omega⟩
theorem fold_hi (c4 c5 c6 c7 : Nat) (h4 : c4 ≤ 8) (h5 : c5 ≤ 8) (h6 : c6 ≤ 8) (h7 : c7 ≤ 8) :
    (c4 + 256 * (c5 + 256 * (c6 + 256 * c7))) ≤ 134744072 ∧ ((c4 + 256 * (c5 + 256 * (c6 + 256 * c7))) + (c5 + 256 * (c6 + 256 * c7)) + (c6 + 256 * c7) + c7) ≤ 135272480 := by
  refine ⟨by omega, by omega⟩
theorem fold_mid (c2 c3 r4 : Nat) (h2 : c2 ≤ 8) (h3 : c3 ≤ 8) (h4 : r4 ≤ 134744072) : c2 + 256 * (c3 + 256 * r4) + (c3 + 256 * r4) ≤ 9000000000000 := by omega

theorem fold_bytes (c0 c1 c2 c3 c4 c5 c6 c7 : Nat) (h0 : c0 ≤ 8) (h1 : c1 ≤ 8) (h2 : c2 ≤ 8) (h3 : c3 ≤ 8) (h4 : c4 ≤ 8) (h5 : c5 ≤ 8) (h6 : c6 ≤ 8) (h7 : c7 ≤ 8) (z y u t : Nat)
    (hz : z = c0 + 256 * (c1 + 256 * (c2 + 256 * (c3 + 256 * (c4 + 256 * (c5 + 256 * (c6 + 256 * c7)))))))
    (hy : y = z + z / 256) (hu : u = y + y / 65536) (ht : t = u + u / 4294967296) :
    y < 18446744073709551616 ∧ u < 18446744073709551616 ∧ t < 9223372036854775808 ∧ t % 128 = c0 + c1 + c2 + c3 + c4 + c5 + c6 + c7 := by
  obtain ⟨b1, b2, b3⟩ := fold_lo c0 c1 c2 c3 c4 c5 c6 h0 h1 h2 h3 h4 h5 h6
  obtain ⟨b4, b5⟩ := fold_hi c4 c5 c6 c7 h4 h5 h6 h7
  have b6 := fold_mid c2 c3 _ h2 h3 b4
  have b7 : (c0 + c1 + c2 + c3) + (c4 + c5 + c6 + c7) < 128 := by clear hz hy hu ht b1 b2 b3 b4 b5 b6; omega
  clear h0 h1 h2 h3 h4 h5 h6 h7 b4
  have z1 : z / 256 = c1 + 256 * (c2 + 256 * (c3 + 256 * (c4 + 256 * (c5 + 256 * (c6 + 256 * c7))))) := by rw [hz]; exact div_of _ _ _ b1
  rw [z1, hz, fold_y] at hy
  have y2 : y / 65536 = _ := (congrArg (· / 65536) hy).trans (div_of _ _ _ b2)
  rw [y2, hy, fold_u] at hu
  have u2 : u / 4294967296 = _ := (congrArg (· / 4294967296) hu).trans (div_of _ _ _ b3)
  rw [u2, hu] at ht
  have t2 := ht
  rw [fold_t] at t2
  have hyb : y < 18446744073709551616 := by
    rw [hy]
    clear hz hy hu ht z1 y2 u2 t2 b7 b3 b5
    generalize c2 + 256 * (c3 + 256 * (c4 + 256 * (c5 + 256 * (c6 + 256 * c7)))) + (c3 + 256 * (c4 + 256 * (c5 + 256 * (c6 + 256 * c7)))) = R at *
    omega
  have hub : u < 4294967296 * 135272481 := by
    rw [hu]
    clear hz hy hu ht z1 y2 u2 t2 b7 b6 hyb
    generalize c4 + 256 * (c5 + 256 * (c6 + 256 * c7)) + (c5 + 256 * (c6 + 256 * c7)) + (c6 + 256 * c7) + c7 = R at *
    omega
  have htb : t < 9223372036854775808 := by
    have e := u2
    rw [← e] at b5
    have e2 : t = u + u / 4294967296 := by rw [e, hu]; exact ht
    clear hz hy hu ht z1 y2 u2 t2 b7 b6 hyb e b1 b2 b3
    omega
  refine ⟨hyb, ?_, htb, ?_⟩
  · clear hz hy hu ht z1 y2 u2 t2 b7 b6 b5 hyb b1 b2 b3 htb
    omega
  · rw [t2, mod_of _ _ b7]
    clear hz hy hu ht z1 y2 u2 t2 b7 b6 b5 hyb b1 b2 b3 htb hub
    omega

/-- What is reckoned is how many bits there are. -/
theorem count_fields (x : Nat) (hx : x < 18446744073709551616) (y u t : Nat) (hy : y = cnt 8 x + cnt 8 x / 256) (hu : u = y + y / 65536) (ht : t = u + u / 4294967296) :
    y < 18446744073709551616 ∧ u < 18446744073709551616 ∧ t < 9223372036854775808 ∧ t % 128 = Lib.onesCount x := by
  have hb : ∀ v, Lib.popAux 8 (v % 256) ≤ 8 := fun v => (bytes ⟨v % 256, by omega⟩).2.2.2.2
  obtain ⟨z, e⟩ : ∃ z, z = cnt 8 x := ⟨_, rfl⟩
  rw [← e] at hy
  rw [cnt_step, cnt_step, cnt_step, cnt_step, cnt_step, cnt_step, cnt_step, cnt_step, cnt_zero, Nat.mul_zero, Nat.add_zero] at e
  obtain ⟨g1, g2, g3, g4⟩ := fold_bytes _ _ _ _ _ _ _ _ (hb _) (hb _) (hb _) (hb _) (hb _) (hb _) (hb _) (hb _) _ y u t e hy hu ht
  refine ⟨g1, g2, g3, g4.trans ?_⟩
  unfold Lib.onesCount
  rw [pop_byte 56, pop_byte 48, pop_byte 40, pop_byte 32, pop_byte 24, pop_byte 16, pop_byte 8]
  have : Lib.popAux 8 (x / 256 / 256 / 256 / 256 / 256 / 256 / 256) = Lib.popAux 8 (x / 256 / 256 / 256 / 256 / 256 / 256 / 256 % 256) := by
    rw [Nat.mod_eq_of_lt (by clear e hy hu ht g1 g2 g3 g4; omega)]
  rw [this]
  clear e hy hu ht g1 g2 g3 g4
  simp only [Nat.add_assoc]

theorem msk85 : msk 85 8 = 6148914691236517205 := by decide +kernel
theorem msk51 : msk 51 8 = 3689348814741910323 := by decide +kernel
theorem msk15 : msk 15 8 = 1085102592571150095 := by decide +kernel

end Go.Proofs.Ytngkjmghhoemgaa.Sl
