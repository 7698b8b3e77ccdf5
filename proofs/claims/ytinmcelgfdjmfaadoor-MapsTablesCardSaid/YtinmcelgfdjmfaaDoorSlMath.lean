/-
  Sets of slots as four words, of no program: what is in them, one slot more, one less, either of two, the first alone, the slots one by one, rising. Conditions: as each states.
-/
import Derived.Lib.TrailingZeros
import Derived.Lib.BitFns
import Derived.Laws.BitsAllLaws
namespace Go.Proofs.YtinmcelgfdjmfaaDoor.Sl

/-- Four words of 64 slots each. -/
structure Four where
  a : Nat
  b : Nat
  c : Nat
  d : Nat

def Four.ok (s : Four) : Prop := s.a < 18446744073709551616 ∧ s.b < 18446744073709551616 ∧ s.c < 18446744073709551616 ∧ s.d < 18446744073709551616

def Four.word (s : Four) : Nat → Nat
  | 0 => s.a
  | 1 => s.b
  | 2 => s.c
  | _ => s.d

def Four.put (s : Four) (q x : Nat) : Four :=
  match q with
  | 0 => ⟨x, s.b, s.c, s.d⟩
  | 1 => ⟨s.a, x, s.c, s.d⟩
  | 2 => ⟨s.a, s.b, x, s.d⟩
  | _ => ⟨s.a, s.b, s.c, x⟩

def no : Four := ⟨0, 0, 0, 0⟩

/-- Is n, a slot, in s? -/
def Four.has (s : Four) (n : Nat) : Bool := (s.word (n / 64)).testBit (n % 64)

/-- The same of any number. -/
def Four.hasI (s : Four) (n : Int) : Bool := decide (0 ≤ n ∧ n < 256) && s.has n.toNat

theorem ok_no : no.ok := by unfold Four.ok no; simp
theorem ok_word {s : Four} (h : s.ok) (q : Nat) : s.word q < 18446744073709551616 := by
  obtain ⟨h1, h2, h3, h4⟩ := h
  unfold Four.word
  split <;> assumption
theorem ok_put {s : Four} (h : s.ok) (q : Nat) {x : Nat} (hx : x < 18446744073709551616) : (s.put q x).ok := by
  obtain ⟨h1, h2, h3, h4⟩ := h
  unfold Four.put
  split <;> exact ⟨by assumption, by assumption, by assumption, by assumption⟩
theorem word_put (s : Four) (q p x : Nat) (hq : q < 4) (hp : p < 4) : (s.put q x).word p = if p = q then x else s.word p := by
  obtain rfl | rfl | rfl | rfl : q = 0 ∨ q = 1 ∨ q = 2 ∨ q = 3 := by omega
  all_goals (obtain rfl | rfl | rfl | rfl : p = 0 ∨ p = 1 ∨ p = 2 ∨ p = 3 := by omega) <;> rfl

theorem lt_of_bits {x y : Nat} (hx : x < 18446744073709551616) (hy : y < 18446744073709551616) (h : ∀ j, j < 64 → x.testBit j = y.testBit j) : x = y := by
  apply Nat.eq_of_testBit_eq
  intro i
  by_cases hi : i < 64
  · exact h i hi
  · have e : ∀ z : Nat, z < 18446744073709551616 → z.testBit i = false := fun z hz => Nat.testBit_lt_two_pow (Nat.lt_of_lt_of_le hz (by
      have : 2 ^ 64 ≤ 2 ^ i := Nat.pow_le_pow_right (by decide) (by omega)
      exact this))
    rw [e x hx, e y hy]

theorem four_ext {s t : Four} (hs : s.ok) (ht : t.ok) (h : ∀ n, n < 256 → s.has n = t.has n) : s = t := by
  have key : ∀ q, q < 4 → s.word q = t.word q := fun q hq => lt_of_bits (ok_word hs q) (ok_word ht q) fun j hj => by
    have := h (64 * q + j) (by omega)
    unfold Four.has at this
    rwa [show (64 * q + j) / 64 = q by omega, show (64 * q + j) % 64 = j by omega] at this
  have h0 := key 0 (by omega)
  have h1 := key 1 (by omega)
  have h2 := key 2 (by omega)
  have h3 := key 3 (by omega)
  cases s
  cases t
  simp only [Four.word] at h0 h1 h2 h3
  subst h0 h1 h2 h3
  rfl

def Four.or (s t : Four) : Four := ⟨s.a ||| t.a, s.b ||| t.b, s.c ||| t.c, s.d ||| t.d⟩
/-- One word's slots but another's. -/
def cut (x y : Nat) : Nat := x &&& (18446744073709551615 - y)
def Four.sub (s t : Four) : Four := ⟨cut s.a t.a, cut s.b t.b, cut s.c t.c, cut s.d t.d⟩

theorem lt_two64 : (18446744073709551616 : Nat) = 2 ^ 64 := by decide
theorem or_lt {x y : Nat} (hx : x < 18446744073709551616) (hy : y < 18446744073709551616) : x ||| y < 18446744073709551616 := by
  rw [lt_two64] at *
  exact Nat.or_lt_two_pow hx hy
theorem cut_lt {x : Nat} (y : Nat) (hx : x < 18446744073709551616) : cut x y < 18446744073709551616 := Nat.lt_of_le_of_lt Nat.and_le_left hx
theorem bit_lt {r : Nat} (hr : r < 64) : 2 ^ r < 18446744073709551616 := by
  rw [lt_two64]
  exact Nat.pow_lt_pow_right (by decide) hr

theorem testBit_cut (x y j : Nat) (hy : y < 18446744073709551616) (hj : j < 64) : (cut x y).testBit j = (x.testBit j && !y.testBit j) := by
  unfold cut
  rw [Nat.testBit_and, show 18446744073709551615 - y = 2 ^ 64 - (y + 1) by omega, Nat.testBit_two_pow_sub_succ (by rw [← lt_two64]; exact hy)]
  simp [hj]

theorem ok_or {s t : Four} (hs : s.ok) (ht : t.ok) : (s.or t).ok := ⟨or_lt hs.1 ht.1, or_lt hs.2.1 ht.2.1, or_lt hs.2.2.1 ht.2.2.1, or_lt hs.2.2.2 ht.2.2.2⟩
theorem ok_sub {s : Four} (t : Four) (hs : s.ok) : (s.sub t).ok := ⟨cut_lt _ hs.1, cut_lt _ hs.2.1, cut_lt _ hs.2.2.1, cut_lt _ hs.2.2.2⟩

theorem word_or (s t : Four) (q : Nat) : (s.or t).word q = s.word q ||| t.word q := by
  unfold Four.word
  split <;> rfl
theorem word_sub (s t : Four) (q : Nat) : (s.sub t).word q = cut (s.word q) (t.word q) := by
  unfold Four.word
  split <;> rfl

theorem has_or (s t : Four) (n : Nat) : (s.or t).has n = (s.has n || t.has n) := by
  unfold Four.has
  rw [word_or, Nat.testBit_or]
theorem has_sub (s : Four) {t : Four} (ht : t.ok) (n : Nat) : (s.sub t).has n = (s.has n && !t.has n) := by
  unfold Four.has
  rw [word_sub, testBit_cut _ _ _ (ok_word ht _) (by omega)]
theorem has_no (n : Nat) : no.has n = false := by
  unfold Four.has Four.word no
  split <;> simp
theorem has_put (s : Four) (q x n : Nat) (hq : q < 4) (hn : n < 256) : (s.put q x).has n = if n / 64 = q then x.testBit (n % 64) else s.has n := by
  unfold Four.has
  rw [word_put _ _ _ _ hq (by omega)]
  split <;> rfl

/-- s and n. -/
def Four.with_ (s : Four) (n : Int) : Four := if 0 ≤ n ∧ n < 256 then s.put (n.toNat / 64) (s.word (n.toNat / 64) ||| 2 ^ (n.toNat % 64)) else s
/-- s but n. -/
def Four.without (s : Four) (n : Int) : Four := if 0 ≤ n ∧ n < 256 then s.put (n.toNat / 64) (cut (s.word (n.toNat / 64)) (2 ^ (n.toNat % 64))) else s
/-- The set of l's numbers. -/
def of (l : List Int) : Four := l.foldl Four.with_ no

theorem ok_with {s : Four} (h : s.ok) (n : Int) : (s.with_ n).ok := by
  unfold Four.with_
  split
  · exact ok_put h _ (or_lt (ok_word h _) (bit_lt (by omega)))
  · exact h
theorem ok_without {s : Four} (h : s.ok) (n : Int) : (s.without n).ok := by
  unfold Four.without
  split
  · exact ok_put h _ (cut_lt _ (ok_word h _))
  · exact h

theorem has_with (s : Four) (n : Int) (m : Nat) (hm : m < 256) : (s.with_ n).has m = (s.has m || decide (n = (m : Int))) := by
  unfold Four.with_
  split
  · rename_i hn
    rw [has_put _ _ _ _ (by omega) hm]
    unfold Four.has
    split
    · rename_i e
      rw [Nat.testBit_or, e, Nat.testBit_two_pow]
      congr 1
      rw [decide_eq_decide]
      omega
    · rename_i e
      have : decide (n = (m : Int)) = false := by rw [decide_eq_false_iff_not]; intro h; subst h; simp at e
      rw [this, Bool.or_false]
  · rename_i hn
    have : decide (n = (m : Int)) = false := by rw [decide_eq_false_iff_not]; intro h; subst h; omega
    rw [this, Bool.or_false]
theorem has_without (s : Four) (n : Int) (m : Nat) (hm : m < 256) : (s.without n).has m = (s.has m && !decide (n = (m : Int))) := by
  unfold Four.without
  split
  · rename_i hn
    rw [has_put _ _ _ _ (by omega) hm]
    unfold Four.has
    split
    · rename_i e
      rw [testBit_cut _ _ _ (bit_lt (by omega)) (by omega), e, Nat.testBit_two_pow]
      congr 2
      rw [decide_eq_decide]
      omega
    · rename_i e
      have : decide (n = (m : Int)) = false := by rw [decide_eq_false_iff_not]; intro h; subst h; simp at e
      rw [this, Bool.not_false, Bool.and_true]
  · rename_i hn
    have : decide (n = (m : Int)) = false := by rw [decide_eq_false_iff_not]; intro h; subst h; omega
    rw [this, Bool.not_false, Bool.and_true]

theorem ok_foldl (l : List Int) {s : Four} (h : s.ok) : (l.foldl Four.with_ s).ok := by
  induction l generalizing s with
  | nil => exact h
  | cons x l ih => exact ih (ok_with h x)
theorem ok_of (l : List Int) : (of l).ok := ok_foldl l ok_no
theorem of_snoc (l : List Int) (n : Int) : of (l ++ [n]) = (of l).with_ n := by
  unfold of
  rw [List.foldl_append]
  rfl

/-- With is Or with a set of one slot; Without is Sub of it. -/
theorem with_or {s : Four} (h : s.ok) (n : Int) : s.with_ n = s.or (of [n]) := by
  refine four_ext (ok_with h n) (ok_or h (ok_of _)) fun m hm => ?_
  rw [has_with _ _ _ hm, has_or]
  show _ = (s.has m || (no.with_ n).has m)
  rw [has_with _ _ _ hm, has_no, Bool.false_or]
theorem without_sub {s : Four} (h : s.ok) (n : Int) : s.without n = s.sub (of [n]) := by
  refine four_ext (ok_without h n) (ok_sub _ h) fun m hm => ?_
  rw [has_without _ _ _ hm, has_sub _ (ok_of _)]
  show _ = (s.has m && !(no.with_ n).has m)
  rw [has_with _ _ _ hm, has_no, Bool.false_or]

/-- A bit that is not there, added. -/
theorem add_bit {x r : Nat} (hr : r < 64) (hx : x < 18446744073709551616) (h : x.testBit r = false) : x + 2 ^ r = x ||| 2 ^ r := by
  have e := nat_bit r x
  have hz : x / 2 ^ r % 2 = 0 := by
    rw [Nat.testBit_eq_decide_div_mod_eq, decide_eq_false_iff_not] at h
    omega
  rw [hz, Nat.zero_mul] at e
  have hb := BitVec.add_eq_or_of_and_eq_zero (BitVec.ofNat 65 x) (BitVec.ofNat 65 (2 ^ r)) (by
    apply BitVec.eq_of_toNat_eq
    have h2 := bit_lt hr
    rw [BitVec.toNat_and, BitVec.toNat_ofNat, BitVec.toNat_ofNat, Nat.mod_eq_of_lt (by omega), Nat.mod_eq_of_lt (by omega), e]
    rfl)
  have h2 := bit_lt hr
  have := congrArg BitVec.toNat hb
  rw [BitVec.toNat_add, BitVec.toNat_or, BitVec.toNat_ofNat, BitVec.toNat_ofNat, Nat.mod_eq_of_lt (a := x) (by omega), Nat.mod_eq_of_lt (a := 2 ^ r) (by omega), Nat.mod_eq_of_lt (by omega)] at this
  exact this
/-- A bit that is there already. -/
theorem or_bit {x r : Nat} (h : x.testBit r = true) : x ||| 2 ^ r = x := by
  apply Nat.eq_of_testBit_eq
  intro i
  rw [Nat.testBit_or, Nat.testBit_two_pow]
  by_cases e : r = i
  · subst e; simp [h]
  · simp [e]

theorem put_word (s : Four) : (q : Nat) → s.put q (s.word q) = s
  | 0 => rfl
  | 1 => rfl
  | 2 => rfl
  | _ + 3 => rfl

/-- The document's step: where it is not there, its bit is added. -/
theorem with_add {s : Four} (h : s.ok) {n : Nat} (hn : n < 256) (hh : s.has n = false) : s.with_ (n : Int) = s.put (n / 64) (s.word (n / 64) + 2 ^ (n % 64)) := by
  unfold Four.with_
  rw [if_pos (by omega), Int.toNat_natCast, add_bit (by omega) (ok_word h _) hh]
theorem with_had {s : Four} {n : Nat} (hn : n < 256) (hh : s.has n = true) : s.with_ (n : Int) = s := by
  unfold Four.with_
  rw [if_pos (by omega), Int.toNat_natCast, or_bit hh, put_word]
theorem with_out {s : Four} {n : Int} (hn : n < 0 ∨ 256 ≤ n) : s.with_ n = s := by
  unfold Four.with_
  rw [if_neg (by omega)]
theorem without_out {s : Four} {n : Int} (hn : n < 0 ∨ 256 ≤ n) : s.without n = s := by
  unfold Four.without
  rw [if_neg (by omega)]

/-- k slots from lo on. -/
def span (lo : Nat) : Nat → Four
  | 0 => no
  | k + 1 => (span lo k).with_ ((lo + k : Nat) : Int)
theorem ok_span (lo k : Nat) : (span lo k).ok := by
  induction k with
  | zero => exact ok_no
  | succ k ih => exact ok_with ih _
theorem has_span (lo k m : Nat) (hm : m < 256) : (span lo k).has m = decide (lo ≤ m ∧ m < lo + k) := by
  induction k with
  | zero => rw [show span lo 0 = no from rfl, has_no]; symm; rw [decide_eq_false_iff_not]; omega
  | succ k ih =>
    rw [show span lo (k + 1) = (span lo k).with_ ((lo + k : Nat) : Int) from rfl, has_with _ _ _ hm, ih, ← Bool.decide_or, decide_eq_decide]
    omega
/-- Those from f on, ahead of t. -/
def range (f t : Int) : Four := span (max f 0).toNat (min t 256 - max f 0).toNat
theorem has_range (f t : Int) (m : Nat) (hm : m < 256) : (range f t).has m = decide (f ≤ (m : Int) ∧ (m : Int) < t) := by
  unfold range
  rw [has_span _ _ _ hm, decide_eq_decide]
  omega

def Four.inside (s t : Four) : Bool := decide ((s.sub t).a = 0 ∧ (s.sub t).b = 0 ∧ (s.sub t).c = 0 ∧ (s.sub t).d = 0)
theorem inside_iff {s t : Four} (hs : s.ok) (ht : t.ok) : s.inside t = true ↔ ∀ m, m < 256 → s.has m = true → t.has m = true := by
  have e : s.inside t = true ↔ s.sub t = no := by
    unfold Four.inside no
    rw [decide_eq_true_iff]
    generalize s.sub t = u
    cases u
    simp
  rw [e]
  constructor
  · intro h m hm h1
    have := congrArg (fun u => Four.has u m) h
    simp only [has_sub _ ht, has_no, h1, Bool.true_and] at this
    simpa using this
  · intro h
    refine four_ext (ok_sub _ hs) ok_no fun m hm => ?_
    rw [has_sub _ ht, has_no]
    have := h m hm
    cases h1 : s.has m
    · rfl
    · rw [this h1]; rfl

end Go.Proofs.YtinmcelgfdjmfaaDoor.Sl
