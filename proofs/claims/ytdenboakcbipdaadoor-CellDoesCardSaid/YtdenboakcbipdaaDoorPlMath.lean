/-
  Floats of 64 bits: which are no numbers, which are alike, what is cut to a whole number; whole numbers below 2^53 are just. Conditions: none.
-/
import Derived.Laws.ComplexArith
namespace Go.Proofs.YtdenboakcbipdaaDoor
namespace Pl
open Ieee

theorem sw : double.signWeight = 9223372036854775808 := rfl
theorem bi : double.binade = 4503599627370496 := rfl
theorem ir : double.infRung = 9218868437227405312 := rfl
theorem lp : double.leastPlace = -1074 := rfl
theorem fb : double.fractionBits = 52 := rfl

/-- No number. -/
def NaN (x : Nat) : Prop := ∃ s t, double.read x = .nan s t
/-- The same bits, or no numbers both. -/
def Al (a b : Nat) : Prop := a = b ∨ (NaN a ∧ NaN b)
/-- What an operation may yield. -/
def FR (op : BinOp) (x y r : Nat) : Prop := floatBits op .f64 x y = some r ∨ (floatBits op .f64 x y = none ∧ NaN r)
/-- The operations that are met. -/
def Op3 (op : BinOp) : Prop := op = .add ∨ op = .sub ∨ op = .mul

theorem Al.refl (a : Nat) : Al a a := .inl rfl

theorem bits_nan_left {op : BinOp} {x y : Nat} (hop : Op3 op) (h : NaN x) : floatBits op .f64 x y = none := by
  obtain ⟨s, t, h⟩ := h
  rcases hop with rfl | rfl | rfl <;> simp [floatBits, FloatKind.format, Format.add, Format.sub, Format.mul, h, Datum.sum, Datum.product]

theorem bits_nan_right {op : BinOp} {x y : Nat} (hop : Op3 op) (h : NaN y) : floatBits op .f64 x y = none := by
  obtain ⟨s, t, h⟩ := h
  rcases hop with rfl | rfl | rfl <;> simp only [floatBits, FloatKind.format, Format.add, Format.sub, Format.mul, h, Datum.opposite] <;> cases double.read x <;> simp [Datum.sum, Datum.product]

theorem fr_al {op : BinOp} {x y r x' y' r' : Nat} (hop : Op3 op) (h : FR op x y r) (h' : FR op x' y' r') (hx : Al x x') (hy : Al y y') : Al r r' := by
  rcases hx with rfl | ⟨hx, hx'⟩
  · rcases hy with rfl | ⟨hy, hy'⟩
    · rcases h with h | ⟨h, hn⟩ <;> rcases h' with h' | ⟨h', hn'⟩
      · rw [h] at h'; injection h' with h'; exact .inl h'
      · rw [h] at h'; cases h'
      · rw [h] at h'; cases h'
      · exact .inr ⟨hn, hn'⟩
    · rcases h with h | ⟨h, hn⟩
      · rw [bits_nan_right hop hy] at h; cases h
      · rcases h' with h' | ⟨h', hn'⟩
        · rw [bits_nan_right hop hy'] at h'; cases h'
        · exact .inr ⟨hn, hn'⟩
  · rcases h with h | ⟨h, hn⟩
    · rw [bits_nan_left hop hx] at h; cases h
    · rcases h' with h' | ⟨h', hn'⟩
      · rw [bits_nan_left hop hx'] at h'; cases h'
      · exact .inr ⟨hn, hn'⟩

theorem order_nan_left {x : Nat} (h : NaN x) (y : Nat) : double.order x y = none := by
  obtain ⟨s, t, h⟩ := h
  simp [Format.order, h, Datum.order]

theorem order_nan_right {y : Nat} (h : NaN y) (x : Nat) : double.order x y = none := by
  obtain ⟨s, t, h⟩ := h
  simp only [Format.order, h]
  cases double.read x <;> simp [Datum.order]

theorem order_self {x : Nat} : double.order x x = some .eq ∨ NaN x := by
  unfold Format.order NaN
  cases double.read x with
  | number s m e => left; simp [Datum.order, Std.ReflCmp.compare_self]
  | infinity s => left; simp [Datum.order, Std.ReflCmp.compare_self]
  | nan s t => right; exact ⟨s, t, rfl⟩

/-- The same numbers, or both none? -/
def al (x y : Nat) : Bool := (double.order x y == some .eq) || ((double.order x x != some .eq) && (double.order y y != some .eq))

theorem al_of {a b : Nat} (h : Al a b) : al a b = true := by
  unfold al
  rcases h with rfl | ⟨h, h'⟩
  · cases h : (double.order a a == some .eq) <;> simp [bne, h]
  · simp [order_nan_left h, order_nan_left h']

theorem al_congr {a b x y : Nat} (h : Al a b) (k : Al x y) : al a x = al b y := by
  unfold al
  rcases h with rfl | ⟨h, h'⟩
  · rcases k with rfl | ⟨k, k'⟩
    · rfl
    · simp [order_nan_right k, order_nan_right k']
  · rcases k with rfl | ⟨k, k'⟩
    · simp [order_nan_left h, order_nan_left h']
    · simp [order_nan_left h, order_nan_left h', order_nan_left k, order_nan_left k']

theorem order_swap (x y : Nat) : (double.order x y == some .gt) = (double.order y x == some .lt) := by
  have hc : ∀ a b : Int, (compare a b == Ordering.gt) = (compare b a == Ordering.lt) := by
    intro a b
    rw [Bool.eq_iff_iff, beq_iff_eq, beq_iff_eq, Int.compare_eq_gt, Int.compare_eq_lt]
  have hb : ∀ s t : Bool, (compare t.toNat s.toNat == Ordering.gt) = (compare s.toNat t.toNat == Ordering.lt) := by decide
  unfold Format.order
  cases double.read x with
  | nan s t => cases double.read y <;> simp [Datum.order]
  | infinity s =>
    cases double.read y with
    | nan s t => simp [Datum.order]
    | infinity t => simpa [Datum.order] using hb s t
    | number t n j => cases s <;> simp [Datum.order]
  | number s m i =>
    cases double.read y with
    | nan s t => simp [Datum.order]
    | infinity t => cases t <;> simp [Datum.order]
    | number t n j =>
      have := hc (signed s m (i - min i j).toNat) (signed t n (j - min i j).toNat)
      simpa [Datum.order, Int.min_comm] using this

/-- Far, and the other end. -/
abbrev far : Nat := 4886405595696988160
abbrev raf : Nat := 14109777632551763968
theorem read_far : double.read far = .number false 4503599627370496 10 := by decide +kernel
theorem read_raf : double.read raf = .number true 4503599627370496 10 := by decide +kernel

/-- Within the ends? -/
def within (x : Nat) : Bool := (double.order raf x == some .lt) && (double.order x far == some .lt)
/-- A part: towards 0, within the ends. -/
def near (x : Nat) : Int := if within x then (floatToIntVal .f64 x .i64).getD 0 else 0

theorem near_congr {a b : Nat} (h : Al a b) : near a = near b := by
  rcases h with rfl | ⟨h, h'⟩
  · rfl
  · simp [near, within, order_nan_right h, order_nan_right h']

theorem sg_shift (s : Bool) (m k : Nat) : signed s m k = signed s m 0 * 2 ^ k := by
  unfold signed
  cases s <;> simp [Nat.shiftLeft_eq, Int.neg_mul]

theorem sg_abs (s : Bool) (m : Nat) : (signed s m 0).natAbs = m := by
  unfold signed
  cases s <;> simp [Nat.shiftLeft_eq]

theorem cut_zero_le (s : Bool) (n d : Nat) : Toward.cut .zero s n d ≤ n := by
  simp only [Toward.cut, Bool.toNat_false, Nat.add_zero]
  exact Nat.div_le_self _ _

theorem read_low {x : Nat} (h : x % 9223372036854775808 < 4503599627370496) : double.read x = .number (x / 9223372036854775808 % 2 == 1) (x % 9223372036854775808) (-1074) := if_pos h
theorem read_mid {x : Nat} (h : ¬ x % 9223372036854775808 < 4503599627370496) (h2 : x % 9223372036854775808 < 9218868437227405312) :
    double.read x = .number (x / 9223372036854775808 % 2 == 1) (4503599627370496 + x % 9223372036854775808 % 4503599627370496) (-1074 + (x % 9223372036854775808 / 4503599627370496 - 1 : Nat)) := (if_neg h).trans (if_pos h2)
theorem read_inf {x : Nat} (h : x % 9223372036854775808 = 9218868437227405312) : double.read x = .infinity (x / 9223372036854775808 % 2 == 1) :=
  (if_neg (show ¬ x % 9223372036854775808 < 4503599627370496 by omega)).trans ((if_neg (show ¬ x % 9223372036854775808 < 9218868437227405312 by omega)).trans (if_pos h))
theorem read_nan {x : Nat} (h : 9218868437227405312 < x % 9223372036854775808) : double.read x = .nan (x / 9223372036854775808 % 2 == 1) (x % 9223372036854775808 - 9218868437227405312) :=
  (if_neg (show ¬ x % 9223372036854775808 < 4503599627370496 by omega)).trans ((if_neg (show ¬ x % 9223372036854775808 < 9218868437227405312 by omega)).trans (if_neg (show ¬ x % 9223372036854775808 = 9218868437227405312 by omega)))

/-- What the tape tells of an operation that has no answer is no number. -/
theorem nan_cut (t x y : Nat) : NaN (Question.cut (.nanBits .f64 x y) t) := by
  have e : Question.cut (.nanBits .f64 x y) t = (t % 2) * 9223372036854775808 + 9218868437227405312 + 1 + (t / 2) % 4503599627370495 := rfl
  have h1 : t % 2 < 2 := Nat.mod_lt _ (by decide)
  have h2 : (t / 2) % 4503599627370495 < 4503599627370495 := Nat.mod_lt _ (by decide)
  rw [e]
  generalize t % 2 = a at h1
  generalize (t / 2) % 4503599627370495 = r at h2
  obtain rfl | rfl : a = 0 ∨ a = 1 := by omega
  · exact ⟨_, _, read_nan (by omega)⟩
  · exact ⟨_, _, read_nan (by omega)⟩

theorem read_mag {x : Nat} {s : Bool} {m : Nat} {e : Int} (h : double.read x = .number s m e) : m < 9007199254740992 := by
  by_cases h1 : x % 9223372036854775808 < 4503599627370496
  · rw [read_low h1] at h
    injection h with _ h _
    omega
  · by_cases h2 : x % 9223372036854775808 < 9218868437227405312
    · rw [read_mid h1 h2] at h
      injection h with _ h _
      omega
    · by_cases h3 : x % 9223372036854775808 = 9218868437227405312
      · rw [read_inf h3] at h; cases h
      · rw [read_nan (by omega)] at h; cases h

/-- Within the ends a float is cut to a whole number of its kind. -/
theorem int_within {x : Nat} (h : within x = true) : floatToIntVal .f64 x .i64 = some (near x) := by
  have hw := h
  simp only [within, Bool.and_eq_true, beq_iff_eq, Format.order, read_far, read_raf] at h
  obtain ⟨h1, h2⟩ := h
  suffices hs : ∃ n, floatToIntVal .f64 x .i64 = some n by
    obtain ⟨n, hn⟩ := hs
    simp [near, hw, hn]
  cases hx : double.read x with
  | nan s t => rw [hx] at h1; simp [Datum.order] at h1
  | infinity s => rw [hx] at h1 h2; cases s <;> simp [Datum.order] at h1 h2
  | number s m e =>
    have hm := read_mag hx
    rw [hx] at h1 h2
    simp only [Datum.order, Option.some.injEq, Int.compare_eq_lt] at h1 h2
    have hb : m <<< e.toNat < 9223372036854775808 := by
      rw [Nat.shiftLeft_eq]
      by_cases he : e ≤ 0
      · have : e.toNat = 0 := by omega
        rw [this]; omega
      · by_cases he10 : e ≤ 10
        · have hp : 2 ^ e.toNat ≤ 2 ^ 10 := Nat.pow_le_pow_right (by decide) (by omega)
          have hq : m * 2 ^ e.toNat ≤ 9007199254740991 * 2 ^ 10 := Nat.mul_le_mul (by omega) hp
          omega
        · have e1 : min e 10 = 10 := by omega
          have e2 : min 10 e = 10 := by omega
          rw [e2] at h1
          rw [e1] at h2
          have hz : (10 - 10 : Int).toNat = 0 := rfl
          rw [hz] at h1 h2
          rw [sg_shift s m] at h1 h2
          have hf : signed false 4503599627370496 0 = 4503599627370496 := rfl
          have ht : signed true 4503599627370496 0 = -4503599627370496 := rfl
          rw [ht] at h1
          rw [hf] at h2
          have ha : (signed s m 0 * 2 ^ (e - 10).toNat).natAbs < 4503599627370496 := by omega
          rw [Int.natAbs_mul, sg_abs, Int.natAbs_pow] at ha
          have hpe : 2 ^ e.toNat = 2 ^ (e - 10).toNat * 2 ^ 10 := by rw [← Nat.pow_add]; congr 1; omega
          rw [hpe, ← Nat.mul_assoc]
          have : (2 : Int).natAbs = 2 := rfl
          rw [this] at ha
          omega
    have hc := cut_zero_le s (m <<< e.toNat) (-e).toNat
    simp only [floatToIntVal, FloatKind.decode, FloatKind.format, hx, Datum.toInt, Datum.integral]
    generalize Toward.cut .zero s (m <<< e.toNat) (-e).toNat = n at hc
    have hn : n < 9223372036854775808 := by omega
    have hi : IntKind.min .i64 ≤ signed s n 0 ∧ signed s n 0 ≤ IntKind.max .i64 := by
      have := sg_abs s n
      show -9223372036854775808 ≤ signed s n 0 ∧ signed s n 0 ≤ 9223372036854775807
      omega
    exact ⟨_, if_pos hi⟩

/-- A datum that is the whole number n. -/
def D (d : Datum) (n : Int) : Prop := ∃ (s : Bool) (m k : Nat), d = .number s m (-(k : Int)) ∧ signed s m 0 = n * 2 ^ k

theorem D.opposite {d : Datum} {n : Int} (h : D d n) : D d.opposite (-n) := by
  obtain ⟨s, m, k, rfl, h⟩ := h
  refine ⟨!s, m, k, rfl, ?_⟩
  rw [Int.neg_mul, ← h]
  unfold signed
  cases s <;> simp

theorem D.product {d e : Datum} {n o : Int} (h : D d n) (h' : D e o) : ∃ f, d.product e = some f ∧ D f (n * o) := by
  obtain ⟨s, m, k, rfl, h⟩ := h
  obtain ⟨s', m', k', rfl, h'⟩ := h'
  refine ⟨_, rfl, s ^^ s', m * m', k + k', ?_, ?_⟩
  · congr 1; omega
  · have e : signed (s ^^ s') (m * m') 0 = signed s m 0 * signed s' m' 0 := by
      unfold signed
      cases s <;> cases s' <;> simp [Int.neg_mul, Int.mul_neg]
    rw [e, h, h', Int.pow_add]
    simp only [Int.mul_assoc, Int.mul_left_comm]

theorem D.sum {d e : Datum} {n o : Int} (h : D d n) (h' : D e o) : ∃ f, d.sum e = some f ∧ D f (n + o) := by
  obtain ⟨s, m, k, rfl, h⟩ := h
  obtain ⟨s', m', k', rfl, h'⟩ := h'
  obtain ⟨K, hK⟩ : ∃ K, K = max k k' := ⟨_, rfl⟩
  have hmin : min (-(k : Int)) (-(k' : Int)) = -(K : Int) := by omega
  have h1 : (-(k : Int) - -(K : Int)).toNat = K - k := by omega
  have h2 : (-(k' : Int) - -(K : Int)).toNat = K - k' := by omega
  have hp : ∀ j, j ≤ K → (2 : Int) ^ j * 2 ^ (K - j) = 2 ^ K := fun j hj => by rw [← Int.pow_add]; congr 1; omega
  have ht : signed s m (K - k) + signed s' m' (K - k') = (n + o) * 2 ^ K := by
    rw [sg_shift s, sg_shift s', h, h', Int.mul_assoc, Int.mul_assoc, hp k (by omega), hp k' (by omega), Int.add_mul]
  refine ⟨_, rfl, _, _, K, by rw [hmin], ?_⟩
  rw [h1, h2, ht]
  generalize (n + o) * 2 ^ K = T
  unfold signed
  by_cases h0 : T = 0
  · subst h0
    simp
  · rw [if_neg h0]
    by_cases hT : T < 0
    · simp [hT]; omega
    · simp [hT]; omega

theorem log_mul (N c : Nat) (h : N ≠ 0) : (N * 2 ^ c).log2 = N.log2 + c := by
  have h0 : N * 2 ^ c ≠ 0 := Nat.mul_ne_zero h (by have := Nat.two_pow_pos c; omega)
  rw [Nat.log2_eq_iff h0]
  have h1 := Nat.log2_self_le h
  have h2 := Nat.lt_log2_self (n := N)
  have hp := Nat.two_pow_pos c
  constructor
  · rw [Nat.pow_add]
    exact Nat.mul_le_mul_right _ h1
  · have : N.log2 + c + 1 = N.log2 + 1 + c := by omega
    rw [this, Nat.pow_add 2 (N.log2 + 1)]
    exact Nat.mul_lt_mul_of_pos_right h2 hp

theorem cut_just (s : Bool) (N d : Nat) (w : Toward) (h : N ≠ 0) : w.cut s (N * 2 ^ d) d = N := by
  have hl := log_mul N d h
  have hp := Nat.two_pow_pos d
  have hm : min d ((N * 2 ^ d).log2 + 2) = d := by omega
  simp only [Toward.cut, hm, Nat.one_shiftLeft, Nat.mul_mod_left, Nat.mul_div_cancel _ hp]
  cases w <;> simp <;> omega

theorem rung (j q : Nat) (h2 : j ≤ 2046) (hq : q < 4503599627370496) : j * 4503599627370496 + q < 9218868437227405312 ∧ (j * 4503599627370496 + q) % 4503599627370496 = q ∧ (j * 4503599627370496 + q) / 4503599627370496 = j := by
  refine ⟨by omega, ?_, ?_⟩
  · rw [Nat.mul_comm, Nat.mul_add_mod, Nat.mod_eq_of_lt hq]
  · rw [Nat.mul_comm, Nat.mul_add_div (by decide), Nat.div_eq_of_lt hq, Nat.add_zero]

theorem read_pos (j q : Nat) (h1 : 1 ≤ j) (h2 : j ≤ 2046) (hq : q < 4503599627370496) : double.read (j * 4503599627370496 + q) = .number false (4503599627370496 + q) (-1074 + (j - 1 : Nat)) := by
  obtain ⟨r1, r2, r3⟩ := rung j q h2 hq
  have hlo : ¬ j * 4503599627370496 + q < 4503599627370496 := by omega
  generalize j * 4503599627370496 + q = R at *
  have hm : R % 9223372036854775808 = R := Nat.mod_eq_of_lt (by omega)
  have hd : R / 9223372036854775808 = 0 := Nat.div_eq_of_lt (by omega)
  rw [read_mid (by rw [hm]; exact hlo) (by rw [hm]; exact r1), hm, hd, r2, r3]
  rfl

theorem read_neg (j q : Nat) (h1 : 1 ≤ j) (h2 : j ≤ 2046) (hq : q < 4503599627370496) : double.read (9223372036854775808 + (j * 4503599627370496 + q)) = .number true (4503599627370496 + q) (-1074 + (j - 1 : Nat)) := by
  obtain ⟨r1, r2, r3⟩ := rung j q h2 hq
  have hlo : ¬ j * 4503599627370496 + q < 4503599627370496 := by omega
  generalize j * 4503599627370496 + q = R at *
  have hm : (9223372036854775808 + R) % 9223372036854775808 = R := by rw [Nat.add_mod_left]; exact Nat.mod_eq_of_lt (by omega)
  have hd : (9223372036854775808 + R) / 9223372036854775808 = 1 := by rw [Nat.add_div_left _ (by decide), Nat.div_eq_of_lt (by omega)]
  rw [read_mid (by rw [hm]; exact hlo) (by rw [hm]; exact r1), hm, hd, r2, r3]
  rfl

theorem small_rung (k M : Nat) (h : M < 9007199254740992) : (1074 - k) * 4503599627370496 + M ≤ 9218868437227405312 := by omega

/-- A whole number below 2^53 is written, and read again, just. -/
theorem D.write {d : Datum} {n : Int} (h : D d n) (hn : n.natAbs < 9007199254740992) : D (double.read (double.write d)) n := by
  obtain ⟨s, m, c, rfl, h⟩ := h
  have hmag : m = n.natAbs * 2 ^ c := by
    have := congrArg Int.natAbs h
    rw [sg_abs, Int.natAbs_mul, Int.natAbs_pow] at this
    exact this
  by_cases h0 : n = 0
  · subst h0
    have hm0 : m = 0 := by rw [hmag]; simp
    subst hm0
    refine ⟨s, 0, 1074, ?_, by rw [Int.zero_mul]; cases s <;> rfl⟩
    have e : double.write (.number s 0 (-(c : Int))) = double.word s 0 := by
      show double.nearest s 0 _ = _
      unfold Format.nearest
      rw [if_pos rfl]
    rw [e]
    cases s <;> decide +kernel
  · have hN : n.natAbs ≠ 0 := by omega
    obtain ⟨N, hNe⟩ : ∃ N, n.natAbs = N := ⟨_, rfl⟩
    rw [hNe] at hmag hN hn
    have hsn : signed s N 0 = n := by
      have hp : (0 : Int) < 2 ^ c := Int.pow_pos (by decide)
      rw [hmag] at h
      unfold signed at h ⊢
      cases s
      · simp at h ⊢
        have : (N : Int) * 2 ^ c = n * 2 ^ c := by simpa using h
        exact Int.eq_of_mul_eq_mul_right (Int.ne_of_gt hp) this
      · simp at h ⊢
        have : (-(N : Int)) * 2 ^ c = n * 2 ^ c := by rw [Int.neg_mul]; simpa using h
        exact Int.eq_of_mul_eq_mul_right (Int.ne_of_gt hp) this
    have hl : N.log2 ≤ 52 := by
      have : N.log2 < 53 := (Nat.log2_lt hN).2 hn
      omega
    obtain ⟨k, hk⟩ : ∃ k, k = 52 - N.log2 := ⟨_, rfl⟩
    have hlm := log_mul N c hN
    have hm0 : m ≠ 0 := by rw [hmag]; exact Nat.mul_ne_zero hN (by have := Nat.two_pow_pos c; omega)
    have hlo : 4503599627370496 ≤ N * 2 ^ k := by
      have h1 := Nat.log2_self_le hN
      have e : (4503599627370496 : Nat) = 2 ^ N.log2 * 2 ^ k := by
        rw [← Nat.pow_add]
        have : N.log2 + k = 52 := by omega
        rw [this]
      rw [e]
      exact Nat.mul_le_mul_right _ h1
    have hhi : N * 2 ^ k < 9007199254740992 := by
      have h2 := Nat.lt_log2_self (n := N)
      have e : (9007199254740992 : Nat) = 2 ^ (N.log2 + 1) * 2 ^ k := by
        rw [← Nat.pow_add]
        have : N.log2 + 1 + k = 53 := by omega
        rw [this]
      rw [e]
      exact Nat.mul_lt_mul_of_pos_right h2 (Nat.two_pow_pos k)
    have hcut : Toward.even.cut s (m <<< (k - c)) (c - k) = N * 2 ^ k := by
      rw [Nat.shiftLeft_eq, hmag]
      have hNk : N * 2 ^ k ≠ 0 := by omega
      by_cases hck : c ≤ k
      · have e1 : N * 2 ^ c * 2 ^ (k - c) = N * 2 ^ k := by rw [Nat.mul_assoc, ← Nat.pow_add]; congr 2; omega
        have e2 : c - k = 0 := by omega
        rw [e1, e2]
        simpa using cut_just s (N * 2 ^ k) 0 .even hNk
      · have e1 : N * 2 ^ c * 2 ^ (k - c) = N * 2 ^ k * 2 ^ (c - k) := by
          have e2 : k - c = 0 := by omega
          rw [e2, Nat.pow_zero, Nat.mul_one, Nat.mul_assoc, ← Nat.pow_add]
          congr 2; omega
        rw [e1]
        exact cut_just s _ _ .even hNk
    have hword : double.write (.number s m (-(c : Int))) = (if s then 9223372036854775808 + ((1074 - k) * 4503599627370496 + N * 2 ^ k) else (1074 - k) * 4503599627370496 + N * 2 ^ k) := by
      have e0 : double.write (.number s m (-(c : Int))) = double.nearest s m (-(c : Int)) := rfl
      have hlast : max (-(c : Int) + (m.log2 : Int) - 52) (-1074) = -(k : Int) := by rw [hmag, hlm]; omega
      rw [e0]
      unfold Format.nearest
      rw [if_neg hm0]
      simp only [fb, lp, bi, ir]
      have e52 : ((52 : Nat) : Int) = 52 := rfl
      rw [e52, hlast]
      have e1 : (-(c : Int) - -(k : Int)).toNat = k - c := by omega
      have e2 : (-(k : Int) - -(c : Int)).toNat = c - k := by omega
      have e3 : (-(k : Int) - -1074).toNat = 1074 - k := by omega
      rw [e1, e2, e3, hcut]
      have hmin : min ((1074 - k) * 4503599627370496 + N * 2 ^ k) 9218868437227405312 = (1074 - k) * 4503599627370496 + N * 2 ^ k := Nat.min_eq_left (small_rung k _ hhi)
      rw [hmin]
      rfl
    refine ⟨s, N * 2 ^ k, k, ?_, ?_⟩
    · rw [hword]
      generalize N * 2 ^ k = M at hlo hhi
      have hk52 : k ≤ 52 := by omega
      obtain ⟨q, rfl⟩ : ∃ q, M = 4503599627370496 + q := ⟨M - 4503599627370496, by omega⟩
      obtain ⟨j, hj⟩ : ∃ j, j + k = 1075 := ⟨1075 - k, by omega⟩
      have er : (1074 - k) * 4503599627370496 + (4503599627370496 + q) = j * 4503599627370496 + q := by
        have : j = (1074 - k) + 1 := by omega
        rw [this, Nat.add_mul]; omega
      rw [er]
      cases s
      · rw [if_neg (by decide), read_pos j q (by omega) (by omega) (by omega)]
        congr 1; omega
      · rw [if_pos rfl, read_neg j q (by omega) (by omega) (by omega)]
        congr 1; omega
    · rw [← hsn]
      unfold signed
      cases s <;> simp [Int.neg_mul]

theorem D.int (n : Int) (h : n.natAbs < 9007199254740992) : D (double.read (floatOfInt .f64 n)) n := by
  refine D.write (d := .number (decide (n < 0)) n.natAbs 0) ⟨decide (n < 0), n.natAbs, 0, rfl, ?_⟩ h
  unfold signed
  by_cases h0 : n < 0
  · simp [h0]; omega
  · simp [h0]; omega

theorem fr_just {op : BinOp} {x y r : Nat} {n : Int} (h : ∃ v, floatBits op .f64 x y = some v ∧ D (double.read v) n) (hr : FR op x y r) : D (double.read r) n := by
  obtain ⟨v, hv, hd⟩ := h
  rcases hr with hr | ⟨hr, _⟩
  · rw [hv] at hr
    injection hr with hr
    rwa [← hr]
  · rw [hv] at hr
    cases hr

theorem D.add {x y r : Nat} {a b : Int} (h : D (double.read x) a) (h' : D (double.read y) b) (hs : (a + b).natAbs < 9007199254740992) (hr : FR .add x y r) : D (double.read r) (a + b) := by
  obtain ⟨f, hf, hd⟩ := h.sum h'
  exact fr_just ⟨_, by simp only [floatBits, FloatKind.format, Format.add, hf]; rfl, hd.write hs⟩ hr

theorem D.sub {x y r : Nat} {a b : Int} (h : D (double.read x) a) (h' : D (double.read y) b) (hs : (a - b).natAbs < 9007199254740992) (hr : FR .sub x y r) : D (double.read r) (a - b) := by
  obtain ⟨f, hf, hd⟩ := h.sum h'.opposite
  exact fr_just ⟨_, by simp only [floatBits, FloatKind.format, Format.sub, hf]; rfl, hd.write hs⟩ hr

theorem D.mul {x y r : Nat} {a b : Int} (h : D (double.read x) a) (h' : D (double.read y) b) (hs : (a * b).natAbs < 9007199254740992) (hr : FR .mul x y r) : D (double.read r) (a * b) := by
  obtain ⟨f, hf, hd⟩ := h.product h'
  exact fr_just ⟨_, by simp only [floatBits, FloatKind.format, Format.mul, hf]; rfl, hd.write hs⟩ hr

theorem D.not_nan {x : Nat} {n : Int} (h : D (double.read x) n) : ¬ NaN x := by
  obtain ⟨s, m, k, h, _⟩ := h
  rintro ⟨s', t, h'⟩
  rw [h] at h'
  cases h'

theorem D.within {x : Nat} {n : Int} (h : D (double.read x) n) (hn : n.natAbs < 4611686018427387904) : within x = true := by
  obtain ⟨s, m, k, h, hv⟩ := h
  have hp : (0 : Int) < 2 ^ k := Int.pow_pos (by decide)
  have e1 : min (-(k : Int)) 10 = -(k : Int) := by omega
  have e2 : min 10 (-(k : Int)) = -(k : Int) := by omega
  have e3 : (-(k : Int) - -(k : Int)).toNat = 0 := by omega
  have e4 : (10 - -(k : Int)).toNat = 10 + k := by omega
  have hf : signed false 4503599627370496 0 = 4503599627370496 := rfl
  have ht : signed true 4503599627370496 0 = -4503599627370496 := rfl
  have h10 : (2 : Int) ^ 10 = 1024 := rfl
  simp only [Pl.within, Format.order, read_far, read_raf, h, Datum.order, e1, e2, e3, e4, sg_shift _ _ (10 + k), hf, ht, hv, Int.pow_add, h10, Bool.and_eq_true, beq_iff_eq, Option.some.injEq, Int.compare_eq_lt, ← Int.mul_assoc]
  refine ⟨Int.mul_lt_mul_of_pos_right (by omega) hp, Int.mul_lt_mul_of_pos_right (by omega) hp⟩

theorem D.toInt {d : Datum} {n : Int} (h : D d n) : d.toInt .zero = some n := by
  obtain ⟨s, m, k, rfl, hv⟩ := h
  have hmag : m = n.natAbs * 2 ^ k := by
    have := congrArg Int.natAbs hv
    rw [sg_abs, Int.natAbs_mul, Int.natAbs_pow] at this
    exact this
  have hk0 : (-(k : Int)).toNat = 0 := by omega
  have hk1 : (-(-(k : Int))).toNat = k := by omega
  have hc : Toward.cut .zero s m k = n.natAbs := by
    by_cases h0 : n = 0
    · subst h0
      have : m = 0 := by rw [hmag]; simp
      subst this
      have := cut_zero_le s 0 k
      simp
      omega
    · rw [hmag]
      exact cut_just s _ _ .zero (by omega)
  simp only [Datum.toInt, Datum.integral, hk0, hk1, Nat.shiftLeft_zero, hc, Option.some.injEq]
  by_cases h0 : n = 0
  · subst h0
    cases s <;> rfl
  · have hp : (0 : Int) < 2 ^ k := Int.pow_pos (by decide)
    rw [hmag] at hv
    unfold signed at hv ⊢
    cases s
    · simp at hv ⊢
      have : (n.natAbs : Int) * 2 ^ k = n * 2 ^ k := by simpa using hv
      have := Int.eq_of_mul_eq_mul_right (Int.ne_of_gt hp) this
      omega
    · simp at hv ⊢
      have : (-(n.natAbs : Int)) * 2 ^ k = n * 2 ^ k := by rw [Int.neg_mul]; simpa using hv
      have := Int.eq_of_mul_eq_mul_right (Int.ne_of_gt hp) this
      omega

theorem D.near {x : Nat} {n : Int} (h : D (double.read x) n) (hn : n.natAbs < 4611686018427387904) : near x = n := by
  have hw := h.within hn
  have hi := int_within hw
  have ht := h.toInt
  simp only [floatToIntVal, FloatKind.decode, FloatKind.format, ht] at hi
  split at hi
  · injection hi with hi
    exact hi.symm
  · cases hi

theorem fr_nan_left {op : BinOp} {x y r : Nat} (hop : Op3 op) (h : NaN x) (hr : FR op x y r) : NaN r := by
  rcases hr with hr | ⟨_, hr⟩
  · rw [bits_nan_left hop h] at hr; cases hr
  · exact hr
theorem fr_nan_right {op : BinOp} {x y r : Nat} (hop : Op3 op) (h : NaN y) (hr : FR op x y r) : NaN r := by
  rcases hr with hr | ⟨_, hr⟩
  · rw [bits_nan_right hop h] at hr; cases hr
  · exact hr
end Pl
end Go.Proofs.YtdenboakcbipdaaDoor
