/-
  Decimal digits, and the number that a text is: the plain mathematics. Conditions: none.
-/
import Derived.Test.YtifkoihhlhadhaaDoorBase
import Derived.Lib.ItoaNum
import Derived.Lib.ItoaLen
import Derived.Lib.AtoiAll
import Derived.Lib.AtoiAllCases
namespace Go.Proofs.YtifkoihhlhadhaaDoor
open Go.RowKit Go.Lib
namespace In

theorem list_ext {x y : ByteArray} (e : x.data.toList = y.data.toList) : x = y := by
  apply ByteArray.ext
  exact Array.toList_inj.1 e

theorem dec_big {u : Nat} (h : ¬ u < 10) : decDigits u = decDigits (u / 10) ++ [UInt8.ofNat (48 + u % 10)] := by rw [decDigits, dif_neg h]
theorem dgt {d : Nat} (h : d < 10) : (UInt8.ofNat (48 + d)).toNat = 48 + d := by
  simp [UInt8.toNat_ofNat']
  omega
theorem dec_parse : ∀ (u : Nat) (r : List UInt8), u < 18446744073709551616 → parseUint10 0 (decDigits u ++ r) = parseUint10 u r := by
  intro u
  induction u using Nat.strongRecOn with
  | ind u ih =>
    intro r hu
    by_cases h : u < 10
    · rw [decDigits_one h]
      simp only [List.cons_append, List.nil_append, parseUint10]
      rw [dgt h, if_pos (by omega), if_neg (by omega), if_neg (by omega)]
      congr 1
      omega
    · rw [dec_big h, List.append_assoc, ih (u / 10) (by omega) _ (by omega)]
      simp only [List.cons_append, List.nil_append, parseUint10]
      rw [dgt (show u % 10 < 10 by omega), if_pos (by omega), if_neg (by omega), if_neg (by omega)]
      congr 1
      omega
theorem dec_ne (u : Nat) : decDigits u ≠ [] := by
  intro h
  have h1 := decDigits_length u
  have h2 := nDigits_pos u
  rw [h] at h1
  simp at h1
  omega
theorem dec_digit : ∀ (u : Nat) (c : UInt8), c ∈ decDigits u → 48 ≤ c.toNat ∧ c.toNat ≤ 57 := by
  intro u
  induction u using Nat.strongRecOn with
  | ind u ih =>
    intro c hc
    by_cases h : u < 10
    · rw [decDigits_one h] at hc
      obtain rfl := List.mem_singleton.1 hc
      rw [dgt h]
      omega
    · rw [dec_big h] at hc
      rcases List.mem_append.1 hc with hc | hc
      · exact ih _ (by omega) c hc
      · obtain rfl := List.mem_singleton.1 hc
        rw [dgt (show u % 10 < 10 by omega)]
        omega
theorem dec_mag (u : Nat) (h : u < 18446744073709551616) : parseMag (decDigits u) = .ok u := by
  unfold parseMag
  rw [if_neg (dec_ne u)]
  have := dec_parse u [] h
  rw [List.append_nil] at this
  rw [this]
  rfl

/-- What is told in digits is read. -/
theorem atoi_itoa {n : Int} (h0 : -9223372036854775808 ≤ n) (h1 : n ≤ 9223372036854775807) : atoiAll (itoa n) = .ok n := by
  unfold itoa
  by_cases h : n < 0
  · rw [if_pos h, atoiAll_minus, dec_mag _ (by omega)]
    simp only [signed]
    rw [if_neg (by omega)]
    congr 1
    omega
  · rw [if_neg h]
    have hm := dec_mag n.toNat (by omega)
    have hd := dec_digit n.toNat
    have hn := dec_ne n.toNat
    revert hm hd hn
    cases decDigits n.toNat with
    | nil => intro _ _ h; exact absurd rfl h
    | cons c r =>
      intro hm hd _
      have := hd c (by simp)
      rw [atoiAll_plain c r (by omega) (by omega), hm]
      simp only [signless]
      rw [if_neg (by omega)]
      congr 1
      omega

/-- A number's digits, with a minus sign ahead, if it is below 0. -/
def txt (n : Int) : ByteArray := ⟨(itoa n).toArray⟩
theorem txt_list {n : Int} {s : ByteArray} (h : txt n = s) : s.data.toList = itoa n := by
  subst h
  simp [txt]
theorem txt_of {n : Int} {s : ByteArray} (h : s.data.toList = itoa n) : txt n = s := by
  unfold txt
  rw [← h]

/-- The number that a text is, and the error. -/
def num (s : ByteArray) : Int × Nat := match atoiAll s.data.toList with
  | .ok v => if txt v = s then (v, 0) else (0, 5)
  | _ => (0, 5)

theorem num_txt {n : Int} (h0 : -9223372036854775808 ≤ n) (h1 : n ≤ 9223372036854775807) {s : ByteArray} (h : txt n = s) : num s = (n, 0) := by
  unfold num
  rw [txt_list h, atoi_itoa h0 h1]
  simp only
  rw [if_pos h]
theorem num_is (s : ByteArray) : (∃ v, (-9223372036854775808 ≤ v ∧ v ≤ 9223372036854775807) ∧ txt v = s ∧ num s = (v, 0)) ∨ ((∀ v, -9223372036854775808 ≤ v → v ≤ 9223372036854775807 → txt v ≠ s) ∧ num s = (0, 5)) := by
  by_cases h : ∃ v, (-9223372036854775808 ≤ v ∧ v ≤ 9223372036854775807) ∧ txt v = s
  · obtain ⟨v, hv, ht⟩ := h
    exact .inl ⟨v, hv, ht, num_txt hv.1 hv.2 ht⟩
  · refine .inr ⟨fun v a b c => h ⟨v, ⟨a, b⟩, c⟩, ?_⟩
    unfold num
    cases hv : atoiAll s.data.toList
    · rename_i v
      have hb := atoiAll_bounds hv
      simp only
      rw [if_neg (fun c => h ⟨v, hb, c⟩)]
    · rfl
    · rfl
theorem num_le (s : ByteArray) : -9223372036854775808 ≤ (num s).1 ∧ (num s).1 ≤ 9223372036854775807 := by
  rcases num_is s with ⟨v, hv, _, h⟩ | ⟨_, h⟩ <;> rw [h]
  · exact hv
  · simp
theorem num_err (s : ByteArray) : (num s).2 = 0 ∨ ((num s).2 = 5 ∧ (num s).1 = 0) := by
  rcases num_is s with ⟨v, hv, _, h⟩ | ⟨_, h⟩ <;> rw [h] <;> simp

/-- A digit more. -/
def dstep (neg : Bool) (n : Int) (c : UInt8) : Int := wrap64 (wrap64 (10 * n) + (if neg then -((c.toNat : Int) - 48) else (c.toNat : Int) - 48))
def dfold (neg : Bool) (l : List UInt8) : Int := l.foldl (dstep neg) 0
theorem wrap_step (x d : Int) : wrap64 (wrap64 (10 * wrap64 x) + d) = wrap64 (10 * x + d) := by unfold wrap64; omega
theorem dfold_dec (neg : Bool) : ∀ u : Nat, dfold neg (decDigits u) = wrap64 (if neg then -(u : Int) else (u : Int)) := by
  intro u
  induction u using Nat.strongRecOn with
  | ind u ih =>
    by_cases h : u < 10
    · rw [decDigits_one h]
      simp only [dfold, List.foldl_cons, List.foldl_nil, dstep]
      rw [dgt h]
      cases neg
      · simp only [Bool.false_eq_true, if_false]
        unfold wrap64
        omega
      · simp only [if_true]
        unfold wrap64
        omega
    · rw [dec_big h]
      have e := ih (u / 10) (by omega)
      unfold dfold at e ⊢
      rw [List.foldl_append, e]
      simp only [List.foldl_cons, List.foldl_nil, dstep]
      rw [dgt (show u % 10 < 10 by omega), wrap_step]
      congr 1
      cases neg
      · simp only [Bool.false_eq_true, if_false]
        omega
      · simp only [if_true]
        omega
theorem dfold_in (neg : Bool) (l : List UInt8) : -9223372036854775808 ≤ dfold neg l ∧ dfold neg l ≤ 9223372036854775807 := by
  unfold dfold
  rcases List.eq_nil_or_concat l with rfl | ⟨l', c, rfl⟩
  · simp
  · rw [List.concat_eq_append, List.foldl_append]
    simp only [List.foldl_cons, List.foldl_nil, dstep]
    unfold wrap64
    omega
theorem dfold_snoc (neg : Bool) (l : List UInt8) (c : UInt8) : dfold neg (l ++ [c]) = dstep neg (dfold neg l) c := by
  unfold dfold
  rw [List.foldl_append]
  rfl

/-- Does a minus sign stand ahead? -/
def neg (l : List UInt8) : Bool := l.head? == some 45
def from_ (l : List UInt8) : Nat := if neg l then 1 else 0

theorem itoa_shape {n : Int} {l : List UInt8} (h : l = itoa n) : l.drop (from_ l) = decDigits n.natAbs ∧ (neg l = true ↔ n < 0) := by
  subst h
  unfold itoa
  by_cases h : n < 0
  · rw [if_pos h]
    have e : neg (45 :: decDigits n.natAbs) = true := rfl
    unfold from_
    rw [e]
    simp [h]
  · rw [if_neg h]
    have hd := dec_digit n.toNat
    have e : neg (decDigits n.toNat) = false := by
      unfold neg
      revert hd
      cases decDigits n.toNat with
      | nil => intro _; rfl
      | cons c r =>
        intro hd
        have := hd c (by simp)
        have hc : ¬ c = 45 := by rintro rfl; simp at this
        simp [hc]
    unfold from_
    rw [e]
    have e2 : n.natAbs = n.toNat := by omega
    simp [h, e2]

/-- A byte that is no digit. -/
theorem num_bad {s : ByteArray} {i : Nat} (h0 : from_ s.data.toList ≤ i) (h1 : i < s.data.toList.length) (h2 : ¬ (48 ≤ (s.data.toList.getD i 0).toNat ∧ (s.data.toList.getD i 0).toNat ≤ 57)) : num s = (0, 5) := by
  rcases num_is s with ⟨v, hv, ht, h⟩ | ⟨_, h⟩
  · exfalso
    obtain ⟨hd, _⟩ := itoa_shape (txt_list ht)
    refine h2 (dec_digit v.natAbs _ ?_)
    rw [← hd]
    have hi : i - from_ s.data.toList < (s.data.toList.drop (from_ s.data.toList)).length := by rw [List.length_drop]; omega
    have e : s.data.toList.getD i 0 = (s.data.toList.drop (from_ s.data.toList))[i - from_ s.data.toList] := by
      rw [List.getElem_drop]
      have : from_ s.data.toList + (i - from_ s.data.toList) = i := by omega
      simp only [this]
      rw [List.getD_eq_getElem?_getD, List.getElem?_eq_getElem h1]
      rfl
    rw [e]
    exact List.getElem_mem hi
  · exact h

/-- Nothing behind the sign. -/
theorem num_short {s : ByteArray} (h0 : s.data.toList.length = from_ s.data.toList) : num s = (0, 5) := by
  rcases num_is s with ⟨v, hv, ht, h⟩ | ⟨_, h⟩
  · exfalso
    obtain ⟨hd, _⟩ := itoa_shape (txt_list ht)
    rw [List.drop_of_length_le (by omega)] at hd
    exact dec_ne _ hd.symm
  · exact h

/-- What was read of digits alone. -/
theorem num_fold {s : ByteArray} {n : Int} (hn : n = dfold (neg s.data.toList) ((s.data.toList.take 22).drop (from_ s.data.toList))) : num s = if txt n = s then (n, 0) else (0, 5) := by
  have hb := dfold_in (neg s.data.toList) ((s.data.toList.take 22).drop (from_ s.data.toList))
  rw [← hn] at hb
  by_cases ht : txt n = s
  · rw [if_pos ht, num_txt hb.1 hb.2 ht]
  · rw [if_neg ht]
    rcases num_is s with ⟨v, hv, hvt, h⟩ | ⟨_, h⟩
    · exfalso
      apply ht
      have hl := txt_list hvt
      have hle := itoa_length_le v hv.1 hv.2
      obtain ⟨hd, hs⟩ := itoa_shape hl
      rw [List.take_of_length_le (by rw [hl]; omega), hd, dfold_dec] at hn
      have : n = v := by
        rw [hn]
        by_cases h0 : v < 0
        · rw [hs.2 h0, if_pos rfl]
          unfold wrap64
          omega
        · have : neg s.data.toList = false := by
            cases hx : neg s.data.toList
            · rfl
            · exact absurd (hs.1 hx) h0
          rw [this, if_neg (by decide)]
          unfold wrap64
          omega
      rw [this]
      exact hvt
    · exact h
end In
end Go.Proofs.YtifkoihhlhadhaaDoor
