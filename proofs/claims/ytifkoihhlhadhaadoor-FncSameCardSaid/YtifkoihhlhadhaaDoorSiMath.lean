/-
  Lists of types by plain lists: which may be, their letters, their bytes, what is read from a text. Conditions: none.
-/
import Derived.Test.YtifkoihhlhadhaaDoorMath
namespace Go.Proofs.YtifkoihhlhadhaaDoor

namespace Si
/-- May a type be? -/
def may (t : Int) : Bool := t == 1 || t == 2
/-- May each of a list, and are they at most most? -/
def right (l : List Int) (most : Int) : Bool := decide ((l.length : Int) ≤ most) && l.all may
/-- The letter of a type. -/
def letter (t : Int) : Nat := if t = 1 then 105 else if t = 2 then 99 else 63
/-- The type of a letter; 0 of others. -/
def typed (c : Int) : Int := if c = 105 then 1 else if c = 99 then 2 else 0
/-- A list's text. -/
def text (l : List Int) : List Nat := if l.length = 0 then [45] else l.map letter
/-- A list's bytes. -/
def bytes (l : List Int) : List Nat := if l.all may then Uv.put l.length ++ l.map Int.toNat else []
/-- The list that the first letters of a text are. -/
def types (c : List Nat) : List Int := c.map fun x : Nat => typed (x : Int)
/-- The list whose text bytes are, if there is one. -/
def read (c : List Nat) : Option (List Int) := if c = [45] then some [] else if c = [] then none else if (types c).all may then some (types c) else none

theorem may_iff (t : Int) : may t = true ↔ t = 1 ∨ t = 2 := by simp [may]
theorem may_one : may 1 = true := rfl
theorem may_two : may 2 = true := rfl
theorem letter_lt (t : Int) : letter t < 128 := by
  unfold letter
  split
  · omega
  · split <;> omega
theorem letter_typed {t : Int} (h : may t = true) : typed (letter t : Int) = t := by
  rcases (may_iff t).1 h with rfl | rfl <;> rfl
theorem typed_letter {c : Int} (h : may (typed c) = true) : (letter (typed c) : Int) = c := by
  unfold typed at h ⊢
  split
  · rename_i h1; rw [h1]; rfl
  · split
    · rename_i h2; rw [h2]; rfl
    · rename_i h1 h2
      rw [if_neg h1, if_neg h2] at h
      cases h
theorem typed_high {c : Int} (h : 128 ≤ c) : typed c = 0 := by
  unfold typed
  rw [if_neg (by omega), if_neg (by omega)]
theorem right_self (l : List Int) : right l l.length = l.all may := by simp [right]
theorem bytes_ok {l : List Int} (h : l.all may = true) : bytes l = Uv.put l.length ++ l.map Int.toNat := by unfold bytes; rw [if_pos h]
theorem bytes_bad {l : List Int} (h : l.all may = false) : bytes l = [] := by unfold bytes; rw [if_neg (by rw [h]; decide)]
theorem toNat_lt {l : List Int} (h : l.all may = true) : ∀ c ∈ l.map Int.toNat, c < 256 := by
  intro c hc
  obtain ⟨t, ht, rfl⟩ := List.mem_map.1 hc
  rcases (may_iff t).1 (List.all_eq_true.1 h t ht) with rfl | rfl <;> decide
theorem bytes_byte (l : List Int) : ∀ c ∈ bytes l, c < 256 := by
  intro c hc
  unfold bytes at hc
  split at hc
  · rename_i h
    rcases List.mem_append.1 hc with hc | hc
    · exact Uv.put_byte _ c hc
    · exact toNat_lt h c hc
  · cases hc
theorem text_lt (l : List Int) : ∀ c ∈ text l, c < 128 := by
  intro c hc
  unfold text at hc
  split at hc
  · obtain rfl := List.mem_singleton.1 hc; omega
  · obtain ⟨t, _, rfl⟩ := List.mem_map.1 hc
    exact letter_lt t
theorem types_length (c : List Nat) : (types c).length = c.length := by simp [types]
theorem types_take (c : List Nat) (k : Nat) : (types c).take k = types (c.take k) := by simp [types, List.map_take]
theorem map_letter_types : ∀ {c : List Nat}, (types c).all may = true → (types c).map letter = c
  | [], _ => rfl
  | x :: c, h => by
    have h' : (may (typed (x : Int)) && (types c).all may) = true := h
    rw [Bool.and_eq_true] at h'
    have e := typed_letter h'.1
    show letter (typed (x : Int)) :: (types c).map letter = x :: c
    rw [map_letter_types h'.2]
    have : letter (typed (x : Int)) = x := by omega
    rw [this]
/-- The text of what was read is the text. -/
theorem text_read {c : List Nat} {l : List Int} (h : read c = some l) : text l = c := by
  unfold read at h
  split at h
  · rename_i h1
    injection h with h
    rw [← h, h1]
    rfl
  · split at h
    · cases h
    · split at h
      · rename_i h1 h2 h3
        injection h with h
        rw [← h]
        unfold text
        rw [if_neg (by rw [types_length]; intro e; exact h2 (List.length_eq_zero_iff.1 e))]
        exact map_letter_types h3
      · cases h
theorem all_take_succ {l : List Int} {k : Nat} (h : k < l.length) : (l.take (k + 1)).all may = ((l.take k).all may && may (l.getD k 0)) := by
  rw [List.take_succ_eq_append_getElem h, List.all_append]
  simp [List.getD, h]
theorem all_bad {l : List Int} {k : Nat} (h : k < l.length) (hb : may (l.getD k 0) = false) : l.all may = false := by
  rw [List.all_eq_false]
  refine ⟨l[k], List.getElem_mem h, ?_⟩
  have : l.getD k 0 = l[k] := by simp [List.getD, h]
  rw [← this, hb]
  decide
end Si
end Go.Proofs.YtifkoihhlhadhaaDoor
