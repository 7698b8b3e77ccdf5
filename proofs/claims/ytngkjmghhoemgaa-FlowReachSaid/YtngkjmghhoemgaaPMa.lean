/-
  Lists of types by plain lists: which may be, their letters, their bytes, what is read from a text. Conditions: none.
  The table of instructions: what each is called, takes and gives. Conditions: none.
  A text of words, a sign behind each, gone over byte by byte: the names of the instructions. Conditions: none.
  Decimal digits, and the number that a text is: the plain mathematics. Conditions: none.
  Which instructions may be, their text, and what is read of a text: the plain mathematics. Conditions: none.
  Rows of numbers as runs: the plain mathematics. Conditions: none.
  Which instructions a line is of: the plain mathematics. Conditions: none.
  Inline trees: the plain mathematics. Conditions: none.
-/
import Derived.Test.YtngkjmghhoemgaaBM
import Derived.Lib.ItoaNum
import Derived.Lib.ItoaLen
import Derived.Lib.AtoiAll
import Derived.Lib.AtoiAllCases
import Derived.Lib.IndexMore
import Derived.Lib.Strings
import Derived.Test.YtngkjmghhoemgaaSlM
namespace Go.Proofs.Ytngkjmghhoemgaa

namespace Si
/-- May a type be? -/
def may (t : Int) : Bool := t == 1 || t == 2
/-- May each of a list, and are they at most most? -/
def right (l : List Int) (most : Int) : Bool := decide ((l.length : Int) ≤ most) && l.all may
/-- The letter of a type. -/
def letter (t : Int) : Nat := if t = 1 then 105 else if t = 2 then 99 else 63
/-- The type of a letter; 0 of others. -/
def typed (c : Int) : Int := if c = 105 then 1 else if c = 99 then 2 else 0
/-- A list's text. -/
def text (l : List Int) : List Nat := if l.length = 0 then [45] else l.map letter
/-- A list's bytes. -/
def bytes (l : List Int) : List Nat := if l.all may then Uv.put l.length ++ l.map Int.toNat else []
/-- The list that the first letters of a text are. -/
def types (c : List Nat) : List Int := c.map fun x : Nat => typed (x : Int)
/-- The list whose text bytes are, if there is one. -/
def read (c : List Nat) : Option (List Int) := if c = [45] then some [] else if c = [] then none else if (types c).all may then some (types c) else none

theorem may_iff (t : Int) : may t = true ↔ t = 1 ∨ t = 2 := by simp [may]
theorem may_one : may 1 = true := rfl
theorem may_two : may 2 = true := rfl
theorem letter_lt (t : Int) : letter t < 128 := by
  unfold letter
  split
  · omega
  · split <;> omega
theorem letter_typed {t : Int} (h : may t = true) : typed (letter t : Int) = t := by
  rcases (may_iff t).1 h with rfl | rfl <;> rfl
theorem typed_letter {c : Int} (h : may (typed c) = true) : (letter (typed c) : Int) = c := by
  unfold typed at h ⊢
  split
  · rename_i h1; rw [h1]; rfl
  · split
    · rename_i h2; rw [h2]; rfl
    · rename_i h1 h2
      rw [if_neg h1, if_neg h2] at h
      cases h
theorem typed_high {c : Int} (h : 128 ≤ c) : typed c = 0 := by
  unfold typed
  rw [if_neg (by omega), if_neg (by omega)]
theorem right_self (l : List Int) : right l l.length = l.all may := by simp [right]
theorem bytes_ok {l : List Int} (h : l.all may = true) : bytes l = Uv.put l.length ++ l.map Int.toNat := by unfold bytes; rw [if_pos h]
theorem bytes_bad {l : List Int} (h : l.all may = false) : bytes l = [] := by unfold bytes; rw [if_neg (by rw [h]; decide)]
theorem toNat_lt {l : List Int} (h : l.all may = true) : ∀ c ∈ l.map Int.toNat, c < 256 := by
  intro c hc
  obtain ⟨t, ht, rfl⟩ := List.mem_map.1 hc
  rcases (may_iff t).1 (List.all_eq_true.1 h t ht) with rfl | rfl <;> decide
theorem bytes_byte (l : List Int) : ∀ c ∈ bytes l, c < 256 := by
  intro c hc
  unfold bytes at hc
  split at hc
  · rename_i h
    rcases List.mem_append.1 hc with hc | hc
    · exact Uv.put_byte _ c hc
    · exact toNat_lt h c hc
  · cases hc
theorem text_lt (l : List Int) : ∀ c ∈ text l, c < 128 := by
  intro c hc
  unfold text at hc
  split at hc
  · obtain rfl := List.mem_singleton.1 hc; omega
  · obtain ⟨t, _, rfl⟩ := List.mem_map.1 hc
    exact letter_lt t
theorem types_length (c : List Nat) : (types c).length = c.length := by simp [types]
theorem types_take (c : List Nat) (k : Nat) : (types c).take k = types (c.take k) := by simp [types, List.map_take]
theorem map_letter_types : ∀ {c : List Nat}, (types c).all may = true → (types c).map letter = c
  | [], _ => rfl
  | x :: c, h => by
    have h' : (may (typed (x : Int)) && (types c).all may) = true := h
    rw [Bool.and_eq_true] at h'
    have e := typed_letter h'.1
    show letter (typed (x : Int)) :: (types c).map letter = x :: c
    rw [map_letter_types h'.2]
    have : letter (typed (x : Int)) = x := by omega
    rw [this]
/-- The text of what was read is the text. -/
theorem text_read {c : List Nat} {l : List Int} (h : read c = some l) : text l = c := by
  unfold read at h
  split at h
  · rename_i h1
    injection h with h
    rw [← h, h1]
    rfl
  · split at h
    · cases h
    · split at h
      · rename_i h1 h2 h3
        injection h with h
        rw [← h]
        unfold text
        rw [if_neg (by rw [types_length]; intro e; exact h2 (List.length_eq_zero_iff.1 e))]
        exact map_letter_types h3
      · cases h
theorem all_take_succ {l : List Int} {k : Nat} (h : k < l.length) : (l.take (k + 1)).all may = ((l.take k).all may && may (l.getD k 0)) := by
  rw [List.take_succ_eq_append_getElem h, List.all_append]
  simp [List.getD, h]
theorem all_bad {l : List Int} {k : Nat} (h : k < l.length) (hb : may (l.getD k 0) = false) : l.all may = false := by
  rw [List.all_eq_false]
  refine ⟨l[k], List.getElem_mem h, ?_⟩
  have : l.getD k 0 = l[k] := by simp [List.getD, h]
  rw [← this, hb]
  decide
end Si
end Go.Proofs.Ytngkjmghhoemgaa

namespace Go.Proofs.Ytngkjmghhoemgaa
open Go.RowKit

namespace Op
/-- What the table has of an instruction. -/
structure Row where
  operand : Int
  fixed : Bool
  takes : ByteArray
  gives : ByteArray
  ends : Bool
  raises : Bool
def R (o : Int) (f : Bool) (t g : List UInt8) (e r : Bool) : Row := ⟨o, f, ⟨t.toArray⟩, ⟨g.toArray⟩, e, r⟩
/-- What is no instruction. -/
def none_ : Row := R 0 false [] [] false false
def rows : List Row := [
  R 0 true [] [] false false,
  R 1 true [] [105] false false,
  R 2 false [] [] false false,
  R 2 false [] [] false false,
  R 0 false [] [] false false,
  R 0 false [] [] false false,
  R 0 true [105, 105] [105] false false,
  R 0 true [105, 105] [105] false false,
  R 0 true [105, 105] [105] false false,
  R 0 true [105, 105] [105] false true,
  R 0 true [105, 105] [105] false true,
  R 0 true [105] [105] false false,
  R 0 true [105, 105] [105] false false,
  R 0 true [105, 105] [105] false false,
  R 0 true [105] [105] false false,
  R 0 true [105, 105] [99] false false,
  R 0 true [99, 99] [99] false false,
  R 0 true [99, 99] [99] false false,
  R 0 true [99, 99] [99] false false,
  R 0 true [99] [105] false false,
  R 0 true [99] [105] false false,
  R 3 true [] [] true false,
  R 3 true [105] [] false false,
  R 4 false [] [] false true,
  R 4 false [] [] false false,
  R 0 true [] [] true true,
  R 0 true [105] [] true true,
  R 0 true [] [105, 105] false false,
  R 5 false [] [] false false,
  R 5 false [] [] false false,
  R 0 true [105] [] false false,
  R 0 true [] [] false false,
  R 0 true [] [105] false false,
  R 6 true [] [] false true,
  R 6 true [] [] true true]
/-- The row of an instruction. -/
def row (op : Int) : Row := if 0 ≤ op ∧ op < 35 then rows.getD op.toNat none_ else none_
/-- A row's cells. -/
def cells (r : Row) : List Value := [.int .i64 r.operand, .bool r.fixed, .string r.takes, .string r.gives, .bool r.ends, .bool r.raises]
def table : Array Value := (rows.flatMap cells).toArray
def zeros : Array Value := ((List.replicate 35 none_).flatMap cells).toArray

theorem flat_at (j : Nat) (hj : j < 6) : ∀ (l : List Row) (k : Nat), k < l.length → (l.flatMap cells)[k * 6 + j]? = (cells (l.getD k none_))[j]?
  | [], k, h => absurd h (by simp)
  | r :: l, 0, _ => by
    have h6 : (cells r).length = 6 := rfl
    simp only [List.flatMap_cons, Nat.zero_mul, Nat.zero_add, List.getD_cons_zero]
    rw [List.getElem?_append_left (by omega)]
  | r :: l, k + 1, h => by
    have h6 : (cells r).length = 6 := rfl
    simp only [List.flatMap_cons, List.getD_cons_succ]
    rw [List.getElem?_append_right (by omega), ← flat_at j hj l k (by simpa using h)]
    congr 1
    omega
theorem table_at (k j : Nat) (hk : k < 35) (hj : j < 6) : table[k * 6 + j]? = (cells (row (k : Int)))[j]? := by
  have h : row (k : Int) = rows.getD k none_ := by
    unfold row
    rw [if_pos (by omega)]
    simp
  rw [h, ← flat_at j hj rows k hk]
  simp [table]
theorem table_size : table.size = 210 := by kernel_rfl
theorem row_out {op : Int} (h : ¬ (0 ≤ op ∧ op < 35)) : row op = none_ := if_neg h
end Op
end Go.Proofs.Ytngkjmghhoemgaa

namespace Go.Proofs.Ytngkjmghhoemgaa
open Go.RowKit

namespace Op
/-- What has been told, which word comes, and where it begins, when so many bytes are over. -/
structure Scan where
  k : Nat
  start : Nat
  told : List (Nat × ByteArray)
/-- The byte at a place. -/
def byte (s : ByteArray) (i : Nat) : Nat := (s.data.toList.getD i 0).toNat
theorem byte_eq (s : ByteArray) (i : Nat) (h : i < s.size) : s[i].toNat = byte s i := by
  have h' : i < s.data.size := h
  show s.data[i].toNat = _
  have e : s.data[i]? = some s.data[i] := Array.getElem?_eq_getElem h'
  simp only [byte, List.getD, Array.getElem?_toList, e, Option.getD_some]
def Scan.next (s : ByteArray) (c p : Nat) (x : Scan) : Scan := if byte s p = c then ⟨x.k + 1, p + 1, x.told ++ [(x.k, s.extract x.start p)]⟩ else x
def scan (s : ByteArray) (c : Nat) : Nat → Scan
  | 0 => ⟨0, 0, []⟩
  | p + 1 => (scan s c p).next s c p
theorem scan_hit {s : ByteArray} {c p : Nat} (h : byte s p = c) : scan s c (p + 1) = ⟨(scan s c p).k + 1, p + 1, (scan s c p).told ++ [((scan s c p).k, s.extract (scan s c p).start p)]⟩ := by
  show (scan s c p).next s c p = _
  unfold Scan.next
  rw [if_pos h]
theorem scan_miss {s : ByteArray} {c p : Nat} (h : ¬ byte s p = c) : scan s c (p + 1) = scan s c p := by
  show (scan s c p).next s c p = _
  unfold Scan.next
  rw [if_neg h]
/-- It begins no later than here; no more words than bytes; words are numbered as they come. -/
theorem scan_le (s : ByteArray) (c : Nat) : ∀ p, (scan s c p).start ≤ p ∧ (scan s c p).k ≤ p ∧ (scan s c p).told.length = (scan s c p).k ∧ ∀ x ∈ (scan s c p).told, x.1 < (scan s c p).k
  | 0 => ⟨Nat.le_refl _, Nat.le_refl _, rfl, fun x hx => absurd hx (by simp [scan])⟩
  | p + 1 => by
    obtain ⟨h1, h2, h3, h4⟩ := scan_le s c p
    by_cases h : byte s p = c
    · rw [scan_hit h]
      refine ⟨Nat.le_refl _, by simp only; omega, by simp [h3], fun x hx => ?_⟩
      rcases List.mem_append.1 hx with hx | hx
      · have := h4 x hx; simp only; omega
      · rw [List.mem_singleton] at hx; subst hx; simp only; omega
    · rw [scan_miss h]
      exact ⟨by omega, by omega, h3, h4⟩
theorem scan_prefix (s : ByteArray) (c p : Nat) : ∀ q, p ≤ q → (scan s c p).told <+: (scan s c q).told
  | 0, h => by obtain rfl : p = 0 := by omega
               exact List.prefix_refl _
  | q + 1, h => by
    by_cases e : p = q + 1
    · subst e; exact List.prefix_refl _
    · refine (scan_prefix s c p q (by omega)).trans ?_
      by_cases h : byte s q = c
      · rw [scan_hit h]; exact List.prefix_append _ _
      · rw [scan_miss h]; exact List.prefix_refl _

/-- The program's text of names, and the document's. -/
def list : ByteArray := ⟨#[110, 111, 112, 44, 112, 117, 115, 104, 44, 108, 111, 97, 100, 44, 115, 116, 111, 114, 101, 44, 112, 111, 112, 44, 100, 117, 112, 44, 97, 100, 100, 44, 115, 117, 98, 44, 109, 117, 108, 44, 100, 105, 118, 44, 109, 111, 100, 44, 110, 101, 103, 44, 108, 101, 115, 115, 44, 115, 97, 109, 101, 44, 110, 111, 116, 44, 112, 97, 105, 114, 44, 112, 108, 117, 115, 44, 109, 105, 110, 117, 115, 44, 116, 105, 109, 101, 115, 44, 114, 101, 97, 108, 44, 105, 109, 97, 103, 44, 106, 117, 109, 112, 44, 105, 102, 44, 99, 97, 108, 108, 44, 100, 101, 102, 101, 114, 44, 114, 101, 116, 44, 112, 97, 110, 105, 99, 44, 114, 101, 99, 111, 118, 101, 114, 44, 103, 101, 116, 114, 101, 115, 44, 115, 101, 116, 114, 101, 115, 44, 101, 109, 105, 116, 44, 116, 114, 97, 99, 101, 44, 100, 114, 97, 119, 44, 111, 112, 101, 110, 44, 99, 108, 111, 115, 101, 44]⟩
def words : ByteArray := ⟨#[110, 111, 112, 32, 112, 117, 115, 104, 32, 108, 111, 97, 100, 32, 115, 116, 111, 114, 101, 32, 112, 111, 112, 32, 100, 117, 112, 32, 97, 100, 100, 32, 115, 117, 98, 32, 109, 117, 108, 32, 100, 105, 118, 32, 109, 111, 100, 32, 110, 101, 103, 32, 108, 101, 115, 115, 32, 115, 97, 109, 101, 32, 110, 111, 116, 32, 112, 97, 105, 114, 32, 112, 108, 117, 115, 32, 109, 105, 110, 117, 115, 32, 116, 105, 109, 101, 115, 32, 114, 101, 97, 108, 32, 105, 109, 97, 103, 32, 106, 117, 109, 112, 32, 105, 102, 32, 99, 97, 108, 108, 32, 100, 101, 102, 101, 114, 32, 114, 101, 116, 32, 112, 97, 110, 105, 99, 32, 114, 101, 99, 111, 118, 101, 114, 32, 103, 101, 116, 114, 101, 115, 32, 115, 101, 116, 114, 101, 115, 32, 101, 109, 105, 116, 32, 116, 114, 97, 99, 101, 32, 100, 114, 97, 119, 32, 111, 112, 101, 110, 32, 99, 108, 111, 115, 101, 32]⟩
theorem lit_list : ByteArray.mk ((([110, 111, 112, 44, 112, 117, 115, 104, 44, 108, 111, 97, 100, 44, 115, 116, 111, 114, 101, 44, 112, 111, 112, 44, 100, 117, 112, 44, 97, 100, 100, 44, 115, 117, 98, 44, 109, 117, 108, 44, 100, 105, 118, 44] : List UInt8).append [109, 111, 100, 44, 110, 101, 103, 44, 108, 101, 115, 115, 44, 115, 97, 109, 101, 44, 110, 111, 116, 44, 112, 97, 105, 114, 44, 112, 108, 117, 115, 44, 109, 105, 110, 117, 115, 44, 116, 105, 109, 101, 115, 44]).append (([114, 101, 97, 108, 44, 105, 109, 97, 103, 44, 106, 117, 109, 112, 44, 105, 102, 44, 99, 97, 108, 108, 44, 100, 101, 102, 101, 114, 44, 114, 101, 116, 44, 112, 97, 110, 105, 99, 44, 114, 101, 99, 111, 118] : List UInt8).append [101, 114, 44, 103, 101, 116, 114, 101, 115, 44, 115, 101, 116, 114, 101, 115, 44, 101, 109, 105, 116, 44, 116, 114, 97, 99, 101, 44, 100, 114, 97, 119, 44, 111, 112, 101, 110, 44, 99, 108, 111, 115, 101, 44])).toArray = list := by kernel_rfl
theorem lit_words : ByteArray.mk ((([110, 111, 112, 32, 112, 117, 115, 104, 32, 108, 111, 97, 100, 32, 115, 116, 111, 114, 101, 32, 112, 111, 112, 32, 100, 117, 112, 32, 97, 100, 100, 32, 115, 117, 98, 32, 109, 117, 108, 32, 100, 105, 118, 32] : List UInt8).append [109, 111, 100, 32, 110, 101, 103, 32, 108, 101, 115, 115, 32, 115, 97, 109, 101, 32, 110, 111, 116, 32, 112, 97, 105, 114, 32, 112, 108, 117, 115, 32, 109, 105, 110, 117, 115, 32, 116, 105, 109, 101, 115, 32]).append (([114, 101, 97, 108, 32, 105, 109, 97, 103, 32, 106, 117, 109, 112, 32, 105, 102, 32, 99, 97, 108, 108, 32, 100, 101, 102, 101, 114, 32, 114, 101, 116, 32, 112, 97, 110, 105, 99, 32, 114, 101, 99, 111, 118] : List UInt8).append [101, 114, 32, 103, 101, 116, 114, 101, 115, 32, 115, 101, 116, 114, 101, 115, 32, 101, 109, 105, 116, 32, 116, 114, 97, 99, 101, 32, 100, 114, 97, 119, 32, 111, 112, 101, 110, 32, 99, 108, 111, 115, 101, 32])).toArray = words := by kernel_rfl
def names : List ByteArray := [
  ⟨#[110, 111, 112]⟩,
  ⟨#[112, 117, 115, 104]⟩,
  ⟨#[108, 111, 97, 100]⟩,
  ⟨#[115, 116, 111, 114, 101]⟩,
  ⟨#[112, 111, 112]⟩,
  ⟨#[100, 117, 112]⟩,
  ⟨#[97, 100, 100]⟩,
  ⟨#[115, 117, 98]⟩,
  ⟨#[109, 117, 108]⟩,
  ⟨#[100, 105, 118]⟩,
  ⟨#[109, 111, 100]⟩,
  ⟨#[110, 101, 103]⟩,
  ⟨#[108, 101, 115, 115]⟩,
  ⟨#[115, 97, 109, 101]⟩,
  ⟨#[110, 111, 116]⟩,
  ⟨#[112, 97, 105, 114]⟩,
  ⟨#[112, 108, 117, 115]⟩,
  ⟨#[109, 105, 110, 117, 115]⟩,
  ⟨#[116, 105, 109, 101, 115]⟩,
  ⟨#[114, 101, 97, 108]⟩,
  ⟨#[105, 109, 97, 103]⟩,
  ⟨#[106, 117, 109, 112]⟩,
  ⟨#[105, 102]⟩,
  ⟨#[99, 97, 108, 108]⟩,
  ⟨#[100, 101, 102, 101, 114]⟩,
  ⟨#[114, 101, 116]⟩,
  ⟨#[112, 97, 110, 105, 99]⟩,
  ⟨#[114, 101, 99, 111, 118, 101, 114]⟩,
  ⟨#[103, 101, 116, 114, 101, 115]⟩,
  ⟨#[115, 101, 116, 114, 101, 115]⟩,
  ⟨#[101, 109, 105, 116]⟩,
  ⟨#[116, 114, 97, 99, 101]⟩,
  ⟨#[100, 114, 97, 119]⟩,
  ⟨#[111, 112, 101, 110]⟩,
  ⟨#[99, 108, 111, 115, 101]⟩]
def all : List (Nat × ByteArray) := (List.range 35).zip names
theorem list_size : list.size = 176 := by kernel_rfl
theorem words_size : words.size = 176 := by kernel_rfl
theorem list_all : (scan list 44 176).told = all := by kernel_rfl
theorem words_all : (scan words 32 176).told = all := by kernel_rfl
theorem list_ascii : ∀ i, i < 176 → byte list i < 128 := by
  have h : (List.range 176).all (fun i => decide (byte list i < 128)) = true := by kernel_rfl
  intro i hi
  exact of_decide_eq_true (List.all_eq_true.1 h i (List.mem_range.2 hi))
/-- What an instruction is called. -/
def name (op : Int) : ByteArray := if 0 ≤ op ∧ op < 35 then names.getD op.toNat ⟨#[]⟩ else ⟨#[]⟩
theorem name_out {op : Int} (h : ¬ (0 ≤ op ∧ op < 35)) : name op = ⟨#[]⟩ := if_neg h
theorem name_of {x : Nat × ByteArray} (hx : x ∈ all) : name (x.1 : Int) = x.2 := by
  have h : all.all (fun x => decide (name (x.1 : Int) = x.2)) = true := by kernel_rfl
  exact of_decide_eq_true (List.all_eq_true.1 h x hx)
theorem num_of {x : Nat × ByteArray} (hx : x ∈ all) : x.1 < 35 := by
  have h : all.all (fun x => decide (x.1 < 35)) = true := by kernel_rfl
  exact of_decide_eq_true (List.all_eq_true.1 h x hx)
theorem all_has {k : Nat} (hk : k < 35) : (k, name (k : Int)) ∈ all := by
  have h : (List.range 35).all (fun k => all.any (fun x => decide (x.1 = k) && decide (x.2 = name (k : Int)))) = true := by kernel_rfl
  obtain ⟨x, hx, he⟩ := List.any_eq_true.1 (List.all_eq_true.1 h k (List.mem_range.2 hk))
  simp only [Bool.and_eq_true, decide_eq_true_eq] at he
  rw [← show x = (k, name (k : Int)) from Prod.ext he.1 he.2]
  exact hx
/-- Which instruction has that name. -/
def find (s : ByteArray) : Int × Bool := match all.find? (fun x => decide (x.2 = s)) with | some x => (x.1, true) | none => (0, false)
theorem all_apart {x y : Nat × ByteArray} (hx : x ∈ all) (hy : y ∈ all) (h : x.2 = y.2) : x = y := by
  have H : all.all (fun x => all.all fun y => decide (x.2 = y.2 → x = y)) = true := by kernel_rfl
  exact of_decide_eq_true (List.all_eq_true.1 (List.all_eq_true.1 H x hx) y hy) h
theorem find_of {x : Nat × ByteArray} (hx : x ∈ all) : find x.2 = ((x.1 : Int), true) := by
  unfold find
  cases h : all.find? (fun y => decide (y.2 = x.2)) with
  | none =>
    have := List.find?_eq_none.1 h x hx
    simp at this
  | some y =>
    have h1 := List.find?_some h
    simp only [decide_eq_true_eq] at h1
    rw [all_apart (List.mem_of_find?_eq_some h) hx h1]
theorem find_none {s : ByteArray} (h : ∀ x ∈ all, x.2 ≠ s) : find s = (0, false) := by
  unfold find
  rw [List.find?_eq_none.2 (fun x hx => by simpa using h x hx)]
end Op
end Go.Proofs.Ytngkjmghhoemgaa

namespace Go.Proofs.Ytngkjmghhoemgaa
open Go.RowKit Go.Lib
namespace In

theorem list_ext {x y : ByteArray} (e : x.data.toList = y.data.toList) : x = y := by
  apply ByteArray.ext
  exact Array.toList_inj.1 e

theorem dec_big {u : Nat} (h : ¬ u < 10) : decDigits u = decDigits (u / 10) ++ [UInt8.ofNat (48 + u % 10)] := by rw [decDigits, dif_neg h]
theorem dgt {d : Nat} (h : d < 10) : (UInt8.ofNat (48 + d)).toNat = 48 + d := by
  simp [UInt8.toNat_ofNat']
  omega
theorem dec_parse : ∀ (u : Nat) (r : List UInt8), u < 18446744073709551616 → parseUint10 0 (decDigits u ++ r) = parseUint10 u r := by
  intro u
  induction u using Nat.strongRecOn with
  | ind u ih =>
    intro r hu
    by_cases h : u < 10
    · rw [decDigits_one h]
      simp only [List.cons_append, List.nil_append, parseUint10]
      rw [dgt h, if_pos (by omega), if_neg (by omega), if_neg (by omega)]
      congr 1
      omega
    · rw [dec_big h, List.append_assoc, ih (u / 10) (by omega) _ (by omega)]
      simp only [List.cons_append, List.nil_append, parseUint10]
      rw [dgt (show u % 10 < 10 by omega), if_pos (by omega), if_neg (by omega), if_neg (by omega)]
      congr 1
      omega
theorem dec_ne (u : Nat) : decDigits u ≠ [] := by
  intro h
  have h1 := decDigits_length u
  have h2 := nDigits_pos u
  rw [h] at h1
  simp at h1
  omega
theorem dec_digit : ∀ (u : Nat) (c : UInt8), c ∈ decDigits u → 48 ≤ c.toNat ∧ c.toNat ≤ 57 := by
  intro u
  induction u using Nat.strongRecOn with
  | ind u ih =>
    intro c hc
    by_cases h : u < 10
    · rw [decDigits_one h] at hc
      obtain rfl := List.mem_singleton.1 hc
      rw [dgt h]
      omega
    · rw [dec_big h] at hc
      rcases List.mem_append.1 hc with hc | hc
      · exact ih _ (by omega) c hc
      · obtain rfl := List.mem_singleton.1 hc
        rw [dgt (show u % 10 < 10 by omega)]
        omega
theorem dec_mag (u : Nat) (h : u < 18446744073709551616) : parseMag (decDigits u) = .ok u := by
  unfold parseMag
  rw [if_neg (dec_ne u)]
  have := dec_parse u [] h
  rw [List.append_nil] at this
  rw [this]
  rfl

/-- What is told in digits is read. -/
theorem atoi_itoa {n : Int} (h0 : -9223372036854775808 ≤ n) (h1 : n ≤ 9223372036854775807) : atoiAll (itoa n) = .ok n := by
  unfold itoa
  by_cases h : n < 0
  · rw [if_pos h, atoiAll_minus, dec_mag _ (by omega)]
    simp only [signed]
    rw [if_neg (by omega)]
    congr 1
    omega
  · rw [if_neg h]
    have hm := dec_mag n.toNat (by omega)
    have hd := dec_digit n.toNat
    have hn := dec_ne n.toNat
    revert hm hd hn
    cases decDigits n.toNat with
    | nil => intro _ _ h; exact absurd rfl h
    | cons c r =>
      intro hm hd _
      have := hd c (by simp)
      rw [atoiAll_plain c r (by omega) (by omega), hm]
      simp only [signless]
      rw [if_neg (by omega)]
      congr 1
      omega

/-- A number's digits, with a minus sign ahead, if it is below 0. -/
def txt (n : Int) : ByteArray := ⟨(itoa n).toArray⟩
theorem txt_list {n : Int} {s : ByteArray} (h : txt n = s) : s.data.toList = itoa n := by
  subst h
  simp [txt]
theorem txt_of {n : Int} {s : ByteArray} (h : s.data.toList = itoa n) : txt n = s := by
  unfold txt
  rw [← h]

/-- The number that a text is, and the error. -/
def num (s : ByteArray) : Int × Nat := match atoiAll s.data.toList with
  | .ok v => if txt v = s then (v, 0) else (0, 5)
  | _ => (0, 5)

theorem num_txt {n : Int} (h0 : -9223372036854775808 ≤ n) (h1 : n ≤ 9223372036854775807) {s : ByteArray} (h : txt n = s) : num s = (n, 0) := by
  unfold num
  rw [txt_list h, atoi_itoa h0 h1]
  simp only
  rw [if_pos h]
theorem num_is (s : ByteArray) : (∃ v, (-9223372036854775808 ≤ v ∧ v ≤ 9223372036854775807) ∧ txt v = s ∧ num s = (v, 0)) ∨ ((∀ v, -9223372036854775808 ≤ v → v ≤ 9223372036854775807 → txt v ≠ s) ∧ num s = (0, 5)) := by
  by_cases h : ∃ v, (-9223372036854775808 ≤ v ∧ v ≤ 9223372036854775807) ∧ txt v = s
  · obtain ⟨v, hv, ht⟩ := h
    exact .inl ⟨v, hv, ht, num_txt hv.1 hv.2 ht⟩
  · refine .inr ⟨fun v a b c => h ⟨v, ⟨a, b⟩, c⟩, ?_⟩
    unfold num
    cases hv : atoiAll s.data.toList
    · rename_i v
      have hb := atoiAll_bounds hv
      simp only
      rw [if_neg (fun c => h ⟨v, hb, c⟩)]
    · rfl
    · rfl
theorem num_le (s : ByteArray) : -9223372036854775808 ≤ (num s).1 ∧ (num s).1 ≤ 9223372036854775807 := by
  rcases num_is s with ⟨v, hv, _, h⟩ | ⟨_, h⟩ <;> rw [h]
  · exact hv
  · simp
theorem num_err (s : ByteArray) : (num s).2 = 0 ∨ ((num s).2 = 5 ∧ (num s).1 = 0) := by
  rcases num_is s with ⟨v, hv, _, h⟩ | ⟨_, h⟩ <;> rw [h] <;> simp

/-- A digit more. -/
def dstep (neg : Bool) (n : Int) (c : UInt8) : Int := wrap64 (wrap64 (10 * n) + (if neg then -((c.toNat : Int) - 48) else (c.toNat : Int) - 48))
def dfold (neg : Bool) (l : List UInt8) : Int := l.foldl (dstep neg) 0
theorem wrap_step (x d : Int) : wrap64 (wrap64 (10 * wrap64 x) + d) = wrap64 (10 * x + d) := by unfold wrap64; omega
theorem dfold_dec (neg : Bool) : ∀ u : Nat, dfold neg (decDigits u) = wrap64 (if neg then -(u : Int) else (u : Int)) := by
  intro u
  induction u using Nat.strongRecOn with
  | ind u ih =>
    by_cases h : u < 10
    · rw [decDigits_one h]
      simp only [dfold, List.foldl_cons, List.foldl_nil, dstep]
      rw [dgt h]
      cases neg
      · simp only [Bool.false_eq_true, if_false]
        unfold wrap64
        omega
      · simp only [if_true]
        unfold wrap64
        omega
    · rw [dec_big h]
      have e := ih (u / 10) (by omega)
      unfold dfold at e ⊢
      rw [List.foldl_append, e]
      simp only [List.foldl_cons, List.foldl_nil, dstep]
      rw [dgt (show u % 10 < 10 by omega), wrap_step]
      congr 1
      cases neg
      · simp only [Bool.false_eq_true, if_false]
        omega
      · simp only [if_true]
        omega
theorem dfold_in (neg : Bool) (l : List UInt8) : -9223372036854775808 ≤ dfold neg l ∧ dfold neg l ≤ 9223372036854775807 := by
  unfold dfold
  rcases List.eq_nil_or_concat l with rfl | ⟨l', c, rfl⟩
  · simp
  · rw [List.concat_eq_append, List.foldl_append]
    simp only [List.foldl_cons, List.foldl_nil, dstep]
    unfold wrap64
    omega
theorem dfold_snoc (neg : Bool) (l : List UInt8) (c : UInt8) : dfold neg (l ++ [c]) = dstep neg (dfold neg l) c := by
  unfold dfold
  rw [List.foldl_append]
  rfl

/-- Does a minus sign stand ahead? -/
def neg (l : List UInt8) : Bool := l.head? == some 45
def from_ (l : List UInt8) : Nat := if neg l then 1 else 0

theorem itoa_shape {n : Int} {l : List UInt8} (h : l = itoa n) : l.drop (from_ l) = decDigits n.natAbs ∧ (neg l = true ↔ n < 0) := by
  subst h
  unfold itoa
  by_cases h : n < 0
  · rw [if_pos h]
    have e : neg (45 :: decDigits n.natAbs) = true := rfl
    unfold from_
    rw [e]
    simp [h]
  · rw [if_neg h]
    have hd := dec_digit n.toNat
    have e : neg (decDigits n.toNat) = false := by
      unfold neg
      revert hd
      cases decDigits n.toNat with
      | nil => intro _; rfl
      | cons c r =>
        intro hd
        have := hd c (by simp)
        have hc : ¬ c = 45 := by rintro rfl; simp at this
        simp [hc]
    unfold from_
    rw [e]
    have e2 : n.natAbs = n.toNat := by omega
    simp [h, e2]

/-- A byte that is no digit. -/
theorem num_bad {s : ByteArray} {i : Nat} (h0 : from_ s.data.toList ≤ i) (h1 : i < s.data.toList.length) (h2 : ¬ (48 ≤ (s.data.toList.getD i 0).toNat ∧ (s.data.toList.getD i 0).toNat ≤ 57)) : num s = (0, 5) := by
  rcases num_is s with ⟨v, hv, ht, h⟩ | ⟨_, h⟩
  · exfalso
    obtain ⟨hd, _⟩ := itoa_shape (txt_list ht)
    refine h2 (dec_digit v.natAbs _ ?_)
    rw [← hd]
    have hi : i - from_ s.data.toList < (s.data.toList.drop (from_ s.data.toList)).length := by rw [List.length_drop]; omega
    have e : s.data.toList.getD i 0 = (s.data.toList.drop (from_ s.data.toList))[i - from_ s.data.toList] := by
      rw [List.getElem_drop]
      have : from_ s.data.toList + (i - from_ s.data.toList) = i := by omega
      simp only [this]
      rw [List.getD_eq_getElem?_getD, List.getElem?_eq_getElem h1]
      rfl
    rw [e]
    exact List.getElem_mem hi
  · exact h

/-- Nothing behind the sign. -/
theorem num_short {s : ByteArray} (h0 : s.data.toList.length = from_ s.data.toList) : num s = (0, 5) := by
  rcases num_is s with ⟨v, hv, ht, h⟩ | ⟨_, h⟩
  · exfalso
    obtain ⟨hd, _⟩ := itoa_shape (txt_list ht)
    rw [List.drop_of_length_le (by omega)] at hd
    exact dec_ne _ hd.symm
  · exact h

/-- What was read of digits alone. -/
theorem num_fold {s : ByteArray} {n : Int} (hn : n = dfold (neg s.data.toList) ((s.data.toList.take 22).drop (from_ s.data.toList))) : num s = if txt n = s then (n, 0) else (0, 5) := by
  have hb := dfold_in (neg s.data.toList) ((s.data.toList.take 22).drop (from_ s.data.toList))
  rw [← hn] at hb
  by_cases ht : txt n = s
  · rw [if_pos ht, num_txt hb.1 hb.2 ht]
  · rw [if_neg ht]
    rcases num_is s with ⟨v, hv, hvt, h⟩ | ⟨_, h⟩
    · exfalso
      apply ht
      have hl := txt_list hvt
      have hle := itoa_length_le v hv.1 hv.2
      obtain ⟨hd, hs⟩ := itoa_shape hl
      rw [List.take_of_length_le (by rw [hl]; omega), hd, dfold_dec] at hn
      have : n = v := by
        rw [hn]
        by_cases h0 : v < 0
        · rw [hs.2 h0, if_pos rfl]
          unfold wrap64
          omega
        · have : neg s.data.toList = false := by
            cases hx : neg s.data.toList
            · rfl
            · exact absurd (hs.1 hx) h0
          rw [this, if_neg (by decide)]
          unfold wrap64
          omega
      rw [this]
      exact hvt
    · exact h
end In
end Go.Proofs.Ytngkjmghhoemgaa

namespace Go.Proofs.Ytngkjmghhoemgaa
open Go.RowKit Go.Lib
namespace In

/-- What an operand of a kind is below. -/
def bound (k : Int) : Int := if k = 2 then 256 else if k = 3 then 2000 else if k = 4 then 40 else if k = 5 then 4 else if k = 6 then 120 else 1
def kind (op : Int) : Int := (Op.row op).operand
theorem kind_in (op : Int) : 0 ≤ kind op ∧ kind op ≤ 6 := by
  unfold kind Op.row
  split
  · have h : Op.rows.all (fun r => decide (0 ≤ r.operand) && decide (r.operand ≤ 6)) = true := by kernel_rfl
    rcases Nat.lt_or_ge op.toNat Op.rows.length with hl | hl
    · rw [List.getD_eq_getElem?_getD, List.getElem?_eq_getElem hl]
      have := List.all_eq_true.1 h _ (List.getElem_mem hl)
      simp only [Bool.and_eq_true, decide_eq_true_eq] at this
      exact this
    · rw [List.getD_eq_getElem?_getD, List.getElem?_eq_none hl]
      exact ⟨by decide, by decide⟩
  · exact ⟨by decide, by decide⟩
theorem kind_out {op : Int} (h : ¬ (0 ≤ op ∧ op < 35)) : kind op = 0 := by
  unfold kind
  rw [Op.row_out h]
  rfl
/-- May an operand of that kind be so? -/
def fits (k a : Int) : Bool := decide (k = 1) || (decide (0 ≤ a) && decide (a < bound k))
def known (op : Int) : Bool := decide (0 ≤ op) && decide (op < 35)
theorem known_iff {op : Int} : known op = true ↔ 0 ≤ op ∧ op < 35 := by
  unfold known
  simp
/-- Does a number stand behind it? -/
def numbered (op : Int) : Bool := decide (kind op ≠ 0)
/-- May an instruction be? -/
def right (op a : Int) : Bool := known op && fits (kind op) a
theorem right_known {op a : Int} (h : right op a = true) : 0 ≤ op ∧ op < 35 := by
  unfold right at h
  rw [Bool.and_eq_true] at h
  exact known_iff.1 h.1
theorem right_bare {op a : Int} (h : right op a = true) (hn : numbered op = false) : a = 0 := by
  have hk : kind op = 0 := by unfold numbered at hn; simpa using hn
  unfold right fits at h
  rw [hk] at h
  simp [bound] at h
  omega
theorem bare_right {op : Int} (h : 0 ≤ op ∧ op < 35) (hn : numbered op = false) : right op 0 = true := by
  have hk : kind op = 0 := by unfold numbered at hn; simpa using hn
  unfold right fits
  rw [known_iff.2 h, hk]
  decide

/-- The text of an instruction. -/
def text (op a : Int) : ByteArray := if right op a then (if numbered op then Op.name op ++ ⟨#[32]⟩ ++ txt a else Op.name op) else ⟨#[]⟩

/-- The place of the first blank, or the end. -/
def at_ (s : ByteArray) : Nat := s.data.toList.findIdx (· == 32)
def head (s : ByteArray) : ByteArray := s.extract 0 (at_ s)
def tail (s : ByteArray) : ByteArray := s.extract (at_ s + 1) s.size
def more (s : ByteArray) : Bool := decide (at_ s < s.size)
theorem at_le (s : ByteArray) : at_ s ≤ s.size := List.findIdx_le_length

theorem index_blank : ∀ l : List UInt8, Lib.index l [32] = if l.findIdx (· == 32) < l.length then ((l.findIdx (· == 32) : Nat) : Int) else -1
  | [] => by simp [Lib.index]
  | b :: l => by
    have ih := index_blank l
    unfold Lib.index
    rw [ih, List.findIdx_cons]
    by_cases hb : b = 32
    · subst hb
      simp
    · have h1 : ((32 : UInt8) == b) = false := by simpa using fun e => hb e.symm
      have h2 : (b == (32 : UInt8)) = false := by simpa using hb
      simp only [List.isPrefixOf, h1, h2, cond_false, Bool.false_and, Bool.false_eq_true, if_false, List.length_cons, Nat.add_lt_add_iff_right]
      by_cases hl : l.findIdx (· == 32) < l.length
      · rw [if_pos hl, if_pos hl, if_neg (by simp)]
        rfl
      · rw [if_neg hl, if_neg hl]
        simp

theorem cut_blank (s : ByteArray) : (⟨(Lib.cut s.data.toList [32]).1.toArray⟩ : ByteArray) = head s ∧ (⟨(Lib.cut s.data.toList [32]).2.1.toArray⟩ : ByteArray) = tail s ∧ (Lib.cut s.data.toList [32]).2.2 = more s := by
  have hs : s.data.toList.length = s.size := (size_eq s).symm
  have hE : ∀ (x : ByteArray) (l : List UInt8), x.data.toList = l → (⟨l.toArray⟩ : ByteArray) = x := by
    rintro x l rfl
    apply ByteArray.ext
    simp
  unfold Lib.cut
  rw [index_blank]
  by_cases hl : s.data.toList.findIdx (· == 32) < s.data.toList.length
  · rw [if_pos hl, if_pos (by omega)]
    refine ⟨hE _ _ ?_, hE _ _ ?_, ?_⟩
    · unfold head at_
      rw [extract_data]
      simp
    · unfold tail at_
      rw [extract_data, List.take_of_length_le (by rw [List.length_drop]; omega)]
      simp
    · unfold more at_
      rw [← hs]
      exact (decide_eq_true hl).symm
  · rw [if_neg hl, if_neg (by decide)]
    have he : s.data.toList.findIdx (· == 32) = s.data.toList.length := by
      have := List.findIdx_le_length (xs := s.data.toList) (p := (· == 32))
      omega
    refine ⟨hE _ _ ?_, hE _ _ ?_, ?_⟩
    · unfold head at_
      rw [extract_data, he, List.drop_zero, List.take_of_length_le (by omega)]
    · unfold tail at_
      rw [extract_data, he, List.drop_of_length_le (by omega), List.take_nil]
    · unfold more at_
      rw [he, hs]
      simp

/-- What is read of a text: the instruction, and the error. -/
def read (s : ByteArray) : (Int × Int) × Nat :=
  if (Op.find (head s)).2 = false then ((0, 0), 8)
  else if more s ≠ numbered (Op.find (head s)).1 then ((0, 0), 5)
  else if more s then
    (if (num (tail s)).2 ≠ 0 then ((0, 0), (num (tail s)).2)
     else if right (Op.find (head s)).1 (num (tail s)).1 then (((Op.find (head s)).1, (num (tail s)).1), 0) else ((0, 0), 2))
  else (((Op.find (head s)).1, 0), 0)

theorem find_in {s : ByteArray} (h : (Op.find s).2 = true) : 0 ≤ (Op.find s).1 ∧ (Op.find s).1 < 35 := by
  unfold Op.find at h ⊢
  cases hf : Op.all.find? (fun x => decide (x.2 = s)) with
  | none => rw [hf] at h; cases h
  | some x =>
    have := Op.num_of (List.mem_of_find?_eq_some hf)
    simp only
    omega
theorem find_name {op : Int} (h : 0 ≤ op ∧ op < 35) : Op.find (Op.name op) = (op, true) := by
  have := Op.find_of (Op.all_has (k := op.toNat) (by omega))
  simp only at this
  rw [show ((op.toNat : Nat) : Int) = op by omega] at this
  exact this
theorem name_blank {op : Int} : ∀ c ∈ (Op.name op).data.toList, c ≠ 32 := by
  unfold Op.name
  split
  · have h : Op.names.all (fun x => x.data.toList.all fun c => decide (c ≠ 32)) = true := by kernel_rfl
    rcases Nat.lt_or_ge op.toNat Op.names.length with hl | hl
    · rw [List.getD_eq_getElem?_getD, List.getElem?_eq_getElem hl]
      intro c hc
      exact of_decide_eq_true (List.all_eq_true.1 (List.all_eq_true.1 h _ (List.getElem_mem hl)) c hc)
    · rw [List.getD_eq_getElem?_getD, List.getElem?_eq_none hl]
      intro c hc
      cases hc
  · intro c hc
    cases hc

theorem parts_name {x : ByteArray} (h : ∀ c ∈ x.data.toList, c ≠ 32) : head x = x ∧ more x = false := by
  have he : at_ x = x.size := by
    unfold at_
    rw [size_eq]
    apply List.findIdx_eq_length_of_false
    intro c hc
    simpa using h c hc
  constructor
  · unfold head
    rw [he]
    apply list_ext
    rw [extract_data, List.drop_zero, List.take_of_length_le (by rw [size_eq]; omega)]
  · unfold more
    rw [he]
    simp
theorem parts_both {x d : ByteArray} (h : ∀ c ∈ x.data.toList, c ≠ 32) : head (x ++ ⟨#[32]⟩ ++ d) = x ∧ tail (x ++ ⟨#[32]⟩ ++ d) = d ∧ more (x ++ ⟨#[32]⟩ ++ d) = true := by
  have hl : (x ++ ⟨#[32]⟩ ++ d).data.toList = x.data.toList ++ 32 :: d.data.toList := by simp
  have hsz : (x ++ ⟨#[32]⟩ ++ d).size = x.data.toList.length + 1 + d.data.toList.length := by
    rw [size_eq, hl, List.length_append, List.length_cons]
    omega
  have he : at_ (x ++ ⟨#[32]⟩ ++ d) = x.data.toList.length := by
    unfold at_
    rw [hl, List.findIdx_append]
    have : x.data.toList.findIdx (· == 32) = x.data.toList.length := List.findIdx_eq_length_of_false (fun c hc => by simpa using h c hc)
    rw [this, List.findIdx_cons]
    simp
  refine ⟨list_ext ?_, list_ext ?_, ?_⟩
  · unfold head
    rw [extract_data, he, hl]
    simp
  · unfold tail
    rw [extract_data, he, hl, hsz]
    have : x.data.toList.length + 1 = (x.data.toList ++ [32]).length := by simp
    rw [show x.data.toList ++ 32 :: d.data.toList = (x.data.toList ++ [32]) ++ d.data.toList by simp, this, List.drop_left]
    rw [List.take_of_length_le (by simp)]
  · unfold more
    rw [he, hsz]
    simp
    omega

/-- A text is read as what it is the text of. -/
theorem read_text {op a : Int} (h : right op a = true) (h0 : -9223372036854775808 ≤ a) (h1 : a ≤ 9223372036854775807) : read (text op a) = ((op, a), 0) := by
  have hk := right_known h
  unfold text
  rw [if_pos h]
  cases hn : numbered op with
  | true =>
    rw [if_pos rfl]
    obtain ⟨e1, e2, e3⟩ := parts_both (x := Op.name op) (d := txt a) name_blank
    unfold read
    rw [e1, e2, e3, find_name hk, num_txt h0 h1 rfl]
    simp [hn, h]
  | false =>
    rw [if_neg (by decide)]
    obtain ⟨e1, e3⟩ := parts_name (x := Op.name op) name_blank
    unfold read
    rw [e1, e3, find_name hk, right_bare h hn]
    simp [hn]
end In
end Go.Proofs.Ytngkjmghhoemgaa

namespace Go.Proofs.Ytngkjmghhoemgaa.Ru

theorem snocRec {α : Type} {motive : List α → Prop} (nil : motive []) (append_singleton : ∀ l x, motive l → motive (l ++ [x])) (l : List α) : motive l := by
  rw [← List.reverse_reverse l]
  induction l.reverse with
  | nil => exact nil
  | cons x r ih => rw [List.reverse_cons]; exact append_singleton _ _ ih

/-- Runs: how many alike there are, and what they are. -/
abbrev Runs := List (Int × Int)

/-- One number more behind runs. -/
def snoc (r : Runs) (x : Int) : Runs :=
  match r.getLast? with
  | some p => if p.2 = x then r.dropLast ++ [(p.1 + 1, x)] else r ++ [(1, x)]
  | none => [(1, x)]
/-- The runs of a row. -/
def of (l : List Int) : Runs := l.foldl snoc []
theorem of_snoc (l : List Int) (x : Int) : of (l ++ [x]) = snoc (of l) x := by simp [of, List.foldl_append]
theorem snoc_nil (x : Int) : snoc [] x = [(1, x)] := rfl
theorem snoc_same (pre : Runs) (n x : Int) : snoc (pre ++ [(n, x)]) x = pre ++ [(n + 1, x)] := by simp [snoc]
theorem snoc_other (pre : Runs) (n v x : Int) (h : v ≠ x) : snoc (pre ++ [(n, v)]) x = pre ++ [(n, v)] ++ [(1, x)] := by simp [snoc, h]
theorem last_cases (r : Runs) : r = [] ∨ ∃ pre p, r = pre ++ [p] := by
  rcases List.eq_nil_or_concat r with h | ⟨a, b, h⟩
  · exact .inl h
  · exact .inr ⟨a, b, by simpa using h⟩
theorem take_snoc (l : List Int) (k : Nat) (h : k < l.length) : l.take (k + 1) = l.take k ++ [l.getD k 0] := by
  rw [List.take_succ_eq_append_getElem h]
  simp [List.getD, h]
theorem of_take (l : List Int) (k : Nat) (h : k < l.length) : of (l.take (k + 1)) = snoc (of (l.take k)) (l.getD k 0) := by rw [take_snoc l k h, of_snoc]

/-- Ahead of number k: the runs pre are told, m numbers of the next one are gone by. -/
def Part (l : List Int) (k : Nat) (pre : Runs) (m : Nat) : Prop :=
  m ≤ k ∧ pre.length ≤ k ∧ (k < l.length → snoc (of (l.take k)) (l.getD k 0) = pre ++ [((m : Int) + 1, l.getD k 0)]) ∧ (l.length ≤ k → pre = of l)
theorem part_start (l : List Int) : Part l 0 [] 0 := by
  refine ⟨Nat.le_refl _, Nat.le_refl _, fun _ => ?_, fun h => ?_⟩
  · simp [of, snoc_nil]
  · rw [List.eq_nil_of_length_eq_zero (Nat.le_zero.1 h)]
    rfl
theorem part_go {l : List Int} {k m : Nat} {pre : Runs} (h : Part l k pre m) (hk : k + 1 < l.length) (he : l.getD (k + 1) 0 = l.getD k 0) : Part l (k + 1) pre (m + 1) := by
  obtain ⟨h1, h2, h3, h4⟩ := h
  refine ⟨by omega, by omega, fun _ => ?_, fun h => by omega⟩
  rw [of_take l k (by omega), h3 (by omega), he, snoc_same]
  simp
theorem part_tell {l : List Int} {k m : Nat} {pre : Runs} (h : Part l k pre m) (hk : k < l.length) (he : k + 1 < l.length → l.getD (k + 1) 0 ≠ l.getD k 0) : Part l (k + 1) (pre ++ [((m : Int) + 1, l.getD k 0)]) 0 := by
  obtain ⟨h1, h2, h3, h4⟩ := h
  refine ⟨by omega, by simp; omega, fun h => ?_, fun h => ?_⟩
  · rw [of_take l k (by omega), h3 hk, snoc_other _ _ _ _ (fun e => he h e.symm)]
    simp
  · rw [← h3 hk, ← of_take l k hk, List.take_of_length_le h]

/-- The row of runs, up to 2000. -/
def rowStep (out : List Int) (p : Int × Int) : List Int := out ++ List.replicate (min p.1 (2000 - (out.length : Int))).toNat p.2
def row (r : Runs) : List Int := r.foldl rowStep []
theorem row_snoc (r : Runs) (p : Int × Int) : row (r ++ [p]) = rowStep (row r) p := by simp [row, List.foldl_append]
theorem rowStep_len {out : List Int} (p : Int × Int) (h : out.length ≤ 2000) : (rowStep out p).length ≤ 2000 := by
  simp only [rowStep, List.length_append, List.length_replicate]
  omega
theorem row_len (r : Runs) : (row r).length ≤ 2000 := by
  have : ∀ (r : Runs) (o : List Int), o.length ≤ 2000 → (r.foldl rowStep o).length ≤ 2000 := by
    intro r
    induction r with
    | nil => exact fun o h => h
    | cons p r ih => exact fun o h => ih _ (rowStep_len p h)
  exact this r [] (by simp)
theorem taken {α : Type} {l : List α} {k : Nat} (h : k < l.length) (d : α) : l.take (k + 1) = l.take k ++ [l.getD k d] := by
  rw [List.take_succ_eq_append_getElem h]
  simp [List.getD, h]
theorem row_take {r : Runs} {k : Nat} (h : k < r.length) : row (r.take (k + 1)) = rowStep (row (r.take k)) (r.getD k (0, 0)) := by rw [taken h (0, 0), row_snoc]

/-- All numbers of runs. -/
def flat (r : Runs) : List Int := r.flatMap fun p => List.replicate p.1.toNat p.2
theorem flat_append (a b : Runs) : flat (a ++ b) = flat a ++ flat b := by simp [flat]
theorem flat_one (p : Int × Int) : flat [p] = List.replicate p.1.toNat p.2 := by simp [flat]
theorem row_flat (r : Runs) : (flat r).length ≤ 2000 → row r = flat r := by
  induction r using snocRec with
  | nil => exact fun _ => rfl
  | append_singleton r p ih =>
    intro h
    rw [flat_append, flat_one, List.length_append, List.length_replicate] at h
    rw [row_snoc, flat_append, flat_one, ih (by omega), rowStep]
    congr 2
    omega
theorem snoc_pos {r : Runs} (h : ∀ p ∈ r, 1 ≤ p.1) (x : Int) : ∀ p ∈ snoc r x, 1 ≤ p.1 := by
  rcases last_cases r with rfl | ⟨pre, ⟨n, v⟩, rfl⟩
  · intro p hp
    rw [snoc_nil, List.mem_singleton] at hp
    subst hp
    exact Int.le_refl _
  · have hn : 1 ≤ n := h (n, v) (by simp)
    have hpre : ∀ p ∈ pre, 1 ≤ p.1 := fun p hp => h p (by simp [hp])
    by_cases e : v = x
    · subst e
      rw [snoc_same]
      intro p hp
      rcases List.mem_append.1 hp with hp | hp
      · exact hpre p hp
      · rw [List.mem_singleton] at hp
        subst hp
        show 1 ≤ n + 1
        omega
    · rw [snoc_other _ _ _ _ e]
      intro p hp
      rcases List.mem_append.1 hp with hp | hp
      · rcases List.mem_append.1 hp with hp | hp
        · exact hpre p hp
        · rw [List.mem_singleton] at hp
          subst hp
          exact hn
      · rw [List.mem_singleton] at hp
        subst hp
        exact Int.le_refl _
theorem flat_snoc {r : Runs} (h : ∀ p ∈ r, 1 ≤ p.1) (x : Int) : flat (snoc r x) = flat r ++ [x] := by
  rcases last_cases r with rfl | ⟨pre, ⟨n, v⟩, rfl⟩
  · rfl
  · have hn : 1 ≤ n := h (n, v) (by simp)
    by_cases e : v = x
    · subst e
      rw [snoc_same, flat_append, flat_append, flat_one, flat_one, List.append_assoc, show (n + 1).toNat = n.toNat + 1 by omega, List.replicate_succ']
    · rw [snoc_other _ _ _ _ e, flat_append, flat_one]
      rfl
theorem of_pos (l : List Int) : ∀ p ∈ of l, 1 ≤ p.1 := by
  induction l using snocRec with
  | nil => intro p hp; simp [of] at hp
  | append_singleton l x ih => rw [of_snoc]; exact snoc_pos ih x
theorem flat_of (l : List Int) : flat (of l) = l := by
  induction l using snocRec with
  | nil => rfl
  | append_singleton l x ih => rw [of_snoc, flat_snoc (of_pos l), ih]
theorem row_of {l : List Int} (h : l.length ≤ 2000) : row (of l) = l := by
  rw [row_flat _ (by rw [flat_of]; exact h), flat_of]
theorem of_len (l : List Int) : (of l).length ≤ l.length := by
  induction l using snocRec with
  | nil => exact Nat.le_refl _
  | append_singleton l x ih =>
    rw [of_snoc]
    rcases last_cases (of l) with e | ⟨pre, ⟨n, v⟩, e⟩
    · rw [e, snoc_nil]; simp
    · rw [e] at ih ⊢
      by_cases ev : v = x
      · subst ev
        rw [snoc_same]
        simp at ih ⊢
        omega
      · rw [snoc_other _ _ _ _ ev]
        simp at ih ⊢
        omega

/-- Whether runs are a row's: what is left, and the last one's number; none: they are not. -/
def stepR (st : Option (Int × Option Int)) (p : Int × Int) : Option (Int × Option Int) :=
  match st with
  | none => none
  | some (left, prev) => if p.1 < 1 ∨ left < p.1 ∨ prev = some p.2 then none else some (left - p.1, some p.2)
def rightS (r : Runs) : Option (Int × Option Int) := r.foldl stepR (some (2000, none))
def right (r : Runs) : Bool := (rightS r).isSome
theorem rightS_snoc (r : Runs) (p : Int × Int) : rightS (r ++ [p]) = stepR (rightS r) p := by simp [rightS, List.foldl_append]
theorem rightS_take {r : Runs} {k : Nat} (h : k < r.length) : rightS (r.take (k + 1)) = stepR (rightS (r.take k)) (r.getD k (0, 0)) := by rw [taken h (0, 0), rightS_snoc]
theorem step_none (r : Runs) : r.foldl stepR none = none := by
  induction r with
  | nil => rfl
  | cons p r ih => exact ih
theorem right_false {r : Runs} {k : Nat} (h : rightS (r.take k) = none) : right r = false := by
  unfold right rightS
  rw [← List.take_append_drop k r, List.foldl_append]
  unfold rightS at h
  rw [h, step_none]
  rfl
theorem rightS_of (l : List Int) : l.length ≤ 2000 → rightS (of l) = some (2000 - (l.length : Int), l.getLast?) := by
  induction l using snocRec with
  | nil => exact fun _ => rfl
  | append_singleton l x ih =>
    intro h
    rw [List.length_append, List.length_singleton] at h
    have ih := ih (by omega)
    rw [of_snoc]
    have hp := of_pos l
    rcases last_cases (of l) with e | ⟨pre, ⟨n, v⟩, e⟩
    · have hl : l = [] := by rw [← flat_of l, e]; rfl
      subst hl
      rw [e, snoc_nil]
      rfl
    · rw [e] at ih hp ⊢
      have hn : 1 ≤ n := hp (n, v) (by simp)
      rw [rightS_snoc] at ih
      cases hs : rightS pre with
      | none => rw [hs] at ih; cases ih
      | some st =>
        obtain ⟨left, prev⟩ := st
        rw [hs] at ih
        simp only [stepR] at ih
        by_cases hc : n < 1 ∨ left < n ∨ prev = some v
        · rw [if_pos hc] at ih; cases ih
        · rw [if_neg hc] at ih
          injection ih with ih
          injection ih with ih1 ih2
          have hc2 : ¬ prev = some v := fun e => hc (.inr (.inr e))
          by_cases ev : v = x
          · subst ev
            rw [snoc_same, rightS_snoc, hs]
            simp only [stepR]
            rw [if_neg (by rintro (a | a | a) <;> first | omega | exact hc2 a)]
            simp
            omega
          · rw [snoc_other _ _ _ _ ev, rightS_snoc, rightS_snoc, hs]
            simp only [stepR]
            rw [if_neg hc]
            simp only
            rw [if_neg (by rintro (a | a | a) <;> first | omega | (injection a with a; exact ev a))]
            simp
            omega
theorem right_of {l : List Int} (h : l.length ≤ 2000) : right (of l) = true := by
  unfold right
  rw [rightS_of l h]
  rfl

/-- The bytes of runs. -/
def laid (r : Runs) : List Nat := r.flatMap fun p => Uv.put p.1.toNat ++ Uv.put (Uv.fold p.2)
theorem laid_append (a b : Runs) : laid (a ++ b) = laid a ++ laid b := by simp [laid]
theorem laid_one (p : Int × Int) : laid [p] = Uv.put p.1.toNat ++ Uv.put (Uv.fold p.2) := by simp [laid]
theorem laid_byte (r : Runs) : ∀ c ∈ laid r, c < 256 := by
  intro c hc
  obtain ⟨p, _, hp⟩ := List.mem_flatMap.1 hc
  rcases List.mem_append.1 hp with h | h
  · exact Uv.put_byte _ c h
  · exact Uv.put_byte _ c h
/-- Runs whose numbers are of their type. -/
def Fits (r : Runs) : Prop := ∀ p ∈ r, 0 ≤ p.1 ∧ p.1 ≤ 9223372036854775807 ∧ -9223372036854775808 ≤ p.2 ∧ p.2 ≤ 9223372036854775807
theorem laid_len {r : Runs} (h : Fits r) : (laid r).length ≤ 20 * r.length := by
  induction r with
  | nil => exact Nat.le_refl _
  | cons p r ih =>
    obtain ⟨h0, h1, h2, h3⟩ := h p (by simp)
    have a := Uv.put_len_10 (n := p.1.toNat) (by omega)
    have b := Uv.put_len_10 (Uv.fold_lt h2 h3)
    have c := ih (fun q hq => h q (by simp [hq]))
    have e : laid (p :: r) = laid [p] ++ laid r := laid_append [p] r
    rw [e, laid_one]
    simp only [List.length_append, List.length_cons]
    omega

end Go.Proofs.Ytngkjmghhoemgaa.Ru

namespace Go.Proofs.Ytngkjmghhoemgaa.Li

/-- May a number be a line? -/
def may (x : Int) : Bool := decide (0 ≤ x) && decide (x ≤ 65535)
/-- May a row be a table of lines? -/
def right (l : List Int) : Bool := decide (l.length ≤ 2000) && l.all may
/-- The line of an instruction. -/
def at_ (l : List Int) (pc : Int) : Int := if pc < 0 ∨ (l.length : Int) ≤ pc then 0 else l.getD pc.toNat 0
theorem all_take_succ {l : List Int} {k : Nat} (h : k < l.length) : (l.take (k + 1)).all may = ((l.take k).all may && may (l.getD k 0)) := by
  rw [Ru.take_snoc l k h, List.all_append]
  simp
theorem all_bad {l : List Int} {k : Nat} (h : k < l.length) (hb : may (l.getD k 0) = false) : l.all may = false := by
  rw [List.all_eq_false]
  refine ⟨l[k], List.getElem_mem h, ?_⟩
  have : l.getD k 0 = l[k] := by simp [List.getD, h]
  rw [this] at hb
  simp [hb]

/-- How many numbers runs have. -/
def total : Ru.Runs → Int
  | [] => 0
  | p :: r => p.1 + total r
/-- Where a line is in runs that begin at a: from, and ahead of. -/
def spans (line : Int) : Int → Ru.Runs → Ru.Runs
  | _, [] => []
  | a, p :: r => (if p.2 = line then [(a, a + p.1)] else []) ++ spans line (a + p.1) r
/-- Where a line is in a row. -/
def of (line : Int) (l : List Int) : Ru.Runs := spans line 0 (Ru.of l)
/-- Instruction i more, of line x. -/
def step (line : Int) (out : Ru.Runs) (i x : Int) : Ru.Runs :=
  if x = line then
    match out.getLast? with
    | some p => if p.2 = i then out.dropLast ++ [(p.1, i + 1)] else out ++ [(i, i + 1)]
    | none => [(i, i + 1)]
  else out

theorem total_snoc (r : Ru.Runs) (p : Int × Int) : total (r ++ [p]) = total r + p.1 := by
  induction r with
  | nil => simp [total]
  | cons q r ih => simp only [List.cons_append, total, ih]; omega
theorem total_append (a b : Ru.Runs) : total (a ++ b) = total a + total b := by
  induction a with
  | nil => simp [total]
  | cons q r ih => simp only [List.cons_append, total, ih]; omega
theorem total_pos {r : Ru.Runs} (h : ∀ p ∈ r, 1 ≤ p.1) : 0 ≤ total r := by
  induction r with
  | nil => exact Int.le_refl _
  | cons q r ih =>
    have h1 := h q (by simp)
    have h2 := ih (fun p hp => h p (by simp [hp]))
    simp only [total]
    omega
theorem total_take {r : Ru.Runs} {k : Nat} (h : k < r.length) : total (r.take (k + 1)) = total (r.take k) + (r.getD k (0, 0)).1 := by
  rw [Ru.taken h (0, 0), total_snoc]
theorem total_part {r : Ru.Runs} (h : ∀ p ∈ r, 1 ≤ p.1) (k : Nat) : 0 ≤ total (r.take k) ∧ total (r.take k) ≤ total r := by
  have h1 := total_pos (r := r.take k) (fun p hp => h p (List.mem_of_mem_take hp))
  have h2 := total_pos (r := r.drop k) (fun p hp => h p (List.mem_of_mem_drop hp))
  have h3 := total_append (r.take k) (r.drop k)
  rw [List.take_append_drop] at h3
  omega
theorem total_of (l : List Int) : total (Ru.of l) = (l.length : Int) := by
  induction l using Ru.snocRec with
  | nil => rfl
  | append_singleton l x ih =>
    rw [Ru.of_snoc, List.length_append, List.length_singleton]
    rcases Ru.last_cases (Ru.of l) with h | ⟨pre, ⟨n, v⟩, h⟩
    · rw [h] at ih ⊢
      rw [Ru.snoc_nil]
      simp only [total] at ih ⊢
      omega
    · rw [h] at ih ⊢
      rw [total_snoc] at ih
      by_cases e : v = x
      · subst e
        rw [Ru.snoc_same, total_snoc]
        simp only at ih ⊢
        omega
      · rw [Ru.snoc_other _ _ _ _ e, total_snoc, total_snoc]
        simp only at ih ⊢
        omega

theorem spans_snoc (line : Int) (r : Ru.Runs) (p : Int × Int) : ∀ a, spans line a (r ++ [p]) = spans line a r ++ (if p.2 = line then [(a + total r, a + total r + p.1)] else []) := by
  induction r with
  | nil => intro a; simp [spans, total]
  | cons q r ih =>
    intro a
    simp only [List.cons_append, spans, total, ih, List.append_assoc, Int.add_assoc]
theorem spans_take {line a : Int} {r : Ru.Runs} {k : Nat} (h : k < r.length) : spans line a (r.take (k + 1)) = spans line a (r.take k) ++ (if (r.getD k (0, 0)).2 = line then [(a + total (r.take k), a + total (r.take k) + (r.getD k (0, 0)).1)] else []) := by
  rw [Ru.taken h (0, 0), spans_snoc]
theorem spans_len (line : Int) (r : Ru.Runs) : ∀ a, (spans line a r).length ≤ r.length := by
  induction r with
  | nil => intro a; exact Nat.le_refl _
  | cons q r ih =>
    intro a
    have := ih (a + q.1)
    simp only [spans, List.length_append, List.length_cons]
    split <;> simp <;> omega
theorem spans_end {line : Int} {r : Ru.Runs} (h : ∀ p ∈ r, 1 ≤ p.1) : ∀ a, ∀ q ∈ spans line a r, q.2 ≤ a + total r := by
  induction r with
  | nil => intro a q hq; simp [spans] at hq
  | cons p r ih =>
    intro a q hq
    have h1 := h p (by simp)
    have h2 := total_pos (r := r) (fun p hp => h p (by simp [hp]))
    simp only [total]
    rcases List.mem_append.1 hq with hq | hq
    · split at hq
      · rw [List.mem_singleton] at hq
        subst hq
        simp only
        omega
      · simp at hq
    · have := ih (fun p hp => h p (by simp [hp])) _ q hq
      omega
theorem of_len (line : Int) (l : List Int) : (of line l).length ≤ l.length := Nat.le_trans (spans_len _ _ _) (Ru.of_len l)

theorem step_other {line x : Int} (out : Ru.Runs) (i : Int) (h : x ≠ line) : step line out i x = out := by rw [step, if_neg h]
theorem step_nil (line i : Int) : step line [] i line = [(i, i + 1)] := by simp [step]
theorem step_same (line i f : Int) (pre : Ru.Runs) : step line (pre ++ [(f, i)]) i line = pre ++ [(f, i + 1)] := by simp [step]
theorem step_new {line i f t : Int} (pre : Ru.Runs) (h : t ≠ i) : step line (pre ++ [(f, t)]) i line = pre ++ [(f, t)] ++ [(i, i + 1)] := by simp [step, h]
theorem of_snoc (line : Int) (l : List Int) (x : Int) : of line (l ++ [x]) = step line (of line l) l.length x := by
  have ht := total_of l
  have hp := Ru.of_pos l
  unfold of
  rw [Ru.of_snoc]
  rcases Ru.last_cases (Ru.of l) with h | ⟨pre, ⟨n, v⟩, h⟩
  · rw [h] at ht ⊢
    simp only [total] at ht
    rw [Ru.snoc_nil, ← ht]
    by_cases e : x = line
    · subst e
      simp [spans, step]
    · simp [spans, step, e]
  · rw [h] at ht hp ⊢
    rw [total_snoc] at ht
    have hn : 1 ≤ n := hp (n, v) (by simp)
    by_cases e : v = x
    · subst e
      rw [Ru.snoc_same, spans_snoc, spans_snoc]
      by_cases e2 : v = line
      · subst e2
        simp only [if_true, Int.zero_add]
        simp only at ht
        rw [ht, step_same, ← ht, Int.add_assoc]
      · simp only [if_neg e2]
        rw [step_other _ _ e2]
    · rw [Ru.snoc_other _ _ _ _ e, spans_snoc, total_snoc, spans_snoc]
      by_cases e2 : x = line
      · subst e2
        simp only [if_true, if_neg e, List.append_nil, Int.zero_add]
        simp only at ht
        rw [ht]
        rcases Ru.last_cases (spans x 0 pre) with hs | ⟨q, ⟨f, t⟩, hs⟩
        · rw [hs, step_nil]
          rfl
        · have := spans_end (line := x) (r := pre) (fun p hp' => hp p (by simp [hp'])) 0 (f, t) (by rw [hs]; simp)
          rw [hs, step_new]
          simp only at this
          omega
      · simp only [if_neg e2, List.append_nil]
        rw [step_other _ _ e2]
theorem of_take (line : Int) (l : List Int) (k : Nat) (h : k < l.length) : of line (l.take (k + 1)) = step line (of line (l.take k)) (k : Int) (l.getD k 0) := by
  rw [Ru.take_snoc l k h, of_snoc, List.length_take, Nat.min_eq_left (Nat.le_of_lt h)]

end Go.Proofs.Ytngkjmghhoemgaa.Li

namespace Go.Proofs.Ytngkjmghhoemgaa.Tr

/-- A node: parent, function, line, from, parameters, to, resume. -/
structure Nd where
  p : Int
  f : Int
  l : Int
  a : Int
  g : Int
  t : Int
  r : Int
def Nd.nil : Nd := ⟨0, 0, 0, 0, 0, 0, 0⟩
def Nd.list (n : Nd) : List Int := [n.p, n.f, n.l, n.a, n.g, n.t, n.r]

/-- May a node's numbers be, where to is the greatest To ahead? -/
def fits (to : Int) (n : Nd) : Bool := decide (0 ≤ n.f ∧ n.f ≤ 39 ∧ 0 ≤ n.l ∧ n.l ≤ 65535 ∧ 0 ≤ n.g ∧ n.g ≤ 8 ∧ to ≤ n.a ∧ n.a ≤ 256 ∧ n.a ≤ n.t ∧ n.t ≤ 256 ∧ n.g ≤ n.t - n.a)
def head (n : Nd) : Bool := decide (n.p = -1 ∧ n.l = 0 ∧ n.a = 0 ∧ n.r = 0)
def other (i : Nat) (n : Nd) : Bool := decide (0 ≤ n.p ∧ n.p < (i : Int) ∧ 1 ≤ n.r ∧ n.r ≤ 1999)
def ok (i : Nat) (to : Int) (n : Nd) : Bool := fits to n && (if i = 0 then head n else other i n)
def run : Nat → Int → List Nd → Bool
  | _, _, [] => true
  | i, to, n :: r => ok i to n && run (i + 1) n.t r
/-- May nodes be a tree? -/
def right (l : List Nd) : Bool := decide (1 ≤ l.length) && decide (l.length ≤ 120) && run 0 0 l

theorem drop_at {l : List Nd} {k : Nat} (h : k < l.length) : l.drop k = l.getD k Nd.nil :: l.drop (k + 1) := by
  rw [List.drop_eq_getElem_cons h]
  simp [List.getD, h]
theorem run_at {l : List Nd} {k : Nat} (h : k < l.length) (to : Int) : run k to (l.drop k) = (ok k to (l.getD k Nd.nil) && run (k + 1) (l.getD k Nd.nil).t (l.drop (k + 1))) := by
  rw [drop_at h]
  rfl
theorem run_end {l : List Nd} {k : Nat} (h : l.length ≤ k) (to : Int) : run k to (l.drop k) = true := by
  rw [List.drop_eq_nil_of_le h]
  rfl
theorem right_run {l : List Nd} (h : right l = true) : 1 ≤ l.length ∧ l.length ≤ 120 ∧ run 0 0 l = true := by
  unfold right at h
  simp only [Bool.and_eq_true, decide_eq_true_eq] at h
  exact ⟨h.1.1, h.1.2, h.2⟩
/-- The greatest To ahead of node k. -/
def tos (l : List Nd) (k : Nat) : Int := if k = 0 then 0 else (l.getD (k - 1) Nd.nil).t
theorem tos_succ (l : List Nd) (k : Nat) : tos l (k + 1) = (l.getD k Nd.nil).t := by simp [tos]
theorem right_part {l : List Nd} (h : right l = true) : ∀ k, k ≤ l.length → run k (tos l k) (l.drop k) = true
  | 0, _ => (right_run h).2.2
  | k + 1, hk => by
    have ih := right_part h k (by omega)
    rw [run_at (by omega), Bool.and_eq_true] at ih
    rw [tos_succ]
    exact ih.2
theorem right_ok {l : List Nd} (h : right l = true) {k : Nat} (hk : k < l.length) : ok k (tos l k) (l.getD k Nd.nil) = true := by
  have := right_part h k (by omega)
  rw [run_at hk, Bool.and_eq_true] at this
  exact this.1
theorem fits_iff {to : Int} {n : Nd} : fits to n = true ↔ 0 ≤ n.f ∧ n.f ≤ 39 ∧ 0 ≤ n.l ∧ n.l ≤ 65535 ∧ 0 ≤ n.g ∧ n.g ≤ 8 ∧ to ≤ n.a ∧ n.a ≤ 256 ∧ n.a ≤ n.t ∧ n.t ≤ 256 ∧ n.g ≤ n.t - n.a := decide_eq_true_iff
theorem right_fits {l : List Nd} (h : right l = true) {k : Nat} (hk : k < l.length) : fits (tos l k) (l.getD k Nd.nil) = true := by
  have := right_ok h hk
  unfold ok at this
  rw [Bool.and_eq_true] at this
  exact this.1
theorem right_head {l : List Nd} (h : right l = true) : (l.getD 0 Nd.nil).p = -1 ∧ (l.getD 0 Nd.nil).l = 0 ∧ (l.getD 0 Nd.nil).a = 0 ∧ (l.getD 0 Nd.nil).r = 0 := by
  have := right_ok h (k := 0) (right_run h).1
  unfold ok at this
  rw [Bool.and_eq_true, if_pos rfl] at this
  exact of_decide_eq_true this.2
theorem right_other {l : List Nd} (h : right l = true) {k : Nat} (hk : k < l.length) (h0 : k ≠ 0) : 0 ≤ (l.getD k Nd.nil).p ∧ (l.getD k Nd.nil).p < (k : Int) ∧ 1 ≤ (l.getD k Nd.nil).r ∧ (l.getD k Nd.nil).r ≤ 1999 := by
  have := right_ok h hk
  unfold ok at this
  rw [Bool.and_eq_true, if_neg h0] at this
  exact of_decide_eq_true this.2
theorem right_up {l : List Nd} (h : right l = true) {k : Nat} (hk : k < l.length) : -1 ≤ (l.getD k Nd.nil).p ∧ (l.getD k Nd.nil).p < (k : Int) := by
  by_cases h0 : k = 0
  · subst h0
    have := right_head h
    omega
  · have := right_other h hk h0
    omega

/-- A node, its parent, and so on. -/
def up (l : List Nd) : Nat → Int → List Int
  | 0, _ => []
  | fuel + 1, n => if 0 ≤ n ∧ n < (l.length : Int) then n :: up l fuel (l.getD n.toNat Nd.nil).p else []
def ups (l : List Nd) (n : Int) : List Int := up l (l.length + 1) n
theorem up_out {l : List Nd} {n : Int} (h : ¬ (0 ≤ n ∧ n < (l.length : Int))) : ∀ f, up l f n = []
  | 0 => rfl
  | f + 1 => by rw [up, if_neg h]
theorem up_in {l : List Nd} {n : Int} (h : 0 ≤ n ∧ n < (l.length : Int)) (f : Nat) : up l (f + 1) n = n :: up l f (l.getD n.toNat Nd.nil).p := by rw [up, if_pos h]
theorem up_fuel {l : List Nd} (h : right l = true) : ∀ (f g : Nat) (n : Int), n < (f : Int) → n < (g : Int) → up l f n = up l g n
  | f, g, n, hf, hg => by
    by_cases hn : 0 ≤ n ∧ n < (l.length : Int)
    · obtain ⟨f', rfl⟩ : ∃ f', f = f' + 1 := ⟨f - 1, by omega⟩
      obtain ⟨g', rfl⟩ : ∃ g', g = g' + 1 := ⟨g - 1, by omega⟩
      have hu := right_up h (k := n.toNat) (by omega)
      rw [up_in hn, up_in hn, up_fuel h f' g' _ (by omega) (by omega)]
    · rw [up_out hn, up_out hn]
theorem ups_in {l : List Nd} (h : right l = true) {n : Int} (hn : 0 ≤ n ∧ n < (l.length : Int)) : ups l n = n :: ups l (l.getD n.toNat Nd.nil).p := by
  have hu := right_up h (k := n.toNat) (by omega)
  unfold ups
  rw [up_in hn, up_fuel h l.length (l.length + 1) _ (by omega) (by omega)]
theorem ups_out {l : List Nd} {n : Int} (h : ¬ (0 ≤ n ∧ n < (l.length : Int))) : ups l n = [] := up_out h _
theorem up_len (l : List Nd) : ∀ (f : Nat) (n : Int), (up l f n).length ≤ f
  | 0, _ => Nat.le_refl _
  | f + 1, n => by
    rw [up]
    split
    · have := up_len l f (l.getD n.toNat Nd.nil).p
      rw [List.length_cons]
      omega
    · simp
theorem ups_len {l : List Nd} (h : right l = true) (n : Int) : (ups l n).length ≤ l.length := by
  by_cases hn : 0 ≤ n ∧ n < (l.length : Int)
  · have := up_len l l.length n
    rwa [up_fuel h l.length (l.length + 1) n (by omega) (by omega)] at this
  · rw [ups_out hn]
    exact Nat.zero_le _
theorem up_bound (l : List Nd) : ∀ (f : Nat) (n : Int), ∀ x ∈ up l f n, 0 ≤ x ∧ x < (l.length : Int)
  | 0, _ => by intro x hx; simp [up] at hx
  | f + 1, n => by
    intro x hx
    rw [up] at hx
    split at hx
    · rename_i hn
      rcases List.mem_cons.1 hx with rfl | hx
      · exact hn
      · exact up_bound l f _ x hx
    · simp at hx
/-- Each node stands under the first one. -/
theorem ups_zero {l : List Nd} (h : right l = true) : ∀ k, k < l.length → (0 : Int) ∈ ups l (k : Int) := fun k => by
  induction k using Nat.strongRecOn with
  | ind k ih =>
    intro hk
    rw [ups_in h ⟨by omega, by omega⟩]
    by_cases h0 : k = 0
    · subst h0
      simp
    · have ho := right_other h hk h0
      rw [Int.toNat_natCast]
      obtain ⟨j, hj⟩ : ∃ j : Nat, (l.getD k Nd.nil).p = (j : Int) := ⟨(l.getD k Nd.nil).p.toNat, by omega⟩
      rw [hj] at ho ⊢
      exact List.mem_cons_of_mem _ (ih j (by omega) (by omega))
def inside (l : List Nd) (n under : Int) : Bool := (ups l n).any (· == under)
theorem inside_zero {l : List Nd} (h : right l = true) {k : Nat} (hk : k < l.length) : inside l (k : Int) 0 = true := List.any_eq_true.2 ⟨0, ups_zero h k hk, by simp⟩

/-- The kids among the first k. -/
def kidsTo (l : List Nd) (n : Int) : Nat → List Int
  | 0 => []
  | k + 1 => kidsTo l n k ++ (if 0 ≤ n ∧ (l.getD k Nd.nil).p = n then [(k : Int)] else [])
def kids (l : List Nd) (n : Int) : List Int := kidsTo l n l.length
theorem kidsTo_len (l : List Nd) (n : Int) : ∀ k, (kidsTo l n k).length ≤ k
  | 0 => Nat.le_refl _
  | k + 1 => by
    have := kidsTo_len l n k
    rw [kidsTo, List.length_append]
    split <;> simp <;> omega
theorem kidsTo_none {l : List Nd} {n : Int} (h : n < 0) : ∀ k, kidsTo l n k = []
  | 0 => rfl
  | k + 1 => by rw [kidsTo, kidsTo_none h k, if_neg (by omega)]; rfl

/-- A node's slots. -/
def own (l : List Nd) (n : Int) : Sl.Four := if n < 0 ∨ (l.length : Int) ≤ n then Sl.no else Sl.range (l.getD n.toNat Nd.nil).a (l.getD n.toNat Nd.nil).t
theorem own_in {l : List Nd} {k : Nat} (hk : k < l.length) : own l (k : Int) = Sl.range (l.getD k Nd.nil).a (l.getD k Nd.nil).t := by
  unfold own
  rw [if_neg (by omega), Int.toNat_natCast]
/-- The slots of the first k. -/
def all (l : List Nd) : Nat → Sl.Four
  | 0 => Sl.no
  | k + 1 => (all l k).or (own l (k : Int))
theorem ok_own (l : List Nd) (n : Int) : (own l n).ok := by
  unfold own
  split
  · exact Sl.ok_no
  · exact Sl.ok_span _ _
theorem ok_all (l : List Nd) : ∀ k, (all l k).ok
  | 0 => Sl.ok_no
  | k + 1 => Sl.ok_or (ok_all l k) (ok_own l _)
theorem tos_mono {l : List Nd} (h : right l = true) {k : Nat} (hk : k < l.length) : tos l k ≤ tos l (k + 1) := by
  have := fits_iff.1 (right_fits h hk)
  rw [tos_succ]
  omega
theorem all_below {l : List Nd} (h : right l = true) : ∀ k, k ≤ l.length → ∀ m, m < 256 → (all l k).has m = true → (m : Int) < tos l k
  | 0, _, m, _, hm => by rw [all, Sl.has_no] at hm; cases hm
  | k + 1, hk, m, hm2, hm => by
    rw [all, Sl.has_or, Bool.or_eq_true] at hm
    rcases hm with hm | hm
    · exact Int.lt_of_lt_of_le (all_below h k (by omega) m hm2 hm) (tos_mono h (by omega))
    · rw [own_in (by omega), Sl.has_range _ _ _ hm2, decide_eq_true_eq] at hm
      rw [tos_succ]
      exact hm.2
/-- No slot of node k is one of those ahead. -/
theorem apart {l : List Nd} (h : right l = true) {k : Nat} (hk : k < l.length) : (own l (k : Int)).sub (all l k) = own l (k : Int) := by
  refine Sl.four_ext (Sl.ok_sub _ (ok_own l _)) (ok_own l _) (fun m hm => ?_)
  rw [Sl.has_sub _ (ok_all l k)]
  cases ho : (own l (k : Int)).has m with
  | false => rfl
  | true =>
    cases ha : (all l k).has m with
    | false => rfl
    | true =>
      have h1 := all_below h k (by omega) m hm ha
      rw [own_in hk, Sl.has_range _ _ _ hm, decide_eq_true_eq] at ho
      have h2 := fits_iff.1 (right_fits h hk)
      omega

/-- A node's bytes, and a tree's. -/
def one (n : Nd) : List Nat := n.list.flatMap fun x => Uv.put (Uv.fold x)
def bytes (l : List Nd) : List Nat := Uv.put l.length ++ l.flatMap one
theorem one_append (n : Nd) : one n = Uv.put (Uv.fold n.p) ++ (Uv.put (Uv.fold n.f) ++ (Uv.put (Uv.fold n.l) ++ (Uv.put (Uv.fold n.a) ++ (Uv.put (Uv.fold n.g) ++ (Uv.put (Uv.fold n.t) ++ Uv.put (Uv.fold n.r)))))) := by simp [one, Nd.list]
theorem flat_take {l : List Nd} {k : Nat} (h : k < l.length) : (l.take (k + 1)).flatMap one = (l.take k).flatMap one ++ one (l.getD k Nd.nil) := by
  have e : l.take (k + 1) = l.take k ++ [l.getD k Nd.nil] := by
    rw [List.take_succ_eq_append_getElem h]
    simp [List.getD, h]
  rw [e, List.flatMap_append]
  simp
theorem one_byte (n : Nd) : ∀ c ∈ one n, c < 256 := by
  intro c hc
  obtain ⟨x, _, hx⟩ := List.mem_flatMap.1 hc
  exact Uv.put_byte _ c hx
theorem bytes_byte (l : List Nd) : ∀ c ∈ bytes l, c < 256 := by
  intro c hc
  rcases List.mem_append.1 hc with hc | hc
  · exact Uv.put_byte _ c hc
  · obtain ⟨x, _, hx⟩ := List.mem_flatMap.1 hc
    exact one_byte x c hx
/-- Numbers of their type. -/
def Nd.wf (n : Nd) : Prop := ∀ x ∈ n.list, -9223372036854775808 ≤ x ∧ x ≤ 9223372036854775807
theorem one_len {n : Nd} (h : n.wf) : (one n).length ≤ 70 := by
  have each : ∀ x ∈ n.list, (Uv.put (Uv.fold x)).length ≤ 10 := fun x hx => Uv.put_len_10 (Uv.fold_lt (h x hx).1 (h x hx).2)
  have h0 := each n.p (by simp [Nd.list])
  have h1 := each n.f (by simp [Nd.list])
  have h2 := each n.l (by simp [Nd.list])
  have h3 := each n.a (by simp [Nd.list])
  have h4 := each n.g (by simp [Nd.list])
  have h5 := each n.t (by simp [Nd.list])
  have h6 := each n.r (by simp [Nd.list])
  rw [one_append]
  simp only [List.length_append]
  omega
theorem flat_len {l : List Nd} (h : ∀ n ∈ l, n.wf) : (l.flatMap one).length ≤ 70 * l.length := by
  induction l with
  | nil => exact Nat.le_refl _
  | cons n r ih =>
    have h1 := one_len (h n (by simp))
    have h2 := ih (fun m hm => h m (by simp [hm]))
    rw [List.flatMap_cons, List.length_append, List.length_cons]
    omega
theorem bytes_len {l : List Nd} (h : ∀ n ∈ l, n.wf) (hl : l.length < 18446744073709551616) : (bytes l).length ≤ 10 + 70 * l.length := by
  have h1 := Uv.put_len_10 hl
  have h2 := flat_len h
  rw [bytes, List.length_append]
  omega

end Go.Proofs.Ytngkjmghhoemgaa.Tr
