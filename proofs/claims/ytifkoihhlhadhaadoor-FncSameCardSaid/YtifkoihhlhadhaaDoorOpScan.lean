/-
  A text of words, a sign behind each, gone over byte by byte: the names of the instructions. Conditions: none.
-/
import Derived.Test.YtifkoihhlhadhaaDoorBase
namespace Go.Proofs.YtifkoihhlhadhaaDoor
open Go.RowKit

namespace Op
/-- What has been told, which word comes, and where it begins, when so many bytes are over. -/
structure Scan where
  k : Nat
  start : Nat
  told : List (Nat × ByteArray)
/-- The byte at a place. -/
def byte (s : ByteArray) (i : Nat) : Nat := (s.data.toList.getD i 0).toNat
theorem byte_eq (s : ByteArray) (i : Nat) (h : i < s.size) : s[i].toNat = byte s i := by
  have h' : i < s.data.size := h
  show s.data[i].toNat = _
  have e : s.data[i]? = some s.data[i] := Array.getElem?_eq_getElem h'
  simp only [byte, List.getD, Array.getElem?_toList, e, Option.getD_some]
def Scan.next (s : ByteArray) (c p : Nat) (x : Scan) : Scan := if byte s p = c then ⟨x.k + 1, p + 1, x.told ++ [(x.k, s.extract x.start p)]⟩ else x
def scan (s : ByteArray) (c : Nat) : Nat → Scan
  | 0 => ⟨0, 0, []⟩
  | p + 1 => (scan s c p).next s c p
theorem scan_hit {s : ByteArray} {c p : Nat} (h : byte s p = c) : scan s c (p + 1) = ⟨(scan s c p).k + 1, p + 1, (scan s c p).told ++ [((scan s c p).k, s.extract (scan s c p).start p)]⟩ := by
  show (scan s c p).next s c p = _
  unfold Scan.next
  rw [if_pos h]
theorem scan_miss {s : ByteArray} {c p : Nat} (h : ¬ byte s p = c) : scan s c (p + 1) = scan s c p := by
  show (scan s c p).next s c p = _
  unfold Scan.next
  rw [if_neg h]
/-- It begins no later than here; no more words than bytes; words are numbered as they come. -/
theorem scan_le (s : ByteArray) (c : Nat) : ∀ p, (scan s c p).start ≤ p ∧ (scan s c p).k ≤ p ∧ (scan s c p).told.length = (scan s c p).k ∧ ∀ x ∈ (scan s c p).told, x.1 < (scan s c p).k
  | 0 => ⟨Nat.le_refl _, Nat.le_refl _, rfl, fun x hx => absurd hx (by simp [scan])⟩
  | p + 1 => by
    obtain ⟨h1, h2, h3, h4⟩ := scan_le s c p
    by_cases h : byte s p = c
    · rw [scan_hit h]
      refine ⟨Nat.le_refl _, by simp only; omega, by simp [h3], fun x hx => ?_⟩
      rcases List.mem_append.1 hx with hx | hx
      · have := h4 x hx; simp only; omega
      · rw [List.mem_singleton] at hx; subst hx; simp only; omega
    · rw [scan_miss h]
      exact ⟨by omega, by omega, h3, h4⟩
theorem scan_prefix (s : ByteArray) (c p : Nat) : ∀ q, p ≤ q → (scan s c p).told <+: (scan s c q).told
  | 0, h => by obtain rfl : p = 0 := by omega
               exact List.prefix_refl _
  | q + 1, h => by
    by_cases e : p = q + 1
    · subst e; exact List.prefix_refl _
    · refine (scan_prefix s c p q (by omega)).trans ?_
      by_cases h : byte s q = c
      · rw [scan_hit h]; exact List.prefix_append _ _
      · rw [scan_miss h]; exact List.prefix_refl _

/-- The program's text of names, and the document's. -/
def list : ByteArray := ⟨#[110, 111, 112, 44, 112, 117, 115, 104, 44, 108, 111, 97, 100, 44, 115, 116, 111, 114, 101, 44, 112, 111, 112, 44, 100, 117, 112, 44, 97, 100, 100, 44, 115, 117, 98, 44, 109, 117, 108, 44, 100, 105, 118, 44, 109, 111, 100, 44, 110, 101, 103, 44, 108, 101, 115, 115, 44, 115, 97, 109, 101, 44, 110, 111, 116, 44, 112, 97, 105, 114, 44, 112, 108, 117, 115, 44, 109, 105, 110, 117, 115, 44, 116, 105, 109, 101, 115, 44, 114, 101, 97, 108, 44, 105, 109, 97, 103, 44, 106, 117, 109, 112, 44, 105, 102, 44, 99, 97, 108, 108, 44, 100, 101, 102, 101, 114, 44, 114, 101, 116, 44, 112, 97, 110, 105, 99, 44, 114, 101, 99, 111, 118, 101, 114, 44, 103, 101, 116, 114, 101, 115, 44, 115, 101, 116, 114, 101, 115, 44, 101, 109, 105, 116, 44, 116, 114, 97, 99, 101, 44, 100, 114, 97, 119, 44, 111, 112, 101, 110, 44, 99, 108, 111, 115, 101, 44]⟩
def words : ByteArray := ⟨#[110, 111, 112, 32, 112, 117, 115, 104, 32, 108, 111, 97, 100, 32, 115, 116, 111, 114, 101, 32, 112, 111, 112, 32, 100, 117, 112, 32, 97, 100, 100, 32, 115, 117, 98, 32, 109, 117, 108, 32, 100, 105, 118, 32, 109, 111, 100, 32, 110, 101, 103, 32, 108, 101, 115, 115, 32, 115, 97, 109, 101, 32, 110, 111, 116, 32, 112, 97, 105, 114, 32, 112, 108, 117, 115, 32, 109, 105, 110, 117, 115, 32, 116, 105, 109, 101, 115, 32, 114, 101, 97, 108, 32, 105, 109, 97, 103, 32, 106, 117, 109, 112, 32, 105, 102, 32, 99, 97, 108, 108, 32, 100, 101, 102, 101, 114, 32, 114, 101, 116, 32, 112, 97, 110, 105, 99, 32, 114, 101, 99, 111, 118, 101, 114, 32, 103, 101, 116, 114, 101, 115, 32, 115, 101, 116, 114, 101, 115, 32, 101, 109, 105, 116, 32, 116, 114, 97, 99, 101, 32, 100, 114, 97, 119, 32, 111, 112, 101, 110, 32, 99, 108, 111, 115, 101, 32]⟩
theorem lit_list : ByteArray.mk ((([110, 111, 112, 44, 112, 117, 115, 104, 44, 108, 111, 97, 100, 44, 115, 116, 111, 114, 101, 44, 112, 111, 112, 44, 100, 117, 112, 44, 97, 100, 100, 44, 115, 117, 98, 44, 109, 117, 108, 44, 100, 105, 118, 44] : List UInt8).append [109, 111, 100, 44, 110, 101, 103, 44, 108, 101, 115, 115, 44, 115, 97, 109, 101, 44, 110, 111, 116, 44, 112, 97, 105, 114, 44, 112, 108, 117, 115, 44, 109, 105, 110, 117, 115, 44, 116, 105, 109, 101, 115, 44]).append (([114, 101, 97, 108, 44, 105, 109, 97, 103, 44, 106, 117, 109, 112, 44, 105, 102, 44, 99, 97, 108, 108, 44, 100, 101, 102, 101, 114, 44, 114, 101, 116, 44, 112, 97, 110, 105, 99, 44, 114, 101, 99, 111, 118] : List UInt8).append [101, 114, 44, 103, 101, 116, 114, 101, 115, 44, 115, 101, 116, 114, 101, 115, 44, 101, 109, 105, 116, 44, 116, 114, 97, 99, 101, 44, 100, 114, 97, 119, 44, 111, 112, 101, 110, 44, 99, 108, 111, 115, 101, 44])).toArray = list := by kernel_rfl
theorem lit_words : ByteArray.mk ((([110, 111, 112, 32, 112, 117, 115, 104, 32, 108, 111, 97, 100, 32, 115, 116, 111, 114, 101, 32, 112, 111, 112, 32, 100, 117, 112, 32, 97, 100, 100, 32, 115, 117, 98, 32, 109, 117, 108, 32, 100, 105, 118, 32] : List UInt8).append [109, 111, 100, 32, 110, 101, 103, 32, 108, 101, 115, 115, 32, 115, 97, 109, 101, 32, 110, 111, 116, 32, 112, 97, 105, 114, 32, 112, 108, 117, 115, 32, 109, 105, 110, 117, 115, 32, 116, 105, 109, 101, 115, 32]).append (([114, 101, 97, 108, 32, 105, 109, 97, 103, 32, 106, 117, 109, 112, 32, 105, 102, 32, 99, 97, 108, 108, 32, 100, 101, 102, 101, 114, 32, 114, 101, 116, 32, 112, 97, 110, 105, 99, 32, 114, 101, 99, 111, 118] : List UInt8).append [101, 114, 32, 103, 101, 116, 114, 101, 115, 32, 115, 101, 116, 114, 101, 115, 32, 101, 109, 105, 116, 32, 116, 114, 97, 99, 101, 32, 100, 114, 97, 119, 32, 111, 112, 101, 110, 32, 99, 108, 111, 115, 101, 32])).toArray = words := by kernel_rfl
def names : List ByteArray := [
  ⟨#[110, 111, 112]⟩,
  ⟨#[112, 117, 115, 104]⟩,
  ⟨#[108, 111, 97, 100]⟩,
  ⟨#[115, 116, 111, 114, 101]⟩,
  ⟨#[112, 111, 112]⟩,
  ⟨#[100, 117, 112]⟩,
  ⟨#[97, 100, 100]⟩,
  ⟨#[115, 117, 98]⟩,
  ⟨#[109, 117, 108]⟩,
  ⟨#[100, 105, 118]⟩,
  ⟨#[109, 111, 100]⟩,
  ⟨#[110, 101, 103]⟩,
  ⟨#[108, 101, 115, 115]⟩,
  ⟨#[115, 97, 109, 101]⟩,
  ⟨#[110, 111, 116]⟩,
  ⟨#[112, 97, 105, 114]⟩,
  ⟨#[112, 108, 117, 115]⟩,
  ⟨#[109, 105, 110, 117, 115]⟩,
  ⟨#[116, 105, 109, 101, 115]⟩,
  ⟨#[114, 101, 97, 108]⟩,
  ⟨#[105, 109, 97, 103]⟩,
  ⟨#[106, 117, 109, 112]⟩,
  ⟨#[105, 102]⟩,
  ⟨#[99, 97, 108, 108]⟩,
  ⟨#[100, 101, 102, 101, 114]⟩,
  ⟨#[114, 101, 116]⟩,
  ⟨#[112, 97, 110, 105, 99]⟩,
  ⟨#[114, 101, 99, 111, 118, 101, 114]⟩,
  ⟨#[103, 101, 116, 114, 101, 115]⟩,
  ⟨#[115, 101, 116, 114, 101, 115]⟩,
  ⟨#[101, 109, 105, 116]⟩,
  ⟨#[116, 114, 97, 99, 101]⟩,
  ⟨#[100, 114, 97, 119]⟩,
  ⟨#[111, 112, 101, 110]⟩,
  ⟨#[99, 108, 111, 115, 101]⟩]
def all : List (Nat × ByteArray) := (List.range 35).zip names
theorem list_size : list.size = 176 := by kernel_rfl
theorem words_size : words.size = 176 := by kernel_rfl
theorem list_all : (scan list 44 176).told = all := by kernel_rfl
theorem words_all : (scan words 32 176).told = all := by kernel_rfl
theorem list_ascii : ∀ i, i < 176 → byte list i < 128 := by
  have h : (List.range 176).all (fun i => decide (byte list i < 128)) = true := by kernel_rfl
  intro i hi
  exact of_decide_eq_true (List.all_eq_true.1 h i (List.mem_range.2 hi))
/-- What an instruction is called. -/
def name (op : Int) : ByteArray := if 0 ≤ op ∧ op < 35 then names.getD op.toNat ⟨#[]⟩ else ⟨#[]⟩
theorem name_out {op : Int} (h : ¬ (0 ≤ op ∧ op < 35)) : name op = ⟨#[]⟩ := if_neg h
theorem name_of {x : Nat × ByteArray} (hx : x ∈ all) : name (x.1 : Int) = x.2 := by
  have h : all.all (fun x => decide (name (x.1 : Int) = x.2)) = true := by kernel_rfl
  exact of_decide_eq_true (List.all_eq_true.1 h x hx)
theorem num_of {x : Nat × ByteArray} (hx : x ∈ all) : x.1 < 35 := by
  have h : all.all (fun x => decide (x.1 < 35)) = true := by kernel_rfl
  exact of_decide_eq_true (List.all_eq_true.1 h x hx)
theorem all_has {k : Nat} (hk : k < 35) : (k, name (k : Int)) ∈ all := by
  have h : (List.range 35).all (fun k => all.any (fun x => decide (x.1 = k) && decide (x.2 = name (k : Int)))) = true := by kernel_rfl
  obtain ⟨x, hx, he⟩ := List.any_eq_true.1 (List.all_eq_true.1 h k (List.mem_range.2 hk))
  simp only [Bool.and_eq_true, decide_eq_true_eq] at he
  rw [← show x = (k, name (k : Int)) from Prod.ext he.1 he.2]
  exact hx
/-- Which instruction has that name. -/
def find (s : ByteArray) : Int × Bool := match all.find? (fun x => decide (x.2 = s)) with | some x => (x.1, true) | none => (0, false)
theorem all_apart {x y : Nat × ByteArray} (hx : x ∈ all) (hy : y ∈ all) (h : x.2 = y.2) : x = y := by
  have H : all.all (fun x => all.all fun y => decide (x.2 = y.2 → x = y)) = true := by kernel_rfl
  exact of_decide_eq_true (List.all_eq_true.1 (List.all_eq_true.1 H x hx) y hy) h
theorem find_of {x : Nat × ByteArray} (hx : x ∈ all) : find x.2 = ((x.1 : Int), true) := by
  unfold find
  cases h : all.find? (fun y => decide (y.2 = x.2)) with
  | none =>
    have := List.find?_eq_none.1 h x hx
    simp at this
  | some y =>
    have h1 := List.find?_some h
    simp only [decide_eq_true_eq] at h1
    rw [all_apart (List.mem_of_find?_eq_some h) hx h1]
theorem find_none {s : ByteArray} (h : ∀ x ∈ all, x.2 ≠ s) : find s = (0, false) := by
  unfold find
  rw [List.find?_eq_none.2 (fun x hx => by simpa using h x hx)]
end Op
end Go.Proofs.YtifkoihhlhadhaaDoor
