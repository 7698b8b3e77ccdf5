/-
 Lists of types by plain lists: which may be, their letters, their bytes, what is read from a text. Conditions: none.
-/
import Derived.Test.YtmhmlhlplfkpaaaGreatDoorBM
import Derived.Lib.ItoaNum
import Derived.Lib.ItoaLen
import Derived.Lib.AtoiAll
import Derived.Lib.AtoiAllCases
import Derived.Lib.IndexMore
import Derived.Lib.Strings
import Derived.Test.YtmhmlhlplfkpaaaGreatDoorSlM
namespace Go.Proofs.YtmhmlhlplfkpaaaGreatDoor
namespace Si
def may (t : Int) : Bool := t == 1 || t == 2
def right (l : List Int) (most : Int) : Bool := decide ((l.length : Int) ≤ most) && l.all may
def letter (t : Int) : Nat := if t = 1 then 105 else if t = 2 then 99 else 63
def typed (c : Int) : Int := if c = 105 then 1 else if c = 99 then 2 else 0
def text (l : List Int) : List Nat := if l.length = 0 then [45] else l.map letter
def bytes (l : List Int) : List Nat := if l.all may then Uv.put l.length ++ l.map Int.toNat else []
def types (c : List Nat) : List Int := c.map fun x : Nat => typed (x : Int)
def read (c : List Nat) : Option (List Int) := if c = [45] then some [] else if c = [] then none else if (types c).all may then some (types c) else none
theorem may_iff (t : Int) : may t = true ↔ t = 1 ∨ t = 2 := by simp [may]
theorem letter_lt (t : Int) : letter t < 128 := by
 unfold letter
 split
 · omega
 · split <;> omega
theorem letter_typed {t : Int} (h : may t = true) : typed (letter t : Int) = t := by
 rcases (may_iff t).1 h with rfl | rfl <;> rfl
theorem typed_high {c : Int} (h : 128 ≤ c) : typed c = 0 := by
 unfold typed
 rw [if_neg (by omega), if_neg (by omega)]
theorem text_lt (l : List Int) : ∀ c ∈ text l, c < 128 := by
 intro c hc
 unfold text at hc
 split at hc
 · obtain rfl := List.mem_singleton.1 hc; omega
 · obtain ⟨t, _, rfl⟩ := List.mem_map.1 hc
   exact letter_lt t
theorem types_take (c : List Nat) (k : Nat) : (types c).take k = types (c.take k) := by simp [types, List.map_take]
theorem all_take_succ {l : List Int} {k : Nat} (h : k < l.length) : (l.take (k + 1)).all may = ((l.take k).all may && may (l.getD k 0)) := by
 rw [List.take_succ_eq_append_getElem h, List.all_append]
 simp [List.getD, h]
theorem all_bad {l : List Int} {k : Nat} (h : k < l.length) (hb : may (l.getD k 0) = false) : l.all may = false := by
 rw [List.all_eq_false]
 refine ⟨l[k], List.getElem_mem h, ?_⟩
 have : l.getD k 0 = l[k] := by simp [List.getD, h]
 rw [← this, hb]
 decide
end Si
end Go.Proofs.YtmhmlhlplfkpaaaGreatDoor
namespace Go.Proofs.YtmhmlhlplfkpaaaGreatDoor
open Go.RowKit
namespace Op
structure Row where
 operand : Int
 fixed : Bool
 takes : ByteArray
 gives : ByteArray
 ends : Bool
 raises : Bool
def R (o : Int) (f : Bool) (t g : List UInt8) (e r : Bool) : Row := ⟨o, f, ⟨t.toArray⟩, ⟨g.toArray⟩, e, r⟩
def none_ : Row := R 0 false [] [] false false
def rows : List Row := [
 R 0 true [] [] false false,
 R 1 true [] [105] false false,
 R 2 false [] [] false false,
 R 2 false [] [] false false,
 R 0 false [] [] false false,
 R 0 false [] [] false false,
 R 0 true [105, 105] [105] false false,
 R 0 true [105, 105] [105] false false,
 R 0 true [105, 105] [105] false false,
 R 0 true [105, 105] [105] false true,
 R 0 true [105, 105] [105] false true,
 R 0 true [105] [105] false false,
 R 0 true [105, 105] [105] false false,
 R 0 true [105, 105] [105] false false,
 R 0 true [105] [105] false false,
 R 0 true [105, 105] [99] false false,
 R 0 true [99, 99] [99] false false,
 R 0 true [99, 99] [99] false false,
 R 0 true [99, 99] [99] false false,
 R 0 true [99] [105] false false,
 R 0 true [99] [105] false false,
 R 3 true [] [] true false,
 R 3 true [105] [] false false,
 R 4 false [] [] false true,
 R 4 false [] [] false false,
 R 0 true [] [] true true,
 R 0 true [105] [] true true,
 R 0 true [] [105, 105] false false,
 R 5 false [] [] false false,
 R 5 false [] [] false false,
 R 0 true [105] [] false false,
 R 0 true [] [] false false,
 R 0 true [] [105] false false,
 R 6 true [] [] false true,
 R 6 true [] [] true true]
def row (op : Int) : Row := if 0 ≤ op ∧ op < 35 then rows.getD op.toNat none_ else none_
def cells (r : Row) : List Value := [.int .i64 r.operand, .bool r.fixed, .string r.takes, .string r.gives, .bool r.ends, .bool r.raises]
def table : Array Value := (rows.flatMap cells).toArray
def zeros : Array Value := ((List.replicate 35 none_).flatMap cells).toArray
theorem flat_at (j : Nat) (hj : j < 6) : ∀ (l : List Row) (k : Nat), k < l.length → (l.flatMap cells)[k * 6 + j]? = (cells (l.getD k none_))[j]?
 | [], k, h => absurd h (by simp)
 | r :: l, 0, _ => by
   have h6 : (cells r).length = 6 := rfl
   simp only [List.flatMap_cons, Nat.zero_mul, Nat.zero_add, List.getD_cons_zero]
   rw [List.getElem?_append_left (by omega)]
 | r :: l, k + 1, h => by
   have h6 : (cells r).length = 6 := rfl
   simp only [List.flatMap_cons, List.getD_cons_succ]
   rw [List.getElem?_append_right (by omega), ← flat_at j hj l k (by simpa using h)]
   congr 1
   omega
theorem table_at (k j : Nat) (hk : k < 35) (hj : j < 6) : table[k * 6 + j]? = (cells (row (k : Int)))[j]? := by
 have h : row (k : Int) = rows.getD k none_ := by
   unfold row
   rw [if_pos (by omega)]
   simp
 rw [h, ← flat_at j hj rows k hk]
 simp [table]
theorem table_size : table.size = 210 := by kernel_rfl
theorem row_out {op : Int} (h : ¬ (0 ≤ op ∧ op < 35)) : row op = none_ := if_neg h
end Op
end Go.Proofs.YtmhmlhlplfkpaaaGreatDoor
namespace Go.Proofs.YtmhmlhlplfkpaaaGreatDoor
open Go.RowKit
namespace Op
structure Scan where
 k : Nat
 start : Nat
 told : List (Nat × ByteArray)
def byte (s : ByteArray) (i : Nat) : Nat := (s.data.toList.getD i 0).toNat
theorem byte_eq (s : ByteArray) (i : Nat) (h : i < s.size) : s[i].toNat = byte s i := by
 have h' : i < s.data.size := h
 show s.data[i].toNat = _
 have e : s.data[i]? = some s.data[i] := Array.getElem?_eq_getElem h'
 simp only [byte, List.getD, Array.getElem?_toList, e, Option.getD_some]
def Scan.next (s : ByteArray) (c p : Nat) (x : Scan) : Scan := if byte s p = c then ⟨x.k + 1, p + 1, x.told ++ [(x.k, s.extract x.start p)]⟩ else x
def scan (s : ByteArray) (c : Nat) : Nat → Scan
 | 0 => ⟨0, 0, []⟩
 | p + 1 => (scan s c p).next s c p
theorem scan_hit {s : ByteArray} {c p : Nat} (h : byte s p = c) : scan s c (p + 1) = ⟨(scan s c p).k + 1, p + 1, (scan s c p).told ++ [((scan s c p).k, s.extract (scan s c p).start p)]⟩ := by
 show (scan s c p).next s c p = _
 unfold Scan.next
 rw [if_pos h]
theorem scan_miss {s : ByteArray} {c p : Nat} (h : ¬ byte s p = c) : scan s c (p + 1) = scan s c p := by
 show (scan s c p).next s c p = _
 unfold Scan.next
 rw [if_neg h]
theorem scan_le (s : ByteArray) (c : Nat) : ∀ p, (scan s c p).start ≤ p ∧ (scan s c p).k ≤ p ∧ (scan s c p).told.length = (scan s c p).k ∧ ∀ x ∈ (scan s c p).told, x.1 < (scan s c p).k
 | 0 => ⟨Nat.le_refl _, Nat.le_refl _, rfl, fun x hx => absurd hx (by simp [scan])⟩
 | p + 1 => by
   obtain ⟨h1, h2, h3, h4⟩ := scan_le s c p
   by_cases h : byte s p = c
   · rw [scan_hit h]
     refine ⟨Nat.le_refl _, by simp only; omega, by simp [h3], fun x hx => ?_⟩
     rcases List.mem_append.1 hx with hx | hx
     · have := h4 x hx; simp only; omega
     · rw [List.mem_singleton] at hx; subst hx; simp only; omega
   · rw [scan_miss h]
     exact ⟨by omega, by omega, h3, h4⟩
theorem scan_prefix (s : ByteArray) (c p : Nat) : ∀ q, p ≤ q → (scan s c p).told <+: (scan s c q).told
 | 0, h => by obtain rfl : p = 0 := by omega
              exact List.prefix_refl _
 | q + 1, h => by
   by_cases e : p = q + 1
   · subst e; exact List.prefix_refl _
   · refine (scan_prefix s c p q (by omega)).trans ?_
     by_cases h : byte s q = c
     · rw [scan_hit h]; exact List.prefix_append _ _
     · rw [scan_miss h]; exact List.prefix_refl _
def list : ByteArray := ⟨#[110, 111, 112, 44, 112, 117, 115, 104, 44, 108, 111, 97, 100, 44, 115, 116, 111, 114, 101, 44, 112, 111, 112, 44, 100, 117, 112, 44, 97, 100, 100, 44, 115, 117, 98, 44, 109, 117, 108, 44, 100, 105, 118, 44, 109, 111, 100, 44, 110, 101, 103, 44, 108, 101, 115, 115, 44, 115, 97, 109, 101, 44, 110, 111, 116, 44, 112, 97, 105, 114, 44, 112, 108, 117, 115, 44, 109, 105, 110, 117, 115, 44, 116, 105, 109, 101, 115, 44, 114, 101, 97, 108, 44, 105, 109, 97, 103, 44, 106, 117, 109, 112, 44, 105, 102, 44, 99, 97, 108, 108, 44, 100, 101, 102, 101, 114, 44, 114, 101, 116, 44, 112, 97, 110, 105, 99, 44, 114, 101, 99, 111, 118, 101, 114, 44, 103, 101, 116, 114, 101, 115, 44, 115, 101, 116, 114, 101, 115, 44, 101, 109, 105, 116, 44, 116, 114, 97, 99, 101, 44, 100, 114, 97, 119, 44, 111, 112, 101, 110, 44, 99, 108, 111, 115, 101, 44]⟩
def words : ByteArray := ⟨#[110, 111, 112, 32, 112, 117, 115, 104, 32, 108, 111, 97, 100, 32, 115, 116, 111, 114, 101, 32, 112, 111, 112, 32, 100, 117, 112, 32, 97, 100, 100, 32, 115, 117, 98, 32, 109, 117, 108, 32, 100, 105, 118, 32, 109, 111, 100, 32, 110, 101, 103, 32, 108, 101, 115, 115, 32, 115, 97, 109, 101, 32, 110, 111, 116, 32, 112, 97, 105, 114, 32, 112, 108, 117, 115, 32, 109, 105, 110, 117, 115, 32, 116, 105, 109, 101, 115, 32, 114, 101, 97, 108, 32, 105, 109, 97, 103, 32, 106, 117, 109, 112, 32, 105, 102, 32, 99, 97, 108, 108, 32, 100, 101, 102, 101, 114, 32, 114, 101, 116, 32, 112, 97, 110, 105, 99, 32, 114, 101, 99, 111, 118, 101, 114, 32, 103, 101, 116, 114, 101, 115, 32, 115, 101, 116, 114, 101, 115, 32, 101, 109, 105, 116, 32, 116, 114, 97, 99, 101, 32, 100, 114, 97, 119, 32, 111, 112, 101, 110, 32, 99, 108, 111, 115, 101, 32]⟩
theorem lit_list : ByteArray.mk ((([110, 111, 112, 44, 112, 117, 115, 104, 44, 108, 111, 97, 100, 44, 115, 116, 111, 114, 101, 44, 112, 111, 112, 44, 100, 117, 112, 44, 97, 100, 100, 44, 115, 117, 98, 44, 109, 117, 108, 44, 100, 105, 118, 44] : List UInt8).append [109, 111, 100, 44, 110, 101, 103, 44, 108, 101, 115, 115, 44, 115, 97, 109, 101, 44, 110, 111, 116, 44, 112, 97, 105, 114, 44, 112, 108, 117, 115, 44, 109, 105, 110, 117, 115, 44, 116, 105, 109, 101, 115, 44]).append (([114, 101, 97, 108, 44, 105, 109, 97, 103, 44, 106, 117, 109, 112, 44, 105, 102, 44, 99, 97, 108, 108, 44, 100, 101, 102, 101, 114, 44, 114, 101, 116, 44, 112, 97, 110, 105, 99, 44, 114, 101, 99, 111, 118] : List UInt8).append [101, 114, 44, 103, 101, 116, 114, 101, 115, 44, 115, 101, 116, 114, 101, 115, 44, 101, 109, 105, 116, 44, 116, 114, 97, 99, 101, 44, 100, 114, 97, 119, 44, 111, 112, 101, 110, 44, 99, 108, 111, 115, 101, 44])).toArray = list := by kernel_rfl
theorem lit_words : ByteArray.mk ((([110, 111, 112, 32, 112, 117, 115, 104, 32, 108, 111, 97, 100, 32, 115, 116, 111, 114, 101, 32, 112, 111, 112, 32, 100, 117, 112, 32, 97, 100, 100, 32, 115, 117, 98, 32, 109, 117, 108, 32, 100, 105, 118, 32] : List UInt8).append [109, 111, 100, 32, 110, 101, 103, 32, 108, 101, 115, 115, 32, 115, 97, 109, 101, 32, 110, 111, 116, 32, 112, 97, 105, 114, 32, 112, 108, 117, 115, 32, 109, 105, 110, 117, 115, 32, 116, 105, 109, 101, 115, 32]).append (([114, 101, 97, 108, 32, 105, 109, 97, 103, 32, 106, 117, 109, 112, 32, 105, 102, 32, 99, 97, 108, 108, 32, 100, 101, 102, 101, 114, 32, 114, 101, 116, 32, 112, 97, 110, 105, 99, 32, 114, 101, 99, 111, 118] : List UInt8).append [101, 114, 32, 103, 101, 116, 114, 101, 115, 32, 115, 101, 116, 114, 101, 115, 32, 101, 109, 105, 116, 32, 116, 114, 97, 99, 101, 32, 100, 114, 97, 119, 32, 111, 112, 101, 110, 32, 99, 108, 111, 115, 101, 32])).toArray = words := by kernel_rfl
def names : List ByteArray := [
 ⟨#[110, 111, 112]⟩,
 ⟨#[112, 117, 115, 104]⟩,
 ⟨#[108, 111, 97, 100]⟩,
 ⟨#[115, 116, 111, 114, 101]⟩,
 ⟨#[112, 111, 112]⟩,
 ⟨#[100, 117, 112]⟩,
 ⟨#[97, 100, 100]⟩,
 ⟨#[115, 117, 98]⟩,
 ⟨#[109, 117, 108]⟩,
 ⟨#[100, 105, 118]⟩,
 ⟨#[109, 111, 100]⟩,
 ⟨#[110, 101, 103]⟩,
 ⟨#[108, 101, 115, 115]⟩,
 ⟨#[115, 97, 109, 101]⟩,
 ⟨#[110, 111, 116]⟩,
 ⟨#[112, 97, 105, 114]⟩,
 ⟨#[112, 108, 117, 115]⟩,
 ⟨#[109, 105, 110, 117, 115]⟩,
 ⟨#[116, 105, 109, 101, 115]⟩,
 ⟨#[114, 101, 97, 108]⟩,
 ⟨#[105, 109, 97, 103]⟩,
 ⟨#[106, 117, 109, 112]⟩,
 ⟨#[105, 102]⟩,
 ⟨#[99, 97, 108, 108]⟩,
 ⟨#[100, 101, 102, 101, 114]⟩,
 ⟨#[114, 101, 116]⟩,
 ⟨#[112, 97, 110, 105, 99]⟩,
 ⟨#[114, 101, 99, 111, 118, 101, 114]⟩,
 ⟨#[103, 101, 116, 114, 101, 115]⟩,
 ⟨#[115, 101, 116, 114, 101, 115]⟩,
 ⟨#[101, 109, 105, 116]⟩,
 ⟨#[116, 114, 97, 99, 101]⟩,
 ⟨#[100, 114, 97, 119]⟩,
 ⟨#[111, 112, 101, 110]⟩,
 ⟨#[99, 108, 111, 115, 101]⟩]
def all : List (Nat × ByteArray) := (List.range 35).zip names
theorem list_size : list.size = 176 := by kernel_rfl
theorem words_size : words.size = 176 := by kernel_rfl
theorem list_all : (scan list 44 176).told = all := by kernel_rfl
theorem words_all : (scan words 32 176).told = all := by kernel_rfl
theorem list_ascii : ∀ i, i < 176 → byte list i < 128 := by
 have h : (List.range 176).all (fun i => decide (byte list i < 128)) = true := by kernel_rfl
 intro i hi
 exact of_decide_eq_true (List.all_eq_true.1 h i (List.mem_range.2 hi))
def name (op : Int) : ByteArray := if 0 ≤ op ∧ op < 35 then names.getD op.toNat ⟨#[]⟩ else ⟨#[]⟩
theorem name_out {op : Int} (h : ¬ (0 ≤ op ∧ op < 35)) : name op = ⟨#[]⟩ := if_neg h
theorem name_of {x : Nat × ByteArray} (hx : x ∈ all) : name (x.1 : Int) = x.2 := by
 have h : all.all (fun x => decide (name (x.1 : Int) = x.2)) = true := by kernel_rfl
 exact of_decide_eq_true (List.all_eq_true.1 h x hx)
theorem num_of {x : Nat × ByteArray} (hx : x ∈ all) : x.1 < 35 := by
 have h : all.all (fun x => decide (x.1 < 35)) = true := by kernel_rfl
 exact of_decide_eq_true (List.all_eq_true.1 h x hx)
theorem all_has {k : Nat} (hk : k < 35) : (k, name (k : Int)) ∈ all := by
 have h : (List.range 35).all (fun k => all.any (fun x => decide (x.1 = k) && decide (x.2 = name (k : Int)))) = true := by kernel_rfl
 obtain ⟨x, hx, he⟩ := List.any_eq_true.1 (List.all_eq_true.1 h k (List.mem_range.2 hk))
 simp only [Bool.and_eq_true, decide_eq_true_eq] at he
 rw [← show x = (k, name (k : Int)) from Prod.ext he.1 he.2]
 exact hx
def find (s : ByteArray) : Int × Bool := match all.find? (fun x => decide (x.2 = s)) with | some x => (x.1, true) | none => (0, false)
theorem all_apart {x y : Nat × ByteArray} (hx : x ∈ all) (hy : y ∈ all) (h : x.2 = y.2) : x = y := by
 have H : all.all (fun x => all.all fun y => decide (x.2 = y.2 → x = y)) = true := by kernel_rfl
 exact of_decide_eq_true (List.all_eq_true.1 (List.all_eq_true.1 H x hx) y hy) h
theorem find_of {x : Nat × ByteArray} (hx : x ∈ all) : find x.2 = ((x.1 : Int), true) := by
 unfold find
 cases h : all.find? (fun y => decide (y.2 = x.2)) with
 | none =>
   have := List.find?_eq_none.1 h x hx
   simp at this
 | some y =>
   have h1 := List.find?_some h
   simp only [decide_eq_true_eq] at h1
   rw [all_apart (List.mem_of_find?_eq_some h) hx h1]
theorem find_none {s : ByteArray} (h : ∀ x ∈ all, x.2 ≠ s) : find s = (0, false) := by
 unfold find
 rw [List.find?_eq_none.2 (fun x hx => by simpa using h x hx)]
end Op
end Go.Proofs.YtmhmlhlplfkpaaaGreatDoor
namespace Go.Proofs.YtmhmlhlplfkpaaaGreatDoor
open Go.RowKit Go.Lib
namespace In
theorem list_ext {x y : ByteArray} (e : x.data.toList = y.data.toList) : x = y := by
 apply ByteArray.ext
 exact Array.toList_inj.1 e
theorem dec_big {u : Nat} (h : ¬ u < 10) : decDigits u = decDigits (u / 10) ++ [UInt8.ofNat (48 + u % 10)] := by rw [decDigits, dif_neg h]
theorem dgt {d : Nat} (h : d < 10) : (UInt8.ofNat (48 + d)).toNat = 48 + d := by
 simp [UInt8.toNat_ofNat']
 omega
theorem dec_parse : ∀ (u : Nat) (r : List UInt8), u < 18446744073709551616 → parseUint10 0 (decDigits u ++ r) = parseUint10 u r := by
 intro u
 induction u using Nat.strongRecOn with
 | ind u ih =>
   intro r hu
   by_cases h : u < 10
   · rw [decDigits_one h]
     simp only [List.cons_append, List.nil_append, parseUint10]
     rw [dgt h, if_pos (by omega), if_neg (by omega), if_neg (by omega)]
     congr 1
     omega
   · rw [dec_big h, List.append_assoc, ih (u / 10) (by omega) _ (by omega)]
     simp only [List.cons_append, List.nil_append, parseUint10]
     rw [dgt (show u % 10 < 10 by omega), if_pos (by omega), if_neg (by omega), if_neg (by omega)]
     congr 1
     omega
theorem dec_ne (u : Nat) : decDigits u ≠ [] := by
 intro h
 have h1 := decDigits_length u
 have h2 := nDigits_pos u
 rw [h] at h1
 simp at h1
 omega
theorem dec_digit : ∀ (u : Nat) (c : UInt8), c ∈ decDigits u → 48 ≤ c.toNat ∧ c.toNat ≤ 57 := by
 intro u
 induction u using Nat.strongRecOn with
 | ind u ih =>
   intro c hc
   by_cases h : u < 10
   · rw [decDigits_one h] at hc
     obtain rfl := List.mem_singleton.1 hc
     rw [dgt h]
     omega
   · rw [dec_big h] at hc
     rcases List.mem_append.1 hc with hc | hc
     · exact ih _ (by omega) c hc
     · obtain rfl := List.mem_singleton.1 hc
       rw [dgt (show u % 10 < 10 by omega)]
       omega
theorem dec_mag (u : Nat) (h : u < 18446744073709551616) : parseMag (decDigits u) = .ok u := by
 unfold parseMag
 rw [if_neg (dec_ne u)]
 have := dec_parse u [] h
 rw [List.append_nil] at this
 rw [this]
 rfl
theorem atoi_itoa {n : Int} (h0 : -9223372036854775808 ≤ n) (h1 : n ≤ 9223372036854775807) : atoiAll (itoa n) = .ok n := by
 unfold itoa
 by_cases h : n < 0
 · rw [if_pos h, atoiAll_minus, dec_mag _ (by omega)]
   simp only [signed]
   rw [if_neg (by omega)]
   congr 1
   omega
 · rw [if_neg h]
   have hm := dec_mag n.toNat (by omega)
   have hd := dec_digit n.toNat
   have hn := dec_ne n.toNat
   revert hm hd hn
   cases decDigits n.toNat with
   | nil => intro _ _ h; exact absurd rfl h
   | cons c r =>
     intro hm hd _
     have := hd c (by simp)
     rw [atoiAll_plain c r (by omega) (by omega), hm]
     simp only [signless]
     rw [if_neg (by omega)]
     congr 1
     omega
def txt (n : Int) : ByteArray := ⟨(itoa n).toArray⟩
theorem txt_list {n : Int} {s : ByteArray} (h : txt n = s) : s.data.toList = itoa n := by
 subst h
 simp [txt]
def num (s : ByteArray) : Int × Nat := match atoiAll s.data.toList with
 | .ok v => if txt v = s then (v, 0) else (0, 5)
 | _ => (0, 5)
theorem num_txt {n : Int} (h0 : -9223372036854775808 ≤ n) (h1 : n ≤ 9223372036854775807) {s : ByteArray} (h : txt n = s) : num s = (n, 0) := by
 unfold num
 rw [txt_list h, atoi_itoa h0 h1]
 simp only
 rw [if_pos h]
theorem num_is (s : ByteArray) : (∃ v, (-9223372036854775808 ≤ v ∧ v ≤ 9223372036854775807) ∧ txt v = s ∧ num s = (v, 0)) ∨ ((∀ v, -9223372036854775808 ≤ v → v ≤ 9223372036854775807 → txt v ≠ s) ∧ num s = (0, 5)) := by
 by_cases h : ∃ v, (-9223372036854775808 ≤ v ∧ v ≤ 9223372036854775807) ∧ txt v = s
 · obtain ⟨v, hv, ht⟩ := h
   exact .inl ⟨v, hv, ht, num_txt hv.1 hv.2 ht⟩
 · refine .inr ⟨fun v a b c => h ⟨v, ⟨a, b⟩, c⟩, ?_⟩
   unfold num
   cases hv : atoiAll s.data.toList
   · rename_i v
     have hb := atoiAll_bounds hv
     simp only
     rw [if_neg (fun c => h ⟨v, hb, c⟩)]
   · rfl
   · rfl
theorem num_le (s : ByteArray) : -9223372036854775808 ≤ (num s).1 ∧ (num s).1 ≤ 9223372036854775807 := by
 rcases num_is s with ⟨v, hv, _, h⟩ | ⟨_, h⟩ <;> rw [h]
 · exact hv
 · simp
end In
end Go.Proofs.YtmhmlhlplfkpaaaGreatDoor
namespace Go.Proofs.YtmhmlhlplfkpaaaGreatDoor
open Go.RowKit Go.Lib
namespace In
def bound (k : Int) : Int := if k = 2 then 256 else if k = 3 then 2000 else if k = 4 then 40 else if k = 5 then 4 else if k = 6 then 120 else 1
def kind (op : Int) : Int := (Op.row op).operand
theorem kind_in (op : Int) : 0 ≤ kind op ∧ kind op ≤ 6 := by
 unfold kind Op.row
 split
 · have h : Op.rows.all (fun r => decide (0 ≤ r.operand) && decide (r.operand ≤ 6)) = true := by kernel_rfl
   rcases Nat.lt_or_ge op.toNat Op.rows.length with hl | hl
   · rw [List.getD_eq_getElem?_getD, List.getElem?_eq_getElem hl]
     have := List.all_eq_true.1 h _ (List.getElem_mem hl)
     simp only [Bool.and_eq_true, decide_eq_true_eq] at this
     exact this
   · rw [List.getD_eq_getElem?_getD, List.getElem?_eq_none hl]
     exact ⟨by decide, by decide⟩
 · exact ⟨by decide, by decide⟩
def fits (k a : Int) : Bool := decide (k = 1) || (decide (0 ≤ a) && decide (a < bound k))
def known (op : Int) : Bool := decide (0 ≤ op) && decide (op < 35)
theorem known_iff {op : Int} : known op = true ↔ 0 ≤ op ∧ op < 35 := by
 unfold known
 simp
def numbered (op : Int) : Bool := decide (kind op ≠ 0)
def right (op a : Int) : Bool := known op && fits (kind op) a
theorem right_known {op a : Int} (h : right op a = true) : 0 ≤ op ∧ op < 35 := by
 unfold right at h
 rw [Bool.and_eq_true] at h
 exact known_iff.1 h.1
theorem right_bare {op a : Int} (h : right op a = true) (hn : numbered op = false) : a = 0 := by
 have hk : kind op = 0 := by unfold numbered at hn; simpa using hn
 unfold right fits at h
 rw [hk] at h
 simp [bound] at h
 omega
theorem bare_right {op : Int} (h : 0 ≤ op ∧ op < 35) (hn : numbered op = false) : right op 0 = true := by
 have hk : kind op = 0 := by unfold numbered at hn; simpa using hn
 unfold right fits
 rw [known_iff.2 h, hk]
 decide
def text (op a : Int) : ByteArray := if right op a then (if numbered op then Op.name op ++ ⟨#[32]⟩ ++ txt a else Op.name op) else ⟨#[]⟩
def at_ (s : ByteArray) : Nat := s.data.toList.findIdx (· == 32)
def head (s : ByteArray) : ByteArray := s.extract 0 (at_ s)
def tail (s : ByteArray) : ByteArray := s.extract (at_ s + 1) s.size
def more (s : ByteArray) : Bool := decide (at_ s < s.size)
theorem at_le (s : ByteArray) : at_ s ≤ s.size := List.findIdx_le_length
theorem index_blank : ∀ l : List UInt8, Lib.index l [32] = if l.findIdx (· == 32) < l.length then ((l.findIdx (· == 32) : Nat) : Int) else -1
 | [] => by simp [Lib.index]
 | b :: l => by
   have ih := index_blank l
   unfold Lib.index
   rw [ih, List.findIdx_cons]
   by_cases hb : b = 32
   · subst hb
     simp
   · have h1 : ((32 : UInt8) == b) = false := by simpa using fun e => hb e.symm
     have h2 : (b == (32 : UInt8)) = false := by simpa using hb
     simp only [List.isPrefixOf, h1, h2, cond_false, Bool.false_and, Bool.false_eq_true, if_false, List.length_cons, Nat.add_lt_add_iff_right]
     by_cases hl : l.findIdx (· == 32) < l.length
     · rw [if_pos hl, if_pos hl, if_neg (by simp)]
       rfl
     · rw [if_neg hl, if_neg hl]
       simp
theorem cut_blank (s : ByteArray) : (⟨(Lib.cut s.data.toList [32]).1.toArray⟩ : ByteArray) = head s ∧ (⟨(Lib.cut s.data.toList [32]).2.1.toArray⟩ : ByteArray) = tail s ∧ (Lib.cut s.data.toList [32]).2.2 = more s := by
 have hs : s.data.toList.length = s.size := (size_eq s).symm
 have hE : ∀ (x : ByteArray) (l : List UInt8), x.data.toList = l → (⟨l.toArray⟩ : ByteArray) = x := by
   rintro x l rfl
   apply ByteArray.ext
   simp
 unfold Lib.cut
 rw [index_blank]
 by_cases hl : s.data.toList.findIdx (· == 32) < s.data.toList.length
 · rw [if_pos hl, if_pos (by omega)]
   refine ⟨hE _ _ ?_, hE _ _ ?_, ?_⟩
   · unfold head at_
     rw [extract_data]
     simp
   · unfold tail at_
     rw [extract_data, List.take_of_length_le (by rw [List.length_drop]; omega)]
     simp
   · unfold more at_
     rw [← hs]
     exact (decide_eq_true hl).symm
 · rw [if_neg hl, if_neg (by decide)]
   have he : s.data.toList.findIdx (· == 32) = s.data.toList.length := by
     have := List.findIdx_le_length (xs := s.data.toList) (p := (· == 32))
     omega
   refine ⟨hE _ _ ?_, hE _ _ ?_, ?_⟩
   · unfold head at_
     rw [extract_data, he, List.drop_zero, List.take_of_length_le (by omega)]
   · unfold tail at_
     rw [extract_data, he, List.drop_of_length_le (by omega), List.take_nil]
   · unfold more at_
     rw [he, hs]
     simp
def read (s : ByteArray) : (Int × Int) × Nat :=
 if (Op.find (head s)).2 = false then ((0, 0), 8)
 else if more s ≠ numbered (Op.find (head s)).1 then ((0, 0), 5)
 else if more s then
   (if (num (tail s)).2 ≠ 0 then ((0, 0), (num (tail s)).2)
    else if right (Op.find (head s)).1 (num (tail s)).1 then (((Op.find (head s)).1, (num (tail s)).1), 0) else ((0, 0), 2))
 else (((Op.find (head s)).1, 0), 0)
theorem find_in {s : ByteArray} (h : (Op.find s).2 = true) : 0 ≤ (Op.find s).1 ∧ (Op.find s).1 < 35 := by
 unfold Op.find at h ⊢
 cases hf : Op.all.find? (fun x => decide (x.2 = s)) with
 | none => rw [hf] at h; cases h
 | some x =>
   have := Op.num_of (List.mem_of_find?_eq_some hf)
   simp only
   omega
theorem find_name {op : Int} (h : 0 ≤ op ∧ op < 35) : Op.find (Op.name op) = (op, true) := by
 have := Op.find_of (Op.all_has (k := op.toNat) (by omega))
 simp only at this
 rw [show ((op.toNat : Nat) : Int) = op by omega] at this
 exact this
theorem name_blank {op : Int} : ∀ c ∈ (Op.name op).data.toList, c ≠ 32 := by
 unfold Op.name
 split
 · have h : Op.names.all (fun x => x.data.toList.all fun c => decide (c ≠ 32)) = true := by kernel_rfl
   rcases Nat.lt_or_ge op.toNat Op.names.length with hl | hl
   · rw [List.getD_eq_getElem?_getD, List.getElem?_eq_getElem hl]
     intro c hc
     exact of_decide_eq_true (List.all_eq_true.1 (List.all_eq_true.1 h _ (List.getElem_mem hl)) c hc)
   · rw [List.getD_eq_getElem?_getD, List.getElem?_eq_none hl]
     intro c hc
     cases hc
 · intro c hc
   cases hc
theorem parts_name {x : ByteArray} (h : ∀ c ∈ x.data.toList, c ≠ 32) : head x = x ∧ more x = false := by
 have he : at_ x = x.size := by
   unfold at_
   rw [size_eq]
   apply List.findIdx_eq_length_of_false
   intro c hc
   simpa using h c hc
 constructor
 · unfold head
   rw [he]
   apply list_ext
   rw [extract_data, List.drop_zero, List.take_of_length_le (by rw [size_eq]; omega)]
 · unfold more
   rw [he]
   simp
theorem parts_both {x d : ByteArray} (h : ∀ c ∈ x.data.toList, c ≠ 32) : head (x ++ ⟨#[32]⟩ ++ d) = x ∧ tail (x ++ ⟨#[32]⟩ ++ d) = d ∧ more (x ++ ⟨#[32]⟩ ++ d) = true := by
 have hl : (x ++ ⟨#[32]⟩ ++ d).data.toList = x.data.toList ++ 32 :: d.data.toList := by simp
 have hsz : (x ++ ⟨#[32]⟩ ++ d).size = x.data.toList.length + 1 + d.data.toList.length := by
   rw [size_eq, hl, List.length_append, List.length_cons]
   omega
 have he : at_ (x ++ ⟨#[32]⟩ ++ d) = x.data.toList.length := by
   unfold at_
   rw [hl, List.findIdx_append]
   have : x.data.toList.findIdx (· == 32) = x.data.toList.length := List.findIdx_eq_length_of_false (fun c hc => by simpa using h c hc)
   rw [this, List.findIdx_cons]
   simp
 refine ⟨list_ext ?_, list_ext ?_, ?_⟩
 · unfold head
   rw [extract_data, he, hl]
   simp
 · unfold tail
   rw [extract_data, he, hl, hsz]
   have : x.data.toList.length + 1 = (x.data.toList ++ [32]).length := by simp
   rw [show x.data.toList ++ 32 :: d.data.toList = (x.data.toList ++ [32]) ++ d.data.toList by simp, this, List.drop_left]
   rw [List.take_of_length_le (by simp)]
 · unfold more
   rw [he, hsz]
   simp
   omega
theorem read_text {op a : Int} (h : right op a = true) (h0 : -9223372036854775808 ≤ a) (h1 : a ≤ 9223372036854775807) : read (text op a) = ((op, a), 0) := by
 have hk := right_known h
 unfold text
 rw [if_pos h]
 cases hn : numbered op with
 | true =>
   rw [if_pos rfl]
   obtain ⟨e1, e2, e3⟩ := parts_both (x := Op.name op) (d := txt a) name_blank
   unfold read
   rw [e1, e2, e3, find_name hk, num_txt h0 h1 rfl]
   simp [hn, h]
 | false =>
   rw [if_neg (by decide)]
   obtain ⟨e1, e3⟩ := parts_name (x := Op.name op) name_blank
   unfold read
   rw [e1, e3, find_name hk, right_bare h hn]
   simp [hn]
end In
end Go.Proofs.YtmhmlhlplfkpaaaGreatDoor
namespace Go.Proofs.YtmhmlhlplfkpaaaGreatDoor.Ru
abbrev Runs := List (Int × Int)
def snoc (r : Runs) (x : Int) : Runs :=
 match r.getLast? with
 | some p => if p.2 = x then r.dropLast ++ [(p.1 + 1, x)] else r ++ [(1, x)]
 | none => [(1, x)]
def of (l : List Int) : Runs := l.foldl snoc []
theorem take_snoc (l : List Int) (k : Nat) (h : k < l.length) : l.take (k + 1) = l.take k ++ [l.getD k 0] := by
 rw [List.take_succ_eq_append_getElem h]
 simp [List.getD, h]
def Part (l : List Int) (k : Nat) (pre : Runs) (m : Nat) : Prop :=
 m ≤ k ∧ pre.length ≤ k ∧ (k < l.length → snoc (of (l.take k)) (l.getD k 0) = pre ++ [((m : Int) + 1, l.getD k 0)]) ∧ (l.length ≤ k → pre = of l)
def rowStep (out : List Int) (p : Int × Int) : List Int := out ++ List.replicate (min p.1 (2000 - (out.length : Int))).toNat p.2
def row (r : Runs) : List Int := r.foldl rowStep []
theorem taken {α : Type} {l : List α} {k : Nat} (h : k < l.length) (d : α) : l.take (k + 1) = l.take k ++ [l.getD k d] := by
 rw [List.take_succ_eq_append_getElem h]
 simp [List.getD, h]
def stepR (st : Option (Int × Option Int)) (p : Int × Int) : Option (Int × Option Int) :=
 match st with
 | none => none
 | some (left, prev) => if p.1 < 1 ∨ left < p.1 ∨ prev = some p.2 then none else some (left - p.1, some p.2)
def rightS (r : Runs) : Option (Int × Option Int) := r.foldl stepR (some (2000, none))
def right (r : Runs) : Bool := (rightS r).isSome
def laid (r : Runs) : List Nat := r.flatMap fun p => Uv.put p.1.toNat ++ Uv.put (Uv.fold p.2)
def Fits (r : Runs) : Prop := ∀ p ∈ r, 0 ≤ p.1 ∧ p.1 ≤ 9223372036854775807 ∧ -9223372036854775808 ≤ p.2 ∧ p.2 ≤ 9223372036854775807
end Go.Proofs.YtmhmlhlplfkpaaaGreatDoor.Ru
namespace Go.Proofs.YtmhmlhlplfkpaaaGreatDoor.Li
def may (x : Int) : Bool := decide (0 ≤ x) && decide (x ≤ 65535)
def right (l : List Int) : Bool := decide (l.length ≤ 2000) && l.all may
def at_ (l : List Int) (pc : Int) : Int := if pc < 0 ∨ (l.length : Int) ≤ pc then 0 else l.getD pc.toNat 0
theorem all_take_succ {l : List Int} {k : Nat} (h : k < l.length) : (l.take (k + 1)).all may = ((l.take k).all may && may (l.getD k 0)) := by
 rw [Ru.take_snoc l k h, List.all_append]
 simp
theorem all_bad {l : List Int} {k : Nat} (h : k < l.length) (hb : may (l.getD k 0) = false) : l.all may = false := by
 rw [List.all_eq_false]
 refine ⟨l[k], List.getElem_mem h, ?_⟩
 have : l.getD k 0 = l[k] := by simp [List.getD, h]
 rw [this] at hb
 simp [hb]
def spans (line : Int) : Int → Ru.Runs → Ru.Runs
 | _, [] => []
 | a, p :: r => (if p.2 = line then [(a, a + p.1)] else []) ++ spans line (a + p.1) r
def of (line : Int) (l : List Int) : Ru.Runs := spans line 0 (Ru.of l)
def step (line : Int) (out : Ru.Runs) (i x : Int) : Ru.Runs :=
 if x = line then
   match out.getLast? with
   | some p => if p.2 = i then out.dropLast ++ [(p.1, i + 1)] else out ++ [(i, i + 1)]
   | none => [(i, i + 1)]
 else out
end Go.Proofs.YtmhmlhlplfkpaaaGreatDoor.Li
namespace Go.Proofs.YtmhmlhlplfkpaaaGreatDoor.Tr
structure Nd where
 p : Int
 f : Int
 l : Int
 a : Int
 g : Int
 t : Int
 r : Int
def Nd.nil : Nd := ⟨0, 0, 0, 0, 0, 0, 0⟩
def Nd.list (n : Nd) : List Int := [n.p, n.f, n.l, n.a, n.g, n.t, n.r]
def fits (to : Int) (n : Nd) : Bool := decide (0 ≤ n.f ∧ n.f ≤ 39 ∧ 0 ≤ n.l ∧ n.l ≤ 65535 ∧ 0 ≤ n.g ∧ n.g ≤ 8 ∧ to ≤ n.a ∧ n.a ≤ 256 ∧ n.a ≤ n.t ∧ n.t ≤ 256 ∧ n.g ≤ n.t - n.a)
def head (n : Nd) : Bool := decide (n.p = -1 ∧ n.l = 0 ∧ n.a = 0 ∧ n.r = 0)
def other (i : Nat) (n : Nd) : Bool := decide (0 ≤ n.p ∧ n.p < (i : Int) ∧ 1 ≤ n.r ∧ n.r ≤ 1999)
def ok (i : Nat) (to : Int) (n : Nd) : Bool := fits to n && (if i = 0 then head n else other i n)
def run : Nat → Int → List Nd → Bool
 | _, _, [] => true
 | i, to, n :: r => ok i to n && run (i + 1) n.t r
def right (l : List Nd) : Bool := decide (1 ≤ l.length) && decide (l.length ≤ 120) && run 0 0 l
theorem drop_at {l : List Nd} {k : Nat} (h : k < l.length) : l.drop k = l.getD k Nd.nil :: l.drop (k + 1) := by
 rw [List.drop_eq_getElem_cons h]
 simp [List.getD, h]
theorem run_at {l : List Nd} {k : Nat} (h : k < l.length) (to : Int) : run k to (l.drop k) = (ok k to (l.getD k Nd.nil) && run (k + 1) (l.getD k Nd.nil).t (l.drop (k + 1))) := by
 rw [drop_at h]
 rfl
theorem run_end {l : List Nd} {k : Nat} (h : l.length ≤ k) (to : Int) : run k to (l.drop k) = true := by
 rw [List.drop_eq_nil_of_le h]
 rfl
theorem right_run {l : List Nd} (h : right l = true) : 1 ≤ l.length ∧ l.length ≤ 120 ∧ run 0 0 l = true := by
 unfold right at h
 simp only [Bool.and_eq_true, decide_eq_true_eq] at h
 exact ⟨h.1.1, h.1.2, h.2⟩
def tos (l : List Nd) (k : Nat) : Int := if k = 0 then 0 else (l.getD (k - 1) Nd.nil).t
theorem tos_succ (l : List Nd) (k : Nat) : tos l (k + 1) = (l.getD k Nd.nil).t := by simp [tos]
theorem right_part {l : List Nd} (h : right l = true) : ∀ k, k ≤ l.length → run k (tos l k) (l.drop k) = true
 | 0, _ => (right_run h).2.2
 | k + 1, hk => by
   have ih := right_part h k (by omega)
   rw [run_at (by omega), Bool.and_eq_true] at ih
   rw [tos_succ]
   exact ih.2
theorem right_ok {l : List Nd} (h : right l = true) {k : Nat} (hk : k < l.length) : ok k (tos l k) (l.getD k Nd.nil) = true := by
 have := right_part h k (by omega)
 rw [run_at hk, Bool.and_eq_true] at this
 exact this.1
theorem fits_iff {to : Int} {n : Nd} : fits to n = true ↔ 0 ≤ n.f ∧ n.f ≤ 39 ∧ 0 ≤ n.l ∧ n.l ≤ 65535 ∧ 0 ≤ n.g ∧ n.g ≤ 8 ∧ to ≤ n.a ∧ n.a ≤ 256 ∧ n.a ≤ n.t ∧ n.t ≤ 256 ∧ n.g ≤ n.t - n.a := decide_eq_true_iff
theorem right_head {l : List Nd} (h : right l = true) : (l.getD 0 Nd.nil).p = -1 ∧ (l.getD 0 Nd.nil).l = 0 ∧ (l.getD 0 Nd.nil).a = 0 ∧ (l.getD 0 Nd.nil).r = 0 := by
 have := right_ok h (k := 0) (right_run h).1
 unfold ok at this
 rw [Bool.and_eq_true, if_pos rfl] at this
 exact of_decide_eq_true this.2
theorem right_other {l : List Nd} (h : right l = true) {k : Nat} (hk : k < l.length) (h0 : k ≠ 0) : 0 ≤ (l.getD k Nd.nil).p ∧ (l.getD k Nd.nil).p < (k : Int) ∧ 1 ≤ (l.getD k Nd.nil).r ∧ (l.getD k Nd.nil).r ≤ 1999 := by
 have := right_ok h hk
 unfold ok at this
 rw [Bool.and_eq_true, if_neg h0] at this
 exact of_decide_eq_true this.2
theorem right_up {l : List Nd} (h : right l = true) {k : Nat} (hk : k < l.length) : -1 ≤ (l.getD k Nd.nil).p ∧ (l.getD k Nd.nil).p < (k : Int) := by
 by_cases h0 : k = 0
 · subst h0
   have := right_head h
   omega
 · have := right_other h hk h0
   omega
def up (l : List Nd) : Nat → Int → List Int
 | 0, _ => []
 | fuel + 1, n => if 0 ≤ n ∧ n < (l.length : Int) then n :: up l fuel (l.getD n.toNat Nd.nil).p else []
def ups (l : List Nd) (n : Int) : List Int := up l (l.length + 1) n
theorem up_out {l : List Nd} {n : Int} (h : ¬ (0 ≤ n ∧ n < (l.length : Int))) : ∀ f, up l f n = []
 | 0 => rfl
 | f + 1 => by rw [up, if_neg h]
theorem up_in {l : List Nd} {n : Int} (h : 0 ≤ n ∧ n < (l.length : Int)) (f : Nat) : up l (f + 1) n = n :: up l f (l.getD n.toNat Nd.nil).p := by rw [up, if_pos h]
theorem up_fuel {l : List Nd} (h : right l = true) : ∀ (f g : Nat) (n : Int), n < (f : Int) → n < (g : Int) → up l f n = up l g n
 | f, g, n, hf, hg => by
   by_cases hn : 0 ≤ n ∧ n < (l.length : Int)
   · obtain ⟨f', rfl⟩ : ∃ f', f = f' + 1 := ⟨f - 1, by omega⟩
     obtain ⟨g', rfl⟩ : ∃ g', g = g' + 1 := ⟨g - 1, by omega⟩
     have hu := right_up h (k := n.toNat) (by omega)
     rw [up_in hn, up_in hn, up_fuel h f' g' _ (by omega) (by omega)]
   · rw [up_out hn, up_out hn]
theorem ups_in {l : List Nd} (h : right l = true) {n : Int} (hn : 0 ≤ n ∧ n < (l.length : Int)) : ups l n = n :: ups l (l.getD n.toNat Nd.nil).p := by
 have hu := right_up h (k := n.toNat) (by omega)
 unfold ups
 rw [up_in hn, up_fuel h l.length (l.length + 1) _ (by omega) (by omega)]
theorem ups_out {l : List Nd} {n : Int} (h : ¬ (0 ≤ n ∧ n < (l.length : Int))) : ups l n = [] := up_out h _
theorem up_len (l : List Nd) : ∀ (f : Nat) (n : Int), (up l f n).length ≤ f
 | 0, _ => Nat.le_refl _
 | f + 1, n => by
   rw [up]
   split
   · have := up_len l f (l.getD n.toNat Nd.nil).p
     rw [List.length_cons]
     omega
   · simp
theorem ups_len {l : List Nd} (h : right l = true) (n : Int) : (ups l n).length ≤ l.length := by
 by_cases hn : 0 ≤ n ∧ n < (l.length : Int)
 · have := up_len l l.length n
   rwa [up_fuel h l.length (l.length + 1) n (by omega) (by omega)] at this
 · rw [ups_out hn]
   exact Nat.zero_le _
def inside (l : List Nd) (n under : Int) : Bool := (ups l n).any (· == under)
def own (l : List Nd) (n : Int) : Sl.Four := if n < 0 ∨ (l.length : Int) ≤ n then Sl.no else Sl.range (l.getD n.toNat Nd.nil).a (l.getD n.toNat Nd.nil).t
def all (l : List Nd) : Nat → Sl.Four
 | 0 => Sl.no
 | k + 1 => (all l k).or (own l (k : Int))
def one (n : Nd) : List Nat := n.list.flatMap fun x => Uv.put (Uv.fold x)
def bytes (l : List Nd) : List Nat := Uv.put l.length ++ l.flatMap one
def Nd.wf (n : Nd) : Prop := ∀ x ∈ n.list, -9223372036854775808 ≤ x ∧ x ≤ 9223372036854775807
end Go.Proofs.YtmhmlhlplfkpaaaGreatDoor.Tr
