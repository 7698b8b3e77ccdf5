/-
 Lists of types by plain lists: which may be, their letters, their bytes, what is read from a text. Conditions: none.
-/
import Derived.Test.YtmhmlhlplfkpaaaDoorBM
import Derived.Lib.ItoaNum
import Derived.Lib.ItoaLen
import Derived.Lib.AtoiAll
import Derived.Lib.AtoiAllCases
import Derived.Lib.IndexMore
import Derived.Lib.Strings
import Derived.Test.YtmhmlhlplfkpaaaDoorSlM
namespace Go.Proofs.YtmhmlhlplfkpaaaDoor
namespace Si
def may (t : Int) : Bool := t == 1 || t == 2
def right (l : List Int) (most : Int) : Bool := decide ((l.length : Int) ≤ most) && l.all may
def letter (t : Int) : Nat := if t = 1 then 105 else if t = 2 then 99 else 63
def typed (c : Int) : Int := if c = 105 then 1 else if c = 99 then 2 else 0
def text (l : List Int) : List Nat := if l.length = 0 then [45] else l.map letter
def bytes (l : List Int) : List Nat := if l.all may then Uv.put l.length ++ l.map Int.toNat else []
def types (c : List Nat) : List Int := c.map fun x : Nat => typed (x : Int)
def read (c : List Nat) : Option (List Int) := if c = [45] then some [] else if c = [] then none else if (types c).all may then some (types c) else none
theorem letter_lt (t : Int) : letter t < 128 := by
 unfold letter
 split
 · omega
 · split <;> omega
end Si
end Go.Proofs.YtmhmlhlplfkpaaaDoor
namespace Go.Proofs.YtmhmlhlplfkpaaaDoor
open Go.RowKit
namespace Op
structure Row where
 operand : Int
 fixed : Bool
 takes : ByteArray
 gives : ByteArray
 ends : Bool
 raises : Bool
def R (o : Int) (f : Bool) (t g : List UInt8) (e r : Bool) : Row := ⟨o, f, ⟨t.toArray⟩, ⟨g.toArray⟩, e, r⟩
def none_ : Row := R 0 false [] [] false false
def rows : List Row := [
 R 0 true [] [] false false,
 R 1 true [] [105] false false,
 R 2 false [] [] false false,
 R 2 false [] [] false false,
 R 0 false [] [] false false,
 R 0 false [] [] false false,
 R 0 true [105, 105] [105] false false,
 R 0 true [105, 105] [105] false false,
 R 0 true [105, 105] [105] false false,
 R 0 true [105, 105] [105] false true,
 R 0 true [105, 105] [105] false true,
 R 0 true [105] [105] false false,
 R 0 true [105, 105] [105] false false,
 R 0 true [105, 105] [105] false false,
 R 0 true [105] [105] false false,
 R 0 true [105, 105] [99] false false,
 R 0 true [99, 99] [99] false false,
 R 0 true [99, 99] [99] false false,
 R 0 true [99, 99] [99] false false,
 R 0 true [99] [105] false false,
 R 0 true [99] [105] false false,
 R 3 true [] [] true false,
 R 3 true [105] [] false false,
 R 4 false [] [] false true,
 R 4 false [] [] false false,
 R 0 true [] [] true true,
 R 0 true [105] [] true true,
 R 0 true [] [105, 105] false false,
 R 5 false [] [] false false,
 R 5 false [] [] false false,
 R 0 true [105] [] false false,
 R 0 true [] [] false false,
 R 0 true [] [105] false false,
 R 6 true [] [] false true,
 R 6 true [] [] true true]
def row (op : Int) : Row := if 0 ≤ op ∧ op < 35 then rows.getD op.toNat none_ else none_
def cells (r : Row) : List Value := [.int .i64 r.operand, .bool r.fixed, .string r.takes, .string r.gives, .bool r.ends, .bool r.raises]
def table : Array Value := (rows.flatMap cells).toArray
def zeros : Array Value := ((List.replicate 35 none_).flatMap cells).toArray
theorem flat_at (j : Nat) (hj : j < 6) : ∀ (l : List Row) (k : Nat), k < l.length → (l.flatMap cells)[k * 6 + j]? = (cells (l.getD k none_))[j]?
 | [], k, h => absurd h (by simp)
 | r :: l, 0, _ => by
   have h6 : (cells r).length = 6 := rfl
   simp only [List.flatMap_cons, Nat.zero_mul, Nat.zero_add, List.getD_cons_zero]
   rw [List.getElem?_append_left (by omega)]
 | r :: l, k + 1, h => by
   have h6 : (cells r).length = 6 := rfl
   simp only [List.flatMap_cons, List.getD_cons_succ]
   rw [List.getElem?_append_right (by omega), ← flat_at j hj l k (by simpa using h)]
   congr 1
   omega
theorem table_at (k j : Nat) (hk : k < 35) (hj : j < 6) : table[k * 6 + j]? = (cells (row (k : Int)))[j]? := by
 have h : row (k : Int) = rows.getD k none_ := by
   unfold row
   rw [if_pos (by omega)]
   simp
 rw [h, ← flat_at j hj rows k hk]
 simp [table]
theorem table_size : table.size = 210 := by kernel_rfl
theorem row_out {op : Int} (h : ¬ (0 ≤ op ∧ op < 35)) : row op = none_ := if_neg h
end Op
end Go.Proofs.YtmhmlhlplfkpaaaDoor
namespace Go.Proofs.YtmhmlhlplfkpaaaDoor
open Go.RowKit
namespace Op
structure Scan where
 k : Nat
 start : Nat
 told : List (Nat × ByteArray)
def byte (s : ByteArray) (i : Nat) : Nat := (s.data.toList.getD i 0).toNat
theorem byte_eq (s : ByteArray) (i : Nat) (h : i < s.size) : s[i].toNat = byte s i := by
 have h' : i < s.data.size := h
 show s.data[i].toNat = _
 have e : s.data[i]? = some s.data[i] := Array.getElem?_eq_getElem h'
 simp only [byte, List.getD, Array.getElem?_toList, e, Option.getD_some]
def Scan.next (s : ByteArray) (c p : Nat) (x : Scan) : Scan := if byte s p = c then ⟨x.k + 1, p + 1, x.told ++ [(x.k, s.extract x.start p)]⟩ else x
def scan (s : ByteArray) (c : Nat) : Nat → Scan
 | 0 => ⟨0, 0, []⟩
 | p + 1 => (scan s c p).next s c p
theorem scan_hit {s : ByteArray} {c p : Nat} (h : byte s p = c) : scan s c (p + 1) = ⟨(scan s c p).k + 1, p + 1, (scan s c p).told ++ [((scan s c p).k, s.extract (scan s c p).start p)]⟩ := by
 show (scan s c p).next s c p = _
 unfold Scan.next
 rw [if_pos h]
theorem scan_miss {s : ByteArray} {c p : Nat} (h : ¬ byte s p = c) : scan s c (p + 1) = scan s c p := by
 show (scan s c p).next s c p = _
 unfold Scan.next
 rw [if_neg h]
theorem scan_le (s : ByteArray) (c : Nat) : ∀ p, (scan s c p).start ≤ p ∧ (scan s c p).k ≤ p ∧ (scan s c p).told.length = (scan s c p).k ∧ ∀ x ∈ (scan s c p).told, x.1 < (scan s c p).k
 | 0 => ⟨Nat.le_refl _, Nat.le_refl _, rfl, fun x hx => absurd hx (by simp [scan])⟩
 | p + 1 => by
   obtain ⟨h1, h2, h3, h4⟩ := scan_le s c p
   by_cases h : byte s p = c
   · rw [scan_hit h]
     refine ⟨Nat.le_refl _, by simp only; omega, by simp [h3], fun x hx => ?_⟩
     rcases List.mem_append.1 hx with hx | hx
     · have := h4 x hx; simp only; omega
     · rw [List.mem_singleton] at hx; subst hx; simp only; omega
   · rw [scan_miss h]
     exact ⟨by omega, by omega, h3, h4⟩
theorem scan_prefix (s : ByteArray) (c p : Nat) : ∀ q, p ≤ q → (scan s c p).told <+: (scan s c q).told
 | 0, h => by obtain rfl : p = 0 := by omega
              exact List.prefix_refl _
 | q + 1, h => by
   by_cases e : p = q + 1
   · subst e; exact List.prefix_refl _
   · refine (scan_prefix s c p q (by omega)).trans ?_
     by_cases h : byte s q = c
     · rw [scan_hit h]; exact List.prefix_append _ _
     · rw [scan_miss h]; exact List.prefix_refl _
def list : ByteArray := ⟨#[110, 111, 112, 44, 112, 117, 115, 104, 44, 108, 111, 97, 100, 44, 115, 116, 111, 114, 101, 44, 112, 111, 112, 44, 100, 117, 112, 44, 97, 100, 100, 44, 115, 117, 98, 44, 109, 117, 108, 44, 100, 105, 118, 44, 109, 111, 100, 44, 110, 101, 103, 44, 108, 101, 115, 115, 44, 115, 97, 109, 101, 44, 110, 111, 116, 44, 112, 97, 105, 114, 44, 112, 108, 117, 115, 44, 109, 105, 110, 117, 115, 44, 116, 105, 109, 101, 115, 44, 114, 101, 97, 108, 44, 105, 109, 97, 103, 44, 106, 117, 109, 112, 44, 105, 102, 44, 99, 97, 108, 108, 44, 100, 101, 102, 101, 114, 44, 114, 101, 116, 44, 112, 97, 110, 105, 99, 44, 114, 101, 99, 111, 118, 101, 114, 44, 103, 101, 116, 114, 101, 115, 44, 115, 101, 116, 114, 101, 115, 44, 101, 109, 105, 116, 44, 116, 114, 97, 99, 101, 44, 100, 114, 97, 119, 44, 111, 112, 101, 110, 44, 99, 108, 111, 115, 101, 44]⟩
def words : ByteArray := ⟨#[110, 111, 112, 32, 112, 117, 115, 104, 32, 108, 111, 97, 100, 32, 115, 116, 111, 114, 101, 32, 112, 111, 112, 32, 100, 117, 112, 32, 97, 100, 100, 32, 115, 117, 98, 32, 109, 117, 108, 32, 100, 105, 118, 32, 109, 111, 100, 32, 110, 101, 103, 32, 108, 101, 115, 115, 32, 115, 97, 109, 101, 32, 110, 111, 116, 32, 112, 97, 105, 114, 32, 112, 108, 117, 115, 32, 109, 105, 110, 117, 115, 32, 116, 105, 109, 101, 115, 32, 114, 101, 97, 108, 32, 105, 109, 97, 103, 32, 106, 117, 109, 112, 32, 105, 102, 32, 99, 97, 108, 108, 32, 100, 101, 102, 101, 114, 32, 114, 101, 116, 32, 112, 97, 110, 105, 99, 32, 114, 101, 99, 111, 118, 101, 114, 32, 103, 101, 116, 114, 101, 115, 32, 115, 101, 116, 114, 101, 115, 32, 101, 109, 105, 116, 32, 116, 114, 97, 99, 101, 32, 100, 114, 97, 119, 32, 111, 112, 101, 110, 32, 99, 108, 111, 115, 101, 32]⟩
theorem lit_list : ByteArray.mk ((([110, 111, 112, 44, 112, 117, 115, 104, 44, 108, 111, 97, 100, 44, 115, 116, 111, 114, 101, 44, 112, 111, 112, 44, 100, 117, 112, 44, 97, 100, 100, 44, 115, 117, 98, 44, 109, 117, 108, 44, 100, 105, 118, 44] : List UInt8).append [109, 111, 100, 44, 110, 101, 103, 44, 108, 101, 115, 115, 44, 115, 97, 109, 101, 44, 110, 111, 116, 44, 112, 97, 105, 114, 44, 112, 108, 117, 115, 44, 109, 105, 110, 117, 115, 44, 116, 105, 109, 101, 115, 44]).append (([114, 101, 97, 108, 44, 105, 109, 97, 103, 44, 106, 117, 109, 112, 44, 105, 102, 44, 99, 97, 108, 108, 44, 100, 101, 102, 101, 114, 44, 114, 101, 116, 44, 112, 97, 110, 105, 99, 44, 114, 101, 99, 111, 118] : List UInt8).append [101, 114, 44, 103, 101, 116, 114, 101, 115, 44, 115, 101, 116, 114, 101, 115, 44, 101, 109, 105, 116, 44, 116, 114, 97, 99, 101, 44, 100, 114, 97, 119, 44, 111, 112, 101, 110, 44, 99, 108, 111, 115, 101, 44])).toArray = list := by kernel_rfl
theorem lit_words : ByteArray.mk ((([110, 111, 112, 32, 112, 117, 115, 104, 32, 108, 111, 97, 100, 32, 115, 116, 111, 114, 101, 32, 112, 111, 112, 32, 100, 117, 112, 32, 97, 100, 100, 32, 115, 117, 98, 32, 109, 117, 108, 32, 100, 105, 118, 32] : List UInt8).append [109, 111, 100, 32, 110, 101, 103, 32, 108, 101, 115, 115, 32, 115, 97, 109, 101, 32, 110, 111, 116, 32, 112, 97, 105, 114, 32, 112, 108, 117, 115, 32, 109, 105, 110, 117, 115, 32, 116, 105, 109, 101, 115, 32]).append (([114, 101, 97, 108, 32, 105, 109, 97, 103, 32, 106, 117, 109, 112, 32, 105, 102, 32, 99, 97, 108, 108, 32, 100, 101, 102, 101, 114, 32, 114, 101, 116, 32, 112, 97, 110, 105, 99, 32, 114, 101, 99, 111, 118] : List UInt8).append [101, 114, 32, 103, 101, 116, 114, 101, 115, 32, 115, 101, 116, 114, 101, 115, 32, 101, 109, 105, 116, 32, 116, 114, 97, 99, 101, 32, 100, 114, 97, 119, 32, 111, 112, 101, 110, 32, 99, 108, 111, 115, 101, 32])).toArray = words := by kernel_rfl
def names : List ByteArray := [
 ⟨#[110, 111, 112]⟩,
 ⟨#[112, 117, 115, 104]⟩,
 ⟨#[108, 111, 97, 100]⟩,
 ⟨#[115, 116, 111, 114, 101]⟩,
 ⟨#[112, 111, 112]⟩,
 ⟨#[100, 117, 112]⟩,
 ⟨#[97, 100, 100]⟩,
 ⟨#[115, 117, 98]⟩,
 ⟨#[109, 117, 108]⟩,
 ⟨#[100, 105, 118]⟩,
 ⟨#[109, 111, 100]⟩,
 ⟨#[110, 101, 103]⟩,
 ⟨#[108, 101, 115, 115]⟩,
 ⟨#[115, 97, 109, 101]⟩,
 ⟨#[110, 111, 116]⟩,
 ⟨#[112, 97, 105, 114]⟩,
 ⟨#[112, 108, 117, 115]⟩,
 ⟨#[109, 105, 110, 117, 115]⟩,
 ⟨#[116, 105, 109, 101, 115]⟩,
 ⟨#[114, 101, 97, 108]⟩,
 ⟨#[105, 109, 97, 103]⟩,
 ⟨#[106, 117, 109, 112]⟩,
 ⟨#[105, 102]⟩,
 ⟨#[99, 97, 108, 108]⟩,
 ⟨#[100, 101, 102, 101, 114]⟩,
 ⟨#[114, 101, 116]⟩,
 ⟨#[112, 97, 110, 105, 99]⟩,
 ⟨#[114, 101, 99, 111, 118, 101, 114]⟩,
 ⟨#[103, 101, 116, 114, 101, 115]⟩,
 ⟨#[115, 101, 116, 114, 101, 115]⟩,
 ⟨#[101, 109, 105, 116]⟩,
 ⟨#[116, 114, 97, 99, 101]⟩,
 ⟨#[100, 114, 97, 119]⟩,
 ⟨#[111, 112, 101, 110]⟩,
 ⟨#[99, 108, 111, 115, 101]⟩]
def all : List (Nat × ByteArray) := (List.range 35).zip names
theorem list_size : list.size = 176 := by kernel_rfl
theorem words_size : words.size = 176 := by kernel_rfl
theorem list_all : (scan list 44 176).told = all := by kernel_rfl
theorem words_all : (scan words 32 176).told = all := by kernel_rfl
theorem list_ascii : ∀ i, i < 176 → byte list i < 128 := by
 have h : (List.range 176).all (fun i => decide (byte list i < 128)) = true := by kernel_rfl
 intro i hi
 exact of_decide_eq_true (List.all_eq_true.1 h i (List.mem_range.2 hi))
def name (op : Int) : ByteArray := if 0 ≤ op ∧ op < 35 then names.getD op.toNat ⟨#[]⟩ else ⟨#[]⟩
theorem name_out {op : Int} (h : ¬ (0 ≤ op ∧ op < 35)) : name op = ⟨#[]⟩ := if_neg h
theorem name_of {x : Nat × ByteArray} (hx : x ∈ all) : name (x.1 : Int) = x.2 := by
 have h : all.all (fun x => decide (name (x.1 : Int) = x.2)) = true := by kernel_rfl
 exact of_decide_eq_true (List.all_eq_true.1 h x hx)
theorem all_has {k : Nat} (hk : k < 35) : (k, name (k : Int)) ∈ all := by
 have h : (List.range 35).all (fun k => all.any (fun x => decide (x.1 = k) && decide (x.2 = name (k : Int)))) = true := by kernel_rfl
 obtain ⟨x, hx, he⟩ := List.any_eq_true.1 (List.all_eq_true.1 h k (List.mem_range.2 hk))
 simp only [Bool.and_eq_true, decide_eq_true_eq] at he
 rw [← show x = (k, name (k : Int)) from Prod.ext he.1 he.2]
 exact hx
def find (s : ByteArray) : Int × Bool := match all.find? (fun x => decide (x.2 = s)) with | some x => (x.1, true) | none => (0, false)
end Op
end Go.Proofs.YtmhmlhlplfkpaaaDoor
namespace Go.Proofs.YtmhmlhlplfkpaaaDoor
open Go.RowKit Go.Lib
namespace In
theorem list_ext {x y : ByteArray} (e : x.data.toList = y.data.toList) : x = y := by
 apply ByteArray.ext
 exact Array.toList_inj.1 e
theorem dec_big {u : Nat} (h : ¬ u < 10) : decDigits u = decDigits (u / 10) ++ [UInt8.ofNat (48 + u % 10)] := by rw [decDigits, dif_neg h]
def txt (n : Int) : ByteArray := ⟨(itoa n).toArray⟩
def num (s : ByteArray) : Int × Nat := match atoiAll s.data.toList with
 | .ok v => if txt v = s then (v, 0) else (0, 5)
 | _ => (0, 5)
end In
end Go.Proofs.YtmhmlhlplfkpaaaDoor
namespace Go.Proofs.YtmhmlhlplfkpaaaDoor
open Go.RowKit Go.Lib
namespace In
def bound (k : Int) : Int := if k = 2 then 256 else if k = 3 then 2000 else if k = 4 then 40 else if k = 5 then 4 else if k = 6 then 120 else 1
def kind (op : Int) : Int := (Op.row op).operand
theorem kind_in (op : Int) : 0 ≤ kind op ∧ kind op ≤ 6 := by
 unfold kind Op.row
 split
 · have h : Op.rows.all (fun r => decide (0 ≤ r.operand) && decide (r.operand ≤ 6)) = true := by kernel_rfl
   rcases Nat.lt_or_ge op.toNat Op.rows.length with hl | hl
   · rw [List.getD_eq_getElem?_getD, List.getElem?_eq_getElem hl]
     have := List.all_eq_true.1 h _ (List.getElem_mem hl)
     simp only [Bool.and_eq_true, decide_eq_true_eq] at this
     exact this
   · rw [List.getD_eq_getElem?_getD, List.getElem?_eq_none hl]
     exact ⟨by decide, by decide⟩
 · exact ⟨by decide, by decide⟩
def fits (k a : Int) : Bool := decide (k = 1) || (decide (0 ≤ a) && decide (a < bound k))
def known (op : Int) : Bool := decide (0 ≤ op) && decide (op < 35)
theorem known_iff {op : Int} : known op = true ↔ 0 ≤ op ∧ op < 35 := by
 unfold known
 simp
def numbered (op : Int) : Bool := decide (kind op ≠ 0)
def right (op a : Int) : Bool := known op && fits (kind op) a
def text (op a : Int) : ByteArray := if right op a then (if numbered op then Op.name op ++ ⟨#[32]⟩ ++ txt a else Op.name op) else ⟨#[]⟩
def at_ (s : ByteArray) : Nat := s.data.toList.findIdx (· == 32)
def head (s : ByteArray) : ByteArray := s.extract 0 (at_ s)
def tail (s : ByteArray) : ByteArray := s.extract (at_ s + 1) s.size
def more (s : ByteArray) : Bool := decide (at_ s < s.size)
def read (s : ByteArray) : (Int × Int) × Nat :=
 if (Op.find (head s)).2 = false then ((0, 0), 8)
 else if more s ≠ numbered (Op.find (head s)).1 then ((0, 0), 5)
 else if more s then
   (if (num (tail s)).2 ≠ 0 then ((0, 0), (num (tail s)).2)
    else if right (Op.find (head s)).1 (num (tail s)).1 then (((Op.find (head s)).1, (num (tail s)).1), 0) else ((0, 0), 2))
 else (((Op.find (head s)).1, 0), 0)
end In
end Go.Proofs.YtmhmlhlplfkpaaaDoor
namespace Go.Proofs.YtmhmlhlplfkpaaaDoor.Ru
abbrev Runs := List (Int × Int)
def snoc (r : Runs) (x : Int) : Runs :=
 match r.getLast? with
 | some p => if p.2 = x then r.dropLast ++ [(p.1 + 1, x)] else r ++ [(1, x)]
 | none => [(1, x)]
def of (l : List Int) : Runs := l.foldl snoc []
theorem take_snoc (l : List Int) (k : Nat) (h : k < l.length) : l.take (k + 1) = l.take k ++ [l.getD k 0] := by
 rw [List.take_succ_eq_append_getElem h]
 simp [List.getD, h]
def Part (l : List Int) (k : Nat) (pre : Runs) (m : Nat) : Prop :=
 m ≤ k ∧ pre.length ≤ k ∧ (k < l.length → snoc (of (l.take k)) (l.getD k 0) = pre ++ [((m : Int) + 1, l.getD k 0)]) ∧ (l.length ≤ k → pre = of l)
def rowStep (out : List Int) (p : Int × Int) : List Int := out ++ List.replicate (min p.1 (2000 - (out.length : Int))).toNat p.2
def row (r : Runs) : List Int := r.foldl rowStep []
def stepR (st : Option (Int × Option Int)) (p : Int × Int) : Option (Int × Option Int) :=
 match st with
 | none => none
 | some (left, prev) => if p.1 < 1 ∨ left < p.1 ∨ prev = some p.2 then none else some (left - p.1, some p.2)
def rightS (r : Runs) : Option (Int × Option Int) := r.foldl stepR (some (2000, none))
def right (r : Runs) : Bool := (rightS r).isSome
def laid (r : Runs) : List Nat := r.flatMap fun p => Uv.put p.1.toNat ++ Uv.put (Uv.fold p.2)
end Go.Proofs.YtmhmlhlplfkpaaaDoor.Ru
namespace Go.Proofs.YtmhmlhlplfkpaaaDoor.Li
def may (x : Int) : Bool := decide (0 ≤ x) && decide (x ≤ 65535)
def right (l : List Int) : Bool := decide (l.length ≤ 2000) && l.all may
def at_ (l : List Int) (pc : Int) : Int := if pc < 0 ∨ (l.length : Int) ≤ pc then 0 else l.getD pc.toNat 0
def spans (line : Int) : Int → Ru.Runs → Ru.Runs
 | _, [] => []
 | a, p :: r => (if p.2 = line then [(a, a + p.1)] else []) ++ spans line (a + p.1) r
def of (line : Int) (l : List Int) : Ru.Runs := spans line 0 (Ru.of l)
def step (line : Int) (out : Ru.Runs) (i x : Int) : Ru.Runs :=
 if x = line then
   match out.getLast? with
   | some p => if p.2 = i then out.dropLast ++ [(p.1, i + 1)] else out ++ [(i, i + 1)]
   | none => [(i, i + 1)]
 else out
end Go.Proofs.YtmhmlhlplfkpaaaDoor.Li
namespace Go.Proofs.YtmhmlhlplfkpaaaDoor.Tr
structure Nd where
 p : Int
 f : Int
 l : Int
 a : Int
 g : Int
 t : Int
 r : Int
def Nd.nil : Nd := ⟨0, 0, 0, 0, 0, 0, 0⟩
def Nd.list (n : Nd) : List Int := [n.p, n.f, n.l, n.a, n.g, n.t, n.r]
def fits (to : Int) (n : Nd) : Bool := decide (0 ≤ n.f ∧ n.f ≤ 39 ∧ 0 ≤ n.l ∧ n.l ≤ 65535 ∧ 0 ≤ n.g ∧ n.g ≤ 8 ∧ to ≤ n.a ∧ n.a ≤ 256 ∧ n.a ≤ n.t ∧ n.t ≤ 256 ∧ n.g ≤ n.t - n.a)
def head (n : Nd) : Bool := decide (n.p = -1 ∧ n.l = 0 ∧ n.a = 0 ∧ n.r = 0)
def other (i : Nat) (n : Nd) : Bool := decide (0 ≤ n.p ∧ n.p < (i : Int) ∧ 1 ≤ n.r ∧ n.r ≤ 1999)
def ok (i : Nat) (to : Int) (n : Nd) : Bool := fits to n && (if i = 0 then head n else other i n)
def run : Nat → Int → List Nd → Bool
 | _, _, [] => true
 | i, to, n :: r => ok i to n && run (i + 1) n.t r
def right (l : List Nd) : Bool := decide (1 ≤ l.length) && decide (l.length ≤ 120) && run 0 0 l
def up (l : List Nd) : Nat → Int → List Int
 | 0, _ => []
 | fuel + 1, n => if 0 ≤ n ∧ n < (l.length : Int) then n :: up l fuel (l.getD n.toNat Nd.nil).p else []
def ups (l : List Nd) (n : Int) : List Int := up l (l.length + 1) n
theorem up_len (l : List Nd) : ∀ (f : Nat) (n : Int), (up l f n).length ≤ f
 | 0, _ => Nat.le_refl _
 | f + 1, n => by
   rw [up]
   split
   · have := up_len l f (l.getD n.toNat Nd.nil).p
     rw [List.length_cons]
     omega
   · simp
def inside (l : List Nd) (n under : Int) : Bool := (ups l n).any (· == under)
def own (l : List Nd) (n : Int) : Sl.Four := if n < 0 ∨ (l.length : Int) ≤ n then Sl.no else Sl.range (l.getD n.toNat Nd.nil).a (l.getD n.toNat Nd.nil).t
def all (l : List Nd) : Nat → Sl.Four
 | 0 => Sl.no
 | k + 1 => (all l k).or (own l (k : Int))
def one (n : Nd) : List Nat := n.list.flatMap fun x => Uv.put (Uv.fold x)
def bytes (l : List Nd) : List Nat := Uv.put l.length ++ l.flatMap one
def Nd.wf (n : Nd) : Prop := ∀ x ∈ n.list, -9223372036854775808 ≤ x ∧ x ≤ 9223372036854775807
end Go.Proofs.YtmhmlhlplfkpaaaDoor.Tr
