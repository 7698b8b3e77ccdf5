/-
 Lists of types by plain lists: which may be, their letters, their bytes, what is read from a text. Conditions: none.
-/
import Derived.Test.YtdopheoedpldiaaGreatDoorBM
import Derived.Lib.ItoaNum
import Derived.Lib.ItoaLen
import Derived.Lib.AtoiAll
import Derived.Lib.AtoiAllCases
import Derived.Lib.IndexMore
import Derived.Lib.Strings
import Derived.Test.YtdopheoedpldiaaGreatDoorSlM
namespace Go.Proofs.YtdopheoedpldiaaGreatDoor
namespace Si
def may (t : Int) : Bool := t == 1 || t == 2
def right (l : List Int) (most : Int) : Bool := decide ((l.length : Int) ≤ most) && l.all may
def letter (t : Int) : Nat := if t = 1 then 105 else if t = 2 then 99 else 63
def typed (c : Int) : Int := if c = 105 then 1 else if c = 99 then 2 else 0
def text (l : List Int) : List Nat := if l.length = 0 then [45] else l.map letter
def bytes (l : List Int) : List Nat := if l.all may then Uv.put l.length ++ l.map Int.toNat else []
def types (c : List Nat) : List Int := c.map fun x : Nat => typed (x : Int)
def read (c : List Nat) : Option (List Int) := if c = [45] then some [] else if c = [] then none else if (types c).all may then some (types c) else none
theorem may_iff (t : Int) : may t = true ↔ t = 1 ∨ t = 2 := by simp [may]
theorem right_self (l : List Int) : right l l.length = l.all may := by simp [right]
theorem bytes_ok {l : List Int} (h : l.all may = true) : bytes l = Uv.put l.length ++ l.map Int.toNat := by unfold bytes; rw [if_pos h]
theorem bytes_bad {l : List Int} (h : l.all may = false) : bytes l = [] := by unfold bytes; rw [if_neg (by rw [h]; decide)]
theorem toNat_lt {l : List Int} (h : l.all may = true) : ∀ c ∈ l.map Int.toNat, c < 256 := by
 intro c hc
 obtain ⟨t, ht, rfl⟩ := List.mem_map.1 hc
 rcases (may_iff t).1 (List.all_eq_true.1 h t ht) with rfl | rfl <;> decide
theorem bytes_byte (l : List Int) : ∀ c ∈ bytes l, c < 256 := by
 intro c hc
 unfold bytes at hc
 split at hc
 · rename_i h
   rcases List.mem_append.1 hc with hc | hc
   · exact Uv.put_byte _ c hc
   · exact toNat_lt h c hc
 · cases hc
theorem all_take_succ {l : List Int} {k : Nat} (h : k < l.length) : (l.take (k + 1)).all may = ((l.take k).all may && may (l.getD k 0)) := by
 rw [List.take_succ_eq_append_getElem h, List.all_append]
 simp [List.getD, h]
theorem all_bad {l : List Int} {k : Nat} (h : k < l.length) (hb : may (l.getD k 0) = false) : l.all may = false := by
 rw [List.all_eq_false]
 refine ⟨l[k], List.getElem_mem h, ?_⟩
 have : l.getD k 0 = l[k] := by simp [List.getD, h]
 rw [← this, hb]
 decide
end Si
end Go.Proofs.YtdopheoedpldiaaGreatDoor
namespace Go.Proofs.YtdopheoedpldiaaGreatDoor
open Go.RowKit
namespace Op
structure Row where
 operand : Int
 fixed : Bool
 takes : ByteArray
 gives : ByteArray
 ends : Bool
 raises : Bool
def R (o : Int) (f : Bool) (t g : List UInt8) (e r : Bool) : Row := ⟨o, f, ⟨t.toArray⟩, ⟨g.toArray⟩, e, r⟩
def none_ : Row := R 0 false [] [] false false
def rows : List Row := [
 R 0 true [] [] false false,
 R 1 true [] [105] false false,
 R 2 false [] [] false false,
 R 2 false [] [] false false,
 R 0 false [] [] false false,
 R 0 false [] [] false false,
 R 0 true [105, 105] [105] false false,
 R 0 true [105, 105] [105] false false,
 R 0 true [105, 105] [105] false false,
 R 0 true [105, 105] [105] false true,
 R 0 true [105, 105] [105] false true,
 R 0 true [105] [105] false false,
 R 0 true [105, 105] [105] false false,
 R 0 true [105, 105] [105] false false,
 R 0 true [105] [105] false false,
 R 0 true [105, 105] [99] false false,
 R 0 true [99, 99] [99] false false,
 R 0 true [99, 99] [99] false false,
 R 0 true [99, 99] [99] false false,
 R 0 true [99] [105] false false,
 R 0 true [99] [105] false false,
 R 3 true [] [] true false,
 R 3 true [105] [] false false,
 R 4 false [] [] false true,
 R 4 false [] [] false false,
 R 0 true [] [] true true,
 R 0 true [105] [] true true,
 R 0 true [] [105, 105] false false,
 R 5 false [] [] false false,
 R 5 false [] [] false false,
 R 0 true [105] [] false false,
 R 0 true [] [] false false,
 R 0 true [] [105] false false,
 R 6 true [] [] false true,
 R 6 true [] [] true true]
def row (op : Int) : Row := if 0 ≤ op ∧ op < 35 then rows.getD op.toNat none_ else none_
def cells (r : Row) : List Value := [.int .i64 r.operand, .bool r.fixed, .string r.takes, .string r.gives, .bool r.ends, .bool r.raises]
def table : Array Value := (rows.flatMap cells).toArray
def zeros : Array Value := ((List.replicate 35 none_).flatMap cells).toArray
theorem flat_at (j : Nat) (hj : j < 6) : ∀ (l : List Row) (k : Nat), k < l.length → (l.flatMap cells)[k * 6 + j]? = (cells (l.getD k none_))[j]?
 | [], k, h => absurd h (by simp)
 | r :: l, 0, _ => by
   have h6 : (cells r).length = 6 := rfl
   simp only [List.flatMap_cons, Nat.zero_mul, Nat.zero_add, List.getD_cons_zero]
   rw [List.getElem?_append_left (by omega)]
 | r :: l, k + 1, h => by
   have h6 : (cells r).length = 6 := rfl
   simp only [List.flatMap_cons, List.getD_cons_succ]
   rw [List.getElem?_append_right (by omega), ← flat_at j hj l k (by simpa using h)]
   congr 1
   omega
theorem table_at (k j : Nat) (hk : k < 35) (hj : j < 6) : table[k * 6 + j]? = (cells (row (k : Int)))[j]? := by
 have h : row (k : Int) = rows.getD k none_ := by
   unfold row
   rw [if_pos (by omega)]
   simp
 rw [h, ← flat_at j hj rows k hk]
 simp [table]
theorem table_size : table.size = 210 := by kernel_rfl
theorem row_out {op : Int} (h : ¬ (0 ≤ op ∧ op < 35)) : row op = none_ := if_neg h
end Op
end Go.Proofs.YtdopheoedpldiaaGreatDoor
namespace Go.Proofs.YtdopheoedpldiaaGreatDoor
open Go.RowKit
namespace Op
structure Scan where
 k : Nat
 start : Nat
 told : List (Nat × ByteArray)
def byte (s : ByteArray) (i : Nat) : Nat := (s.data.toList.getD i 0).toNat
theorem byte_eq (s : ByteArray) (i : Nat) (h : i < s.size) : s[i].toNat = byte s i := by
 have h' : i < s.data.size := h
 show s.data[i].toNat = _
 have e : s.data[i]? = some s.data[i] := Array.getElem?_eq_getElem h'
 simp only [byte, List.getD, Array.getElem?_toList, e, Option.getD_some]
def Scan.next (s : ByteArray) (c p : Nat) (x : Scan) : Scan := if byte s p = c then ⟨x.k + 1, p + 1, x.told ++ [(x.k, s.extract x.start p)]⟩ else x
def list : ByteArray := ⟨#[110, 111, 112, 44, 112, 117, 115, 104, 44, 108, 111, 97, 100, 44, 115, 116, 111, 114, 101, 44, 112, 111, 112, 44, 100, 117, 112, 44, 97, 100, 100, 44, 115, 117, 98, 44, 109, 117, 108, 44, 100, 105, 118, 44, 109, 111, 100, 44, 110, 101, 103, 44, 108, 101, 115, 115, 44, 115, 97, 109, 101, 44, 110, 111, 116, 44, 112, 97, 105, 114, 44, 112, 108, 117, 115, 44, 109, 105, 110, 117, 115, 44, 116, 105, 109, 101, 115, 44, 114, 101, 97, 108, 44, 105, 109, 97, 103, 44, 106, 117, 109, 112, 44, 105, 102, 44, 99, 97, 108, 108, 44, 100, 101, 102, 101, 114, 44, 114, 101, 116, 44, 112, 97, 110, 105, 99, 44, 114, 101, 99, 111, 118, 101, 114, 44, 103, 101, 116, 114, 101, 115, 44, 115, 101, 116, 114, 101, 115, 44, 101, 109, 105, 116, 44, 116, 114, 97, 99, 101, 44, 100, 114, 97, 119, 44, 111, 112, 101, 110, 44, 99, 108, 111, 115, 101, 44]⟩
def words : ByteArray := ⟨#[110, 111, 112, 32, 112, 117, 115, 104, 32, 108, 111, 97, 100, 32, 115, 116, 111, 114, 101, 32, 112, 111, 112, 32, 100, 117, 112, 32, 97, 100, 100, 32, 115, 117, 98, 32, 109, 117, 108, 32, 100, 105, 118, 32, 109, 111, 100, 32, 110, 101, 103, 32, 108, 101, 115, 115, 32, 115, 97, 109, 101, 32, 110, 111, 116, 32, 112, 97, 105, 114, 32, 112, 108, 117, 115, 32, 109, 105, 110, 117, 115, 32, 116, 105, 109, 101, 115, 32, 114, 101, 97, 108, 32, 105, 109, 97, 103, 32, 106, 117, 109, 112, 32, 105, 102, 32, 99, 97, 108, 108, 32, 100, 101, 102, 101, 114, 32, 114, 101, 116, 32, 112, 97, 110, 105, 99, 32, 114, 101, 99, 111, 118, 101, 114, 32, 103, 101, 116, 114, 101, 115, 32, 115, 101, 116, 114, 101, 115, 32, 101, 109, 105, 116, 32, 116, 114, 97, 99, 101, 32, 100, 114, 97, 119, 32, 111, 112, 101, 110, 32, 99, 108, 111, 115, 101, 32]⟩
def names : List ByteArray := [
 ⟨#[110, 111, 112]⟩,
 ⟨#[112, 117, 115, 104]⟩,
 ⟨#[108, 111, 97, 100]⟩,
 ⟨#[115, 116, 111, 114, 101]⟩,
 ⟨#[112, 111, 112]⟩,
 ⟨#[100, 117, 112]⟩,
 ⟨#[97, 100, 100]⟩,
 ⟨#[115, 117, 98]⟩,
 ⟨#[109, 117, 108]⟩,
 ⟨#[100, 105, 118]⟩,
 ⟨#[109, 111, 100]⟩,
 ⟨#[110, 101, 103]⟩,
 ⟨#[108, 101, 115, 115]⟩,
 ⟨#[115, 97, 109, 101]⟩,
 ⟨#[110, 111, 116]⟩,
 ⟨#[112, 97, 105, 114]⟩,
 ⟨#[112, 108, 117, 115]⟩,
 ⟨#[109, 105, 110, 117, 115]⟩,
 ⟨#[116, 105, 109, 101, 115]⟩,
 ⟨#[114, 101, 97, 108]⟩,
 ⟨#[105, 109, 97, 103]⟩,
 ⟨#[106, 117, 109, 112]⟩,
 ⟨#[105, 102]⟩,
 ⟨#[99, 97, 108, 108]⟩,
 ⟨#[100, 101, 102, 101, 114]⟩,
 ⟨#[114, 101, 116]⟩,
 ⟨#[112, 97, 110, 105, 99]⟩,
 ⟨#[114, 101, 99, 111, 118, 101, 114]⟩,
 ⟨#[103, 101, 116, 114, 101, 115]⟩,
 ⟨#[115, 101, 116, 114, 101, 115]⟩,
 ⟨#[101, 109, 105, 116]⟩,
 ⟨#[116, 114, 97, 99, 101]⟩,
 ⟨#[100, 114, 97, 119]⟩,
 ⟨#[111, 112, 101, 110]⟩,
 ⟨#[99, 108, 111, 115, 101]⟩]
def all : List (Nat × ByteArray) := (List.range 35).zip names
def name (op : Int) : ByteArray := if 0 ≤ op ∧ op < 35 then names.getD op.toNat ⟨#[]⟩ else ⟨#[]⟩
def find (s : ByteArray) : Int × Bool := match all.find? (fun x => decide (x.2 = s)) with | some x => (x.1, true) | none => (0, false)
end Op
end Go.Proofs.YtdopheoedpldiaaGreatDoor
namespace Go.Proofs.YtdopheoedpldiaaGreatDoor
open Go.RowKit Go.Lib
namespace In
theorem dec_big {u : Nat} (h : ¬ u < 10) : decDigits u = decDigits (u / 10) ++ [UInt8.ofNat (48 + u % 10)] := by rw [decDigits, dif_neg h]
theorem dgt {d : Nat} (h : d < 10) : (UInt8.ofNat (48 + d)).toNat = 48 + d := by
 simp [UInt8.toNat_ofNat']
 omega
theorem dec_parse : ∀ (u : Nat) (r : List UInt8), u < 18446744073709551616 → parseUint10 0 (decDigits u ++ r) = parseUint10 u r := by
 intro u
 induction u using Nat.strongRecOn with
 | ind u ih =>
   intro r hu
   by_cases h : u < 10
   · rw [decDigits_one h]
     simp only [List.cons_append, List.nil_append, parseUint10]
     rw [dgt h, if_pos (by omega), if_neg (by omega), if_neg (by omega)]
     congr 1
     omega
   · rw [dec_big h, List.append_assoc, ih (u / 10) (by omega) _ (by omega)]
     simp only [List.cons_append, List.nil_append, parseUint10]
     rw [dgt (show u % 10 < 10 by omega), if_pos (by omega), if_neg (by omega), if_neg (by omega)]
     congr 1
     omega
theorem dec_ne (u : Nat) : decDigits u ≠ [] := by
 intro h
 have h1 := decDigits_length u
 have h2 := nDigits_pos u
 rw [h] at h1
 simp at h1
 omega
theorem dec_digit : ∀ (u : Nat) (c : UInt8), c ∈ decDigits u → 48 ≤ c.toNat ∧ c.toNat ≤ 57 := by
 intro u
 induction u using Nat.strongRecOn with
 | ind u ih =>
   intro c hc
   by_cases h : u < 10
   · rw [decDigits_one h] at hc
     obtain rfl := List.mem_singleton.1 hc
     rw [dgt h]
     omega
   · rw [dec_big h] at hc
     rcases List.mem_append.1 hc with hc | hc
     · exact ih _ (by omega) c hc
     · obtain rfl := List.mem_singleton.1 hc
       rw [dgt (show u % 10 < 10 by omega)]
       omega
theorem dec_mag (u : Nat) (h : u < 18446744073709551616) : parseMag (decDigits u) = .ok u := by
 unfold parseMag
 rw [if_neg (dec_ne u)]
 have := dec_parse u [] h
 rw [List.append_nil] at this
 rw [this]
 rfl
theorem atoi_itoa {n : Int} (h0 : -9223372036854775808 ≤ n) (h1 : n ≤ 9223372036854775807) : atoiAll (itoa n) = .ok n := by
 unfold itoa
 by_cases h : n < 0
 · rw [if_pos h, atoiAll_minus, dec_mag _ (by omega)]
   simp only [signed]
   rw [if_neg (by omega)]
   congr 1
   omega
 · rw [if_neg h]
   have hm := dec_mag n.toNat (by omega)
   have hd := dec_digit n.toNat
   have hn := dec_ne n.toNat
   revert hm hd hn
   cases decDigits n.toNat with
   | nil => intro _ _ h; exact absurd rfl h
   | cons c r =>
     intro hm hd _
     have := hd c (by simp)
     rw [atoiAll_plain c r (by omega) (by omega), hm]
     simp only [signless]
     rw [if_neg (by omega)]
     congr 1
     omega
def txt (n : Int) : ByteArray := ⟨(itoa n).toArray⟩
theorem txt_list {n : Int} {s : ByteArray} (h : txt n = s) : s.data.toList = itoa n := by
 subst h
 simp [txt]
def num (s : ByteArray) : Int × Nat := match atoiAll s.data.toList with
 | .ok v => if txt v = s then (v, 0) else (0, 5)
 | _ => (0, 5)
theorem num_txt {n : Int} (h0 : -9223372036854775808 ≤ n) (h1 : n ≤ 9223372036854775807) {s : ByteArray} (h : txt n = s) : num s = (n, 0) := by
 unfold num
 rw [txt_list h, atoi_itoa h0 h1]
 simp only
 rw [if_pos h]
theorem num_is (s : ByteArray) : (∃ v, (-9223372036854775808 ≤ v ∧ v ≤ 9223372036854775807) ∧ txt v = s ∧ num s = (v, 0)) ∨ ((∀ v, -9223372036854775808 ≤ v → v ≤ 9223372036854775807 → txt v ≠ s) ∧ num s = (0, 5)) := by
 by_cases h : ∃ v, (-9223372036854775808 ≤ v ∧ v ≤ 9223372036854775807) ∧ txt v = s
 · obtain ⟨v, hv, ht⟩ := h
   exact .inl ⟨v, hv, ht, num_txt hv.1 hv.2 ht⟩
 · refine .inr ⟨fun v a b c => h ⟨v, ⟨a, b⟩, c⟩, ?_⟩
   unfold num
   cases hv : atoiAll s.data.toList
   · rename_i v
     have hb := atoiAll_bounds hv
     simp only
     rw [if_neg (fun c => h ⟨v, hb, c⟩)]
   · rfl
   · rfl
theorem num_le (s : ByteArray) : -9223372036854775808 ≤ (num s).1 ∧ (num s).1 ≤ 9223372036854775807 := by
 rcases num_is s with ⟨v, hv, _, h⟩ | ⟨_, h⟩ <;> rw [h]
 · exact hv
 · simp
end In
end Go.Proofs.YtdopheoedpldiaaGreatDoor
namespace Go.Proofs.YtdopheoedpldiaaGreatDoor
open Go.RowKit Go.Lib
namespace In
def bound (k : Int) : Int := if k = 2 then 256 else if k = 3 then 2000 else if k = 4 then 40 else if k = 5 then 4 else if k = 6 then 120 else 1
def kind (op : Int) : Int := (Op.row op).operand
theorem kind_in (op : Int) : 0 ≤ kind op ∧ kind op ≤ 6 := by
 unfold kind Op.row
 split
 · have h : Op.rows.all (fun r => decide (0 ≤ r.operand) && decide (r.operand ≤ 6)) = true := by kernel_rfl
   rcases Nat.lt_or_ge op.toNat Op.rows.length with hl | hl
   · rw [List.getD_eq_getElem?_getD, List.getElem?_eq_getElem hl]
     have := List.all_eq_true.1 h _ (List.getElem_mem hl)
     simp only [Bool.and_eq_true, decide_eq_true_eq] at this
     exact this
   · rw [List.getD_eq_getElem?_getD, List.getElem?_eq_none hl]
     exact ⟨by decide, by decide⟩
 · exact ⟨by decide, by decide⟩
theorem kind_out {op : Int} (h : ¬ (0 ≤ op ∧ op < 35)) : kind op = 0 := by
 unfold kind
 rw [Op.row_out h]
 rfl
def fits (k a : Int) : Bool := decide (k = 1) || (decide (0 ≤ a) && decide (a < bound k))
def known (op : Int) : Bool := decide (0 ≤ op) && decide (op < 35)
theorem known_iff {op : Int} : known op = true ↔ 0 ≤ op ∧ op < 35 := by
 unfold known
 simp
def numbered (op : Int) : Bool := decide (kind op ≠ 0)
def right (op a : Int) : Bool := known op && fits (kind op) a
theorem right_known {op a : Int} (h : right op a = true) : 0 ≤ op ∧ op < 35 := by
 unfold right at h
 rw [Bool.and_eq_true] at h
 exact known_iff.1 h.1
theorem right_bare {op a : Int} (h : right op a = true) (hn : numbered op = false) : a = 0 := by
 have hk : kind op = 0 := by unfold numbered at hn; simpa using hn
 unfold right fits at h
 rw [hk] at h
 simp [bound] at h
 omega
theorem bare_right {op : Int} (h : 0 ≤ op ∧ op < 35) (hn : numbered op = false) : right op 0 = true := by
 have hk : kind op = 0 := by unfold numbered at hn; simpa using hn
 unfold right fits
 rw [known_iff.2 h, hk]
 decide
def text (op a : Int) : ByteArray := if right op a then (if numbered op then Op.name op ++ ⟨#[32]⟩ ++ txt a else Op.name op) else ⟨#[]⟩
def at_ (s : ByteArray) : Nat := s.data.toList.findIdx (· == 32)
def head (s : ByteArray) : ByteArray := s.extract 0 (at_ s)
def tail (s : ByteArray) : ByteArray := s.extract (at_ s + 1) s.size
def more (s : ByteArray) : Bool := decide (at_ s < s.size)
def read (s : ByteArray) : (Int × Int) × Nat :=
 if (Op.find (head s)).2 = false then ((0, 0), 8)
 else if more s ≠ numbered (Op.find (head s)).1 then ((0, 0), 5)
 else if more s then
   (if (num (tail s)).2 ≠ 0 then ((0, 0), (num (tail s)).2)
    else if right (Op.find (head s)).1 (num (tail s)).1 then (((Op.find (head s)).1, (num (tail s)).1), 0) else ((0, 0), 2))
 else (((Op.find (head s)).1, 0), 0)
end In
end Go.Proofs.YtdopheoedpldiaaGreatDoor
namespace Go.Proofs.YtdopheoedpldiaaGreatDoor.Ru
theorem snocRec {α : Type} {motive : List α → Prop} (nil : motive []) (append_singleton : ∀ l x, motive l → motive (l ++ [x])) (l : List α) : motive l := by
 rw [← List.reverse_reverse l]
 induction l.reverse with
 | nil => exact nil
 | cons x r ih => rw [List.reverse_cons]; exact append_singleton _ _ ih
abbrev Runs := List (Int × Int)
def snoc (r : Runs) (x : Int) : Runs :=
 match r.getLast? with
 | some p => if p.2 = x then r.dropLast ++ [(p.1 + 1, x)] else r ++ [(1, x)]
 | none => [(1, x)]
def of (l : List Int) : Runs := l.foldl snoc []
theorem of_snoc (l : List Int) (x : Int) : of (l ++ [x]) = snoc (of l) x := by simp [of, List.foldl_append]
theorem snoc_nil (x : Int) : snoc [] x = [(1, x)] := rfl
theorem snoc_same (pre : Runs) (n x : Int) : snoc (pre ++ [(n, x)]) x = pre ++ [(n + 1, x)] := by simp [snoc]
theorem snoc_other (pre : Runs) (n v x : Int) (h : v ≠ x) : snoc (pre ++ [(n, v)]) x = pre ++ [(n, v)] ++ [(1, x)] := by simp [snoc, h]
theorem last_cases (r : Runs) : r = [] ∨ ∃ pre p, r = pre ++ [p] := by
 rcases List.eq_nil_or_concat r with h | ⟨a, b, h⟩
 · exact .inl h
 · exact .inr ⟨a, b, by simpa using h⟩
theorem take_snoc (l : List Int) (k : Nat) (h : k < l.length) : l.take (k + 1) = l.take k ++ [l.getD k 0] := by
 rw [List.take_succ_eq_append_getElem h]
 simp [List.getD, h]
theorem of_take (l : List Int) (k : Nat) (h : k < l.length) : of (l.take (k + 1)) = snoc (of (l.take k)) (l.getD k 0) := by rw [take_snoc l k h, of_snoc]
def Part (l : List Int) (k : Nat) (pre : Runs) (m : Nat) : Prop :=
 m ≤ k ∧ pre.length ≤ k ∧ (k < l.length → snoc (of (l.take k)) (l.getD k 0) = pre ++ [((m : Int) + 1, l.getD k 0)]) ∧ (l.length ≤ k → pre = of l)
theorem part_start (l : List Int) : Part l 0 [] 0 := by
 refine ⟨Nat.le_refl _, Nat.le_refl _, fun _ => ?_, fun h => ?_⟩
 · simp [of, snoc_nil]
 · rw [List.eq_nil_of_length_eq_zero (Nat.le_zero.1 h)]
   rfl
theorem part_go {l : List Int} {k m : Nat} {pre : Runs} (h : Part l k pre m) (hk : k + 1 < l.length) (he : l.getD (k + 1) 0 = l.getD k 0) : Part l (k + 1) pre (m + 1) := by
 obtain ⟨h1, h2, h3, h4⟩ := h
 refine ⟨by omega, by omega, fun _ => ?_, fun h => by omega⟩
 rw [of_take l k (by omega), h3 (by omega), he, snoc_same]
 simp
theorem part_tell {l : List Int} {k m : Nat} {pre : Runs} (h : Part l k pre m) (hk : k < l.length) (he : k + 1 < l.length → l.getD (k + 1) 0 ≠ l.getD k 0) : Part l (k + 1) (pre ++ [((m : Int) + 1, l.getD k 0)]) 0 := by
 obtain ⟨h1, h2, h3, h4⟩ := h
 refine ⟨by omega, by simp; omega, fun h => ?_, fun h => ?_⟩
 · rw [of_take l k (by omega), h3 hk, snoc_other _ _ _ _ (fun e => he h e.symm)]
   simp
 · rw [← h3 hk, ← of_take l k hk, List.take_of_length_le h]
def rowStep (out : List Int) (p : Int × Int) : List Int := out ++ List.replicate (min p.1 (2000 - (out.length : Int))).toNat p.2
def row (r : Runs) : List Int := r.foldl rowStep []
theorem row_snoc (r : Runs) (p : Int × Int) : row (r ++ [p]) = rowStep (row r) p := by simp [row, List.foldl_append]
theorem taken {α : Type} {l : List α} {k : Nat} (h : k < l.length) (d : α) : l.take (k + 1) = l.take k ++ [l.getD k d] := by
 rw [List.take_succ_eq_append_getElem h]
 simp [List.getD, h]
def flat (r : Runs) : List Int := r.flatMap fun p => List.replicate p.1.toNat p.2
theorem flat_append (a b : Runs) : flat (a ++ b) = flat a ++ flat b := by simp [flat]
theorem flat_one (p : Int × Int) : flat [p] = List.replicate p.1.toNat p.2 := by simp [flat]
theorem row_flat (r : Runs) : (flat r).length ≤ 2000 → row r = flat r := by
 induction r using snocRec with
 | nil => exact fun _ => rfl
 | append_singleton r p ih =>
   intro h
   rw [flat_append, flat_one, List.length_append, List.length_replicate] at h
   rw [row_snoc, flat_append, flat_one, ih (by omega), rowStep]
   congr 2
   omega
theorem snoc_pos {r : Runs} (h : ∀ p ∈ r, 1 ≤ p.1) (x : Int) : ∀ p ∈ snoc r x, 1 ≤ p.1 := by
 rcases last_cases r with rfl | ⟨pre, ⟨n, v⟩, rfl⟩
 · intro p hp
   rw [snoc_nil, List.mem_singleton] at hp
   subst hp
   exact Int.le_refl _
 · have hn : 1 ≤ n := h (n, v) (by simp)
   have hpre : ∀ p ∈ pre, 1 ≤ p.1 := fun p hp => h p (by simp [hp])
   by_cases e : v = x
   · subst e
     rw [snoc_same]
     intro p hp
     rcases List.mem_append.1 hp with hp | hp
     · exact hpre p hp
     · rw [List.mem_singleton] at hp
       subst hp
       show 1 ≤ n + 1
       omega
   · rw [snoc_other _ _ _ _ e]
     intro p hp
     rcases List.mem_append.1 hp with hp | hp
     · rcases List.mem_append.1 hp with hp | hp
       · exact hpre p hp
       · rw [List.mem_singleton] at hp
         subst hp
         exact hn
     · rw [List.mem_singleton] at hp
       subst hp
       exact Int.le_refl _
theorem flat_snoc {r : Runs} (h : ∀ p ∈ r, 1 ≤ p.1) (x : Int) : flat (snoc r x) = flat r ++ [x] := by
 rcases last_cases r with rfl | ⟨pre, ⟨n, v⟩, rfl⟩
 · rfl
 · have hn : 1 ≤ n := h (n, v) (by simp)
   by_cases e : v = x
   · subst e
     rw [snoc_same, flat_append, flat_append, flat_one, flat_one, List.append_assoc, show (n + 1).toNat = n.toNat + 1 by omega, List.replicate_succ']
   · rw [snoc_other _ _ _ _ e, flat_append, flat_one]
     rfl
theorem of_pos (l : List Int) : ∀ p ∈ of l, 1 ≤ p.1 := by
 induction l using snocRec with
 | nil => intro p hp; simp [of] at hp
 | append_singleton l x ih => rw [of_snoc]; exact snoc_pos ih x
theorem flat_of (l : List Int) : flat (of l) = l := by
 induction l using snocRec with
 | nil => rfl
 | append_singleton l x ih => rw [of_snoc, flat_snoc (of_pos l), ih]
theorem row_of {l : List Int} (h : l.length ≤ 2000) : row (of l) = l := by
 rw [row_flat _ (by rw [flat_of]; exact h), flat_of]
theorem of_len (l : List Int) : (of l).length ≤ l.length := by
 induction l using snocRec with
 | nil => exact Nat.le_refl _
 | append_singleton l x ih =>
   rw [of_snoc]
   rcases last_cases (of l) with e | ⟨pre, ⟨n, v⟩, e⟩
   · rw [e, snoc_nil]; simp
   · rw [e] at ih ⊢
     by_cases ev : v = x
     · subst ev
       rw [snoc_same]
       simp at ih ⊢
       omega
     · rw [snoc_other _ _ _ _ ev]
       simp at ih ⊢
       omega
def stepR (st : Option (Int × Option Int)) (p : Int × Int) : Option (Int × Option Int) :=
 match st with
 | none => none
 | some (left, prev) => if p.1 < 1 ∨ left < p.1 ∨ prev = some p.2 then none else some (left - p.1, some p.2)
def rightS (r : Runs) : Option (Int × Option Int) := r.foldl stepR (some (2000, none))
def right (r : Runs) : Bool := (rightS r).isSome
theorem rightS_snoc (r : Runs) (p : Int × Int) : rightS (r ++ [p]) = stepR (rightS r) p := by simp [rightS, List.foldl_append]
theorem step_none (r : Runs) : r.foldl stepR none = none := by
 induction r with
 | nil => rfl
 | cons p r ih => exact ih
theorem rightS_of (l : List Int) : l.length ≤ 2000 → rightS (of l) = some (2000 - (l.length : Int), l.getLast?) := by
 induction l using snocRec with
 | nil => exact fun _ => rfl
 | append_singleton l x ih =>
   intro h
   rw [List.length_append, List.length_singleton] at h
   have ih := ih (by omega)
   rw [of_snoc]
   have hp := of_pos l
   rcases last_cases (of l) with e | ⟨pre, ⟨n, v⟩, e⟩
   · have hl : l = [] := by rw [← flat_of l, e]; rfl
     subst hl
     rw [e, snoc_nil]
     rfl
   · rw [e] at ih hp ⊢
     have hn : 1 ≤ n := hp (n, v) (by simp)
     rw [rightS_snoc] at ih
     cases hs : rightS pre with
     | none => rw [hs] at ih; cases ih
     | some st =>
       obtain ⟨left, prev⟩ := st
       rw [hs] at ih
       simp only [stepR] at ih
       by_cases hc : n < 1 ∨ left < n ∨ prev = some v
       · rw [if_pos hc] at ih; cases ih
       · rw [if_neg hc] at ih
         injection ih with ih
         injection ih with ih1 ih2
         have hc2 : ¬ prev = some v := fun e => hc (.inr (.inr e))
         by_cases ev : v = x
         · subst ev
           rw [snoc_same, rightS_snoc, hs]
           simp only [stepR]
           rw [if_neg (by rintro (a | a | a) <;> first | omega | exact hc2 a)]
           simp
           omega
         · rw [snoc_other _ _ _ _ ev, rightS_snoc, rightS_snoc, hs]
           simp only [stepR]
           rw [if_neg hc]
           simp only
           rw [if_neg (by rintro (a | a | a) <;> first | omega | (injection a with a; exact ev a))]
           simp
           omega
def laid (r : Runs) : List Nat := r.flatMap fun p => Uv.put p.1.toNat ++ Uv.put (Uv.fold p.2)
theorem laid_append (a b : Runs) : laid (a ++ b) = laid a ++ laid b := by simp [laid]
theorem laid_one (p : Int × Int) : laid [p] = Uv.put p.1.toNat ++ Uv.put (Uv.fold p.2) := by simp [laid]
theorem laid_byte (r : Runs) : ∀ c ∈ laid r, c < 256 := by
 intro c hc
 obtain ⟨p, _, hp⟩ := List.mem_flatMap.1 hc
 rcases List.mem_append.1 hp with h | h
 · exact Uv.put_byte _ c h
 · exact Uv.put_byte _ c h
def Fits (r : Runs) : Prop := ∀ p ∈ r, 0 ≤ p.1 ∧ p.1 ≤ 9223372036854775807 ∧ -9223372036854775808 ≤ p.2 ∧ p.2 ≤ 9223372036854775807
theorem laid_len {r : Runs} (h : Fits r) : (laid r).length ≤ 20 * r.length := by
 induction r with
 | nil => exact Nat.le_refl _
 | cons p r ih =>
   obtain ⟨h0, h1, h2, h3⟩ := h p (by simp)
   have a := Uv.put_len_10 (n := p.1.toNat) (by omega)
   have b := Uv.put_len_10 (Uv.fold_lt h2 h3)
   have c := ih (fun q hq => h q (by simp [hq]))
   have e : laid (p :: r) = laid [p] ++ laid r := laid_append [p] r
   rw [e, laid_one]
   simp only [List.length_append, List.length_cons]
   omega
end Go.Proofs.YtdopheoedpldiaaGreatDoor.Ru
namespace Go.Proofs.YtdopheoedpldiaaGreatDoor.Li
def may (x : Int) : Bool := decide (0 ≤ x) && decide (x ≤ 65535)
def right (l : List Int) : Bool := decide (l.length ≤ 2000) && l.all may
def at_ (l : List Int) (pc : Int) : Int := if pc < 0 ∨ (l.length : Int) ≤ pc then 0 else l.getD pc.toNat 0
theorem all_take_succ {l : List Int} {k : Nat} (h : k < l.length) : (l.take (k + 1)).all may = ((l.take k).all may && may (l.getD k 0)) := by
 rw [Ru.take_snoc l k h, List.all_append]
 simp
theorem all_bad {l : List Int} {k : Nat} (h : k < l.length) (hb : may (l.getD k 0) = false) : l.all may = false := by
 rw [List.all_eq_false]
 refine ⟨l[k], List.getElem_mem h, ?_⟩
 have : l.getD k 0 = l[k] := by simp [List.getD, h]
 rw [this] at hb
 simp [hb]
def total : Ru.Runs → Int
 | [] => 0
 | p :: r => p.1 + total r
def spans (line : Int) : Int → Ru.Runs → Ru.Runs
 | _, [] => []
 | a, p :: r => (if p.2 = line then [(a, a + p.1)] else []) ++ spans line (a + p.1) r
def of (line : Int) (l : List Int) : Ru.Runs := spans line 0 (Ru.of l)
def step (line : Int) (out : Ru.Runs) (i x : Int) : Ru.Runs :=
 if x = line then
   match out.getLast? with
   | some p => if p.2 = i then out.dropLast ++ [(p.1, i + 1)] else out ++ [(i, i + 1)]
   | none => [(i, i + 1)]
 else out
theorem total_snoc (r : Ru.Runs) (p : Int × Int) : total (r ++ [p]) = total r + p.1 := by
 induction r with
 | nil => simp [total]
 | cons q r ih => simp only [List.cons_append, total, ih]; omega
theorem total_pos {r : Ru.Runs} (h : ∀ p ∈ r, 1 ≤ p.1) : 0 ≤ total r := by
 induction r with
 | nil => exact Int.le_refl _
 | cons q r ih =>
   have h1 := h q (by simp)
   have h2 := ih (fun p hp => h p (by simp [hp]))
   simp only [total]
   omega
theorem total_of (l : List Int) : total (Ru.of l) = (l.length : Int) := by
 induction l using Ru.snocRec with
 | nil => rfl
 | append_singleton l x ih =>
   rw [Ru.of_snoc, List.length_append, List.length_singleton]
   rcases Ru.last_cases (Ru.of l) with h | ⟨pre, ⟨n, v⟩, h⟩
   · rw [h] at ih ⊢
     rw [Ru.snoc_nil]
     simp only [total] at ih ⊢
     omega
   · rw [h] at ih ⊢
     rw [total_snoc] at ih
     by_cases e : v = x
     · subst e
       rw [Ru.snoc_same, total_snoc]
       simp only at ih ⊢
       omega
     · rw [Ru.snoc_other _ _ _ _ e, total_snoc, total_snoc]
       simp only at ih ⊢
       omega
theorem spans_snoc (line : Int) (r : Ru.Runs) (p : Int × Int) : ∀ a, spans line a (r ++ [p]) = spans line a r ++ (if p.2 = line then [(a + total r, a + total r + p.1)] else []) := by
 induction r with
 | nil => intro a; simp [spans, total]
 | cons q r ih =>
   intro a
   simp only [List.cons_append, spans, total, ih, List.append_assoc, Int.add_assoc]
theorem spans_len (line : Int) (r : Ru.Runs) : ∀ a, (spans line a r).length ≤ r.length := by
 induction r with
 | nil => intro a; exact Nat.le_refl _
 | cons q r ih =>
   intro a
   have := ih (a + q.1)
   simp only [spans, List.length_append, List.length_cons]
   split <;> simp <;> omega
theorem spans_end {line : Int} {r : Ru.Runs} (h : ∀ p ∈ r, 1 ≤ p.1) : ∀ a, ∀ q ∈ spans line a r, q.2 ≤ a + total r := by
 induction r with
 | nil => intro a q hq; simp [spans] at hq
 | cons p r ih =>
   intro a q hq
   have h1 := h p (by simp)
   have h2 := total_pos (r := r) (fun p hp => h p (by simp [hp]))
   simp only [total]
   rcases List.mem_append.1 hq with hq | hq
   · split at hq
     · rw [List.mem_singleton] at hq
       subst hq
       simp only
       omega
     · simp at hq
   · have := ih (fun p hp => h p (by simp [hp])) _ q hq
     omega
theorem of_len (line : Int) (l : List Int) : (of line l).length ≤ l.length := Nat.le_trans (spans_len _ _ _) (Ru.of_len l)
theorem step_other {line x : Int} (out : Ru.Runs) (i : Int) (h : x ≠ line) : step line out i x = out := by rw [step, if_neg h]
theorem step_nil (line i : Int) : step line [] i line = [(i, i + 1)] := by simp [step]
theorem step_same (line i f : Int) (pre : Ru.Runs) : step line (pre ++ [(f, i)]) i line = pre ++ [(f, i + 1)] := by simp [step]
theorem step_new {line i f t : Int} (pre : Ru.Runs) (h : t ≠ i) : step line (pre ++ [(f, t)]) i line = pre ++ [(f, t)] ++ [(i, i + 1)] := by simp [step, h]
theorem of_snoc (line : Int) (l : List Int) (x : Int) : of line (l ++ [x]) = step line (of line l) l.length x := by
 have ht := total_of l
 have hp := Ru.of_pos l
 unfold of
 rw [Ru.of_snoc]
 rcases Ru.last_cases (Ru.of l) with h | ⟨pre, ⟨n, v⟩, h⟩
 · rw [h] at ht ⊢
   simp only [total] at ht
   rw [Ru.snoc_nil, ← ht]
   by_cases e : x = line
   · subst e
     simp [spans, step]
   · simp [spans, step, e]
 · rw [h] at ht hp ⊢
   rw [total_snoc] at ht
   have hn : 1 ≤ n := hp (n, v) (by simp)
   by_cases e : v = x
   · subst e
     rw [Ru.snoc_same, spans_snoc, spans_snoc]
     by_cases e2 : v = line
     · subst e2
       simp only [if_true, Int.zero_add]
       simp only at ht
       rw [ht, step_same, ← ht, Int.add_assoc]
     · simp only [if_neg e2]
       rw [step_other _ _ e2]
   · rw [Ru.snoc_other _ _ _ _ e, spans_snoc, total_snoc, spans_snoc]
     by_cases e2 : x = line
     · subst e2
       simp only [if_true, if_neg e, List.append_nil, Int.zero_add]
       simp only at ht
       rw [ht]
       rcases Ru.last_cases (spans x 0 pre) with hs | ⟨q, ⟨f, t⟩, hs⟩
       · rw [hs, step_nil]
         rfl
       · have := spans_end (line := x) (r := pre) (fun p hp' => hp p (by simp [hp'])) 0 (f, t) (by rw [hs]; simp)
         rw [hs, step_new]
         simp only at this
         omega
     · simp only [if_neg e2, List.append_nil]
       rw [step_other _ _ e2]
theorem of_take (line : Int) (l : List Int) (k : Nat) (h : k < l.length) : of line (l.take (k + 1)) = step line (of line (l.take k)) (k : Int) (l.getD k 0) := by
 rw [Ru.take_snoc l k h, of_snoc, List.length_take, Nat.min_eq_left (Nat.le_of_lt h)]
end Go.Proofs.YtdopheoedpldiaaGreatDoor.Li
namespace Go.Proofs.YtdopheoedpldiaaGreatDoor.Tr
structure Nd where
 p : Int
 f : Int
 l : Int
 a : Int
 g : Int
 t : Int
 r : Int
def Nd.nil : Nd := ⟨0, 0, 0, 0, 0, 0, 0⟩
def Nd.list (n : Nd) : List Int := [n.p, n.f, n.l, n.a, n.g, n.t, n.r]
def fits (to : Int) (n : Nd) : Bool := decide (0 ≤ n.f ∧ n.f ≤ 39 ∧ 0 ≤ n.l ∧ n.l ≤ 65535 ∧ 0 ≤ n.g ∧ n.g ≤ 8 ∧ to ≤ n.a ∧ n.a ≤ 256 ∧ n.a ≤ n.t ∧ n.t ≤ 256 ∧ n.g ≤ n.t - n.a)
def head (n : Nd) : Bool := decide (n.p = -1 ∧ n.l = 0 ∧ n.a = 0 ∧ n.r = 0)
def other (i : Nat) (n : Nd) : Bool := decide (0 ≤ n.p ∧ n.p < (i : Int) ∧ 1 ≤ n.r ∧ n.r ≤ 1999)
def ok (i : Nat) (to : Int) (n : Nd) : Bool := fits to n && (if i = 0 then head n else other i n)
def run : Nat → Int → List Nd → Bool
 | _, _, [] => true
 | i, to, n :: r => ok i to n && run (i + 1) n.t r
def right (l : List Nd) : Bool := decide (1 ≤ l.length) && decide (l.length ≤ 120) && run 0 0 l
theorem drop_at {l : List Nd} {k : Nat} (h : k < l.length) : l.drop k = l.getD k Nd.nil :: l.drop (k + 1) := by
 rw [List.drop_eq_getElem_cons h]
 simp [List.getD, h]
theorem run_at {l : List Nd} {k : Nat} (h : k < l.length) (to : Int) : run k to (l.drop k) = (ok k to (l.getD k Nd.nil) && run (k + 1) (l.getD k Nd.nil).t (l.drop (k + 1))) := by
 rw [drop_at h]
 rfl
theorem run_end {l : List Nd} {k : Nat} (h : l.length ≤ k) (to : Int) : run k to (l.drop k) = true := by
 rw [List.drop_eq_nil_of_le h]
 rfl
theorem right_run {l : List Nd} (h : right l = true) : 1 ≤ l.length ∧ l.length ≤ 120 ∧ run 0 0 l = true := by
 unfold right at h
 simp only [Bool.and_eq_true, decide_eq_true_eq] at h
 exact ⟨h.1.1, h.1.2, h.2⟩
def tos (l : List Nd) (k : Nat) : Int := if k = 0 then 0 else (l.getD (k - 1) Nd.nil).t
theorem tos_succ (l : List Nd) (k : Nat) : tos l (k + 1) = (l.getD k Nd.nil).t := by simp [tos]
theorem fits_iff {to : Int} {n : Nd} : fits to n = true ↔ 0 ≤ n.f ∧ n.f ≤ 39 ∧ 0 ≤ n.l ∧ n.l ≤ 65535 ∧ 0 ≤ n.g ∧ n.g ≤ 8 ∧ to ≤ n.a ∧ n.a ≤ 256 ∧ n.a ≤ n.t ∧ n.t ≤ 256 ∧ n.g ≤ n.t - n.a := decide_eq_true_iff
def up (l : List Nd) : Nat → Int → List Int
 | 0, _ => []
 | fuel + 1, n => if 0 ≤ n ∧ n < (l.length : Int) then n :: up l fuel (l.getD n.toNat Nd.nil).p else []
def ups (l : List Nd) (n : Int) : List Int := up l (l.length + 1) n
def inside (l : List Nd) (n under : Int) : Bool := (ups l n).any (· == under)
def own (l : List Nd) (n : Int) : Sl.Four := if n < 0 ∨ (l.length : Int) ≤ n then Sl.no else Sl.range (l.getD n.toNat Nd.nil).a (l.getD n.toNat Nd.nil).t
def all (l : List Nd) : Nat → Sl.Four
 | 0 => Sl.no
 | k + 1 => (all l k).or (own l (k : Int))
def one (n : Nd) : List Nat := n.list.flatMap fun x => Uv.put (Uv.fold x)
def bytes (l : List Nd) : List Nat := Uv.put l.length ++ l.flatMap one
theorem one_append (n : Nd) : one n = Uv.put (Uv.fold n.p) ++ (Uv.put (Uv.fold n.f) ++ (Uv.put (Uv.fold n.l) ++ (Uv.put (Uv.fold n.a) ++ (Uv.put (Uv.fold n.g) ++ (Uv.put (Uv.fold n.t) ++ Uv.put (Uv.fold n.r)))))) := by simp [one, Nd.list]
theorem flat_take {l : List Nd} {k : Nat} (h : k < l.length) : (l.take (k + 1)).flatMap one = (l.take k).flatMap one ++ one (l.getD k Nd.nil) := by
 have e : l.take (k + 1) = l.take k ++ [l.getD k Nd.nil] := by
   rw [List.take_succ_eq_append_getElem h]
   simp [List.getD, h]
 rw [e, List.flatMap_append]
 simp
theorem one_byte (n : Nd) : ∀ c ∈ one n, c < 256 := by
 intro c hc
 obtain ⟨x, _, hx⟩ := List.mem_flatMap.1 hc
 exact Uv.put_byte _ c hx
theorem bytes_byte (l : List Nd) : ∀ c ∈ bytes l, c < 256 := by
 intro c hc
 rcases List.mem_append.1 hc with hc | hc
 · exact Uv.put_byte _ c hc
 · obtain ⟨x, _, hx⟩ := List.mem_flatMap.1 hc
   exact one_byte x c hx
def Nd.wf (n : Nd) : Prop := ∀ x ∈ n.list, -9223372036854775808 ≤ x ∧ x ≤ 9223372036854775807
theorem one_len {n : Nd} (h : n.wf) : (one n).length ≤ 70 := by
 have each : ∀ x ∈ n.list, (Uv.put (Uv.fold x)).length ≤ 10 := fun x hx => Uv.put_len_10 (Uv.fold_lt (h x hx).1 (h x hx).2)
 have h0 := each n.p (by simp [Nd.list])
 have h1 := each n.f (by simp [Nd.list])
 have h2 := each n.l (by simp [Nd.list])
 have h3 := each n.a (by simp [Nd.list])
 have h4 := each n.g (by simp [Nd.list])
 have h5 := each n.t (by simp [Nd.list])
 have h6 := each n.r (by simp [Nd.list])
 rw [one_append]
 simp only [List.length_append]
 omega
theorem flat_len {l : List Nd} (h : ∀ n ∈ l, n.wf) : (l.flatMap one).length ≤ 70 * l.length := by
 induction l with
 | nil => exact Nat.le_refl _
 | cons n r ih =>
   have h1 := one_len (h n (by simp))
   have h2 := ih (fun m hm => h m (by simp [hm]))
   rw [List.flatMap_cons, List.length_append, List.length_cons]
   omega
theorem bytes_len {l : List Nd} (h : ∀ n ∈ l, n.wf) (hl : l.length < 18446744073709551616) : (bytes l).length ≤ 10 + 70 * l.length := by
 have h1 := Uv.put_len_10 hl
 have h2 := flat_len h
 rw [bytes, List.length_append]
 omega
end Go.Proofs.YtdopheoedpldiaaGreatDoor.Tr
