/-
  Which instructions may be, their text, and what is read of a text: the plain mathematics. Conditions: none.
-/
import Derived.Test.YtifkoihhlhadhaaDoorOpMath
import Derived.Test.YtifkoihhlhadhaaDoorOpScan
import Derived.Test.YtifkoihhlhadhaaDoorInNum
import Derived.Lib.IndexMore
import Derived.Lib.Strings
namespace Go.Proofs.YtifkoihhlhadhaaDoor
open Go.RowKit Go.Lib
namespace In

/-- What an operand of a kind is below. -/
def bound (k : Int) : Int := if k = 2 then 256 else if k = 3 then 2000 else if k = 4 then 40 else if k = 5 then 4 else if k = 6 then 120 else 1
def kind (op : Int) : Int := (Op.row op).operand
theorem kind_in (op : Int) : 0 ≤ kind op ∧ kind op ≤ 6 := by
  unfold kind Op.row
  split
  · have h : Op.rows.all (fun r => decide (0 ≤ r.operand) && decide (r.operand ≤ 6)) = true := by kernel_rfl
    rcases Nat.lt_or_ge op.toNat Op.rows.length with hl | hl
    · rw [List.getD_eq_getElem?_getD, List.getElem?_eq_getElem hl]
      have := List.all_eq_true.1 h _ (List.getElem_mem hl)
      simp only [Bool.and_eq_true, decide_eq_true_eq] at this
      exact this
    · rw [List.getD_eq_getElem?_getD, List.getElem?_eq_none hl]
      exact ⟨by decide, by decide⟩
  · exact ⟨by decide, by decide⟩
theorem kind_out {op : Int} (h : ¬ (0 ≤ op ∧ op < 35)) : kind op = 0 := by
  unfold kind
  rw [Op.row_out h]
  rfl
/-- May an operand of that kind be so? -/
def fits (k a : Int) : Bool := decide (k = 1) || (decide (0 ≤ a) && decide (a < bound k))
def known (op : Int) : Bool := decide (0 ≤ op) && decide (op < 35)
theorem known_iff {op : Int} : known op = true ↔ 0 ≤ op ∧ op < 35 := by
  unfold known
  simp
/-- Does a number stand behind it? -/
def numbered (op : Int) : Bool := decide (kind op ≠ 0)
/-- May an instruction be? -/
def right (op a : Int) : Bool := known op && fits (kind op) a
theorem right_known {op a : Int} (h : right op a = true) : 0 ≤ op ∧ op < 35 := by
  unfold right at h
  rw [Bool.and_eq_true] at h
  exact known_iff.1 h.1
theorem right_bare {op a : Int} (h : right op a = true) (hn : numbered op = false) : a = 0 := by
  have hk : kind op = 0 := by unfold numbered at hn; simpa using hn
  unfold right fits at h
  rw [hk] at h
  simp [bound] at h
  omega
theorem bare_right {op : Int} (h : 0 ≤ op ∧ op < 35) (hn : numbered op = false) : right op 0 = true := by
  have hk : kind op = 0 := by unfold numbered at hn; simpa using hn
  unfold right fits
  rw [known_iff.2 h, hk]
  decide

/-- The text of an instruction. -/
def text (op a : Int) : ByteArray := if right op a then (if numbered op then Op.name op ++ ⟨#[32]⟩ ++ txt a else Op.name op) else ⟨#[]⟩

/-- The place of the first blank, or the end. -/
def at_ (s : ByteArray) : Nat := s.data.toList.findIdx (· == 32)
def head (s : ByteArray) : ByteArray := s.extract 0 (at_ s)
def tail (s : ByteArray) : ByteArray := s.extract (at_ s + 1) s.size
def more (s : ByteArray) : Bool := decide (at_ s < s.size)
theorem at_le (s : ByteArray) : at_ s ≤ s.size := List.findIdx_le_length

theorem index_blank : ∀ l : List UInt8, Lib.index l [32] = if l.findIdx (· == 32) < l.length then ((l.findIdx (· == 32) : Nat) : Int) else -1
  | [] => by simp [Lib.index]
  | b :: l => by
    have ih := index_blank l
    unfold Lib.index
    rw [ih, List.findIdx_cons]
    by_cases hb : b = 32
    · subst hb
      simp
    · have h1 : ((32 : UInt8) == b) = false := by simpa using fun e => hb e.symm
      have h2 : (b == (32 : UInt8)) = false := by simpa using hb
      simp only [List.isPrefixOf, h1, h2, cond_false, Bool.false_and, Bool.false_eq_true, if_false, List.length_cons, Nat.add_lt_add_iff_right]
      by_cases hl : l.findIdx (· == 32) < l.length
      · rw [if_pos hl, if_pos hl, if_neg (by simp)]
        rfl
      · rw [if_neg hl, if_neg hl]
        simp

theorem cut_blank (s : ByteArray) : (⟨(Lib.cut s.data.toList [32]).1.toArray⟩ : ByteArray) = head s ∧ (⟨(Lib.cut s.data.toList [32]).2.1.toArray⟩ : ByteArray) = tail s ∧ (Lib.cut s.data.toList [32]).2.2 = more s := by
  have hs : s.data.toList.length = s.size := (size_eq s).symm
  have hE : ∀ (x : ByteArray) (l : List UInt8), x.data.toList = l → (⟨l.toArray⟩ : ByteArray) = x := by
    rintro x l rfl
    apply ByteArray.ext
    simp
  unfold Lib.cut
  rw [index_blank]
  by_cases hl : s.data.toList.findIdx (· == 32) < s.data.toList.length
  · rw [if_pos hl, if_pos (by omega)]
    refine ⟨hE _ _ ?_, hE _ _ ?_, ?_⟩
    · unfold head at_
      rw [extract_data]
      simp
    · unfold tail at_
      rw [extract_data, List.take_of_length_le (by rw [List.length_drop]; omega)]
      simp
    · unfold more at_
      rw [← hs]
      exact (decide_eq_true hl).symm
  · rw [if_neg hl, if_neg (by decide)]
    have he : s.data.toList.findIdx (· == 32) = s.data.toList.length := by
      have := List.findIdx_le_length (xs := s.data.toList) (p := (· == 32))
      omega
    refine ⟨hE _ _ ?_, hE _ _ ?_, ?_⟩
    · unfold head at_
      rw [extract_data, he, List.drop_zero, List.take_of_length_le (by omega)]
    · unfold tail at_
      rw [extract_data, he, List.drop_of_length_le (by omega), List.take_nil]
    · unfold more at_
      rw [he, hs]
      simp

/-- What is read of a text: the instruction, and the error. -/
def read (s : ByteArray) : (Int × Int) × Nat :=
  if (Op.find (head s)).2 = false then ((0, 0), 8)
  else if more s ≠ numbered (Op.find (head s)).1 then ((0, 0), 5)
  else if more s then
    (if (num (tail s)).2 ≠ 0 then ((0, 0), (num (tail s)).2)
     else if right (Op.find (head s)).1 (num (tail s)).1 then (((Op.find (head s)).1, (num (tail s)).1), 0) else ((0, 0), 2))
  else (((Op.find (head s)).1, 0), 0)

theorem find_in {s : ByteArray} (h : (Op.find s).2 = true) : 0 ≤ (Op.find s).1 ∧ (Op.find s).1 < 35 := by
  unfold Op.find at h ⊢
  cases hf : Op.all.find? (fun x => decide (x.2 = s)) with
  | none => rw [hf] at h; cases h
  | some x =>
    have := Op.num_of (List.mem_of_find?_eq_some hf)
    simp only
    omega
theorem find_name {op : Int} (h : 0 ≤ op ∧ op < 35) : Op.find (Op.name op) = (op, true) := by
  have := Op.find_of (Op.all_has (k := op.toNat) (by omega))
  simp only at this
  rw [show ((op.toNat : Nat) : Int) = op by omega] at this
  exact this
theorem name_blank {op : Int} : ∀ c ∈ (Op.name op).data.toList, c ≠ 32 := by
  unfold Op.name
  split
  · have h : Op.names.all (fun x => x.data.toList.all fun c => decide (c ≠ 32)) = true := by kernel_rfl
    rcases Nat.lt_or_ge op.toNat Op.names.length with hl | hl
    · rw [List.getD_eq_getElem?_getD, List.getElem?_eq_getElem hl]
      intro c hc
      exact of_decide_eq_true (List.all_eq_true.1 (List.all_eq_true.1 h _ (List.getElem_mem hl)) c hc)
    · rw [List.getD_eq_getElem?_getD, List.getElem?_eq_none hl]
      intro c hc
      cases hc
  · intro c hc
    cases hc

theorem parts_name {x : ByteArray} (h : ∀ c ∈ x.data.toList, c ≠ 32) : head x = x ∧ more x = false := by
  have he : at_ x = x.size := by
    unfold at_
    rw [size_eq]
    apply List.findIdx_eq_length_of_false
    intro c hc
    simpa using h c hc
  constructor
  · unfold head
    rw [he]
    apply list_ext
    rw [extract_data, List.drop_zero, List.take_of_length_le (by rw [size_eq]; omega)]
  · unfold more
    rw [he]
    simp
theorem parts_both {x d : ByteArray} (h : ∀ c ∈ x.data.toList, c ≠ 32) : head (x ++ ⟨#[32]⟩ ++ d) = x ∧ tail (x ++ ⟨#[32]⟩ ++ d) = d ∧ more (x ++ ⟨#[32]⟩ ++ d) = true := by
  have hl : (x ++ ⟨#[32]⟩ ++ d).data.toList = x.data.toList ++ 32 :: d.data.toList := by simp
  have hsz : (x ++ ⟨#[32]⟩ ++ d).size = x.data.toList.length + 1 + d.data.toList.length := by
    rw [size_eq, hl, List.length_append, List.length_cons]
    omega
  have he : at_ (x ++ ⟨#[32]⟩ ++ d) = x.data.toList.length := by
    unfold at_
    rw [hl, List.findIdx_append]
    have : x.data.toList.findIdx (· == 32) = x.data.toList.length := List.findIdx_eq_length_of_false (fun c hc => by simpa using h c hc)
    rw [this, List.findIdx_cons]
    simp
  refine ⟨list_ext ?_, list_ext ?_, ?_⟩
  · unfold head
    rw [extract_data, he, hl]
    simp
  · unfold tail
    rw [extract_data, he, hl, hsz]
    have : x.data.toList.length + 1 = (x.data.toList ++ [32]).length := by simp
    rw [show x.data.toList ++ 32 :: d.data.toList = (x.data.toList ++ [32]) ++ d.data.toList by simp, this, List.drop_left]
    rw [List.take_of_length_le (by simp)]
  · unfold more
    rw [he, hsz]
    simp
    omega

/-- A text is read as what it is the text of. -/
theorem read_text {op a : Int} (h : right op a = true) (h0 : -9223372036854775808 ≤ a) (h1 : a ≤ 9223372036854775807) : read (text op a) = ((op, a), 0) := by
  have hk := right_known h
  unfold text
  rw [if_pos h]
  cases hn : numbered op with
  | true =>
    rw [if_pos rfl]
    obtain ⟨e1, e2, e3⟩ := parts_both (x := Op.name op) (d := txt a) name_blank
    unfold read
    rw [e1, e2, e3, find_name hk, num_txt h0 h1 rfl]
    simp [hn, h]
  | false =>
    rw [if_neg (by decide)]
    obtain ⟨e1, e3⟩ := parts_name (x := Op.name op) name_blank
    unfold read
    rw [e1, e3, find_name hk, right_bare h hn]
    simp [hn]
end In
end Go.Proofs.YtifkoihhlhadhaaDoor
