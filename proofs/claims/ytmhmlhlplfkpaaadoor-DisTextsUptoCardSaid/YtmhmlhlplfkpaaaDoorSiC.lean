/-
 What sig.Text and the document's Text tell. Conditions: the list can be read; at most a million types.
-/
import Derived.Test.YtmhmlhlplfkpaaaDoorSiOp
import Derived.Test.YtmhmlhlplfkpaaaDoorBlR
set_option maxRecDepth 100000
namespace Go.Proofs.YtmhmlhlplfkpaaaDoor
open Go.RowKit
theorem letters_snoc {l : List Int} {k : Nat} (h : k < l.length) : (l.take (k + 1)).map Si.letter = (l.take k).map Si.letter ++ [Si.letter (l.getD k 0)] := by
 rw [take_snoc l k h, List.map_append]
 rfl
theorem letters_len {l : List Int} {k : Nat} (h : k ≤ l.length) : ((l.take k).map Si.letter).length = k := by simp; omega
def TxtRel (n : Nat) (l : List Int) (w : World) (i : Value) (wr : World) : Prop :=
 ∃ k : Nat, k ≤ n ∧ i = .int .i64 (k : Int) ∧ Bld w.heap.size w.heap.size (((l.take k).map Si.letter).map UInt8.ofNat) wr ∧ Below w.heap.size w wr
set_option maxHeartbeats 1000000 in
theorem sitext_any (a : Option Addr) (n c : Nat) (l : List Int) (w : World) (h : IntsAt w w.heap.size a n l) (hn : n ≤ 1048576) :
   Calls Tryd.prog 15 #[.slice a n c] w (StrP (str (Si.text l)) w) := by
 have H := Lib.hid h
 have hl : l.length = n := h.1
 clear h
 by_cases h0 : n = 0
 · subst h0
   rw [show str (Si.text l) = ⟨#[45]⟩ by rw [Si.text, if_pos hl]; rfl]
   go_enter Tryd.func15, Tryd.ntmps15
   go_wp2
   go_ret
   exact ⟨rfl, Below.refl _ _⟩
 · have hd : ((n : Int) == 0) = false := beq_eq_false_iff_ne.2 (by omega)
   have HT : Hid (Si.text l = l.map Si.letter) := Lib.hid (by unfold Si.text; rw [if_neg (by omega)])
   have HL := Lib.hid hl
   clear hl h0
   go_enter Tryd.func15, Tryd.ntmps15
   go_wp2
   go_loopw [5, 11] (fun _ i wr => TxtRel n l w i wr) (fun _ i _ => n - (intOf i).toNat)
   case atStart => exact ⟨0, Nat.zero_le _, rfl, Lib.IsBuilderF.of (Lib.fresh_isBuilder 41 5 w), (Below.refl _ _).alloc (Nat.le_refl _) _⟩
   case round =>
     obtain ⟨k, hk, rfl, hI, hB⟩ := hrel
     have HB := Lib.hid hB
     clear hB
     by_cases hlt : k < n
     · obtain ⟨b, off, x, rfl, _, hc, hx, hkl⟩ := ints_cell (H.out.below HB.out) hlt
       have hsz := HB.out.size
       have hln := letters_len (l := l) (k := k) (by omega)
       have HR := Lib.hid (bld_rune w.heap.size w.heap.size _ (Si.letter x) (Si.letter_lt x) wr hI (by rw [List.length_map, hln]; omega) hsz)
       have HS := Lib.hid (letters_snoc hkl)
       rw [hx] at HS
       have HLe := siletter_any x
       clear hI hx hln hsz hkl
       go_wp2_with (first
         | (go_at_call 26; refine (HLe _).mono ?_; rintro _ wa ⟨rfl, he⟩; obtain rfl := he.symm)
         | (go_at_call 25; refine HR.out.mono ?_; rintro _ w2 ⟨rfl, hI2, hb2⟩))
       go_roundw
       case rel =>
         refine ⟨k + 1, hlt, by go_num, ?_, HB.out.trans hb2⟩
         rw [HS.out, List.map_append]
         exact hI2
       case measure => simp [intOf]; omega
     · have hkn : k = n := by omega
       subst hkn
       have hSt := bld_string w.heap.size w.heap.size _ wr hI HB.out.size
       have HE : Hid (l.take k = l) := Lib.hid (List.take_of_length_le (by rw [HL.out]; omega))
       rw [HE.out] at hSt
       rw [show (⟨(List.map UInt8.ofNat (List.map Si.letter l)).toArray⟩ : ByteArray) = str (Si.text l) by rw [HT.out]; rfl] at hSt
       have HSt := Lib.hid hSt
       clear hI hSt
       generalize str (Si.text l) = s at *
       go_wp2_with (go_at_call 13; refine HSt.out.mono ?_; rintro _ w2 ⟨rfl, _, hb2⟩)
       go_ret
       exact ⟨rfl, HB.out.trans hb2⟩
set_option maxHeartbeats 1000000 in
theorem rsitext_any (a : Option Addr) (n c B : Nat) (l : List Int) (w : World) (h : IntsAt w B a n l) (hn : n ≤ 1048576) :
   Calls Tryd.prog 33 #[.slice a n c] w (SameP (.string (str (Si.text l))) w) := by
 have H := Lib.hid h
 clear h
 go_enter Tryd.func33, Tryd.ntmps33
 go_wp2
 go_loopw [3, 4] (fun s i wr => ∃ k : Nat, k ≤ n ∧ s = .string (str ((l.take k).map Si.letter)) ∧ i = .int .i64 (k : Int) ∧ wr = w) (fun _ i _ => n - (intOf i).toNat)
 case atStart => exact ⟨0, Nat.zero_le _, rfl, rfl, rfl⟩
 case round =>
   obtain ⟨k, hk, rfl, rfl, rfl⟩ := hrel
   by_cases hlt : k < n
   · obtain ⟨b, off, x, rfl, _, hc, hx, hkl⟩ := ints_cell H.out hlt
     have HS : Hid (str ((l.take (k + 1)).map Si.letter) = str ((l.take k).map Si.letter) ++ str [Si.letter x]) := Lib.hid (by rw [letters_snoc hkl, hx, str_append])
     have hs1 : (str ((l.take k).map Si.letter)).size ≤ 1048576 := by rw [str_size, letters_len (by omega)]; omega
     clear hx hkl
     generalize str ((l.take k).map Si.letter) = s at *
     rcases ty_kinds x with rfl | rfl | ⟨e1, e2, _, el⟩
     · go_wp2
       go_roundw
       case rel => exact ⟨k + 1, hlt, by rw [HS.out]; rfl, by go_num, by trivial⟩
       case measure => simp [intOf]; omega
     · go_wp2
       go_roundw
       case rel => exact ⟨k + 1, hlt, by rw [HS.out]; rfl, by go_num, by trivial⟩
       case measure => simp [intOf]; omega
     · rw [el] at HS
       clear el
       go_wp2
       go_roundw
       case rel => exact ⟨k + 1, hlt, by rw [HS.out]; rfl, by go_num, by trivial⟩
       case measure => simp [intOf]; omega
   · have hkn : k = n := by omega
     subst hkn
     have HL : Hid (l.length = k) := Lib.hid H.out.1
     have HE : Hid (l.take k = l) := Lib.hid (List.take_of_length_le (by rw [HL.out]; omega))
     rw [HE.out]
     by_cases h0 : k = 0
     · subst h0
       have HN : Hid (l = []) := Lib.hid (List.length_eq_zero_iff.1 HL.out)
       rw [HN.out]
       have hd : (str (List.map Si.letter [])).toList.isEmpty = true := by kernel_rfl
       have HX : Hid (str (Si.text l) = ⟨#[45]⟩) := Lib.hid (by rw [HN.out]; rfl)
       generalize str (List.map Si.letter []) = s at *
       go_wp2
       go_ret
       exact ⟨by rw [HX.out]; rfl, rfl⟩
     · have hd : (str (List.map Si.letter l)).toList.isEmpty = false := by
         have h1 : (str (List.map Si.letter l)).toList.length = k := by rw [ByteArray.toList_eq]; show (str (List.map Si.letter l)).size = k; rw [str_size, List.length_map, HL.out]
         generalize (str (List.map Si.letter l)).toList = y at h1
         cases y with
         | nil => exact absurd h1.symm h0
         | cons _ _ => rfl
       have HT : Hid (Si.text l = l.map Si.letter) := Lib.hid (by unfold Si.text; rw [if_neg (by rw [HL.out]; exact h0)])
       have HX : Hid (str (Si.text l) = str (List.map Si.letter l)) := Lib.hid (by rw [HT.out])
       generalize str (List.map Si.letter l) = s at *
       go_wp2
       go_ret
       exact ⟨by rw [HX.out]; rfl, rfl⟩
end Go.Proofs.YtmhmlhlplfkpaaaDoor
