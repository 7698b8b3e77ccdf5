/-
 A text cut at a byte: the pieces, one by one and all of them. Conditions: none.
-/
import Derived.Test.YtfopelegobhegaaGreatDoorPMa
import Derived.Lib.Bytealg
import Derived.Shelf.Strings.Runes
import Derived.Shelf.Small.Utf8
import Derived.Shelf.Strconv.Clone
import Derived.Lib.Small
import Derived.BigQuiet
import Derived.Test.YtfopelegobhegaaGreatDoorChecked
set_option maxRecDepth 100000
namespace Go.Proofs.YtfopelegobhegaaGreatDoor
open Go.RowKit
namespace As
def pieces (c : UInt8) : List UInt8 → List (List UInt8)
 | [] => [[]]
 | x :: r => if x = c then [] :: pieces c r else match pieces c r with
   | [] => [[x]]
   | p :: ps => (x :: p) :: ps
def text (l : List UInt8) : ByteArray := ⟨l.toArray⟩
def words (c : UInt8) (s : ByteArray) : List ByteArray := (pieces c s.data.toList).map text
def at_ (c : UInt8) (s : ByteArray) : Nat := s.data.toList.findIdx (· == c)
def ahead (c : UInt8) (s : ByteArray) : ByteArray := s.extract 0 (at_ c s)
def behind (c : UInt8) (s : ByteArray) : ByteArray := s.extract (at_ c s + 1) s.size
def more (c : UInt8) (s : ByteArray) : Bool := decide (at_ c s < s.size)
theorem at_le (c : UInt8) (s : ByteArray) : at_ c s ≤ s.size := List.findIdx_le_length
theorem behind_size {c : UInt8} {s : ByteArray} (h : more c s = true) : (behind c s).size + 1 ≤ s.size := by
 have h1 := of_decide_eq_true h
 unfold behind
 rw [ByteArray.size_extract]
 omega
theorem ahead_size (c : UInt8) (s : ByteArray) : (ahead c s).size ≤ s.size := by
 unfold ahead
 rw [ByteArray.size_extract]
 omega
theorem behind_le (c : UInt8) (s : ByteArray) : (behind c s).size ≤ s.size := by
 unfold behind
 rw [ByteArray.size_extract]
 omega
theorem index_at (c : UInt8) : ∀ l : List UInt8, Lib.indexByte l c = if l.findIdx (· == c) < l.length then ((l.findIdx (· == c) : Nat) : Int) else -1
 | [] => by simp [Lib.indexByte]
 | b :: l => by
   have ih := index_at c l
   unfold Lib.indexByte
   rw [ih, List.findIdx_cons]
   by_cases hb : b = c
   · subst hb
     simp
   · have h2 : (b == c) = false := by simpa using hb
     simp only [h2, cond_false, Bool.false_eq_true, if_false, List.length_cons, Nat.add_lt_add_iff_right]
     by_cases hl : l.findIdx (· == c) < l.length
     · rw [if_pos hl, if_pos hl, if_neg (by simp)]
       rfl
     · rw [if_neg hl, if_neg hl]
       simp
theorem index_text (c : UInt8) (s : ByteArray) : Lib.indexByte s.data.toList c = if more c s then ((at_ c s : Nat) : Int) else -1 := by
 rw [index_at]
 unfold more at_
 rw [Lib.size_eq]
 simp only [decide_eq_true_eq]
theorem behind_none {c : UInt8} {s : ByteArray} (h : more c s = false) : behind c s = ⟨#[]⟩ ∧ ahead c s = s := by
 have h1 := of_decide_eq_false h
 have h2 := at_le c s
 have he : at_ c s = s.size := by omega
 constructor
 · apply In.list_ext
   unfold behind
   rw [Lib.extract_data, List.drop_of_length_le (by rw [← Lib.size_eq]; omega), List.take_nil]
 · apply In.list_ext
   unfold ahead
   rw [Lib.extract_data, he, List.drop_zero, List.take_of_length_le (by rw [Lib.size_eq]; omega)]
theorem pieces_hit (c : UInt8) (r : List UInt8) : pieces c (c :: r) = [] :: pieces c r := by
 conv => lhs; unfold pieces
 rw [if_pos rfl]
theorem pieces_miss {c x : UInt8} (h : x ≠ c) {r p : List UInt8} {ps : List (List UInt8)} (e : pieces c r = p :: ps) : pieces c (x :: r) = (x :: p) :: ps := by
 conv => lhs; unfold pieces
 rw [if_neg h, e]
theorem pieces_cut (c : UInt8) : ∀ l : List UInt8, pieces c l = l.take (l.findIdx (· == c)) :: (if l.findIdx (· == c) < l.length then pieces c (l.drop (l.findIdx (· == c) + 1)) else [])
 | [] => by simp [pieces]
 | x :: r => by
   have ih := pieces_cut c r
   rw [List.findIdx_cons]
   by_cases hb : x = c
   · subst hb
     rw [pieces_hit]
     simp only [beq_self_eq_true, cond_true, List.take_zero, List.length_cons, Nat.zero_lt_succ, if_true, List.drop_succ_cons, List.drop_zero, Nat.zero_add]
   · have h2 : (x == c) = false := by simpa using hb
     rw [pieces_miss hb ih, h2]
     simp only [cond_false, List.take_succ_cons, List.length_cons, Nat.add_lt_add_iff_right, List.drop_succ_cons]
theorem words_cut (c : UInt8) (s : ByteArray) : words c s = ahead c s :: (if more c s then words c (behind c s) else []) := by
 unfold words
 rw [pieces_cut, List.map_cons]
 have e1 : text (s.data.toList.take (s.data.toList.findIdx (· == c))) = ahead c s := by
   apply In.list_ext
   unfold ahead text at_
   rw [Lib.extract_data]
   simp
 rw [e1]
 congr 1
 unfold more at_
 by_cases h : s.data.toList.findIdx (· == c) < s.data.toList.length
 · rw [if_pos h, if_pos (decide_eq_true (by rw [Lib.size_eq]; exact h))]
   congr 2
   unfold behind at_
   rw [Lib.extract_data, List.take_of_length_le (by rw [List.length_drop, Lib.size_eq]; omega)]
 · rw [if_neg h, if_neg (fun e => h (by have := of_decide_eq_true e; rwa [Lib.size_eq] at this))]
   rfl
theorem words_size (c : UInt8) : ∀ (n : Nat) (s : ByteArray), s.size ≤ n → ∀ x ∈ words c s, x.size ≤ s.size
 | n, s, h, x, hx => by
   rw [words_cut] at hx
   rcases List.mem_cons.1 hx with rfl | hx
   · exact ahead_size c s
   · by_cases hm : more c s = true
     · rw [if_pos hm] at hx
       have h1 := behind_size hm
       match n, h with
       | 0, h => omega
       | n + 1, h =>
         have := words_size c n (behind c s) (by omega) x hx
         omega
     · rw [if_neg hm] at hx
       cases hx
theorem words_len (c : UInt8) : ∀ (n : Nat) (s : ByteArray), s.size ≤ n → (words c s).length ≤ s.size + 1
 | n, s, h => by
   rw [words_cut, List.length_cons]
   by_cases hm : more c s = true
   · rw [if_pos hm]
     have h1 := behind_size hm
     match n, h with
     | 0, h => omega
     | n + 1, h =>
       have := words_len c n (behind c s) (by omega)
       omega
   · rw [if_neg hm]
     simp
end As
end Go.Proofs.YtfopelegobhegaaGreatDoor
namespace Go.Proofs
open Go.Shelf
def Tryz.lays152_ren : Go.Shelf.Ren := ⟨fun | 152 => 32 | 137 => 55 | 119 => 56 | 224 => 57 | 225 => 58 | 217 => 75 | 266 => 99 | n => n, fun | 9 => 9 | 21 => 21 | 3 => 3 | 4 => 4 | 5 => 5 | 0 => 0 | 46 => 101 | n => n, fun | n => n⟩
theorem Tryz.lays152 : Go.Proofs.Lays.n152 Tryz.prog Tryz.lays152_ren := {
 mixed := by kernel_rfl
 f119 := Tryz.func56.trans (congrArg some (by kernel_rfl))
 f137 := Tryz.func55.trans (congrArg some (by kernel_rfl))
 f152 := Tryz.func32.trans (congrArg some (by kernel_rfl))
 f217 := Tryz.func75.trans (congrArg some (by kernel_rfl))
 f224 := Tryz.func57.trans (congrArg some (by kernel_rfl))
 f225 := Tryz.func58.trans (congrArg some (by kernel_rfl))
 f266 := Tryz.func99.trans (congrArg some (by kernel_rfl))
 t0 := Tryz.underlying0
 a0 := Tryz.isAgg0
 z0 := Tryz.sizeOf0
 v0 := Tryz.zeroValue0
 t3 := Tryz.underlying3
 a3 := Tryz.isAgg3
 z3 := Tryz.sizeOf3
 v3 := Tryz.zeroValue3
 t4 := Tryz.underlying4
 a4 := Tryz.isAgg4
 z4 := Tryz.sizeOf4
 v4 := Tryz.zeroValue4
 t5 := Tryz.underlying5
 a5 := Tryz.isAgg5
 z5 := Tryz.sizeOf5
 v5 := Tryz.zeroValue5
 t9 := Tryz.underlying9
 a9 := Tryz.isAgg9
 z9 := Tryz.sizeOf9
 v9 := Tryz.zeroValue9
 t21 := Tryz.underlying21
 a21 := Tryz.isAgg21
 z21 := Tryz.sizeOf21
 v21 := Tryz.zeroValue21
 t46 := Tryz.underlying101
 a46 := Tryz.isAgg101
 z46 := Tryz.sizeOf101
 v46 := Tryz.zeroValue101 }
def Tryz.lays118_ren : Go.Shelf.Ren := ⟨fun | 118 => 33 | n => n, fun | 21 => 21 | 3 => 3 | 4 => 4 | n => n, fun | n => n⟩
theorem Tryz.lays118 : Go.Proofs.Lays.n118 Tryz.prog Tryz.lays118_ren := {
 mixed := by kernel_rfl
 f118 := Tryz.func33.trans (congrArg some (by kernel_rfl))
 t3 := Tryz.underlying3
 a3 := Tryz.isAgg3
 z3 := Tryz.sizeOf3
 v3 := Tryz.zeroValue3
 t4 := Tryz.underlying4
 a4 := Tryz.isAgg4
 z4 := Tryz.sizeOf4
 v4 := Tryz.zeroValue4
 t21 := Tryz.underlying21
 a21 := Tryz.isAgg21
 z21 := Tryz.sizeOf21
 v21 := Tryz.zeroValue21 }
def Tryz.laysM316_ren : Go.Shelf.Ren := ⟨fun | 316 => 46 | n => n, fun | 9 => 9 | 3 => 3 | 4 => 4 | 37 => 109 | 0 => 0 | 127 => 110 | 5 => 5 | n => n, fun | n => n⟩
theorem Tryz.laysM316 : Go.Proofs.LaysM.n316 Tryz.prog Tryz.laysM316_ren := {
 mixed := by kernel_rfl
 f316 := Tryz.func46.trans (congrArg some (by kernel_rfl))
 t0 := Tryz.underlying0
 a0 := Tryz.isAgg0
 z0 := Tryz.sizeOf0
 v0 := Tryz.zeroValue0
 t3 := Tryz.underlying3
 a3 := Tryz.isAgg3
 z3 := Tryz.sizeOf3
 v3 := Tryz.zeroValue3
 t4 := Tryz.underlying4
 a4 := Tryz.isAgg4
 z4 := Tryz.sizeOf4
 v4 := Tryz.zeroValue4
 t9 := Tryz.underlying9
 a9 := Tryz.isAgg9
 z9 := Tryz.sizeOf9
 v9 := Tryz.zeroValue9
 t37 := Tryz.underlying109
 a37 := Tryz.isAgg109
 z37 := Tryz.sizeOf109
 v37 := Tryz.zeroValue109
 t127 := Tryz.underlying110
 a127 := Tryz.isAgg110
 z127 := Tryz.sizeOf110
 v127 := Tryz.zeroValue110
 t5 := Tryz.underlying5
 a5 := Tryz.isAgg5
 z5 := Tryz.sizeOf5
 v5 := Tryz.zeroValue5
 i0 := by kernel_rfl
 i3 := by kernel_rfl
 i4 := by kernel_rfl
 i5 := by kernel_rfl
 i9 := by kernel_rfl
 i37 := by kernel_rfl
 i127 := by kernel_rfl }
end Go.Proofs
namespace Go.Proofs.YtfopelegobhegaaGreatDoor
open Go.RowKit
theorem index_rune (s : ByteArray) (c : Nat) (hc : c < 128) (w : World) : Calls Tryz.prog 32 #[.string s, .int .i32 (c : Int)] w fun e w' => e = .returned (.int .i64 (if As.more c.toUInt8 s then ((As.at_ c.toUInt8 s : Nat) : Int) else -1)) ∧ w' = w := by
 have H := Any.strings_IndexRune_ascii Tryz.lays152 s (c : Int) w (by omega) (by omega)
 rw [Int.toNat_natCast, As.index_text] at H
 exact H
theorem rune_len (c : Nat) (hc : c < 128) (w : World) : Calls Tryz.prog 33 #[.int .i32 (c : Int)] w fun e w' => e = .returned (.int .i64 1) ∧ w' = w := by
 have H := Any.utf8_RuneLen Tryz.lays118 (c : Int) w
 rw [show Lib.runeLen (c : Int) = 1 by unfold Lib.runeLen; rw [if_neg (by omega), if_pos (by omega)]] at H
 exact H
theorem lite_clone (s : ByteArray) (hs : s.size ≤ 281474976710656) (w : World) : Calls Tryz.prog 46 #[.string s] w fun e w' => e = .returned (.string s) ∧ Below w.heap.size w w' := Any.stringslite_Clone Tryz.laysM316 s w hs
set_option maxHeartbeats 1000000 in
theorem strclone_any (s : ByteArray) (hs : s.size ≤ 281474976710656) (w : World) : Calls Tryz.prog 18 #[.string s] w fun e w' => e = .returned (.string s) ∧ Below w.heap.size w w' := by
 have H := lite_clone s hs w
 go_enter Tryz.func18, Tryz.ntmps18
 go_wp2_with (go_at_call 46; refine H.mono ?_; rintro _ w' ⟨rfl, hb⟩)
 go_ret
 exact ⟨rfl, hb⟩
set_option maxHeartbeats 4000000 in
theorem ascut_any (s : ByteArray) (hs : s.size ≤ 9223372036854775806) (c : Nat) (hc : c < 128) (w : World) : Calls Tryz.prog 11 #[.string s, .int .i32 (c : Int)] w fun e w' => e = .returned (.tuple #[.string (As.ahead c.toUInt8 s), .string (As.behind c.toUInt8 s), .bool (As.more c.toUInt8 s)]) ∧ ∃ n, w' = w.drewN n := by
 have HI := index_rune s c hc w
 have HR := fun W => rune_len c hc W
 have hle := As.at_le c.toUInt8 s
 obtain ⟨q, hq⟩ : ∃ q, As.at_ c.toUInt8 s = q := ⟨_, rfl⟩
 obtain ⟨A, hA⟩ : ∃ A, As.ahead c.toUInt8 s = A := ⟨_, rfl⟩
 obtain ⟨B, hB⟩ : ∃ B, As.behind c.toUInt8 s = B := ⟨_, rfl⟩
 have hA2 : s.extract 0 q = A := by rw [← hA, As.ahead, hq]
 have hB2 : s.extract (q + 1) s.size = B := by rw [← hB, As.behind, hq]
 have HN := Lib.hid (fun h => As.behind_none (c := c.toUInt8) (s := s) h)
 rw [hA, hB] at HN
 have hM : As.more c.toUInt8 s = decide (q < s.size) := by rw [← hq]; rfl
 rw [hq] at HI hle
 rw [hA, hB]
 clear hq hA hB
 go_enter Tryz.func11, Tryz.ntmps11
 by_cases hlt : q < s.size
 · rw [hM, decide_eq_true hlt] at HI ⊢
   rw [if_pos rfl] at HI
   have hd : decide ((q : Int) < 0) = false := decide_eq_false (by omega)
   have hle2 : (q : Int) + 1 ≤ (s.size : Int) := by omega
   have hex1 : ∀ W, (Instr.slice 9 (.string s) none (some (.int .i64 (q : Int))) none).run Tryz.prog W = .ok (.string A) W := by
     intro W
     rw [← hA2, run_slice_string_h (P := Tryz.prog) (s := s) (w := W) (t := 9) Tryz.underlying9 .i64 (q : Int) (by omega) (by omega)]
     congr 2
   have hex2 : ∀ W, (Instr.slice 9 (.string s) (some (.int .i64 ((q : Int) + 1))) none none).run Tryz.prog W = .ok (.string B) W := by
     intro W
     rw [← hB2, run_slice_string_l (P := Tryz.prog) (s := s) (w := W) (t := 9) Tryz.underlying9 .i64 ((q : Int) + 1) (by omega) (by omega)]
     congr 2
   clear hM HN hA2 hB2
   go_wp2_with (go_at_call 32; refine HI.mono ?_; rintro _ w' ⟨rfl, he⟩; obtain rfl := he.symm)
   go_quiet (first | (go_at_call 33; refine Calls.quiet_of_same (HR _)))
   go_wp2
   go_ret3
   exact ⟨rfl, _, rfl⟩
 · rw [hM, decide_eq_false hlt] at HI ⊢
   rw [if_neg (by decide)] at HI
   obtain ⟨e1, e2⟩ := HN.out (by rw [hM]; exact decide_eq_false hlt)
   rw [e1, e2]
   clear hM HN hA2 hB2 e1 e2 hlt hle
   go_wp2_with (go_at_call 32; refine HI.mono ?_; rintro _ w' ⟨rfl, he⟩; obtain rfl := he.symm)
   go_ret3
   exact ⟨rfl, 0, rfl⟩
theorem ascut_blank (s : ByteArray) (hs : s.size ≤ 9223372036854775806) (w : World) : Calls Tryz.prog 11 #[.string s, .int .i32 32] w fun e w' => e = .returned (.tuple #[.string (As.ahead 32 s), .string (As.behind 32 s), .bool (As.more 32 s)]) ∧ ∃ n, w' = w.drewN n := ascut_any s hs 32 (by decide) w
theorem ascut_line (s : ByteArray) (hs : s.size ≤ 9223372036854775806) (w : World) : Calls Tryz.prog 11 #[.string s, .int .i32 10] w fun e w' => e = .returned (.tuple #[.string (As.ahead 10 s), .string (As.behind 10 s), .bool (As.more 10 s)]) ∧ ∃ n, w' = w.drewN n := ascut_any s hs 10 (by decide) w
theorem empty_of {s : ByteArray} (h : s.size = 0) : s = ⟨#[]⟩ := ByteArray.ext (Array.eq_empty_of_size_eq_zero h)
theorem not_empty {s : ByteArray} (h : s.size ≠ 0) : s.toList.isEmpty = false := by
 have h2 : s.toList.length = s.size := by rw [ByteArray.toList_eq]; rfl
 generalize s.toList = y at h2
 cases y with
 | nil => simp at h2; omega
 | cons _ _ => rfl
end Go.Proofs.YtfopelegobhegaaGreatDoor
