/-
 A text cut at a byte: the pieces, one by one and all of them. Conditions: none.
-/
import Derived.Lib.Bytealg
import Derived.Shelf.Strings.Runes
import Derived.Shelf.Small.Utf8
import Derived.Shelf.Strconv.Clone
import Derived.Lib.Small
import Derived.Test.YtmhmlhlplfkpaaaGreatDoorChecked
import Derived.Test.YtmhmlhlplfkpaaaGreatDoorInO
import Derived.Test.YtmhmlhlplfkpaaaGreatDoorFlN
import Derived.Test.YtmhmlhlplfkpaaaGreatDoorSiE
set_option maxRecDepth 100000
namespace Go.Proofs.YtmhmlhlplfkpaaaGreatDoor
open Go.RowKit
namespace As
def pieces (c : UInt8) : List UInt8 → List (List UInt8)
 | [] => [[]]
 | x :: r => if x = c then [] :: pieces c r else match pieces c r with
   | [] => [[x]]
   | p :: ps => (x :: p) :: ps
def text (l : List UInt8) : ByteArray := ⟨l.toArray⟩
def words (c : UInt8) (s : ByteArray) : List ByteArray := (pieces c s.data.toList).map text
def at_ (c : UInt8) (s : ByteArray) : Nat := s.data.toList.findIdx (· == c)
def ahead (c : UInt8) (s : ByteArray) : ByteArray := s.extract 0 (at_ c s)
def behind (c : UInt8) (s : ByteArray) : ByteArray := s.extract (at_ c s + 1) s.size
def more (c : UInt8) (s : ByteArray) : Bool := decide (at_ c s < s.size)
theorem at_le (c : UInt8) (s : ByteArray) : at_ c s ≤ s.size := List.findIdx_le_length
theorem head_ahead (s : ByteArray) : In.head s = ahead 32 s := rfl
theorem tail_behind (s : ByteArray) : In.tail s = behind 32 s := rfl
theorem behind_size {c : UInt8} {s : ByteArray} (h : more c s = true) : (behind c s).size + 1 ≤ s.size := by
 have h1 := of_decide_eq_true h
 unfold behind
 rw [ByteArray.size_extract]
 omega
theorem ahead_size (c : UInt8) (s : ByteArray) : (ahead c s).size ≤ s.size := by
 unfold ahead
 rw [ByteArray.size_extract]
 omega
theorem behind_le (c : UInt8) (s : ByteArray) : (behind c s).size ≤ s.size := by
 unfold behind
 rw [ByteArray.size_extract]
 omega
theorem index_at (c : UInt8) : ∀ l : List UInt8, Lib.indexByte l c = if l.findIdx (· == c) < l.length then ((l.findIdx (· == c) : Nat) : Int) else -1
 | [] => by simp [Lib.indexByte]
 | b :: l => by
   have ih := index_at c l
   unfold Lib.indexByte
   rw [ih, List.findIdx_cons]
   by_cases hb : b = c
   · subst hb
     simp
   · have h2 : (b == c) = false := by simpa using hb
     simp only [h2, cond_false, Bool.false_eq_true, if_false, List.length_cons, Nat.add_lt_add_iff_right]
     by_cases hl : l.findIdx (· == c) < l.length
     · rw [if_pos hl, if_pos hl, if_neg (by simp)]
       rfl
     · rw [if_neg hl, if_neg hl]
       simp
theorem index_text (c : UInt8) (s : ByteArray) : Lib.indexByte s.data.toList c = if more c s then ((at_ c s : Nat) : Int) else -1 := by
 rw [index_at]
 unfold more at_
 rw [Lib.size_eq]
 simp only [decide_eq_true_eq]
theorem behind_none {c : UInt8} {s : ByteArray} (h : more c s = false) : behind c s = ⟨#[]⟩ ∧ ahead c s = s := by
 have h1 := of_decide_eq_false h
 have h2 := at_le c s
 have he : at_ c s = s.size := by omega
 constructor
 · apply In.list_ext
   unfold behind
   rw [Lib.extract_data, List.drop_of_length_le (by rw [← Lib.size_eq]; omega), List.take_nil]
 · apply In.list_ext
   unfold ahead
   rw [Lib.extract_data, he, List.drop_zero, List.take_of_length_le (by rw [Lib.size_eq]; omega)]
theorem pieces_hit (c : UInt8) (r : List UInt8) : pieces c (c :: r) = [] :: pieces c r := by
 conv => lhs; unfold pieces
 rw [if_pos rfl]
theorem pieces_miss {c x : UInt8} (h : x ≠ c) {r p : List UInt8} {ps : List (List UInt8)} (e : pieces c r = p :: ps) : pieces c (x :: r) = (x :: p) :: ps := by
 conv => lhs; unfold pieces
 rw [if_neg h, e]
theorem pieces_cut (c : UInt8) : ∀ l : List UInt8, pieces c l = l.take (l.findIdx (· == c)) :: (if l.findIdx (· == c) < l.length then pieces c (l.drop (l.findIdx (· == c) + 1)) else [])
 | [] => by simp [pieces]
 | x :: r => by
   have ih := pieces_cut c r
   rw [List.findIdx_cons]
   by_cases hb : x = c
   · subst hb
     rw [pieces_hit]
     simp only [beq_self_eq_true, cond_true, List.take_zero, List.length_cons, Nat.zero_lt_succ, if_true, List.drop_succ_cons, List.drop_zero, Nat.zero_add]
   · have h2 : (x == c) = false := by simpa using hb
     rw [pieces_miss hb ih, h2]
     simp only [cond_false, List.take_succ_cons, List.length_cons, Nat.add_lt_add_iff_right, List.drop_succ_cons]
theorem words_cut (c : UInt8) (s : ByteArray) : words c s = ahead c s :: (if more c s then words c (behind c s) else []) := by
 unfold words
 rw [pieces_cut, List.map_cons]
 have e1 : text (s.data.toList.take (s.data.toList.findIdx (· == c))) = ahead c s := by
   apply In.list_ext
   unfold ahead text at_
   rw [Lib.extract_data]
   simp
 rw [e1]
 congr 1
 unfold more at_
 by_cases h : s.data.toList.findIdx (· == c) < s.data.toList.length
 · rw [if_pos h, if_pos (decide_eq_true (by rw [Lib.size_eq]; exact h))]
   congr 2
   unfold behind at_
   rw [Lib.extract_data, List.take_of_length_le (by rw [List.length_drop, Lib.size_eq]; omega)]
 · rw [if_neg h, if_neg (fun e => h (by have := of_decide_eq_true e; rwa [Lib.size_eq] at this))]
   rfl
theorem words_size (c : UInt8) : ∀ (n : Nat) (s : ByteArray), s.size ≤ n → ∀ x ∈ words c s, x.size ≤ s.size
 | n, s, h, x, hx => by
   rw [words_cut] at hx
   rcases List.mem_cons.1 hx with rfl | hx
   · exact ahead_size c s
   · by_cases hm : more c s = true
     · rw [if_pos hm] at hx
       have h1 := behind_size hm
       match n, h with
       | 0, h => omega
       | n + 1, h =>
         have := words_size c n (behind c s) (by omega) x hx
         omega
     · rw [if_neg hm] at hx
       cases hx
theorem words_len (c : UInt8) : ∀ (n : Nat) (s : ByteArray), s.size ≤ n → (words c s).length ≤ s.size + 1
 | n, s, h => by
   rw [words_cut, List.length_cons]
   by_cases hm : more c s = true
   · rw [if_pos hm]
     have h1 := behind_size hm
     match n, h with
     | 0, h => omega
     | n + 1, h =>
       have := words_len c n (behind c s) (by omega)
       omega
   · rw [if_neg hm]
     simp
end As
end Go.Proofs.YtmhmlhlplfkpaaaGreatDoor
namespace Go.Proofs
open Go.Shelf
def Tryz.lays152_ren : Go.Shelf.Ren := ⟨fun | 152 => 98 | 137 => 118 | 119 => 119 | 224 => 120 | 225 => 121 | 217 => 146 | 266 => 171 | n => n, fun | 9 => 9 | 21 => 21 | 3 => 3 | 4 => 4 | 5 => 5 | 0 => 0 | 46 => 126 | n => n, fun | n => n⟩
theorem Tryz.lays152 : Go.Proofs.Lays.n152 Tryz.prog Tryz.lays152_ren := {
 mixed := by kernel_rfl
 f119 := Tryz.func119.trans (congrArg some (by kernel_rfl))
 f137 := Tryz.func118.trans (congrArg some (by kernel_rfl))
 f152 := Tryz.func98.trans (congrArg some (by kernel_rfl))
 f217 := Tryz.func146.trans (congrArg some (by kernel_rfl))
 f224 := Tryz.func120.trans (congrArg some (by kernel_rfl))
 f225 := Tryz.func121.trans (congrArg some (by kernel_rfl))
 f266 := Tryz.func171.trans (congrArg some (by kernel_rfl))
 t0 := Tryz.underlying0
 a0 := Tryz.isAgg0
 z0 := Tryz.sizeOf0
 v0 := Tryz.zeroValue0
 t3 := Tryz.underlying3
 a3 := Tryz.isAgg3
 z3 := Tryz.sizeOf3
 v3 := Tryz.zeroValue3
 t4 := Tryz.underlying4
 a4 := Tryz.isAgg4
 z4 := Tryz.sizeOf4
 v4 := Tryz.zeroValue4
 t5 := Tryz.underlying5
 a5 := Tryz.isAgg5
 z5 := Tryz.sizeOf5
 v5 := Tryz.zeroValue5
 t9 := Tryz.underlying9
 a9 := Tryz.isAgg9
 z9 := Tryz.sizeOf9
 v9 := Tryz.zeroValue9
 t21 := Tryz.underlying21
 a21 := Tryz.isAgg21
 z21 := Tryz.sizeOf21
 v21 := Tryz.zeroValue21
 t46 := Tryz.underlying126
 a46 := Tryz.isAgg126
 z46 := Tryz.sizeOf126
 v46 := Tryz.zeroValue126 }
def Tryz.lays118_ren : Go.Shelf.Ren := ⟨fun | 118 => 99 | n => n, fun | 21 => 21 | 3 => 3 | 4 => 4 | n => n, fun | n => n⟩
theorem Tryz.lays118 : Go.Proofs.Lays.n118 Tryz.prog Tryz.lays118_ren := {
 mixed := by kernel_rfl
 f118 := Tryz.func99.trans (congrArg some (by kernel_rfl))
 t3 := Tryz.underlying3
 a3 := Tryz.isAgg3
 z3 := Tryz.sizeOf3
 v3 := Tryz.zeroValue3
 t4 := Tryz.underlying4
 a4 := Tryz.isAgg4
 z4 := Tryz.sizeOf4
 v4 := Tryz.zeroValue4
 t21 := Tryz.underlying21
 a21 := Tryz.isAgg21
 z21 := Tryz.sizeOf21
 v21 := Tryz.zeroValue21 }
def Tryz.laysM316_ren : Go.Shelf.Ren := ⟨fun | 316 => 149 | n => n, fun | 9 => 9 | 3 => 3 | 4 => 4 | 37 => 53 | 0 => 0 | 127 => 102 | 5 => 5 | n => n, fun | n => n⟩
theorem Tryz.laysM316 : Go.Proofs.LaysM.n316 Tryz.prog Tryz.laysM316_ren := {
 mixed := by kernel_rfl
 f316 := Tryz.func149.trans (congrArg some (by kernel_rfl))
 t0 := Tryz.underlying0
 a0 := Tryz.isAgg0
 z0 := Tryz.sizeOf0
 v0 := Tryz.zeroValue0
 t3 := Tryz.underlying3
 a3 := Tryz.isAgg3
 z3 := Tryz.sizeOf3
 v3 := Tryz.zeroValue3
 t4 := Tryz.underlying4
 a4 := Tryz.isAgg4
 z4 := Tryz.sizeOf4
 v4 := Tryz.zeroValue4
 t9 := Tryz.underlying9
 a9 := Tryz.isAgg9
 z9 := Tryz.sizeOf9
 v9 := Tryz.zeroValue9
 t37 := Tryz.underlying53
 a37 := Tryz.isAgg53
 z37 := Tryz.sizeOf53
 v37 := Tryz.zeroValue53
 t127 := Tryz.underlying102
 a127 := Tryz.isAgg102
 z127 := Tryz.sizeOf102
 v127 := Tryz.zeroValue102
 t5 := Tryz.underlying5
 a5 := Tryz.isAgg5
 z5 := Tryz.sizeOf5
 v5 := Tryz.zeroValue5
 i0 := by kernel_rfl
 i3 := by kernel_rfl
 i4 := by kernel_rfl
 i5 := by kernel_rfl
 i9 := by kernel_rfl
 i37 := by kernel_rfl
 i127 := by kernel_rfl }
end Go.Proofs
namespace Go.Proofs.YtmhmlhlplfkpaaaGreatDoor
open Go.RowKit
theorem index_rune (s : ByteArray) (c : Nat) (hc : c < 128) (w : World) : Calls Tryz.prog 98 #[.string s, .int .i32 (c : Int)] w fun e w' => e = .returned (.int .i64 (if As.more c.toUInt8 s then ((As.at_ c.toUInt8 s : Nat) : Int) else -1)) ∧ w' = w := by
 have H := Any.strings_IndexRune_ascii Tryz.lays152 s (c : Int) w (by omega) (by omega)
 rw [Int.toNat_natCast, As.index_text] at H
 exact H
theorem rune_len (c : Nat) (hc : c < 128) (w : World) : Calls Tryz.prog 99 #[.int .i32 (c : Int)] w fun e w' => e = .returned (.int .i64 1) ∧ w' = w := by
 have H := Any.utf8_RuneLen Tryz.lays118 (c : Int) w
 rw [show Lib.runeLen (c : Int) = 1 by unfold Lib.runeLen; rw [if_neg (by omega), if_pos (by omega)]] at H
 exact H
theorem lite_clone (s : ByteArray) (hs : s.size ≤ 281474976710656) (w : World) : Calls Tryz.prog 149 #[.string s] w fun e w' => e = .returned (.string s) ∧ Below w.heap.size w w' := Any.stringslite_Clone Tryz.laysM316 s w hs
set_option maxHeartbeats 1000000 in
theorem strclone_any (s : ByteArray) (hs : s.size ≤ 281474976710656) (w : World) : Calls Tryz.prog 124 #[.string s] w fun e w' => e = .returned (.string s) ∧ Below w.heap.size w w' := by
 have H := lite_clone s hs w
 go_enter Tryz.func124, Tryz.ntmps124
 go_wp2_with (go_at_call 149; refine H.mono ?_; rintro _ w' ⟨rfl, hb⟩)
 go_ret
 exact ⟨rfl, hb⟩
set_option maxHeartbeats 4000000 in
theorem ascut_any (s : ByteArray) (hs : s.size ≤ 9223372036854775806) (c : Nat) (hc : c < 128) (w : World) : Calls Tryz.prog 72 #[.string s, .int .i32 (c : Int)] w fun e w' => e = .returned (.tuple #[.string (As.ahead c.toUInt8 s), .string (As.behind c.toUInt8 s), .bool (As.more c.toUInt8 s)]) ∧ ∃ n, w' = w.drewN n := by
 have HI := index_rune s c hc w
 have HR := fun W => rune_len c hc W
 have hle := As.at_le c.toUInt8 s
 obtain ⟨q, hq⟩ : ∃ q, As.at_ c.toUInt8 s = q := ⟨_, rfl⟩
 obtain ⟨A, hA⟩ : ∃ A, As.ahead c.toUInt8 s = A := ⟨_, rfl⟩
 obtain ⟨B, hB⟩ : ∃ B, As.behind c.toUInt8 s = B := ⟨_, rfl⟩
 have hA2 : s.extract 0 q = A := by rw [← hA, As.ahead, hq]
 have hB2 : s.extract (q + 1) s.size = B := by rw [← hB, As.behind, hq]
 have HN := Lib.hid (fun h => As.behind_none (c := c.toUInt8) (s := s) h)
 rw [hA, hB] at HN
 have hM : As.more c.toUInt8 s = decide (q < s.size) := by rw [← hq]; rfl
 rw [hq] at HI hle
 rw [hA, hB]
 clear hq hA hB
 go_enter Tryz.func72, Tryz.ntmps72
 by_cases hlt : q < s.size
 · rw [hM, decide_eq_true hlt] at HI ⊢
   rw [if_pos rfl] at HI
   have hd : decide ((q : Int) < 0) = false := decide_eq_false (by omega)
   have hle2 : (q : Int) + 1 ≤ (s.size : Int) := by omega
   have hex1 : ∀ W, (Instr.slice 9 (.string s) none (some (.int .i64 (q : Int))) none).run Tryz.prog W = .ok (.string A) W := by
     intro W
     rw [← hA2, run_slice_string_h (P := Tryz.prog) (s := s) (w := W) (t := 9) Tryz.underlying9 .i64 (q : Int) (by omega) (by omega)]
     congr 2
   have hex2 : ∀ W, (Instr.slice 9 (.string s) (some (.int .i64 ((q : Int) + 1))) none none).run Tryz.prog W = .ok (.string B) W := by
     intro W
     rw [← hB2, run_slice_string_l (P := Tryz.prog) (s := s) (w := W) (t := 9) Tryz.underlying9 .i64 ((q : Int) + 1) (by omega) (by omega)]
     congr 2
   clear hM HN hA2 hB2
   go_wp2_with (go_at_call 98; refine HI.mono ?_; rintro _ w' ⟨rfl, he⟩; obtain rfl := he.symm)
   go_quiet (first | (go_at_call 99; refine Calls.quiet_of_same (HR _)))
   go_wp2
   go_ret3
   exact ⟨rfl, _, rfl⟩
 · rw [hM, decide_eq_false hlt] at HI ⊢
   rw [if_neg (by decide)] at HI
   obtain ⟨e1, e2⟩ := HN.out (by rw [hM]; exact decide_eq_false hlt)
   rw [e1, e2]
   clear hM HN hA2 hB2 e1 e2 hlt hle
   go_wp2_with (go_at_call 98; refine HI.mono ?_; rintro _ w' ⟨rfl, he⟩; obtain rfl := he.symm)
   go_ret3
   exact ⟨rfl, 0, rfl⟩
theorem ascut_blank (s : ByteArray) (hs : s.size ≤ 9223372036854775806) (w : World) : Calls Tryz.prog 72 #[.string s, .int .i32 32] w fun e w' => e = .returned (.tuple #[.string (As.ahead 32 s), .string (As.behind 32 s), .bool (As.more 32 s)]) ∧ ∃ n, w' = w.drewN n := ascut_any s hs 32 (by decide) w
theorem ascut_line (s : ByteArray) (hs : s.size ≤ 9223372036854775806) (w : World) : Calls Tryz.prog 72 #[.string s, .int .i32 10] w fun e w' => e = .returned (.tuple #[.string (As.ahead 10 s), .string (As.behind 10 s), .bool (As.more 10 s)]) ∧ ∃ n, w' = w.drewN n := ascut_any s hs 10 (by decide) w
theorem empty_of {s : ByteArray} (h : s.size = 0) : s = ⟨#[]⟩ := ByteArray.ext (Array.eq_empty_of_size_eq_zero h)
theorem not_empty {s : ByteArray} (h : s.size ≠ 0) : s.toList.isEmpty = false := by
 have h2 : s.toList.length = s.size := by rw [ByteArray.toList_eq]; rfl
 generalize s.toList = y at h2
 cases y with
 | nil => simp at h2; omega
 | cons _ _ => rfl
end Go.Proofs.YtmhmlhlplfkpaaaGreatDoor
namespace Go.Proofs.YtmhmlhlplfkpaaaGreatDoor
open Go.RowKit
namespace As
def line (s : ByteArray) : ((Int × Int) × Int) × Nat :=
 if (In.num (ahead 32 s)).2 ≠ 0 ∨ (In.num (ahead 32 s)).1 < 0 ∨ 65535 < (In.num (ahead 32 s)).1 ∨ (behind 32 s).size = 0 then (((0, 0), 0), 19)
 else if (In.read (behind 32 s)).2 ≠ 0 then (((0, 0), 0), (In.read (behind 32 s)).2) else (((In.read (behind 32 s)).1, (In.num (ahead 32 s)).1), 0)
theorem line_bad {s : ByteArray} {n : Int} {er : Nat} (h : In.num (ahead 32 s) = (n, er)) (hb : er ≠ 0 ∨ n < 0 ∨ 65535 < n ∨ (behind 32 s).size = 0) : line s = (((0, 0), 0), 19) := by
 unfold line
 rw [h, if_pos hb]
theorem line_not {s : ByteArray} {n : Int} {er : Nat} {x : Int × Int} (h : In.num (ahead 32 s) = (n, 0)) (h0 : 0 ≤ n) (h1 : n ≤ 65535) (h2 : (behind 32 s).size ≠ 0) (hr : In.read (behind 32 s) = (x, er)) (he : er ≠ 0) : line s = (((0, 0), 0), er) := by
 unfold line
 rw [h, if_neg (by simp only; omega), hr, if_pos he]
theorem line_ok {s : ByteArray} {n : Int} {x : Int × Int} (h : In.num (ahead 32 s) = (n, 0)) (h0 : 0 ≤ n) (h1 : n ≤ 65535) (h2 : (behind 32 s).size ≠ 0) (hr : In.read (behind 32 s) = (x, 0)) : line s = ((x, n), 0) := by
 unfold line
 rw [h, if_neg (by simp only; omega), hr, if_neg (by simp)]
end As
def LineP (s : ByteArray) (w : World) (e : Ending) (w' : World) : Prop :=
 e = .returned (.tuple #[.agg #[.int .i64 (As.line s).1.1.1, .int .i64 (As.line s).1.1.2], .int .i64 (As.line s).1.2, .int .i64 ((As.line s).2 : Int)]) ∧ Below w.heap.size w w'
theorem retLine {s : ByteArray} {op a n c : Int} {e : Nat} (h : As.line s = (((op, a), n), e)) (hc : c = (e : Int) := by rfl) :
   Ending.returned (.tuple #[.agg #[.int .i64 op, .int .i64 a], .int .i64 n, .int .i64 c]) = .returned (.tuple #[.agg #[.int .i64 (As.line s).1.1.1, .int .i64 (As.line s).1.1.2], .int .i64 (As.line s).1.2, .int .i64 ((As.line s).2 : Int)]) := by rw [h, hc]
set_option maxHeartbeats 4000000 in
theorem asline_any (s : ByteArray) (hs : s.size < 4294967281) (w : World) (hg : Glob w) : Calls Tryz.prog 101 #[.string s] w (LineP s w) := by
 have b0 := (Below.refl w.heap.size w).alloc (Nat.le_refl _) (.cells #[.int .i64 0, .int .i64 0] 48)
 have HG0 := Lib.hid (hg.below b0)
 have R0 := Lib.hid (Ins.new w 0 0)
 have B0 := Lib.hid b0
 have HC := ascut_blank s (by omega) (w.alloc (.cells #[.int .i64 0, .int .i64 0] 48))
 have hA1 := As.ahead_size 32 s
 have hB1 := As.behind_le 32 s
 obtain ⟨n, er, hn⟩ : ∃ n er, In.num (As.ahead 32 s) = (n, er) := ⟨_, _, rfl⟩
 obtain ⟨x, e2, hr⟩ : ∃ x e2, In.read (As.behind 32 s) = (x, e2) := ⟨_, _, rfl⟩
 have HBad := Lib.hid (fun h => As.line_bad hn h)
 have HNot := Lib.hid (fun (he : er = 0) h0 h1 h2 he2 => As.line_not (hn.trans (by rw [he])) h0 h1 h2 hr he2)
 have HOk := Lib.hid (fun (he : er = 0) h0 h1 h2 (he2 : e2 = 0) => As.line_ok (hn.trans (by rw [he])) h0 h1 h2 (hr.trans (by rw [he2])))
 have HNu := fun W hW => innumber_any (As.ahead 32 s) (by omega) W hW
 have HRe := fun W hW => inread_any (As.behind 32 s) (by omega) W hW
 unfold NumP at HNu
 unfold ReadP at HRe
 rw [hn] at HNu
 rw [hr] at HRe
 dsimp only at HNu HRe
 clear hn hr b0 hg hA1 hB1 hs
 generalize As.ahead 32 s = A at *
 generalize As.behind 32 s = B at *
 generalize As.more 32 s = m at *
 go_enter Tryz.func101, Tryz.ntmps101
 go_wp2_with fail
 refine HC.mono ?_
 rintro _ w1 ⟨rfl, k, rfl⟩
 have b1 := below_drewN (Below.refl (w.alloc (.cells #[.int .i64 0, .int .i64 0] 48)).heap.size (w.alloc (.cells #[.int .i64 0, .int .i64 0] 48))) k
 have HG1 := Lib.hid (HG0.out.below b1)
 have R1 := Lib.hid (R0.out.on b1)
 have B1 := Lib.hid (B0.out.trans (b1.mono B0.out.size))
 generalize (w.alloc (.cells #[.int .i64 0, .int .i64 0] 48)).drewN k = w1 at *
 clear b1 HG0 R0 B0 HC
 go_wp2_with fail
 refine (HNu _ HG1.out).mono ?_
 rintro _ w2 ⟨rfl, b2⟩
 have HG2 := Lib.hid (HG1.out.below b2)
 have R2 := Lib.hid (R1.out.on b2)
 have B2 := Lib.hid (B1.out.trans (b2.mono B1.out.size))
 clear b2 HG1 R1 B1 HNu
 have x0 := R2.out.c0
 have x1 := R2.out.c1
 have f0 := R2.out.f 0
 have f1 := R2.out.f 1
 by_cases he : er = 0
 rotate_left
 · have HL := Lib.hid (HBad.out (.inl he))
   have hb : ((er : Int) != 0) = true := by rw [bne_iff_ne]; omega
   clear he HNot HOk HBad
   go_wp2
   exact bodyPost_ret (v := .tuple #[.agg #[.int .i64 0, .int .i64 0], .int .i64 0, .int .i64 19]) (by simp [results, Tryz.results101, go_sem, x0, x1]) rfl ⟨retLine HL.out, (B2.out.setCell (by simp) _).setCell (by simp) _⟩
 have hb : ((er : Int) != 0) = false := by rw [bne_eq_false_iff_eq]; omega
 by_cases h0 : n < 0
 · have HL := Lib.hid (HBad.out (.inr (.inl h0)))
   clear he HNot HOk HBad
   go_wp2
   exact bodyPost_ret (v := .tuple #[.agg #[.int .i64 0, .int .i64 0], .int .i64 0, .int .i64 19]) (by simp [results, Tryz.results101, go_sem, x0, x1]) rfl ⟨retLine HL.out, (B2.out.setCell (by simp) _).setCell (by simp) _⟩
 have hd0 : decide (n < 0) = false := decide_eq_false h0
 by_cases h1 : 65535 < n
 · have HL := Lib.hid (HBad.out (.inr (.inr (.inl h1))))
   clear he HNot HOk HBad h0
   go_wp2
   exact bodyPost_ret (v := .tuple #[.agg #[.int .i64 0, .int .i64 0], .int .i64 0, .int .i64 19]) (by simp [results, Tryz.results101, go_sem, x0, x1]) rfl ⟨retLine HL.out, (B2.out.setCell (by simp) _).setCell (by simp) _⟩
 have hd1 : decide (65535 < n) = false := decide_eq_false h1
 by_cases h2 : B.size = 0
 · have HL := Lib.hid (HBad.out (.inr (.inr (.inr h2))))
   obtain rfl := empty_of h2
   clear he HNot HOk HBad h0 h1 h2
   go_wp2
   exact bodyPost_ret (v := .tuple #[.agg #[.int .i64 0, .int .i64 0], .int .i64 0, .int .i64 19]) (by simp [results, Tryz.results101, go_sem, x0, x1]) rfl ⟨retLine HL.out, (B2.out.setCell (by simp) _).setCell (by simp) _⟩
 have hd2 := not_empty h2
 have HNo := Lib.hid (fun he2 => HNot.out he (by omega) (by omega) h2 he2)
 have HO := Lib.hid (fun he2 => HOk.out he (by omega) (by omega) h2 he2)
 clear he HNot HOk HBad h0 h1 h2 x0 x1 f0 f1
 go_wp2_with fail
 refine (HRe _ HG2.out).mono ?_
 rintro _ w3 ⟨rfl, b3⟩
 have R3 := Lib.hid (R2.out.on b3)
 have B3 := Lib.hid (B2.out.trans (b3.mono B2.out.size))
 have b4 := (Below.refl w3.heap.size w3).alloc (Nat.le_refl _) (.cells #[.int .i64 x.1, .int .i64 x.2] 48)
 have R4 := Lib.hid (R3.out.on b4)
 have B4 := Lib.hid (B3.out.trans (b4.mono B3.out.size))
 have I4 := Lib.hid (Ins.new w3 x.1 x.2)
 have x0 := R4.out.c0
 have x1 := R4.out.c1
 have f0 := R4.out.f 0
 have f1 := R4.out.f 1
 have y0 := I4.out.c0
 have y1 := I4.out.c1
 clear b3 b4 HRe R2 R3 B2
 by_cases he2 : e2 = 0
 · subst he2
   have HL := Lib.hid (HO.out rfl)
   clear HNo HO
   go_wp2
   exact bodyPost_ret (v := .tuple #[.agg #[.int .i64 x.1, .int .i64 x.2], .int .i64 n, .int .i64 0]) (by simp [results, Tryz.results101, go_sem, x0, x1]) rfl ⟨retLine HL.out, (B4.out.setCell (by simp) _).setCell (by simp) _⟩
 · have HL := Lib.hid (HNo.out he2)
   have hb2 : ((e2 : Int) != 0) = true := by rw [bne_iff_ne]; omega
   clear HNo HO he2
   go_wp2
   exact bodyPost_ret (v := .tuple #[.agg #[.int .i64 0, .int .i64 0], .int .i64 0, .int .i64 (e2 : Int)]) (by simp [results, Tryz.results101, go_sem, x0, x1]) rfl ⟨retLine HL.out, (B4.out.setCell (by simp) _).setCell (by simp) _⟩
end Go.Proofs.YtmhmlhlplfkpaaaGreatDoor
namespace Go.Proofs.YtmhmlhlplfkpaaaGreatDoor
open Go.RowKit
def lenOf : Value → Nat
 | .slice _ n _ => n
 | _ => 0
namespace As
def Rest (s : ByteArray) (l : List ByteArray) (r : ByteArray) (b : Bool) : Prop := words 32 s = l ++ (if b then words 32 r else []) ∧ r.size ≤ s.size
theorem Rest.first (s : ByteArray) : Rest s [] s true := ⟨rfl, Nat.le_refl _⟩
theorem Rest.next {s r : ByteArray} {l : List ByteArray} (h : Rest s l r true) : Rest s (l ++ [ahead 32 r]) (behind 32 r) (more 32 r) := by
 refine ⟨?_, Nat.le_trans (behind_le 32 r) h.2⟩
 rw [h.1, if_pos rfl, words_cut 32 r]
 simp
theorem Rest.done {s r : ByteArray} {l : List ByteArray} {b : Bool} (h : Rest s l r b) (hl : l.length ≤ 7) (hb : b = false ∨ 6 < l.length) : (words 32 s).take 7 = l := by
 rw [h.1]
 rcases hb with rfl | hb
 · rw [if_neg (by decide), List.append_nil, List.take_of_length_le hl]
 · rw [List.take_append_of_le_length (by omega), List.take_of_length_le hl]
end As
def AsSpRel (s : ByteArray) (w : World) (x u m : Value) (wr : World) : Prop :=
 ∃ (l : List ByteArray) (r : ByteArray) (b : Bool), x = .string r ∧ m = .bool b ∧ l.length ≤ 7 ∧ As.Rest s l r b ∧ wr.ownsRow w.heap.size 9 1 u l.length (strs l) ∧ Below w.heap.size w wr
set_option maxHeartbeats 4000000 in
theorem assplit_any (s : ByteArray) (hs : s.size ≤ 9223372036854775806) (w : World) : Calls Tryz.prog 122 #[.string s, .int .i64 6] w (NewNames ((As.words 32 s).take 7) w) := by
 obtain ⟨i0, hi, hz0, hz1, hz2⟩ := info_parts info_str
 go_enter Tryz.func122, Tryz.ntmps122
 go_wp2
 go_loopw [0, 5, 6, 7] (fun x u m _ wr => AsSpRel s w x u m wr) (fun _ u _ _ _ => 8 - lenOf u)
 case atStart => exact ⟨[], s, true, rfl, rfl, by simp, As.Rest.first s, World.ownsRow_nil _ _ _ _, Below.refl _ _⟩
 case round =>
   obtain ⟨l, r, b, rfl, rfl, hl, hR, hO, hB⟩ := hrel
   obtain ⟨A, n, c, rfl⟩ : ∃ A n c, u5 = .slice A n c := by
     rcases hO.2 with ⟨e, _⟩ | ⟨g, cap, cur, e, _⟩
     · exact ⟨_, _, _, e⟩
     · exact ⟨_, _, _, e⟩
   have HA := names_of_own hO
   obtain ⟨hn, hA⟩ := HA
   have HN := Lib.hid hn
   have HB := Lib.hid hB
   have HO := Lib.hid hO
   have HR := Lib.hid hR
   have HL := Lib.hid hl
   have HAt := Lib.hid hA
   clear hB hO hR hn hA
   by_cases hgo : b = true ∧ n ≤ 6
   · obtain ⟨rfl, h6⟩ := hgo
     have hd : decide ((n : Int) ≤ 6) = true := decide_eq_true (by omega)
     have HC := ascut_blank r (by have := HR.out.2; omega) wr
     have HNx := Lib.hid HR.out.next
     obtain ⟨wd, hwd⟩ : ∃ wd, As.ahead 32 r = wd := ⟨_, rfl⟩
     obtain ⟨r2, hr2⟩ : ∃ r2, As.behind 32 r = r2 := ⟨_, rfl⟩
     obtain ⟨b2, hb2⟩ : ∃ b2, As.more 32 r = b2 := ⟨_, rfl⟩
     rw [hwd, hr2, hb2] at HC HNx
     clear hwd hr2 hb2 hl
     go_wp2_with (first
       | (go_at_call 72; refine HC.mono ?_; clear HC; rintro _ w1 ⟨rfl, k, rfl⟩)
       | (at_builtin; refine wpList_append_lies _ rfl (.tmp 21) (.tmp 23) 73 rfl w.heap.size 9 i0 (.string ⟨#[]⟩) 1 16 Tryz.underlying73 hi hz0 hz1 hz2 rfl (by decide) (.slice A n c) l.length (strs l) rfl ?c0 ⟨wr.heap.size, 0, none⟩ 1 1 (strs [wd]) rfl rfl ?c1 (strs_one _) (by decide) ?c3 ?c4 ?c5 (wr.heap.size + 1) ?c6 ?_))
     case c0 => exact HO.out.alloc _
     case c1 => exact new_str (wr.drewN k) _ _
     case c3 => have := HL.out; unfold maxLen; omega
     case c4 => have := HL.out; omega
     case c5 => have := HB.out.size; simp; omega
     case c6 => simp
     intro g cap w2 hown2 hgrow2 hat2 _
     have HB2 := Lib.hid (own_grown (below_drewN HB.out k) HO.out hgrow2)
     have HO2 := Lib.hid hown2
     clear hown2 hgrow2 hat2
     go_wp2
     go_roundw
     case rel => exact ⟨l ++ [wd], r2, b2, rfl, rfl, by have := HN.out; rw [List.length_append]; simp; omega, HNx.out, by rw [List.length_append, strs_append]; exact HO2.out, HB2.out⟩
     case measure => have := HN.out; simp [lenOf]; omega
   · have HE := Lib.hid (HR.out.done HL.out (by
       cases b with
       | false => exact .inl rfl
       | true =>
         refine .inr (Nat.lt_of_not_le fun h => hgo ⟨rfl, by rw [HN.out]; exact h⟩)))
     have hlast : b = false ∨ (b = true ∧ decide ((n : Int) ≤ 6) = false) := by
       cases b with
       | false => exact .inl rfl
       | true => exact .inr ⟨rfl, decide_eq_false (fun h => hgo ⟨rfl, by omega⟩)⟩
     clear hgo hl
     rcases hlast with rfl | ⟨rfl, hd⟩
     all_goals
       go_wp2
       go_ret
       rw [HE.out]
       exact ⟨A, c, congrArg (fun z => Ending.returned (.slice A z c)) HN.out, HN.out ▸ HAt.out, HB.out⟩
namespace As
def Told (s : ByteArray) (l : List ByteArray) (f i : Nat) : Prop := f ≤ i ∧ i ≤ s.size ∧ words 32 s = l ++ words 32 (s.extract f s.size) ∧ ∀ j, f ≤ j → j < i → Op.byte s j ≠ 32
theorem Told.first (s : ByteArray) : Told s [] 0 0 := ⟨Nat.le_refl _, Nat.zero_le _, by rw [List.nil_append, ByteArray.extract_zero_size], fun j _ h => absurd h (Nat.not_lt_zero _)⟩
theorem Told.on {s : ByteArray} {l : List ByteArray} {f i : Nat} (h : Told s l f i) (hi : i < s.size) (hb : Op.byte s i ≠ 32) : Told s l f (i + 1) :=
 ⟨by have := h.1; omega, hi, h.2.2.1, fun j h1 h2 => by
   rcases Nat.lt_or_eq_of_le (Nat.le_of_lt_succ h2) with h3 | rfl
   · exact h.2.2.2 j h1 h3
   · exact hb⟩
theorem drop_data (s : ByteArray) (f : Nat) : (s.extract f s.size).data.toList = s.data.toList.drop f := by
 rw [Lib.extract_data, List.take_of_length_le (by rw [List.length_drop, Lib.size_eq]; exact Nat.le_refl _)]
theorem byte_32 {s : ByteArray} {j : Nat} (h : j < s.data.toList.length) : (s.data.toList[j] == 32) = decide (Op.byte s j = 32) := by
 unfold Op.byte
 rw [List.getD_eq_getElem?_getD, List.getElem?_eq_getElem h, Option.getD_some, Bool.eq_iff_iff, beq_iff_eq, decide_eq_true_eq]
 exact ⟨fun e => by rw [e]; rfl, fun e => UInt8.toNat_inj.1 e⟩
theorem Told.at_ {s : ByteArray} {l : List ByteArray} {f i : Nat} (h : Told s l f i) (he : i = s.size ∨ Op.byte s i = 32) : at_ 32 (s.extract f s.size) = i - f := by
 obtain ⟨h1, h2, _, h4⟩ := h
 have hsz : s.data.toList.length = s.size := (Lib.size_eq s).symm
 unfold As.at_
 rw [drop_data]
 rcases Nat.lt_or_eq_of_le h2 with hlt | rfl
 · have hl : i - f < (s.data.toList.drop f).length := by rw [List.length_drop]; omega
   rw [List.findIdx_eq hl]
   refine ⟨?_, fun j hj => ?_⟩
   · rw [List.getElem_drop, byte_32]
     rcases he with he | he
     · omega
     · rw [show f + (i - f) = i by omega, he]; rfl
   · rw [List.getElem_drop, byte_32]
     exact decide_eq_false (h4 (f + j) (by omega) (by omega))
 · rw [List.findIdx_eq_length_of_false, List.length_drop, hsz]
   intro x hx
   obtain ⟨j, hj, rfl⟩ := List.mem_iff_getElem.1 hx
   rw [List.getElem_drop, byte_32]
   rw [List.length_drop] at hj
   exact decide_eq_false (h4 (f + j) (by omega) (by omega))
theorem Told.ahead {s : ByteArray} {l : List ByteArray} {f i : Nat} (h : Told s l f i) (he : i = s.size ∨ Op.byte s i = 32) : As.ahead 32 (s.extract f s.size) = s.extract f i := by
 have h1 := h.1
 have h2 := h.2.1
 unfold As.ahead
 rw [h.at_ he]
 apply In.list_ext
 rw [Lib.extract_data, drop_data, Lib.extract_data, List.drop_zero]
 rfl
theorem Told.next {s : ByteArray} {l : List ByteArray} {f i : Nat} (h : Told s l f i) (hi : i < s.size) (hb : Op.byte s i = 32) : Told s (l ++ [s.extract f i]) (i + 1) (i + 1) := by
 have h1 := h.1
 refine ⟨Nat.le_refl _, hi, ?_, fun j h3 h4 => by omega⟩
 have hz : (s.extract f s.size).size = s.size - f := by rw [ByteArray.size_extract]; omega
 have hm : more 32 (s.extract f s.size) = true := by
   unfold more
   rw [h.at_ (.inr hb), hz]
   exact decide_eq_true (by omega)
 have hbh : behind 32 (s.extract f s.size) = s.extract (i + 1) s.size := by
   unfold behind
   rw [h.at_ (.inr hb)]
   apply In.list_ext
   rw [Lib.extract_data, drop_data, drop_data, List.drop_drop, List.take_of_length_le (by rw [List.length_drop, hz]; have := Lib.size_eq s; omega)]
   congr 1
   omega
 rw [h.2.2.1, words_cut 32 (s.extract f s.size), hm, if_pos rfl, h.ahead (.inr hb), hbh]
 simp
theorem Told.last {s : ByteArray} {l : List ByteArray} {f : Nat} (h : Told s l f s.size) : words 32 s = l ++ [s.extract f s.size] := by
 have hz : (s.extract f s.size).size = s.size - f := by rw [ByteArray.size_extract]; omega
 have hm : more 32 (s.extract f s.size) = false := by
   unfold more
   rw [h.at_ (.inl rfl), hz]
   exact decide_eq_false (by omega)
 rw [h.2.2.1, words_cut 32 (s.extract f s.size), hm, if_neg (by decide), h.ahead (.inl rfl)]
end As
end Go.Proofs.YtmhmlhlplfkpaaaGreatDoor
namespace Go.Proofs.YtmhmlhlplfkpaaaGreatDoor
open Go.RowKit
namespace As
def func_ : ByteArray := ⟨#[102, 117, 110, 99]⟩
def part (k : Nat) (t : List Int) (f : Fn.F) : Fn.F := match k with
 | 0 => { f with params := t }
 | 1 => { f with results := t }
 | 2 => { f with locals := t }
 | _ => { f with outer := t }
def parts : Nat → List ByteArray → Fn.F → Fn.F × Nat
 | _, [], f => (f, 0)
 | k, x :: r, f => match Si.read (Si.codes x) with
   | none => (.zero, 5)
   | some t => parts (k + 1) r (part k t f)
def title (x : ByteArray) (n : Nat) : Fn.F := { Fn.F.zero with name := x, inner := decide (n = 6) }
def headOf (l : List ByteArray) : Fn.F × Nat :=
 if l.getD 0 ByteArray.empty ≠ func_ ∨ (l.length ≠ 5 ∧ l.length ≠ 6) then (.zero, 19) else if Nm.may (l.getD 1 ByteArray.empty) = false then (.zero, 7) else parts 0 (l.drop 2) (title (l.getD 1 ByteArray.empty) l.length)
def head (s : ByteArray) : Fn.F × Nat := headOf (words 32 s)
theorem headOf_take (l : List ByteArray) : headOf (l.take 7) = headOf l := by
 by_cases h : l.length ≤ 7
 · rw [List.take_of_length_le h]
 · have h7 : (l.take 7).length = 7 := by rw [List.length_take]; omega
   unfold headOf
   rw [if_pos (.inr (by omega)), if_pos (.inr (by omega))]
theorem head_take {s : ByteArray} {l : List ByteArray} (h : (words 32 s).take 7 = l) : head s = headOf l := by rw [← h, headOf_take]; rfl
theorem head_bad {l : List ByteArray} (h : l.getD 0 ByteArray.empty ≠ func_ ∨ (l.length ≠ 5 ∧ l.length ≠ 6)) : headOf l = (.zero, 19) := if_pos h
theorem head_name {l : List ByteArray} (h0 : l.getD 0 ByteArray.empty = func_) (h1 : l.length = 5 ∨ l.length = 6) (h2 : Nm.may (l.getD 1 ByteArray.empty) = false) : headOf l = (.zero, 7) := by
 unfold headOf
 rw [if_neg (by rintro (h | h); exact h h0; omega), if_pos h2]
theorem head_parts {l : List ByteArray} (h0 : l.getD 0 ByteArray.empty = func_) (h1 : l.length = 5 ∨ l.length = 6) (h2 : Nm.may (l.getD 1 ByteArray.empty) = true) : headOf l = parts 0 (l.drop 2) (title (l.getD 1 ByteArray.empty) l.length) := by
 unfold headOf
 rw [if_neg (by rintro (h | h); exact h h0; omega), if_neg (by rw [h2]; decide)]
theorem drop_word {l : List ByteArray} {i : Nat} (h : i < l.length) : l.drop i = l.getD i ByteArray.empty :: l.drop (i + 1) := by
 rw [List.drop_eq_getElem_cons h]
 congr 1
 simp [List.getD, h]
theorem parts_none {l : List ByteArray} {k i : Nat} {f : Fn.F} (h : i < l.length) (hr : Si.read (Si.codes (l.getD i ByteArray.empty)) = none) : parts k (l.drop i) f = (.zero, 5) := by
 rw [drop_word h]
 unfold parts
 rw [hr]
theorem parts_some {l : List ByteArray} {k i : Nat} {f : Fn.F} {t : List Int} (h : i < l.length) (hr : Si.read (Si.codes (l.getD i ByteArray.empty)) = some t) : parts k (l.drop i) f = parts (k + 1) (l.drop (i + 1)) (part k t f) := by
 rw [drop_word h]
 conv => lhs; unfold parts
 rw [hr]
theorem parts_all {l : List ByteArray} {k i : Nat} {f : Fn.F} (h : l.length ≤ i) : parts k (l.drop i) f = (f, 0) := by
 rw [List.drop_of_length_le h]
 rfl
end As
def vpart (k : Nat) (t : Sl3) (v : FnV) : FnV := match k with
 | 0 => { v with params := t }
 | 1 => { v with results := t }
 | 2 => { v with locals := t }
 | _ => { v with outer := t }
def voff (k : Nat) : Nat := match k with
 | 0 => 3
 | 1 => 4
 | 2 => 5
 | _ => 2
theorem four_cases {k : Nat} (h : k < 4) : k = 0 ∨ k = 1 ∨ k = 2 ∨ k = 3 := by omega
theorem vpart_cells {k : Nat} (h : k < 4) (t : Sl3) (v : FnV) : v.cells.setIfInBounds (voff k) t.val = (vpart k t v).cells := by
 rcases four_cases h with rfl | rfl | rfl | rfl <;> rfl
theorem FnOwn.part {w : World} {base : Nat} {v : FnV} {f : Fn.F} (h : FnOwn w base v f) {k : Nat} (hk : k < 4) {t : Sl3} {l : List Int} (ho : w.ownsRow base 87 1 t.val l.length (vs l)) : FnOwn w base (vpart k t v) (As.part k l f) := by
 rcases four_cases hk with rfl | rfl | rfl | rfl
 · exact ⟨h.name, h.inner, h.outer, ho, h.results, h.locals, h.code, h.lines, h.nodes, h.at_, h.live⟩
 · exact ⟨h.name, h.inner, h.outer, h.params, ho, h.locals, h.code, h.lines, h.nodes, h.at_, h.live⟩
 · exact ⟨h.name, h.inner, h.outer, h.params, h.results, ho, h.code, h.lines, h.nodes, h.at_, h.live⟩
 · exact ⟨h.name, h.inner, ho, h.params, h.results, h.locals, h.code, h.lines, h.nodes, h.at_, h.live⟩
def FnV.titled (x : ByteArray) (b : Bool) : FnV := { FnV.zero with name := x, inner := b }
theorem FnOwn.titled (w : World) (base : Nat) (x : ByteArray) (n : Nat) : FnOwn w base (FnV.titled x (decide (n = 6))) (As.title x n) :=
 ⟨rfl, rfl, World.ownsRow_nil _ _ _ _, World.ownsRow_nil _ _ _ _, World.ownsRow_nil _ _ _ _, World.ownsRow_nil _ _ _ _, World.ownsRow_nil _ _ _ _, World.ownsRow_nil _ _ _ _, World.ownsRow_nil _ _ _ _, World.ownsRow_nil _ _ _ _, World.ownsRow_nil _ _ _ _⟩
def FnV.four (x : ByteArray) (b : Bool) (v : FnV) : FnV := { FnV.zero with name := x, inner := b, outer := v.outer, params := v.params, results := v.results, locals := v.locals }
theorem four_part {k : Nat} (h : k < 4) {x : ByteArray} {b : Bool} {t : Sl3} {v : FnV} (hv : v = FnV.four x b v) : vpart k t v = FnV.four x b (vpart k t v) := by
 rw [hv]
 rcases four_cases h with rfl | rfl | rfl | rfl <;> rfl
def HeadP (o : Fn.F × Nat) (w : World) (e : Ending) (w' : World) : Prop := ∃ v : FnV, e = .returned (.tuple #[.agg v.cells, .int .i64 (o.2 : Int)]) ∧ FnOwn w' w.heap.size v o.1 ∧ (∃ x b, v = FnV.four x b v) ∧ Below w.heap.size w w'
theorem HeadP.bad {o : Fn.F × Nat} {n : Nat} (h : o = (.zero, n)) {w w' : World} (hb : Below w.heap.size w w') : HeadP o w (.returned (.tuple #[.agg FnV.zero.cells, .int .i64 (n : Int)])) w' := by
 subst h
 exact ⟨.zero, rfl, FnOwn.zero _ _, ⟨_, _, rfl⟩, hb⟩
end Go.Proofs.YtmhmlhlplfkpaaaGreatDoor
namespace Go.Proofs.YtmhmlhlplfkpaaaGreatDoor
open Go.RowKit
theorem head_results {B : Nat} {tmps : Array Value} {v : FnV} {w : World} {x : Value} (h2 : tmps.getD 2 undef = .pointer (some ⟨B, 0, none⟩)) (h3 : tmps.getD 3 undef = x) (hr : w.rangeAt B 0 v.cells.toList) : (results Tryz.f100 tmps).run Tryz.prog w = .ok (.tuple #[.agg v.cells, x]) w := by
 have hl := run_loadVar_mid (P := Tryz.prog) w B 0 28 v.cells.toList _ hr Tryz.underlying28 rfl (by kernel_rfl)
 have h4 : tmps[2]?.getD undef = .pointer (some ⟨B, 0, none⟩) := by simpa using h2
 have h5 : tmps[3]?.getD undef = x := by simpa using h3
 simp [results, Tryz.results100, asAddr, h4, h5, hl]
theorem over_new {w W : World} {v0 v : FnV} {R : Nat} (hR : W.heap[R]? = some (.cells v0.cells 28 (0, 0))) (hb : Below w.heap.size w W) (hw : w.heap.size ≤ R) :
   W.there R 0 v.cells.size ∧ (W.setCells R 0 v.cells.toList).rangeAt R 0 v.cells.toList ∧ Below w.heap.size w (W.setCells R 0 v.cells.toList) := by
 have ht : W.there R 0 v.cells.size := there_block hR (Nat.le_of_eq (by rfl))
 refine ⟨ht, World.rangeAt_setCells_same W R 0 v.cells.toList ht, hb.grown (sets_grown R v.cells.toList 0 W) hb.size (fun k e => by injection e with e; omega)⟩
def HdRel (l : List ByteArray) (o : Fn.F × Nat) (m : Nat) (x : ByteArray) (b : Bool) (w : World) (B : Nat) (W0 : World) (i : Value) (wr : World) : Prop :=
 ∃ (k : Nat) (v : FnV) (f : Fn.F), k ≤ m ∧ i = .int .i64 (k : Int) ∧ FnAt wr B v ∧ v = FnV.four x b v ∧ FnOwn wr w.heap.size v f ∧ As.parts k (l.drop (2 + k)) f = o ∧ Off B B W0 wr
def ptrs (B : Nat) : Array Value := #[.pointer (some ⟨B, 3, none⟩), .pointer (some ⟨B, 4, none⟩), .pointer (some ⟨B, 5, none⟩), .pointer (some ⟨B, 2, none⟩)]
theorem ptrs_at (B : Nat) {k : Nat} (h : k < 4) : (ptrs B)[k]? = some (.pointer (some ⟨B, voff k, none⟩)) := by
 rcases four_cases h with rfl | rfl | rfl | rfl <;> rfl
theorem FnAt.at {w : World} {B : Nat} {v : FnV} (h : FnAt w B v) {k : Nat} (hk : k < 4) : ∃ y, w.cell? ⟨B, voff k, none⟩ = some y := by
 rw [h.cell]
 rcases four_cases hk with rfl | rfl | rfl | rfl <;> exact ⟨_, rfl⟩
theorem FnAt.ice {w : World} {B : Nat} {v : FnV} (h : FnAt w B v) (j : Nat) : w.frozen? ⟨B, j, none⟩ = false := by
 unfold FnAt at h
 simp [World.frozen?, h]
theorem FnAt.list {w : World} {B : Nat} {v : FnV} (h : FnAt w B v) {k : Nat} (hk : k < 4) (t : Sl3) : FnAt (w.setCell ⟨B, voff k, none⟩ t.val) B (vpart k t v) := by
 unfold FnAt
 rw [← vpart_cells hk]
 exact mid_set h _
theorem FnOwn.list {w wr w5 : World} {B k : Nat} {v : FnV} {f : Fn.F} {t : Sl3} {l : List Int} (h : FnOwn wr w.heap.size v f) (hB : FnAt wr B v) (hs : w.heap.size ≤ wr.heap.size) (hb : Below wr.heap.size wr w5) (ho : w5.ownsRow wr.heap.size 87 1 t.val l.length (vs l)) (hk : k < 4) :
   FnAt w5 B v ∧ FnAt (w5.setCell ⟨B, voff k, none⟩ t.val) B (vpart k t v) ∧ FnOwn (w5.setCell ⟨B, voff k, none⟩ t.val) w.heap.size (vpart k t v) (As.part k l f) := by
 have h5 : FnAt w5 B v := (hb.block B (FnAt.lt hB)).trans hB
 have hg : w5.grownBy (w5.setCell ⟨B, voff k, none⟩ t.val) (some B) := Lib.grownBy_setB (World.grownBy.refl w5 _) _ _
 have hr : ∀ b, some B = some b → ∃ C t m, w5.heap[b]? = some (.cells C t m) ∧ Else t := fun b e => by injection e with e; subst e; exact ⟨_, _, _, h5, else_func⟩
 refine ⟨h5, h5.list hk t, FnOwn.part ((h.below hb).kept hg hr) hk (row_other (ownsRow_base ho hs) hg fun b e => ?_)⟩
 obtain ⟨C, t', m, h1, h2⟩ := hr b e
 exact ⟨C, t', m, h1, h2.1⟩
set_option maxHeartbeats 8000000 in
theorem ashead_any (s : ByteArray) (hs : s.size ≤ 1048576) (w : World) : Calls Tryz.prog 100 #[.string s] w (HeadP (As.head s) w) := by
 have b1 := (Below.refl w.heap.size w).alloc (Nat.le_refl _) (.cells FnV.zero.cells 28)
 have hR1 := heap_alloc_new w (.cells FnV.zero.cells 28)
 have HSp := assplit_any s (by omega) (w.alloc (.cells FnV.zero.cells 28))
 obtain ⟨l, hl⟩ : ∃ l, (As.words 32 s).take 7 = l := ⟨_, rfl⟩
 have hne : 1 ≤ l.length := by
   rw [← hl, As.words_cut]
   simp
 have HSz := Lib.hid (fun i => show (l.getD i ByteArray.empty).size ≤ 1048576 from by
   rcases Nat.lt_or_ge i l.length with h | h
   · have h1 : l.getD i ByteArray.empty ∈ l := by simp [List.getD, h]
     have h2 : l.getD i ByteArray.empty ∈ As.words 32 s := List.mem_of_mem_take (by rw [hl]; exact h1)
     exact Nat.le_trans (As.words_size 32 s.size s (Nat.le_refl _) _ h2) hs
   · rw [List.getD_eq_getElem?_getD, List.getElem?_eq_none h]
     exact Nat.zero_le _)
 rw [As.head_take hl]
 rw [hl] at HSp
 have H0 := Lib.hid (fun h => As.head_bad (l := l) h)
 have H1 := Lib.hid (fun h0 h1 h2 => As.head_name (l := l) h0 h1 h2)
 have H2 := Lib.hid (fun h0 h1 h2 => As.head_parts (l := l) h0 h1 h2)
 obtain ⟨o, ho⟩ : ∃ o, As.headOf l = o := ⟨_, rfl⟩
 rw [ho] at H0 H1 H2 ⊢
 clear ho
 have B1 := Lib.hid b1
 have HR1 := Lib.hid hR1
 have HNe := Lib.hid hne
 clear b1 hR1 hl hne hs
 go_enter Tryz.func100, Tryz.ntmps100
 go_wp2_with fail
 refine HSp.mono ?_
 rintro _ w2 ⟨a, c, rfl, hA, hb2⟩
 have HA := Lib.hid hA
 have B2 := Lib.hid (B1.out.trans (hb2.mono B1.out.size))
 have hR2 := (hb2.block _ (heap_lt HR1.out)).trans HR1.out
 have HR2 := Lib.hid hR2
 obtain ⟨hT2, hQ2, hD2⟩ := over_new (v := .zero) hR2 B2.out (Nat.le_refl _)
 have HD2 := Lib.hid (And.intro hQ2 hD2)
 obtain ⟨b, off, rfl, hbl, hce⟩ := hA.2 HNe.out
 have HCe := Lib.hid hce
 have HBl := Lib.hid hbl
 have hc0 := hce 0 HNe.out
 rw [Nat.add_zero] at hc0
 clear HSp hA hb2 hR2 hQ2 hD2 hce hbl HR1 B1
 by_cases hx : l.getD 0 ByteArray.empty = As.func_
 rotate_left
 · have HO := Lib.hid (H0.out (.inl hx))
   have hx1 : (((l.getD 0 ByteArray.empty).toList == [102, 117, 110, 99]) = false) := by
     rw [show ([102, 117, 110, 99] : List UInt8) = As.func_.toList by kernel_rfl]
     exact (Lib.bytes_beq_false_iff _ _).2 hx
   have hx2 : ((l.getD 0 ByteArray.empty).toList != [102, 117, 110, 99]) = true := by unfold bne; rw [hx1]; rfl
   generalize l.getD 0 ByteArray.empty = x0 at *
   clear hx H0 H1 H2
   go_wp2_with (with_reducible refine wpList_store_mid ?_ 28 (.tmp 2) (.tmp 26) ?_ w.heap.size 0 FnV.zero.cells ?_ ?_ hT2 ?_ ?_ ?_; rfl; rfl; go_must (go_simp; (unfold FnV.zero FnV.cells Sl3.nil Sl3.val; go_simp); kernel_rfl; kernel_rfl; generalize hw3 : w2.setCells w.heap.size 0 FnV.zero.cells.toList = w3 at *))
   refine bodyPost_ret (head_results (by go_simp) (by go_simp) HD2.out.1) (by go_simp) (HeadP.bad HO.out HD2.out.2)
 have hx1 : (((l.getD 0 ByteArray.empty).toList == [102, 117, 110, 99]) = true) := by
   rw [show ([102, 117, 110, 99] : List UInt8) = As.func_.toList by kernel_rfl, hx]
   exact beq_self_eq_true _
 have hx2 : ((l.getD 0 ByteArray.empty).toList != [102, 117, 110, 99]) = false := by unfold bne; rw [hx1]; rfl
 replace H1 := Lib.hid (H1.out hx)
 replace H2 := Lib.hid (H2.out hx)
 clear hx
 generalize l.getD 0 ByteArray.empty = x0 at *
 by_cases hn : l.length = 5 ∨ l.length = 6
 rotate_left
 · have HO := Lib.hid (H0.out (.inr (by omega)))
   have hn5 : ((l.length : Int) != 5) = true := by rw [bne_iff_ne]; omega
   have hn6 : ((l.length : Int) != 6) = true := by rw [bne_iff_ne]; omega
   clear hn H0 H1 H2
   go_wp2_with (with_reducible refine wpList_store_mid ?_ 28 (.tmp 2) (.tmp 26) ?_ w.heap.size 0 FnV.zero.cells ?_ ?_ hT2 ?_ ?_ ?_; rfl; rfl; go_must (go_simp; (unfold FnV.zero FnV.cells Sl3.nil Sl3.val; go_simp); kernel_rfl; kernel_rfl; generalize hw3 : w2.setCells w.heap.size 0 FnV.zero.cells.toList = w3 at *))
   refine bodyPost_ret (head_results (by go_simp) (by go_simp) HD2.out.1) (by go_simp) (HeadP.bad HO.out HD2.out.2)
 have hn56 : ((l.length : Int) != 5) = false ∨ (((l.length : Int) != 5) = true ∧ ((l.length : Int) != 6) = false) := by
   rcases hn with h | h
   · left; rw [bne_eq_false_iff_eq]; omega
   · right; exact ⟨by rw [bne_iff_ne]; omega, by rw [bne_eq_false_iff_eq]; omega⟩
 have hl1 : (1 : Int) < (l.length : Int) := by omega
 replace H1 := Lib.hid (H1.out hn)
 replace H2 := Lib.hid (H2.out hn)
 have HN := Lib.hid hn
 have hc1 := HCe.out 1 (by omega)
 obtain ⟨x1, hx1e⟩ : ∃ x1, l.getD 1 ByteArray.empty = x1 := ⟨_, rfl⟩
 have hxs := HSz.out 1
 rw [hx1e] at hc1 hxs
 have HMy := may_any x1 w2 (by omega)
 rw [hx1e] at H1 H2
 obtain ⟨my, hmy⟩ : ∃ my, Nm.may x1 = my := ⟨_, rfl⟩
 rw [hmy] at HMy H1 H2
 have HXs := Lib.hid hxs
 clear hn H0 hx1e hxs hmy
 cases my with
 | false =>
   have HO := Lib.hid (H1.out rfl)
   clear H1 H2
   rcases hn56 with h5 | ⟨h5, h6⟩
   all_goals
     go_wp2_with (first
       | (go_at_call 123; refine HMy.mono ?_; rintro _ wa ⟨rfl, he⟩; obtain rfl := he.symm; clear HMy)
       | (with_reducible refine wpList_store_mid ?_ 28 (.tmp 2) (.tmp 32) ?_ w.heap.size 0 FnV.zero.cells ?_ ?_ hT2 ?_ ?_ ?_; rfl; rfl; go_must (go_simp; (unfold FnV.zero FnV.cells Sl3.nil Sl3.val; go_simp); kernel_rfl; kernel_rfl; generalize hw3 : w2.setCells w.heap.size 0 FnV.zero.cells.toList = w3 at *)))
     refine bodyPost_ret (head_results (by go_simp) (by go_simp) HD2.out.1) (by go_simp) (HeadP.bad HO.out HD2.out.2)
 | true =>
   have HO := Lib.hid (H2.out rfl)
   clear H1 H2
   have HCl := strclone_any x1 (by have := HXs.out; omega) w2
   obtain ⟨inn, hin⟩ : ∃ inn, ((l.length : Int) == 6) = inn := ⟨_, rfl⟩
   have HIn : Hid (inn = decide (l.length = 6)) := Lib.hid (by
     rw [← hin, Bool.eq_iff_iff, beq_iff_eq, decide_eq_true_eq]
     omega)
   obtain ⟨m, hm⟩ : ∃ m, l.length = m + 2 := ⟨l.length - 2, by have := HN.out; omega⟩
   have hm4 : (m : Int) ≤ 4 := by have := HN.out; omega
   have hsub : (l.length : Int) - 2 = (m : Int) := by omega
   have HM := Lib.hid hm
   clear hm
   rcases hn56 with h5 | ⟨h5, h6⟩
   all_goals
     go_wp2_with (first
       | (go_at_call 123; refine HMy.mono ?_; rintro _ wa ⟨rfl, he⟩; obtain rfl := he.symm; clear HMy)
       | (go_at_call 124; refine HCl.mono ?_; rintro _ w3 ⟨rfl, hb3⟩; clear HCl hc0 hc1; have HB3 := Lib.hid hb3; clear hb3))
     have hF0 : FnAt ((w3.alloc (.cells (FnV.titled x1 inn).cells 28)).alloc (.cells (ptrs w3.heap.size) 165)) w3.heap.size (FnV.titled x1 inn) := (Below.heap_alloc _ _ _ (by simp)).trans (heap_alloc_new w3 _)
     have hP0 := heap_alloc_new (w3.alloc (.cells (FnV.titled x1 inn).cells 28)) (.cells (ptrs w3.heap.size) 165)
     have hb0 := ((Below.refl w3.heap.size w3).alloc (Nat.le_refl _) (.cells (FnV.titled x1 inn).cells 28)).alloc (by simp) (.cells (ptrs w3.heap.size) 165)
     have hO0 := FnOwn.titled ((w3.alloc (.cells (FnV.titled x1 inn).cells 28)).alloc (.cells (ptrs w3.heap.size) 165)) w.heap.size x1 l.length
     rw [← HIn.out] at hO0
     rw [World.size_alloc] at hP0
     have HF0 := Lib.hid hF0
     have HP0 := Lib.hid hP0
     have HO0 := Lib.hid hO0
     have HB30 := Lib.hid (HB3.out.trans (hb0.mono HB3.out.size))
     have HBB : Hid (w2.heap.size ≤ w3.heap.size ∧ w.heap.size < w2.heap.size) := Lib.hid ⟨HB3.out.size, heap_lt HR2.out⟩
     clear hF0 hP0 hO0 hb0
     unfold FnV.titled FnV.zero FnV.cells ptrs Sl3.nil Sl3.val at HF0 HP0 HO0 HB30
     simp only at HF0 HP0 HO0 HB30
     generalize (w3.alloc (.cells #[.string x1, .bool inn, .slice none 0 0, .slice none 0 0, .slice none 0 0, .slice none 0 0, .slice none 0 0, .slice none 0 0, .slice none 0 0, .slice none 0 0, .slice none 0 0] 28)).alloc (.cells #[.pointer (some ⟨w3.heap.size, 3, none⟩), .pointer (some ⟨w3.heap.size, 4, none⟩), .pointer (some ⟨w3.heap.size, 5, none⟩), .pointer (some ⟨w3.heap.size, 2, none⟩)] 165) = W0 at *
     have HF1 : Hid (FnAt W0 w3.heap.size (FnV.titled x1 inn)) := HF0
     have HP1 : Hid (W0.heap[w3.heap.size + 1]? = some (.cells (ptrs w3.heap.size) 165 (0, 0))) := HP0
     have HO1 : Hid (FnOwn W0 w.heap.size (FnV.titled x1 inn) (As.title x1 l.length)) := HO0
     have HB1 := Lib.hid (B2.out.trans (HB30.out.mono B2.out.size))
     have HRW := Lib.hid (fun (W : World) (h : Off w3.heap.size w3.heap.size W0 W) => show W.heap[w.heap.size]? = some (.cells FnV.zero.cells 28 (0, 0)) from
       (h.block _ (Nat.lt_of_lt_of_le HBB.out.2 HB30.out.size) (by have := HBB.out; omega) (by have := HBB.out; omega)).trans ((HB30.out.block _ HBB.out.2).trans HR2.out))
     have HPW := Lib.hid (fun (W : World) (h : Off w3.heap.size w3.heap.size W0 W) => show W.heap[w3.heap.size + 1]? = some (.cells (ptrs w3.heap.size) 165 (0, 0)) from (h.block _ (heap_lt HP1.out) (by omega) (by omega)).trans HP1.out)
     have HNW := Lib.hid (fun (W : World) (h : Off w3.heap.size w3.heap.size W0 W) (i : Nat) (hi : i < l.length) => show W.cell? ⟨b, off + i, none⟩ = some (.string (l.getD i ByteArray.empty)) from by
       have e1 := HB30.out.block b HBl.out
       have e2 := h.block b (Nat.lt_of_lt_of_le HBl.out HB30.out.size) (by have := HBl.out; have := HBB.out; omega) (by have := HBl.out; have := HBB.out; omega)
       rw [World.cell?_of_block (a := ⟨b, off + i, none⟩) (e2.trans e1)]
       exact HCe.out i hi)
     have HBW := Lib.hid (fun (W : World) (h : Off w3.heap.size w3.heap.size W0 W) => show Below w.heap.size w W from HB1.out.trans ⟨h.os, h.tape, h.output, h.size, fun j hj => h.block j (Nat.lt_of_lt_of_le hj HB1.out.size) (by have := HBB.out; omega) (by have := HBB.out; omega)⟩)
     clear HF0 HP0 HO0 HB3 hT2 HD2 HCe HA
     generalize w3.heap.size = B at *
     go_loopw [6, 7, 8, 9, 51] (fun _ _ _ _ i wr => HdRel l o m x1 inn w B W0 i wr) (fun _ _ _ _ i _ => m - (intOf i).toNat)
     case atStart => exact ⟨0, _, _, Nat.zero_le _, rfl, HF1.out, rfl, HO1.out, HO.out.symm, Off.refl _ _ _⟩
     case round =>
       obtain ⟨k, v, f, hk, rfl, hF, hv, hO, hp, hof⟩ := hrel
       have HV := Lib.hid hv
       have HF := Lib.hid hF
       have HFO := Lib.hid hO
       have HPt := Lib.hid hp
       have HOf := Lib.hid hof
       clear hF hO hp hof hv
       by_cases hlt : k < m
       · have hk4 : k < 4 := by omega
         have hki : (k : Int) < (m : Int) := by omega
         have hkl : (2 : Int) + (k : Int) < (l.length : Int) := by have := HM.out; omega
         have HK := Lib.hid (show 2 + k < l.length by have := HM.out; omega)
         have cP := cell_of_row wr (B + 1) k _ _ _ (HPW.out wr HOf.out)
         rw [ptrs_at B hk4] at cP
         have cN := HNW.out wr HOf.out (2 + k) HK.out
         obtain ⟨x, hx⟩ : ∃ x, l.getD (2 + k) ByteArray.empty = x := ⟨_, rfl⟩
         have hxs := HSz.out (2 + k)
         rw [hx] at cN hxs
         have HX := Lib.hid hx
         have HRd := siread_own x wr hxs
         unfold SrdO at HRd
         obtain ⟨r, hr⟩ : ∃ r, Si.read (Si.codes x) = r := ⟨_, rfl⟩
         rw [hr] at HRd
         have HR := Lib.hid hr
         clear hx hxs hr
         cases r with
         | none =>
           simp only [Option.getD_none, Option.isSome_none, List.length_nil, Bool.false_eq_true, if_false] at HRd
           have HE := Lib.hid (HPt.out.symm.trans (As.parts_none HK.out (by rw [HX.out]; exact HR.out)))
           go_wp2_with (go_at_call 125; refine HRd.mono ?_; rintro _ w5 ⟨A, c5, rfl, _, hb5⟩; clear HRd cP cN; refine Hid.out ?_)
           obtain ⟨hT, hQ, hD⟩ := over_new (v := .zero) ((hb5.block _ (heap_lt (HRW.out wr HOf.out))).trans (HRW.out wr HOf.out)) ((HBW.out wr HOf.out).trans (hb5.mono (HBW.out wr HOf.out).size)) (Nat.le_refl _)
           have HQ := Lib.hid (And.intro hQ hD)
           clear hb5 hQ hD
           refine Lib.hid ?_
           go_wp2_with (with_reducible refine wpList_store_mid ?_ 28 (.tmp 2) (.tmp 67) ?_ w.heap.size 0 FnV.zero.cells ?_ ?_ hT ?_ ?_ ?_; rfl; rfl; go_must (go_simp; (unfold FnV.zero FnV.cells Sl3.nil Sl3.val; go_simp); kernel_rfl; kernel_rfl; generalize hw6 : w5.setCells w.heap.size 0 FnV.zero.cells.toList = w6 at *))
           refine bodyPost_ret (head_results (by go_simp) (by go_simp) HQ.out.1) (by go_simp) (HeadP.bad HE.out HQ.out.2)
         | some t =>
           simp only [Option.getD_some, Option.isSome_some, if_true] at HRd
           have HE := Lib.hid (HPt.out.symm.trans (As.parts_some HK.out (by rw [HX.out]; exact HR.out)))
           go_wp2_with (go_at_call 125; refine HRd.mono ?_; rintro _ w5 ⟨A, c5, rfl, ho5, hb5⟩; clear HRd cP cN; refine Hid.out ?_)
           obtain ⟨h5, h6, h7⟩ := HFO.out.list (t := ⟨A, t.length, c5⟩) HF.out (HBW.out wr HOf.out).size hb5 ho5 hk4
           have HOf6 := Lib.hid (HOf.out.trans ((Off.below hb5).trans (Off.set B B (voff k) (Sl3.mk A t.length c5).val w5)))
           obtain ⟨y, hy⟩ := h5.at hk4
           have hz := h5.ice (voff k)
           have HV7 := Lib.hid (four_part (t := ⟨A, t.length, c5⟩) hk4 HV.out)
           have H67 := Lib.hid (And.intro h6 h7)
           clear ho5 hb5 h5 h6 h7
           simp only [Sl3.val] at H67 HOf6
           refine Lib.hid ?_
           go_wp2
           go_roundw
           case rel => exact ⟨k + 1, _, _, hlt, by go_num, H67.out.1, HV7.out, H67.out.2, HE.out.symm, HOf6.out⟩
           case measure => simp [intOf]; omega
       · obtain rfl : k = m := by omega
         have hki : decide ((k : Int) < (k : Int)) = false := decide_eq_false (by omega)
         have hq : wr.rangeAt B 0 v.cells.toList := World.rangeAt_of_block HF.out 0 11
         obtain ⟨hT, hQ, hD⟩ := over_new (v := v) (HRW.out wr HOf.out) (HBW.out wr HOf.out) (Nat.le_refl _)
         have hk := sets_grown w.heap.size v.cells.toList 0 wr
         have HQ := Lib.hid (And.intro hQ hD)
         have HX := Lib.hid (HFO.out.kept hk (fun b e => by injection e with e; subst e; exact ⟨_, _, _, HRW.out wr HOf.out, else_func⟩))
         have HE := Lib.hid (HPt.out.symm.trans (As.parts_all (by have := HM.out; omega)))
         clear hQ hD hk
         go_wp2_with (first
           | (with_reducible refine wpList_load_mid ?_ 28 (.tmp 5) ?_ B 0 ?_ v.cells.toList _ hq Tryz.underlying28 ?_ ?_ ?_; rfl; rfl; go_must (go_simp; rfl; kernel_rfl))
           | (with_reducible refine wpList_store_mid ?_ 28 (.tmp 2) (.tmp 73) ?_ w.heap.size 0 v.cells ?_ ?_ hT ?_ ?_ ?_; rfl; rfl; go_must (go_simp; go_simp; kernel_rfl; kernel_rfl; generalize hw6 : wr.setCells w.heap.size 0 v.cells.toList = w6 at *)))
         refine bodyPost_ret (head_results (x := .int .i64 0) (by go_simp) (by go_simp) HQ.out.1) (by go_simp) ?_
         rw [HE.out]
         exact ⟨v, rfl, HX.out, ⟨_, _, HV.out⟩, HQ.out.2⟩
end Go.Proofs.YtmhmlhlplfkpaaaGreatDoor
namespace Go.Proofs.YtmhmlhlplfkpaaaGreatDoor
open Go.RowKit
namespace As
structure St where
 done : List Fn.F
 cur : Fn.F
 isOpen : Bool
def St.first : St := ⟨[], .zero, false⟩
def end_ : ByteArray := ⟨#[101, 110, 100]⟩
def more1 (f : Fn.F) (x : Int × Int) (n : Int) : Fn.F := { f with code := f.code ++ [x], lines := f.lines ++ [n] }
def step (t : St) (s : ByteArray) : St × Nat :=
 if t.isOpen = false then (⟨t.done, (head s).1, true⟩, (head s).2)
 else if s = end_ then (⟨t.done ++ [t.cur], t.cur, false⟩, 0)
 else (⟨t.done, more1 t.cur (line s).1.1 (line s).1.2, true⟩, (line s).2)
theorem step_shut {t : St} {s : ByteArray} (h : t.isOpen = false) : step t s = (⟨t.done, (head s).1, true⟩, (head s).2) := if_pos h
theorem step_end {t : St} (h : t.isOpen = true) : step t end_ = (⟨t.done ++ [t.cur], t.cur, false⟩, 0) := by
 unfold step
 rw [if_neg (by rw [h]; decide), if_pos rfl]
theorem step_line {t : St} {s : ByteArray} (h : t.isOpen = true) (hs : s ≠ end_) : step t s = (⟨t.done, more1 t.cur (line s).1.1 (line s).1.2, true⟩, (line s).2) := by
 unfold step
 rw [if_neg (by rw [h]; decide), if_neg hs]
def run : St → Nat → List (Nat × ByteArray) → (St × Nat) × Nat
 | t, last, [] => ((t, last), 0)
 | t, _, (n, s) :: r => if (step t s).2 = 0 then run (step t s).1 n r else (((step t s).1, n), (step t s).2)
theorem run_snoc : ∀ (pre : List (Nat × ByteArray)) (t : St) (last : Nat) (n : Nat) (s : ByteArray), (run t last pre).2 = 0 → run t last (pre ++ [(n, s)]) = (((step (run t last pre).1.1 s).1, n), (step (run t last pre).1.1 s).2)
 | [], t, last, n, s, _ => by
   show (if (step t s).2 = 0 then ((((step t s).1, n), 0) : (St × Nat) × Nat) else (((step t s).1, n), (step t s).2)) = (((step t s).1, n), (step t s).2)
   split
   · rename_i h
     rw [h]
   · rfl
 | (m, x) :: r, t, last, n, s, h => by
   have e : ∀ l, run t last ((m, x) :: l) = if (step t x).2 = 0 then run (step t x).1 m l else (((step t x).1, m), (step t x).2) := fun _ => rfl
   rw [e] at h
   by_cases h0 : (step t x).2 = 0
   · rw [if_pos h0] at h
     rw [List.cons_append, e, e, if_pos h0, if_pos h0]
     exact run_snoc r (step t x).1 m n s h
   · rw [if_neg h0] at h
     exact absurd h h0
theorem run_stop : ∀ (pre r : List (Nat × ByteArray)) (t : St) (last : Nat), (run t last pre).2 ≠ 0 → run t last (pre ++ r) = run t last pre
 | [], _, _, _, h => absurd rfl h
 | (m, x) :: p, r, t, last, h => by
   have e : ∀ l, run t last ((m, x) :: l) = if (step t x).2 = 0 then run (step t x).1 m l else (((step t x).1, m), (step t x).2) := fun _ => rfl
   rw [e] at h
   rw [List.cons_append, e, e]
   by_cases h0 : (step t x).2 = 0
   · rw [if_pos h0] at h
     rw [if_pos h0, if_pos h0]
     exact run_stop p r (step t x).1 m h
   · rw [if_neg h0, if_neg h0]
def numbered : Nat → List ByteArray → List (Nat × ByteArray)
 | _, [] => []
 | n, x :: r => if x.size = 0 then numbered (n + 1) r else (n, x) :: numbered (n + 1) r
def lines (s : ByteArray) : List (Nat × ByteArray) := numbered 1 (words 10 s)
theorem numbered_len : ∀ (l : List ByteArray) (n : Nat), (numbered n l).length ≤ l.length
 | [], _ => Nat.le_refl _
 | x :: r, n => by
   have := numbered_len r (n + 1)
   unfold numbered
   split
   · rw [List.length_cons]; omega
   · rw [List.length_cons, List.length_cons]; omega
def readOf (o : (St × Nat) × Nat) : (List Fn.F × Nat) × Nat :=
 if o.2 ≠ 0 then (([], o.1.2), o.2)
 else if o.1.1.isOpen = true ∨ o.1.1.done.length = 0 then (([], o.1.2), 3)
 else if Fl.can o.1.1.done ≠ 0 then (([], 0), Fl.can o.1.1.done) else ((o.1.1.done, 0), 0)
def read (s : ByteArray) : (List Fn.F × Nat) × Nat := readOf (run .first 1 (lines s))
structure Fit (f : Fn.F) : Prop where
 name : f.name.size ≤ 1048576
 code : ∀ p ∈ f.code, Fn.I64 p.1 ∧ Fn.I64 p.2
 lines : ∀ z ∈ f.lines, Fn.I64 z
 none : f.nodes = [] ∧ f.at_ = [] ∧ f.live = []
theorem Fit.wf {f : Fn.F} (h : Fit f) : f.Wf := ⟨h.code, h.lines, fun n hn => (by rw [h.none.1] at hn; cases hn), fun z hz => (by rw [h.none.2.1] at hz; cases hz), fun s hs => (by rw [h.none.2.2] at hs; cases hs)⟩
theorem Fit.zero : Fit .zero := ⟨Nat.zero_le _, fun p h => (by cases h), fun z h => (by cases h), ⟨rfl, rfl, rfl⟩⟩
theorem Fit.part {f : Fn.F} (h : Fit f) (k : Nat) (t : List Int) : Fit (part k t f) := by
 unfold As.part
 split <;> exact ⟨h.name, h.code, h.lines, h.none⟩
theorem fit_parts : ∀ (l : List ByteArray) (k : Nat) (f : Fn.F), Fit f → Fit (parts k l f).1
 | [], _, _, h => h
 | x :: r, k, f, h => by
   unfold parts
   split
   · exact Fit.zero
   · exact fit_parts r (k + 1) _ (h.part k _)
theorem fit_head {s : ByteArray} (hs : s.size ≤ 1048576) : Fit (head s).1 := by
 unfold head headOf
 split
 · exact Fit.zero
 · split
   · exact Fit.zero
   · refine fit_parts _ _ _ ⟨?_, fun p h => (by cases h), fun z h => (by cases h), ⟨rfl, rfl, rfl⟩⟩
     show ((words 32 s).getD 1 ByteArray.empty).size ≤ 1048576
     rcases Nat.lt_or_ge 1 (words 32 s).length with h | h
     · have h1 : (words 32 s).getD 1 ByteArray.empty ∈ words 32 s := by simp [List.getD, h]
       exact Nat.le_trans (words_size 32 s.size s (Nat.le_refl _) _ h1) hs
     · rw [List.getD_eq_getElem?_getD, List.getElem?_eq_none h]
       exact Nat.zero_le _
theorem num_in (s : ByteArray) : Fn.I64 (In.num s).1 := In.num_le s
theorem read_in (s : ByteArray) : Fn.I64 (In.read s).1.1 ∧ Fn.I64 (In.read s).1.2 := by
 have h0 : Fn.I64 0 := by unfold Fn.I64; decide
 unfold In.read
 split
 · exact ⟨h0, h0⟩
 · rename_i hf
   have hop : Fn.I64 (Op.find (In.head s)).1 := by
     have := In.find_in (s := In.head s) (by cases h : (Op.find (In.head s)).2; exact absurd h hf; rfl)
     unfold Fn.I64
     omega
   split
   · exact ⟨h0, h0⟩
   · split
     · split
       · exact ⟨h0, h0⟩
       · split
         · exact ⟨hop, num_in _⟩
         · exact ⟨h0, h0⟩
     · exact ⟨hop, h0⟩
theorem line_in (s : ByteArray) : (Fn.I64 (line s).1.1.1 ∧ Fn.I64 (line s).1.1.2) ∧ Fn.I64 (line s).1.2 := by
 have h0 : Fn.I64 0 := by unfold Fn.I64; decide
 unfold line
 split
 · exact ⟨⟨h0, h0⟩, h0⟩
 · split
   · exact ⟨⟨h0, h0⟩, h0⟩
   · have h1 := read_in (behind 32 s)
     have h2 := num_in (ahead 32 s)
     dsimp only
     exact ⟨h1, h2⟩
theorem Fit.more1 {f : Fn.F} (h : Fit f) (s : ByteArray) : Fit (more1 f (line s).1.1 (line s).1.2) := by
 have hl := line_in s
 refine ⟨h.name, fun p hp => ?_, fun z hz => ?_, h.none⟩
 · rcases List.mem_append.1 hp with hp | hp
   · exact h.code p hp
   · rw [List.mem_singleton] at hp
     subst hp
     exact hl.1
 · rcases List.mem_append.1 hz with hz | hz
   · exact h.lines z hz
   · rw [List.mem_singleton] at hz
     subst hz
     exact hl.2
structure Fits (t : St) (n : Nat) : Prop where
 done : ∀ f ∈ t.done, Fit f
 cur : Fit t.cur
 len : t.done.length ≤ n ∧ t.cur.code.length ≤ n ∧ t.cur.lines.length ≤ n
theorem parts_code : ∀ (l : List ByteArray) (k : Nat) (f : Fn.F), f.code = [] ∧ f.lines = [] → (parts k l f).1.code = [] ∧ (parts k l f).1.lines = []
 | [], _, _, h => h
 | x :: r, k, f, h => by
   unfold parts
   split
   · exact ⟨rfl, rfl⟩
   · refine parts_code r (k + 1) _ ?_
     unfold part
     split <;> exact h
theorem head_code (s : ByteArray) : (head s).1.code = [] ∧ (head s).1.lines = [] := by
 unfold head headOf
 split
 · exact ⟨rfl, rfl⟩
 · split
   · exact ⟨rfl, rfl⟩
   · exact parts_code _ _ _ ⟨rfl, rfl⟩
theorem Fits.first : Fits .first 0 := ⟨fun f h => (by cases h), Fit.zero, Nat.le_refl _, Nat.le_refl _, Nat.le_refl _⟩
theorem Fits.step {t : St} {n : Nat} (h : Fits t n) {s : ByteArray} (hs : s.size ≤ 1048576) : Fits (step t s).1 (n + 1) := by
 obtain ⟨h1, h2, h3, h4, h5⟩ := h
 by_cases ho : t.isOpen = false
 · rw [step_shut ho]
   have hc := head_code s
   exact ⟨h1, fit_head hs, Nat.le_succ_of_le h3, by rw [hc.1]; exact Nat.zero_le _, by rw [hc.2]; exact Nat.zero_le _⟩
 · have ho : t.isOpen = true := by cases h : t.isOpen; exact absurd h ho; rfl
   by_cases he : s = end_
   · subst he
     rw [step_end ho]
     refine ⟨fun f hf => ?_, h2, by simp only [List.length_append, List.length_singleton]; omega, Nat.le_succ_of_le h4, Nat.le_succ_of_le h5⟩
     rcases List.mem_append.1 hf with hf | hf
     · exact h1 f hf
     · rw [List.mem_singleton] at hf
       subst hf
       exact h2
   · rw [step_line ho he]
     exact ⟨h1, h2.more1 s, Nat.le_succ_of_le h3, by simp only [As.more1, List.length_append, List.length_singleton]; omega, by simp only [As.more1, List.length_append, List.length_singleton]; omega⟩
def after (pre : List (Nat × ByteArray)) : (St × Nat) × Nat := run .first 1 pre
theorem after_snoc {pre : List (Nat × ByteArray)} (h : (after pre).2 = 0) (x : Nat × ByteArray) : after (pre ++ [x]) = (((step (after pre).1.1 x.2).1, x.1), (step (after pre).1.1 x.2).2) := run_snoc pre .first 1 x.1 x.2 h
theorem after_stop {pre l : List (Nat × ByteArray)} (hp : pre <+: l) (h : (after pre).2 ≠ 0) : after l = after pre := by
 obtain ⟨r, rfl⟩ := hp
 exact run_stop pre r _ _ h
end As
end Go.Proofs.YtmhmlhlplfkpaaaGreatDoor
namespace Go.Proofs.YtmhmlhlplfkpaaaGreatDoor
open Go.RowKit
def rdCells (s : Sl3) (v : FnV) (b : Bool) : Array Value := #[s.val, .string v.name, .bool v.inner, v.outer.val, v.params.val, v.results.val, v.locals.val, v.code.val, v.lines.val, v.nodes.val, v.at_.val, v.live.val, .bool b]
def FnV.Bare (v : FnV) : Prop := v.nodes = .nil ∧ v.at_ = .nil ∧ v.live = .nil
theorem row_kind {w : World} {base n size : Nat} {e : TypeId} {v : Value} {xs : List Value} (h : w.ownsRow base e size v n xs) : ∀ b, v.ownBlock = some b → ∃ C m, w.heap[b]? = some (.cells C e m) := by
 intro b hb
 rcases h.2 with ⟨rfl, _⟩ | ⟨g, cap, cur, rfl, _, hh, _⟩
 · cases hb
 · injection hb with hb
   subst hb
   exact ⟨_, _, hh⟩
theorem ko_below {W W' : World} (h : Below W.heap.size W W') : KeepsOthers W W' := ⟨h.size, fun k _ hk _ => (h.block k (heap_lt hk)).trans hk⟩
theorem ko_block {W W' : World} {b : Nat} {C : Array Value} {T : TypeId} {m : Nat × Nat} (hb : W.heap[b]? = some (.cells C T m)) (hg : W.grownBy W' (some b)) : KeepsOthers W W' :=
 KeepsOthers.of_grownBy hg fun j o e h => by
   injection e with e
   subst e
   rw [hb] at h
   injection h with h
   subst h
   rfl
theorem ko_row {W W' : World} {base n size : Nat} {e : TypeId} {v : Value} {xs : List Value} (h : W.ownsRow base e size v n xs) (hg : W.grownBy W' v.ownBlock) : KeepsOthers W W' :=
 KeepsOthers.of_grownBy hg fun j o e h2 => by
   obtain ⟨C, m, h3⟩ := row_kind h j e
   rw [h3] at h2
   injection h2 with h2
   subst h2
   rfl
structure OffC (q l : Nat) (w w' : World) : Prop where
 size : w.heap.size ≤ w'.heap.size
 block : ∀ j C T m, w.heap[j]? = some (.cells C T m) → j ≠ q → j ≠ l → w'.heap[j]? = some (.cells C T m)
theorem OffC.refl (q l : Nat) (w : World) : OffC q l w w := ⟨Nat.le_refl _, fun _ _ _ _ h _ _ => h⟩
theorem OffC.on {q l : Nat} {a b c : World} (h : OffC q l a b) (k : Off q l b c) : OffC q l a c :=
 ⟨Nat.le_trans h.size k.size, fun j C T m e h1 h2 => by
   have := h.block j C T m e h1 h2
   exact (k.block j (heap_lt this) h1 h2).trans this⟩
theorem row_offC {q l base n size : Nat} {w w' : World} {e : TypeId} {v : Value} {xs : List Value} (h : w.ownsRow base e size v n xs) (ho : OffC q l w w') (hq : q < base) (hl : l < base) : w'.ownsRow base e size v n xs :=
 row_kept h fun g hg => by
   have h1 := h.lt g hg
   obtain ⟨C, m, h2⟩ := row_kind h g hg
   exact (ho.block g C e m h2 (by omega) (by omega)).trans h2.symm
theorem FnOwn.offC {q l base : Nat} {w w' : World} {v : FnV} {f : Fn.F} (h : FnOwn w base v f) (ho : OffC q l w w') (hq : q < base) (hl : l < base) : FnOwn w' base v f :=
 ⟨h.name, h.inner, row_offC h.outer ho hq hl, row_offC h.params ho hq hl, row_offC h.results ho hq hl, row_offC h.locals ho hq hl, row_offC h.code ho hq hl, row_offC h.lines ho hq hl, row_offC h.nodes ho hq hl, row_offC h.at_ ho hq hl, row_offC h.live ho hq hl⟩
theorem row_marked {w w' : World} {base n size : Nat} {e : TypeId} {v : Value} {xs : List Value} (h : w.ownsRow base e size v n xs) {row : Option Nat} (hg : w.grownBy w' row) (hr : ∀ r, row = some r → ∃ o, w.heap[r]? = some o ∧ o.isCells = false) : w'.ownsRow base e size v n xs :=
 row_kept h fun g e => by
   obtain ⟨C, m, h2⟩ := row_kind h g e
   refine hg.block g (heap_lt h2) fun e' => ?_
   obtain ⟨o, h3, h4⟩ := hr g e'.symm
   rw [h2] at h3
   injection h3 with h3
   subst h3
   cases h4
theorem FnOwn.marked {base : Nat} {w w' : World} {v : FnV} {f : Fn.F} (h : FnOwn w base v f) {row : Option Nat} (hg : w.grownBy w' row) (hr : ∀ r, row = some r → ∃ o, w.heap[r]? = some o ∧ o.isCells = false) : FnOwn w' base v f :=
 ⟨h.name, h.inner, row_marked h.outer hg hr, row_marked h.params hg hr, row_marked h.results hg hr, row_marked h.locals hg hr, row_marked h.code hg hr, row_marked h.lines hg hr, row_marked h.nodes hg hr, row_marked h.at_ hg hr, row_marked h.live hg hr⟩
structure RdIs (q l : Nat) (Wb W0 : World) (s : Sl3) (us : List FnV) (v : FnV) (t : As.St) (W : World) : Prop where
 box : W.heap[q]? = some (.cells (rdCells s v t.isOpen) 80 (0, 0))
 off : OffC q l W0 W
 whole : Off q l Wb W
 base : Wb.heap.size ≤ W0.heap.size
 len : us.length = t.done.length
 row : W0.ownsRow Wb.heap.size 28 11 s.val us.length (fcs us)
 old : ∀ k, k < us.length → FnOwn W0 Wb.heap.size (us.getD k .zero) (t.done.getD k .zero)
 cur : t.isOpen = true → FnOwn W W0.heap.size v t.cur ∧ v.Bare
 ql : q < Wb.heap.size ∧ l < Wb.heap.size ∧ q ≠ l
def RdAt (q l : Nat) (Wb : World) (t : As.St) (W : World) : Prop := ∃ W0 s us v, RdIs q l Wb W0 s us v t W
section
variable {q l : Nat} {Wb W0 W W' : World} {s : Sl3} {us : List FnV} {v : FnV} {t : As.St}
theorem RdIs.lt (h : RdIs q l Wb W0 s us v t W) : q < W.heap.size := heap_lt h.box
theorem RdIs.size (h : RdIs q l Wb W0 s us v t W) : Wb.heap.size ≤ W.heap.size := h.whole.size
theorem RdIs.rowW (h : RdIs q l Wb W0 s us v t W) : W.ownsRow Wb.heap.size 28 11 s.val us.length (fcs us) := row_offC h.row h.off h.ql.1 h.ql.2.1
theorem RdIs.oldW (h : RdIs q l Wb W0 s us v t W) : ∀ k, k < us.length → FnOwn W Wb.heap.size (us.getD k .zero) (t.done.getD k .zero) := fun k hk => (h.old k hk).offC h.off h.ql.1 h.ql.2.1
theorem RdIs.below (h : RdIs q l Wb W0 s us v t W) (hb : Below W.heap.size W W') : RdIs q l Wb W0 s us v t W' :=
 ⟨(hb.block q h.lt).trans h.box, h.off.on (Off.below hb), h.whole.trans (Off.below hb), h.base, h.len, h.row, h.old, fun e => ⟨(h.cur e).1.below hb, (h.cur e).2⟩, h.ql⟩
theorem RdIs.marked (h : RdIs q l Wb W0 s us v t W) {row : Option Nat} (hg : W.grownBy W' row) (hr : ∀ r, row = some r → Wb.heap.size ≤ r ∧ ∃ o, W.heap[r]? = some o ∧ o.isCells = false) : RdIs q l Wb W0 s us v t W' := by
 have hne : ∀ (j : Nat) (C : Array Value) (T : TypeId) (m : Nat × Nat), W.heap[j]? = some (Obj.cells C T m) → W'.heap[j]? = some (Obj.cells C T m) := fun j C T m e => (hg.block j (heap_lt e) fun e' => by
   obtain ⟨_, o, h3, h4⟩ := hr j e'.symm
   rw [e] at h3
   injection h3 with h3
   subst h3
   cases h4).trans e
 exact ⟨hne _ _ _ _ h.box, ⟨Nat.le_trans h.off.size hg.size, fun j C T m e h1 h2 => hne _ _ _ _ (h.off.block j C T m e h1 h2)⟩,
   ⟨hg.os.trans h.whole.os, hg.tape.trans h.whole.tape, hg.output.trans h.whole.output, Nat.le_trans h.whole.size hg.size, fun j hj h1 h2 => (hg.block j (Nat.lt_of_lt_of_le hj h.whole.size) fun e => by have := (hr j e.symm).1; omega).trans (h.whole.block j hj h1 h2)⟩,
   h.base, h.len, h.row, h.old, fun e => ⟨(h.cur e).1.marked hg fun r e => (hr r e).2, (h.cur e).2⟩, h.ql⟩
theorem RdIs.cell (h : RdIs q l Wb W0 s us v t W) (k : Nat) : W.cell? ⟨q, k, none⟩ = (rdCells s v t.isOpen)[k]? := by
 have := h.box
 simp [World.cell?, this]
theorem RdIs.ice (h : RdIs q l Wb W0 s us v t W) (k : Nat) : W.frozen? ⟨q, k, none⟩ = false := by
 have := h.box
 simp [World.frozen?, this]
theorem RdAt.below (h : RdAt q l Wb t W) (hb : Below W.heap.size W W') : RdAt q l Wb t W' := by
 obtain ⟨W0, s, us, v, h⟩ := h
 exact ⟨W0, s, us, v, h.below hb⟩
theorem RdAt.off (h : RdAt q l Wb t W) : Off q l Wb W := by
 obtain ⟨W0, s, us, v, h⟩ := h
 exact h.whole
theorem Bare.four {x : ByteArray} {b : Bool} (h : v = FnV.four x b v) : v.Bare := by
 unfold FnV.Bare
 rw [h]
 exact ⟨rfl, rfl, rfl⟩
theorem rd_put {W1 : World} {q : Nat} {s : Sl3} {v v' : FnV} {b : Bool} (h1 : W1.heap[q]? = some (.cells (rdCells s v b) 80 (0, 0))) : (W1.setCells q 1 v'.cells.toList).heap[q]? = some (.cells (rdCells s v' b) 80 (0, 0)) := by
 have h := mid_set (i := 11) (mid_set (i := 10) (mid_set (i := 9) (mid_set (i := 8) (mid_set (i := 7) (mid_set (i := 6) (mid_set (i := 5) (mid_set (i := 4) (mid_set (i := 3) (mid_set (i := 2) (mid_set (i := 1) h1 (.string v'.name)) (.bool v'.inner)) v'.outer.val) v'.params.val) v'.results.val) v'.locals.val) v'.code.val) v'.lines.val) v'.nodes.val) v'.at_.val) v'.live.val
 simp only [rdCells, List.setIfInBounds_toArray, List.set_cons_succ, List.set_cons_zero] at h
 simp only [FnV.cells, World.setCells]
 exact h
theorem RdIs.opened (h : RdIs q l Wb W0 s us v t W) {W1 : World} {f : Fn.F} {v' : FnV} (hb : Below W.heap.size W W1) (ho : FnOwn W1 W.heap.size v' f) (hv : v'.Bare) :
   W1.there q 1 v'.cells.size ∧ (W1.setCells q 1 v'.cells.toList).heap[q]? = some (.cells (rdCells s v' t.isOpen) 80 (0, 0)) ∧ RdIs q l Wb W s us v' ⟨t.done, f, true⟩ ((W1.setCells q 1 v'.cells.toList).setCell ⟨q, 12, none⟩ (.bool true)) ∧ KeepsOthers W ((W1.setCells q 1 v'.cells.toList).setCell ⟨q, 12, none⟩ (.bool true)) ∧ ((W1.setCells q 1 v'.cells.toList).setCell ⟨q, 12, none⟩ (.bool true)).heap[l]? = W.heap[l]? := by
 have h1 := (hb.block q h.lt).trans h.box
 have h2 : (W1.setCells q 1 v'.cells.toList).heap[q]? = some (.cells (rdCells s v' t.isOpen) 80 (0, 0)) := rd_put h1
 have h3 := mid_set (i := 12) h2 (.bool true)
 have g1 := sets_grown q v'.cells.toList 1 W1
 have g2 : (W1.setCells q 1 v'.cells.toList).grownBy ((W1.setCells q 1 v'.cells.toList).setCell ⟨q, 12, none⟩ (.bool true)) (some q) := Lib.grownBy_setB (World.grownBy.refl _ _) _ _
 have hq := h.ql
 refine ⟨there_block h1 (by show 1 + 11 ≤ 13; omega), h2, ⟨h3, ((OffC.refl q l W).on (Off.below hb)).on ((Off.grown g1).trans (Off.grown g2)), h.whole.trans ((Off.below hb).trans ((Off.grown g1).trans (Off.grown g2))), h.whole.size, h.len, h.rowW, h.oldW, fun _ => ⟨?own, hv⟩, hq⟩, ((ko_below hb).trans (ko_block h1 g1)).trans (KeepsOthers.setCell _ _ _), ?kl⟩
 case own => exact ((ho.off (Off.grown (p := q) g1) h.lt h.lt).off (Off.grown (p := q) g2) h.lt h.lt)
 case kl =>
   have hl : l < W.heap.size := Nat.lt_of_lt_of_le hq.2.1 h.size
   have hn : some l ≠ some q := fun e => hq.2.2 (Option.some.inj e).symm
   have hl1 : l < W1.heap.size := Nat.lt_of_lt_of_le hl hb.size
   have e0 := hb.block l hl
   have e1 := g1.block l hl1 hn
   have hl2 := Nat.lt_of_lt_of_le hl1 g1.size
   generalize W1.setCells q 1 v'.cells.toList = W2 at *
   exact (g2.block l hl2 hn).trans (e1.trans e0)
end
def RdP (q l : Nat) (Wb : World) (t : As.St) (er : Nat) (W : World) (e : Ending) (W' : World) : Prop := e = .returned (.int .i64 (er : Int)) ∧ RdAt q l Wb t W' ∧ KeepsOthers W W' ∧ W'.heap[l]? = W.heap[l]?
set_option maxHeartbeats 4000000 in
theorem rdwhole_any (q l : Nat) (Wb : World) (t : As.St) (W : World) (h : RdAt q l Wb t W) : Calls Tryz.prog 46 #[.pointer (some ⟨q, 0, none⟩)] W fun e W' => e = .returned (.bool (!t.isOpen && decide (0 < t.done.length))) ∧ W' = W := by
 obtain ⟨W0, s, us, v, h⟩ := h
 have c0 : W.cell? ⟨q, 0, none⟩ = some (.slice s.a s.n s.c) := h.cell 0
 have c12 : W.cell? ⟨q, 12, none⟩ = some (.bool t.isOpen) := h.cell 12
 have HN : Hid (s.n = t.done.length) := Lib.hid (by
   have := h.rowW
   rw [← h.len]
   rcases this.2 with ⟨hv, h0⟩ | ⟨g, cap, cur, hv, _⟩
   · unfold Sl3.val at hv
     injection hv with _ h2
     omega
   · unfold Sl3.val at hv
     injection hv with _ h2)
 clear h
 obtain ⟨b, hb⟩ : ∃ b, t.isOpen = b := ⟨_, rfl⟩
 rw [hb] at c12 ⊢
 clear hb
 go_enter Tryz.func46, Tryz.ntmps46
 cases b with
 | true =>
   go_wp2
   go_ret
   exact ⟨rfl, rfl⟩
 | false =>
   go_wp2
   go_ret
   refine ⟨?_, rfl⟩
   show Ending.returned (.bool (decide (0 < s.n))) = _
   rw [HN.out]
   simp
set_option maxHeartbeats 4000000 in
theorem rdhead_any (q l : Nat) (Wb : World) (t : As.St) (W : World) (h : RdAt q l Wb t W) (x : ByteArray) (hx : x.size ≤ 1048576) : Calls Tryz.prog 73 #[.pointer (some ⟨q, 0, none⟩), .string x] W (RdP q l Wb ⟨t.done, (As.head x).1, true⟩ (As.head x).2 W) := by
 have HHd := ashead_any x hx W
 unfold HeadP at HHd
 obtain ⟨o, ho⟩ : ∃ o, As.head x = o := ⟨_, rfl⟩
 rw [ho] at HHd ⊢
 have H := Lib.hid h
 clear h ho hx
 go_enter Tryz.func73, Tryz.ntmps73
 go_wp2_with (go_at_call 100; refine HHd.mono ?_; rintro _ w1 ⟨v, rfl, hv, hv4, hb1⟩; clear HHd; have HBr : Hid v.Bare := Lib.hid (by obtain ⟨_, _, e⟩ := hv4; exact Bare.four e); clear hv4; refine Hid.out ?_)
 obtain ⟨W0, s, us, v0, h⟩ := H.out
 have b2 : Below w1.heap.size w1 (w1.alloc (.cells #[.string ⟨#[]⟩, .bool false, .slice none 0 0, .slice none 0 0, .slice none 0 0, .slice none 0 0, .slice none 0 0, .slice none 0 0, .slice none 0 0, .slice none 0 0, .slice none 0 0] 28)) := (Below.refl w1.heap.size w1).alloc (Nat.le_refl _) _
 have hz : (w1.alloc (.cells #[.string ⟨#[]⟩, .bool false, .slice none 0 0, .slice none 0 0, .slice none 0 0, .slice none 0 0, .slice none 0 0, .slice none 0 0, .slice none 0 0, .slice none 0 0, .slice none 0 0] 28)).heap[w1.heap.size]? = some (.cells FnV.zero.cells 28 (0, 0)) := heap_alloc_new w1 _
 have hT3 := there_block hz (o := 0) (n := v.cells.size) (Nat.le_of_ble_eq_true rfl)
 have hq3 := World.rangeAt_setCells_same (w1.alloc (.cells #[.string ⟨#[]⟩, .bool false, .slice none 0 0, .slice none 0 0, .slice none 0 0, .slice none 0 0, .slice none 0 0, .slice none 0 0, .slice none 0 0, .slice none 0 0, .slice none 0 0] 28)) w1.heap.size 0 v.cells.toList (there_block hz (by rw [Array.length_toList]; exact Nat.le_of_eq (by rfl)))
 have k3 := sets_grown w1.heap.size v.cells.toList 0 (w1.alloc (.cells #[.string ⟨#[]⟩, .bool false, .slice none 0 0, .slice none 0 0, .slice none 0 0, .slice none 0 0, .slice none 0 0, .slice none 0 0, .slice none 0 0, .slice none 0 0, .slice none 0 0] 28))
 have b3 : Below W.heap.size W ((w1.alloc (.cells #[.string ⟨#[]⟩, .bool false, .slice none 0 0, .slice none 0 0, .slice none 0 0, .slice none 0 0, .slice none 0 0, .slice none 0 0, .slice none 0 0, .slice none 0 0, .slice none 0 0] 28)).setCells w1.heap.size 0 v.cells.toList) := (hb1.trans (b2.mono hb1.size)).grown k3 (Nat.le_trans hb1.size b2.size) (fun k e => by injection e with e; have := hb1.size; omega)
 have hv3 := ((hv.below b2).kept k3 (fun b e => by injection e with e; subst e; exact ⟨_, _, _, hz, else_func⟩))
 clear hv hb1 b2 hz k3
 generalize hw3 : (w1.alloc (.cells #[.string ⟨#[]⟩, .bool false, .slice none 0 0, .slice none 0 0, .slice none 0 0, .slice none 0 0, .slice none 0 0, .slice none 0 0, .slice none 0 0, .slice none 0 0, .slice none 0 0] 28)).setCells w1.heap.size 0 v.cells.toList = w3 at *
 obtain ⟨hT4, h4, h5, h7⟩ := h.opened b3 hv3 HBr.out
 have HF := Lib.hid (show RdAt q l Wb ⟨t.done, o.1, true⟩ ((w3.setCells q 1 v.cells.toList).setCell ⟨q, 12, none⟩ (.bool true)) ∧ KeepsOthers W ((w3.setCells q 1 v.cells.toList).setCell ⟨q, 12, none⟩ (.bool true)) ∧ ((w3.setCells q 1 v.cells.toList).setCell ⟨q, 12, none⟩ (.bool true)).heap[l]? = W.heap[l]? from ⟨⟨_, _, _, _, h5⟩, h7⟩)
 have hc12 : ∃ y, (w3.setCells q 1 v.cells.toList).cell? ⟨q, 12, none⟩ = some y ∧ (w3.setCells q 1 v.cells.toList).frozen? ⟨q, 12, none⟩ = false := by
   have h6 := rd_put (v' := v) ((b3.block q h.lt).trans h.box)
   exact ⟨_, cell_of_row _ q 12 _ _ _ h6, by simp [World.frozen?, h6]⟩
 obtain ⟨y, hy, hf⟩ := hc12
 clear h b3 hv3 h4 h5 h7
 refine Lib.hid ?_
 go_wp2_with (first
   | (with_reducible refine wpList_store_mid ?_ 28 (.tmp 5) (.tmp 10) ?_ w1.heap.size 0 v.cells ?_ ?_ hT3 ?_ ?_ ?_; rfl; rfl; go_must (go_simp; go_simp; kernel_rfl; kernel_rfl; rw [hw3]))
   | (with_reducible refine wpList_load_mid ?_ 28 (.tmp 5) ?_ w1.heap.size 0 ?_ v.cells.toList _ hq3 Tryz.underlying28 ?_ ?_ ?_; rfl; rfl; go_must (go_simp; rfl; kernel_rfl))
   | (with_reducible refine wpList_store_mid ?_ 28 (.tmp 16) (.tmp 14) ?_ q 1 v.cells ?_ ?_ hT4 ?_ ?_ ?_; rfl; rfl; go_must (go_simp; go_simp; kernel_rfl; kernel_rfl; generalize hw5 : w3.setCells q 1 v.cells.toList = w5 at *)))
 go_ret
 exact ⟨rfl, HF.out⟩
end Go.Proofs.YtmhmlhlplfkpaaaGreatDoor
