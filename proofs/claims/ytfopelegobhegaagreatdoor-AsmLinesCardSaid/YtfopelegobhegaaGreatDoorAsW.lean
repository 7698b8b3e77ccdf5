/-
 The words of a text: what asm.split and the document's cut tell. Conditions: the text's length fits.
-/
import Derived.Test.YtfopelegobhegaaGreatDoorAsC
import Derived.Test.YtfopelegobhegaaGreatDoorFlN
import Derived.Test.YtfopelegobhegaaGreatDoorFlR
import Derived.Test.YtfopelegobhegaaGreatDoorSiE
set_option maxRecDepth 100000
namespace Go.Proofs.YtfopelegobhegaaGreatDoor
open Go.RowKit
def lenOf : Value → Nat
 | .slice _ n _ => n
 | _ => 0
namespace As
def Rest (s : ByteArray) (l : List ByteArray) (r : ByteArray) (b : Bool) : Prop := words 32 s = l ++ (if b then words 32 r else []) ∧ r.size ≤ s.size
theorem Rest.first (s : ByteArray) : Rest s [] s true := ⟨rfl, Nat.le_refl _⟩
theorem Rest.next {s r : ByteArray} {l : List ByteArray} (h : Rest s l r true) : Rest s (l ++ [ahead 32 r]) (behind 32 r) (more 32 r) := by
 refine ⟨?_, Nat.le_trans (behind_le 32 r) h.2⟩
 rw [h.1, if_pos rfl, words_cut 32 r]
 simp
theorem Rest.done {s r : ByteArray} {l : List ByteArray} {b : Bool} (h : Rest s l r b) (hl : l.length ≤ 7) (hb : b = false ∨ 6 < l.length) : (words 32 s).take 7 = l := by
 rw [h.1]
 rcases hb with rfl | hb
 · rw [if_neg (by decide), List.append_nil, List.take_of_length_le hl]
 · rw [List.take_append_of_le_length (by omega), List.take_of_length_le hl]
end As
def AsSpRel (s : ByteArray) (w : World) (x u m : Value) (wr : World) : Prop :=
 ∃ (l : List ByteArray) (r : ByteArray) (b : Bool), x = .string r ∧ m = .bool b ∧ l.length ≤ 7 ∧ As.Rest s l r b ∧ wr.ownsRow w.heap.size 9 1 u l.length (strs l) ∧ Below w.heap.size w wr
set_option maxHeartbeats 4000000 in
theorem assplit_any (s : ByteArray) (hs : s.size ≤ 9223372036854775806) (w : World) : Calls Tryz.prog 16 #[.string s, .int .i64 6] w (NewNames ((As.words 32 s).take 7) w) := by
 obtain ⟨i0, hi, hz0, hz1, hz2⟩ := info_parts info_str
 go_enter Tryz.func16, Tryz.ntmps16
 go_wp2
 go_loopw [0, 5, 6, 7] (fun x u m _ wr => AsSpRel s w x u m wr) (fun _ u _ _ _ => 8 - lenOf u)
 case atStart => exact ⟨[], s, true, rfl, rfl, by simp, As.Rest.first s, World.ownsRow_nil _ _ _ _, Below.refl _ _⟩
 case round =>
   obtain ⟨l, r, b, rfl, rfl, hl, hR, hO, hB⟩ := hrel
   obtain ⟨A, n, c, rfl⟩ : ∃ A n c, u5 = .slice A n c := by
     rcases hO.2 with ⟨e, _⟩ | ⟨g, cap, cur, e, _⟩
     · exact ⟨_, _, _, e⟩
     · exact ⟨_, _, _, e⟩
   have HA := names_of_own hO
   obtain ⟨hn, hA⟩ := HA
   have HN := Lib.hid hn
   have HB := Lib.hid hB
   have HO := Lib.hid hO
   have HR := Lib.hid hR
   have HL := Lib.hid hl
   have HAt := Lib.hid hA
   clear hB hO hR hn hA
   by_cases hgo : b = true ∧ n ≤ 6
   · obtain ⟨rfl, h6⟩ := hgo
     have hd : decide ((n : Int) ≤ 6) = true := decide_eq_true (by omega)
     have HC := ascut_blank r (by have := HR.out.2; omega) wr
     have HNx := Lib.hid HR.out.next
     obtain ⟨wd, hwd⟩ : ∃ wd, As.ahead 32 r = wd := ⟨_, rfl⟩
     obtain ⟨r2, hr2⟩ : ∃ r2, As.behind 32 r = r2 := ⟨_, rfl⟩
     obtain ⟨b2, hb2⟩ : ∃ b2, As.more 32 r = b2 := ⟨_, rfl⟩
     rw [hwd, hr2, hb2] at HC HNx
     clear hwd hr2 hb2 hl
     go_wp2_with (first
       | (go_at_call 11; refine HC.mono ?_; clear HC; rintro _ w1 ⟨rfl, k, rfl⟩)
       | (at_builtin; refine wpList_append_lies _ rfl (.tmp 21) (.tmp 23) 51 rfl w.heap.size 9 i0 (.string ⟨#[]⟩) 1 16 Tryz.underlying51 hi hz0 hz1 hz2 rfl (by decide) (.slice A n c) l.length (strs l) rfl ?c0 ⟨wr.heap.size, 0, none⟩ 1 1 (strs [wd]) rfl rfl ?c1 (strs_one _) (by decide) ?c3 ?c4 ?c5 (wr.heap.size + 1) ?c6 ?_))
     case c0 => exact HO.out.alloc _
     case c1 => exact new_str (wr.drewN k) _ _
     case c3 => have := HL.out; unfold maxLen; omega
     case c4 => have := HL.out; omega
     case c5 => have := HB.out.size; simp; omega
     case c6 => simp
     intro g cap w2 hown2 hgrow2 hat2 _
     have HB2 := Lib.hid (own_grown (below_drewN HB.out k) HO.out hgrow2)
     have HO2 := Lib.hid hown2
     clear hown2 hgrow2 hat2
     go_wp2
     go_roundw
     case rel => exact ⟨l ++ [wd], r2, b2, rfl, rfl, by have := HN.out; rw [List.length_append]; simp; omega, HNx.out, by rw [List.length_append, strs_append]; exact HO2.out, HB2.out⟩
     case measure => have := HN.out; simp [lenOf]; omega
   · have HE := Lib.hid (HR.out.done HL.out (by
       cases b with
       | false => exact .inl rfl
       | true =>
         refine .inr (Nat.lt_of_not_le fun h => hgo ⟨rfl, by rw [HN.out]; exact h⟩)))
     have hlast : b = false ∨ (b = true ∧ decide ((n : Int) ≤ 6) = false) := by
       cases b with
       | false => exact .inl rfl
       | true => exact .inr ⟨rfl, decide_eq_false (fun h => hgo ⟨rfl, by omega⟩)⟩
     clear hgo hl
     rcases hlast with rfl | ⟨rfl, hd⟩
     all_goals
       go_wp2
       go_ret
       rw [HE.out]
       exact ⟨A, c, congrArg (fun z => Ending.returned (.slice A z c)) HN.out, HN.out ▸ HAt.out, HB.out⟩
namespace As
def Told (s : ByteArray) (l : List ByteArray) (f i : Nat) : Prop := f ≤ i ∧ i ≤ s.size ∧ words 32 s = l ++ words 32 (s.extract f s.size) ∧ ∀ j, f ≤ j → j < i → Op.byte s j ≠ 32
theorem Told.first (s : ByteArray) : Told s [] 0 0 := ⟨Nat.le_refl _, Nat.zero_le _, by rw [List.nil_append, ByteArray.extract_zero_size], fun j _ h => absurd h (Nat.not_lt_zero _)⟩
theorem Told.on {s : ByteArray} {l : List ByteArray} {f i : Nat} (h : Told s l f i) (hi : i < s.size) (hb : Op.byte s i ≠ 32) : Told s l f (i + 1) :=
 ⟨by have := h.1; omega, hi, h.2.2.1, fun j h1 h2 => by
   rcases Nat.lt_or_eq_of_le (Nat.le_of_lt_succ h2) with h3 | rfl
   · exact h.2.2.2 j h1 h3
   · exact hb⟩
theorem drop_data (s : ByteArray) (f : Nat) : (s.extract f s.size).data.toList = s.data.toList.drop f := by
 rw [Lib.extract_data, List.take_of_length_le (by rw [List.length_drop, Lib.size_eq]; exact Nat.le_refl _)]
theorem byte_32 {s : ByteArray} {j : Nat} (h : j < s.data.toList.length) : (s.data.toList[j] == 32) = decide (Op.byte s j = 32) := by
 unfold Op.byte
 rw [List.getD_eq_getElem?_getD, List.getElem?_eq_getElem h, Option.getD_some, Bool.eq_iff_iff, beq_iff_eq, decide_eq_true_eq]
 exact ⟨fun e => by rw [e]; rfl, fun e => UInt8.toNat_inj.1 e⟩
theorem Told.at_ {s : ByteArray} {l : List ByteArray} {f i : Nat} (h : Told s l f i) (he : i = s.size ∨ Op.byte s i = 32) : at_ 32 (s.extract f s.size) = i - f := by
 obtain ⟨h1, h2, _, h4⟩ := h
 have hsz : s.data.toList.length = s.size := (Lib.size_eq s).symm
 unfold As.at_
 rw [drop_data]
 rcases Nat.lt_or_eq_of_le h2 with hlt | rfl
 · have hl : i - f < (s.data.toList.drop f).length := by rw [List.length_drop]; omega
   rw [List.findIdx_eq hl]
   refine ⟨?_, fun j hj => ?_⟩
   · rw [List.getElem_drop, byte_32]
     rcases he with he | he
     · omega
     · rw [show f + (i - f) = i by omega, he]; rfl
   · rw [List.getElem_drop, byte_32]
     exact decide_eq_false (h4 (f + j) (by omega) (by omega))
 · rw [List.findIdx_eq_length_of_false, List.length_drop, hsz]
   intro x hx
   obtain ⟨j, hj, rfl⟩ := List.mem_iff_getElem.1 hx
   rw [List.getElem_drop, byte_32]
   rw [List.length_drop] at hj
   exact decide_eq_false (h4 (f + j) (by omega) (by omega))
theorem Told.ahead {s : ByteArray} {l : List ByteArray} {f i : Nat} (h : Told s l f i) (he : i = s.size ∨ Op.byte s i = 32) : As.ahead 32 (s.extract f s.size) = s.extract f i := by
 have h1 := h.1
 have h2 := h.2.1
 unfold As.ahead
 rw [h.at_ he]
 apply In.list_ext
 rw [Lib.extract_data, drop_data, Lib.extract_data, List.drop_zero]
 rfl
theorem Told.next {s : ByteArray} {l : List ByteArray} {f i : Nat} (h : Told s l f i) (hi : i < s.size) (hb : Op.byte s i = 32) : Told s (l ++ [s.extract f i]) (i + 1) (i + 1) := by
 have h1 := h.1
 refine ⟨Nat.le_refl _, hi, ?_, fun j h3 h4 => by omega⟩
 have hz : (s.extract f s.size).size = s.size - f := by rw [ByteArray.size_extract]; omega
 have hm : more 32 (s.extract f s.size) = true := by
   unfold more
   rw [h.at_ (.inr hb), hz]
   exact decide_eq_true (by omega)
 have hbh : behind 32 (s.extract f s.size) = s.extract (i + 1) s.size := by
   unfold behind
   rw [h.at_ (.inr hb)]
   apply In.list_ext
   rw [Lib.extract_data, drop_data, drop_data, List.drop_drop, List.take_of_length_le (by rw [List.length_drop, hz]; have := Lib.size_eq s; omega)]
   congr 1
   omega
 rw [h.2.2.1, words_cut 32 (s.extract f s.size), hm, if_pos rfl, h.ahead (.inr hb), hbh]
 simp
theorem Told.last {s : ByteArray} {l : List ByteArray} {f : Nat} (h : Told s l f s.size) : words 32 s = l ++ [s.extract f s.size] := by
 have hz : (s.extract f s.size).size = s.size - f := by rw [ByteArray.size_extract]; omega
 have hm : more 32 (s.extract f s.size) = false := by
   unfold more
   rw [h.at_ (.inl rfl), hz]
   exact decide_eq_false (by omega)
 rw [h.2.2.1, words_cut 32 (s.extract f s.size), hm, if_neg (by decide), h.ahead (.inl rfl)]
end As
def AsRcRel (s : ByteArray) (w : World) (u f i : Value) (wr : World) : Prop :=
 ∃ (l : List ByteArray) (p q : Nat), f = .int .i64 (p : Int) ∧ i = .int .i64 (q : Int) ∧ (As.Told s l p q ∨ (q = s.size + 1 ∧ As.words 32 s = l)) ∧ l.length ≤ q ∧ wr.ownsRow w.heap.size 9 1 u l.length (strs l) ∧ Below w.heap.size w wr
set_option maxHeartbeats 4000000 in
theorem rascut_any (s : ByteArray) (hs : s.size ≤ 1048576) (w : World) : Calls Tryz.prog 20 #[.string s] w (NewNames (As.words 32 s) w) := by
 obtain ⟨i0, hi, hz0, hz1, hz2⟩ := info_parts info_str
 go_enter Tryz.func20, Tryz.ntmps20
 go_wp2
 go_loopw [3, 4, 5] (fun u f i wr => AsRcRel s w u f i wr) (fun _ _ i _ => s.size + 2 - (intOf i).toNat)
 case atStart => exact ⟨[], 0, 0, rfl, rfl, .inl (As.Told.first s), by simp, World.ownsRow_nil _ _ _ _, Below.refl _ _⟩
 case round =>
   obtain ⟨l, p, q, rfl, rfl, hT, hl, hO, hB⟩ := hrel
   have HB := Lib.hid hB
   have HO := Lib.hid hO
   have HL := Lib.hid hl
   clear hB hO hl
   rcases hT with hT | ⟨rfl, hE⟩
   · have hpq := hT.1
     have hqs := hT.2.1
     have hd : decide ((q : Int) ≤ (s.size : Int)) = true := decide_eq_true (by omega)
     have HNx := Lib.hid hT
     have hex : ∀ W, (Instr.slice 9 (.string s) (some (.int .i64 (p : Int))) (some (.int .i64 (q : Int))) none).run Tryz.prog W = .ok (.string (s.extract p q)) W := by
       intro W
       rw [run_slice_string (P := Tryz.prog) (s := s) (w := W) (t := 9) (h := Tryz.underlying9) (k := .i64) (k' := .i64) (i := (p : Int)) (j := (q : Int)) (by omega) (by omega) (by omega)]
       congr 2
     generalize hwd : s.extract p q = wd at *
     have HWd := Lib.hid hwd
     clear hT hwd
     by_cases hend : q = s.size
     · subst hend
       have heq : ((s.size : Int) == (s.size : Int)) = true := beq_self_eq_true _
       have HT2 : Hid (As.words 32 s = l ++ [wd]) := Lib.hid (by rw [HNx.out.last, ← HWd.out])
       go_wp2_with (at_builtin; refine wpList_append_lies _ rfl (.tmp 22) (.tmp 27) 51 rfl w.heap.size 9 i0 (.string ⟨#[]⟩) 1 16 Tryz.underlying51 hi hz0 hz1 hz2 rfl (by decide) u3 l.length (strs l) rfl ?c0 ⟨wr.heap.size, 0, none⟩ 1 1 (strs [wd]) rfl rfl ?c1 (strs_one _) (by decide) ?c3 ?c4 ?c5 (wr.heap.size + 1) ?c6 ?_)
       case c0 => exact HO.out.alloc _
       case c1 => exact new_str wr _ _
       case c3 => have := HL.out; unfold maxLen; omega
       case c4 => have := HL.out; omega
       case c5 => have := HB.out.size; simp; omega
       case c6 => simp
       intro g cap w2 hown2 hgrow2 hat2 _
       have HB2 := Lib.hid (own_grown HB.out HO.out hgrow2)
       have HO2 := Lib.hid hown2
       clear hown2 hgrow2 hat2
       go_wp2
       go_roundw
       case rel => exact ⟨l ++ [wd], s.size + 1, s.size + 1, by go_num, by go_num, .inr ⟨by omega, HT2.out⟩, by have := HL.out; rw [List.length_append]; simp; omega, by rw [List.length_append, strs_append]; exact HO2.out, HB2.out⟩
       case measure => simp [intOf]
     · have hqlt : q < s.size := by omega
       have hne : ((q : Int) == (s.size : Int)) = false := by rw [beq_eq_false_iff_ne]; omega
       have hby := Op.byte_eq s q hqlt
       by_cases h32 : Op.byte s q = 32
       · have hc : (((s[q]'hqlt).toNat : Int) == 32) = true := by rw [hby, h32]; rfl
         have HT2 := Lib.hid (HNx.out.next hqlt h32)
         rw [HWd.out] at HT2
         clear hby h32
         go_wp2_with (at_builtin; refine wpList_append_lies _ rfl (.tmp 22) (.tmp 27) 51 rfl w.heap.size 9 i0 (.string ⟨#[]⟩) 1 16 Tryz.underlying51 hi hz0 hz1 hz2 rfl (by decide) u3 l.length (strs l) rfl ?c0 ⟨wr.heap.size, 0, none⟩ 1 1 (strs [wd]) rfl rfl ?c1 (strs_one _) (by decide) ?c3 ?c4 ?c5 (wr.heap.size + 1) ?c6 ?_)
         case c0 => exact HO.out.alloc _
         case c1 => exact new_str wr _ _
         case c3 => have := HL.out; unfold maxLen; omega
         case c4 => have := HL.out; omega
         case c5 => have := HB.out.size; simp; omega
         case c6 => simp
         intro g cap w2 hown2 hgrow2 hat2 _
         have HB2 := Lib.hid (own_grown HB.out HO.out hgrow2)
         have HO2 := Lib.hid hown2
         clear hown2 hgrow2 hat2
         go_wp2
         go_roundw
         case rel => exact ⟨l ++ [wd], q + 1, q + 1, by go_num, by go_num, .inl HT2.out, by have := HL.out; rw [List.length_append]; simp; omega, by rw [List.length_append, strs_append]; exact HO2.out, HB2.out⟩
         case measure => simp [intOf]; omega
       · have hc : (((s[q]'hqlt).toNat : Int) == 32) = false := by rw [hby, beq_eq_false_iff_ne]; omega
         have HT2 := Lib.hid (HNx.out.on hqlt h32)
         clear hby h32 hex
         go_wp2
         go_roundw
         case rel => exact ⟨l, p, q + 1, rfl, by go_num, .inl HT2.out, by have := HL.out; omega, HO.out, HB.out⟩
         case measure => simp [intOf]; omega
   · have hd : decide (((s.size : Int) + 1) ≤ (s.size : Int)) = false := decide_eq_false (by omega)
     have HE := Lib.hid hE
     obtain ⟨A, n, c, rfl⟩ : ∃ A n c, u3 = .slice A n c := by
       rcases HO.out.2 with ⟨e, _⟩ | ⟨g, cap, cur, e, _⟩
       · exact ⟨_, _, _, e⟩
       · exact ⟨_, _, _, e⟩
     obtain ⟨hn, hA⟩ := names_of_own HO.out
     have HN := Lib.hid hn
     have HAt := Lib.hid hA
     clear hE hn hA
     go_wp2
     go_ret
     rw [HE.out]
     exact ⟨A, c, congrArg (fun z => Ending.returned (.slice A z c)) HN.out, HN.out ▸ HAt.out, HB.out⟩
end Go.Proofs.YtfopelegobhegaaGreatDoor
namespace Go.Proofs.YtfopelegobhegaaGreatDoor
open Go.RowKit
namespace As
def func_ : ByteArray := ⟨#[102, 117, 110, 99]⟩
def part (k : Nat) (t : List Int) (f : Fn.F) : Fn.F := match k with
 | 0 => { f with params := t }
 | 1 => { f with results := t }
 | 2 => { f with locals := t }
 | _ => { f with outer := t }
def parts : Nat → List ByteArray → Fn.F → Fn.F × Nat
 | _, [], f => (f, 0)
 | k, x :: r, f => match Si.read (Si.codes x) with
   | none => (.zero, 5)
   | some t => parts (k + 1) r (part k t f)
def title (x : ByteArray) (n : Nat) : Fn.F := { Fn.F.zero with name := x, inner := decide (n = 6) }
def headOf (l : List ByteArray) : Fn.F × Nat :=
 if l.getD 0 ByteArray.empty ≠ func_ ∨ (l.length ≠ 5 ∧ l.length ≠ 6) then (.zero, 19) else if Nm.may (l.getD 1 ByteArray.empty) = false then (.zero, 7) else parts 0 (l.drop 2) (title (l.getD 1 ByteArray.empty) l.length)
def head (s : ByteArray) : Fn.F × Nat := headOf (words 32 s)
theorem headOf_take (l : List ByteArray) : headOf (l.take 7) = headOf l := by
 by_cases h : l.length ≤ 7
 · rw [List.take_of_length_le h]
 · have h7 : (l.take 7).length = 7 := by rw [List.length_take]; omega
   unfold headOf
   rw [if_pos (.inr (by omega)), if_pos (.inr (by omega))]
theorem head_take {s : ByteArray} {l : List ByteArray} (h : (words 32 s).take 7 = l) : head s = headOf l := by rw [← h, headOf_take]; rfl
theorem head_bad {l : List ByteArray} (h : l.getD 0 ByteArray.empty ≠ func_ ∨ (l.length ≠ 5 ∧ l.length ≠ 6)) : headOf l = (.zero, 19) := if_pos h
theorem head_name {l : List ByteArray} (h0 : l.getD 0 ByteArray.empty = func_) (h1 : l.length = 5 ∨ l.length = 6) (h2 : Nm.may (l.getD 1 ByteArray.empty) = false) : headOf l = (.zero, 7) := by
 unfold headOf
 rw [if_neg (by rintro (h | h); exact h h0; omega), if_pos h2]
theorem head_parts {l : List ByteArray} (h0 : l.getD 0 ByteArray.empty = func_) (h1 : l.length = 5 ∨ l.length = 6) (h2 : Nm.may (l.getD 1 ByteArray.empty) = true) : headOf l = parts 0 (l.drop 2) (title (l.getD 1 ByteArray.empty) l.length) := by
 unfold headOf
 rw [if_neg (by rintro (h | h); exact h h0; omega), if_neg (by rw [h2]; decide)]
theorem drop_word {l : List ByteArray} {i : Nat} (h : i < l.length) : l.drop i = l.getD i ByteArray.empty :: l.drop (i + 1) := by
 rw [List.drop_eq_getElem_cons h]
 congr 1
 simp [List.getD, h]
theorem parts_none {l : List ByteArray} {k i : Nat} {f : Fn.F} (h : i < l.length) (hr : Si.read (Si.codes (l.getD i ByteArray.empty)) = none) : parts k (l.drop i) f = (.zero, 5) := by
 rw [drop_word h]
 unfold parts
 rw [hr]
theorem parts_some {l : List ByteArray} {k i : Nat} {f : Fn.F} {t : List Int} (h : i < l.length) (hr : Si.read (Si.codes (l.getD i ByteArray.empty)) = some t) : parts k (l.drop i) f = parts (k + 1) (l.drop (i + 1)) (part k t f) := by
 rw [drop_word h]
 conv => lhs; unfold parts
 rw [hr]
theorem parts_all {l : List ByteArray} {k i : Nat} {f : Fn.F} (h : l.length ≤ i) : parts k (l.drop i) f = (f, 0) := by
 rw [List.drop_of_length_le h]
 rfl
end As
def vpart (k : Nat) (t : Sl3) (v : FnV) : FnV := match k with
 | 0 => { v with params := t }
 | 1 => { v with results := t }
 | 2 => { v with locals := t }
 | _ => { v with outer := t }
def voff (k : Nat) : Nat := match k with
 | 0 => 3
 | 1 => 4
 | 2 => 5
 | _ => 2
theorem four_cases {k : Nat} (h : k < 4) : k = 0 ∨ k = 1 ∨ k = 2 ∨ k = 3 := by omega
theorem vpart_cells {k : Nat} (h : k < 4) (t : Sl3) (v : FnV) : v.cells.setIfInBounds (voff k) t.val = (vpart k t v).cells := by
 rcases four_cases h with rfl | rfl | rfl | rfl <;> rfl
theorem FnOwn.part {w : World} {base : Nat} {v : FnV} {f : Fn.F} (h : FnOwn w base v f) {k : Nat} (hk : k < 4) {t : Sl3} {l : List Int} (ho : w.ownsRow base 86 1 t.val l.length (vs l)) : FnOwn w base (vpart k t v) (As.part k l f) := by
 rcases four_cases hk with rfl | rfl | rfl | rfl
 · exact ⟨h.name, h.inner, h.outer, ho, h.results, h.locals, h.code, h.lines, h.nodes, h.at_, h.live⟩
 · exact ⟨h.name, h.inner, h.outer, h.params, ho, h.locals, h.code, h.lines, h.nodes, h.at_, h.live⟩
 · exact ⟨h.name, h.inner, h.outer, h.params, h.results, ho, h.code, h.lines, h.nodes, h.at_, h.live⟩
 · exact ⟨h.name, h.inner, ho, h.params, h.results, h.locals, h.code, h.lines, h.nodes, h.at_, h.live⟩
def FnV.titled (x : ByteArray) (b : Bool) : FnV := { FnV.zero with name := x, inner := b }
theorem FnOwn.titled (w : World) (base : Nat) (x : ByteArray) (n : Nat) : FnOwn w base (FnV.titled x (decide (n = 6))) (As.title x n) :=
 ⟨rfl, rfl, World.ownsRow_nil _ _ _ _, World.ownsRow_nil _ _ _ _, World.ownsRow_nil _ _ _ _, World.ownsRow_nil _ _ _ _, World.ownsRow_nil _ _ _ _, World.ownsRow_nil _ _ _ _, World.ownsRow_nil _ _ _ _, World.ownsRow_nil _ _ _ _, World.ownsRow_nil _ _ _ _⟩
def FnV.four (x : ByteArray) (b : Bool) (v : FnV) : FnV := { FnV.zero with name := x, inner := b, outer := v.outer, params := v.params, results := v.results, locals := v.locals }
theorem four_part {k : Nat} (h : k < 4) {x : ByteArray} {b : Bool} {t : Sl3} {v : FnV} (hv : v = FnV.four x b v) : vpart k t v = FnV.four x b (vpart k t v) := by
 rw [hv]
 rcases four_cases h with rfl | rfl | rfl | rfl <;> rfl
def HeadP (o : Fn.F × Nat) (w : World) (e : Ending) (w' : World) : Prop := ∃ v : FnV, e = .returned (.tuple #[.agg v.cells, .int .i64 (o.2 : Int)]) ∧ FnOwn w' w.heap.size v o.1 ∧ (∃ x b, v = FnV.four x b v) ∧ Below w.heap.size w w'
theorem HeadP.bad {o : Fn.F × Nat} {n : Nat} (h : o = (.zero, n)) {w w' : World} (hb : Below w.heap.size w w') : HeadP o w (.returned (.tuple #[.agg FnV.zero.cells, .int .i64 (n : Int)])) w' := by
 subst h
 exact ⟨.zero, rfl, FnOwn.zero _ _, ⟨_, _, rfl⟩, hb⟩
end Go.Proofs.YtfopelegobhegaaGreatDoor
