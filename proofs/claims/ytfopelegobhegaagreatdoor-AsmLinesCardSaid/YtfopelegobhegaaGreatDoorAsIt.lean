/-
 What asm.lines answers: a function that yields the lines of a text that are not empty, one by one, with their numbers. Conditions: at most a million bytes.
-/
import Derived.Test.YtfopelegobhegaaGreatDoorAsR
import Derived.RangeFuncBox
set_option maxRecDepth 100000
namespace Go.Proofs.YtfopelegobhegaaGreatDoor
open Go.RowKit Go.Shelf
attribute [local go_sem] Oper.semAt_some
namespace As
def Left (s : ByteArray) (pre : List (Nat × ByteArray)) (r : ByteArray) (b : Bool) (k : Nat) : Prop := lines s = pre ++ (if b then numbered k (words 10 r) else []) ∧ k + (if b then r.size + 1 else 0) ≤ s.size + 2 ∧ r.size ≤ s.size
theorem Left.first (s : ByteArray) : Left s [] s true 1 := ⟨rfl, by rw [if_pos rfl]; omega, Nat.le_refl _⟩
theorem numbered_cut (k : Nat) (r : ByteArray) : numbered k (words 10 r) = (if (ahead 10 r).size = 0 then [] else [(k, ahead 10 r)]) ++ (if more 10 r then numbered (k + 1) (words 10 (behind 10 r)) else []) := by
 rw [words_cut]
 conv => lhs; unfold numbered
 by_cases h : (ahead 10 r).size = 0
 · rw [if_pos h, if_pos h]
   cases more 10 r <;> rfl
 · rw [if_neg h, if_neg h]
   cases more 10 r <;> rfl
theorem Left.next {s r : ByteArray} {pre : List (Nat × ByteArray)} {k : Nat} (h : Left s pre r true k) : Left s (pre ++ (if (ahead 10 r).size = 0 then [] else [(k, ahead 10 r)])) (behind 10 r) (more 10 r) (k + 1) := by
 obtain ⟨h1, h2, h3⟩ := h
 rw [if_pos rfl, numbered_cut] at h1
 rw [if_pos rfl] at h2
 have h4 := behind_le 10 r
 refine ⟨by rw [h1, List.append_assoc], ?_, by omega⟩
 cases hm : more 10 r with
 | true => have := behind_size hm; rw [if_pos rfl]; omega
 | false => rw [if_neg (by decide)]; omega
theorem Left.begins {s r : ByteArray} {pre : List (Nat × ByteArray)} {b : Bool} {k : Nat} (h : Left s pre r b k) : pre <+: lines s := ⟨_, h.1.symm⟩
end As
abbrev LnT := { x : Nat × ByteArray // x.2.size ≤ 1048576 }
def LnRel (s : ByteArray) (J : List LnT → World → Prop) (u m n : Value) (wr : World) : Prop :=
 ∃ (pre : List LnT) (r : ByteArray) (b : Bool) (k : Nat), u = .string r ∧ m = .bool b ∧ n = .int .i64 (k : Int) ∧ As.Left s (pre.map (·.1)) r b k ∧ J pre wr
def leftOf (u m : Value) : Nat := match u, m with
 | .string r, .bool b => if b then r.size + 1 else 0
 | _, _ => 0
theorem abides_drew {β : Type} {B : Nat} {J : β → World → Prop} (h : AbidesFrom B J) {s : β} {W : World} (hJ : J s W) (n : Nat) : J s (W.drewN n) :=
 h s W _ none hJ ⟨rfl, rfl, rfl, Nat.le_refl _, fun _ _ _ => rfl⟩ (fun r e => by cases e)
set_option maxHeartbeats 4000000 in
theorem lines1_in (n : Nat) (hn : 1 ≤ n) (l Bs : Nat) (s : ByteArray) (hs : s.size ≤ 1048576) (J Jx : List LnT → World → Prop) (B : Nat) (hJ : AbidesFrom B J)
   (hY : ∀ pre x W, J pre W → pre.length < (As.lines s).length → YieldAt Fence.wide (n - 1) Tryz.prog l (encN x.1) W fun e W' =>
     (e = .returned (.bool true) ∧ J (pre ++ [x]) W' ∧ True) ∨ (e = .returned (.bool false) ∧ Jx (pre ++ [x]) W'))
   (W : World) (hB : Boxed W Bs 9 (.string s)) (h0 : J [] W) :
   CallsIn Fence.wide n Tryz.prog 49 #[.func (.yield l) #[] #[], .pointer (some ⟨Bs, 0, none⟩)] W fun e W' => (∃ v, e = .returned v) ∧
     ((∃ ys : List LnT, ys.map (·.1) = As.lines s ∧ J ys W') ∨ (∃ pre : List LnT, pre.map (·.1) <+: As.lines s ∧ Jx pre W')) := by
 have c0 := hB.cell
 have HY := Lib.hid hY
 have HJ := Lib.hid hJ
 clear hY hJ hB
 refine callsIn_of_wp Tryz.func49 rfl trivial ?_ rfl
 simp only [Tryz.ntmps49, List.size_toArray, List.length_cons, List.length_nil, Nat.reduceAdd, Nat.reduceSub, Array.replicate_succ, Array.replicate_zero, List.push_toArray, List.append_toArray, List.nil_append, List.cons_append]
 gi_wp2
 clear c0
 gi_loopw [3, 4, 5, 6] (fun u m k _ wr => LnRel s J u m k wr) (fun u m _ _ _ => leftOf u m)
 case atStart => exact ⟨[], s, true, 1, rfl, rfl, rfl, As.Left.first s, h0⟩
 case round =>
   obtain ⟨pre, r, b, k, rfl, rfl, rfl, hL, hJr⟩ := hrel
   have HL := Lib.hid hL
   have HJR := Lib.hid hJr
   clear hL hJr
   cases b with
   | false =>
     have HE : Hid (pre.map (·.1) = As.lines s) := Lib.hid (by have := HL.out.1; rw [if_neg (by decide), List.append_nil] at this; exact this.symm)
     gi_wp2
     go_end0
     exact ⟨⟨_, rfl⟩, .inl ⟨pre, HE.out, HJR.out⟩⟩
   | true =>
     have HNx := Lib.hid HL.out.next
     have hk : (k : Int) ≤ 1048578 := by have := HL.out.2.1; rw [if_pos rfl] at this; omega
     have HC := ascut_line r (by have := HL.out.2.2; omega) wr
     have HAz := Lib.hid (Nat.le_trans (As.ahead_size 10 r) HL.out.2.2)
     have HSz := Lib.hid (fun h : As.more 10 r = true => As.behind_size h)
     obtain ⟨a, ha⟩ : ∃ a, As.ahead 10 r = a := ⟨_, rfl⟩
     obtain ⟨t, htl⟩ : ∃ t, As.behind 10 r = t := ⟨_, rfl⟩
     obtain ⟨m, hm⟩ : ∃ m, As.more 10 r = m := ⟨_, rfl⟩
     rw [ha, htl, hm] at HC HNx
     rw [ha] at HAz
     rw [htl, hm] at HSz
     clear ha htl hm
     by_cases hz : a.size = 0
     · rw [if_pos hz, List.append_nil] at HNx
       obtain rfl := empty_of hz
       clear hz
       gi_wp2_with (refine ⟨trivial, ?_⟩; gi_at_call 11; refine (callsIn_wide.2 HC).mono ?_; clear HC; rintro e w1 ⟨rfl, j, rfl⟩; have HJ2 := Lib.hid (abides_drew HJ.out HJR.out j))
       refine ⟨fun _ h => (by cases h), ?_⟩
       gi_wp2
       go_roundw
       case rel => exact ⟨pre, t, m, k + 1, rfl, rfl, by go_num, HNx.out, HJ2.out⟩
       case measure =>
         cases m with
         | true => have := HSz.out rfl; simp [leftOf]; omega
         | false => simp [leftOf]
     · rw [if_neg hz] at HNx
       have hz2 := not_empty hz
       have HLt : Hid (pre.length < (As.lines s).length) := Lib.hid (by
         have := HNx.out.begins.length_le
         rw [List.length_append, List.length_singleton, List.length_map] at this
         omega)
       have hsz : a.size ≤ 1048576 := by have := HAz.out; omega
       clear hz
       gi_wp2_with (refine ⟨trivial, ?_⟩; gi_at_call 11; refine (callsIn_wide.2 HC).mono ?_; clear HC; rintro e w1 ⟨rfl, j, rfl⟩; have HJ2 := Lib.hid (abides_drew HJ.out HJR.out j); obtain ⟨fn, tmps, assign, body, hy, hR⟩ := HY.out pre ⟨(k, a), hsz⟩ (wr.drewN j) HJ2.out HLt.out; dsimp only [encN] at hy)
       refine hR.mono ?_
       rintro e W3 (⟨rfl, hJ3, _⟩ | ⟨rfl, hJx3⟩)
       · have HJ3 := Lib.hid hJ3
         clear hJ3
         gi_wp2
         go_roundw
         case rel => exact ⟨pre ++ [⟨(k, a), hsz⟩], t, m, k + 1, rfl, rfl, by go_num, by rw [List.map_append]; exact HNx.out, HJ3.out⟩
         case measure =>
           cases m with
           | true => have := HSz.out rfl; simp [leftOf]; omega
           | false => simp [leftOf]
       · gi_wp2
         refine bodyPost_ret (results_none rfl _ _ _) rfl ?_
         exact ⟨⟨_, rfl⟩, .inr ⟨_, by rw [List.map_append]; exact HNx.out.begins, hJx3⟩⟩
theorem lines_stops (n : Nat) (hn : 1 ≤ n) (Bs : Nat) (s : ByteArray) (hs : s.size ≤ 1048576) (w : World) (hB : Boxed w Bs 9 (.string s)) :
   SeqStopsK Fence.wide n Tryz.prog 49 #[.pointer (some ⟨Bs, 0, none⟩)] (fun x : LnT => encN x.1) (fun _ _ => True) (fun ys => ys.map (·.1) = As.lines s) (fun pre => pre.map (·.1) <+: As.lines s) (As.lines s).length w :=
 fun l J Jx W hW hJ _ hY h0 => lines1_in n hn l Bs s hs J Jx W.heap.size hJ hY W ((hW.block Bs hB.lt).trans hB) h0
set_option maxHeartbeats 1000000 in
theorem aslines_in (n : Nat) (s : ByteArray) (w : World) :
   CallsIn Fence.wide n Tryz.prog 28 #[.string s] w fun e w' => e = .returned (.func (.func 49) #[] #[.pointer (some ⟨w.heap.size, 0, none⟩)]) ∧ w' = w.alloc (.cells #[.string s] 9) := by
 refine callsIn_of_wp Tryz.func28 rfl trivial ?_ rfl
 simp only [Tryz.ntmps28, List.size_toArray, List.length_cons, List.length_nil, Nat.reduceAdd, Nat.reduceSub, Array.replicate_succ, Array.replicate_zero, List.push_toArray, List.append_toArray, List.nil_append, List.cons_append]
 gi_wp2
 go_ret
 exact ⟨rfl, rfl⟩
end Go.Proofs.YtfopelegobhegaaGreatDoor
