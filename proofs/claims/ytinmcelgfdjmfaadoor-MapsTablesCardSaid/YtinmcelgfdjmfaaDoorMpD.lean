/-
  What maps.Move tells: the sets, each moved, in new memory. Conditions: the table can be read; words of 64 bits; the table of math/bits is laid; at most 2^36 sets.
-/
import Derived.Test.YtinmcelgfdjmfaaDoorMpA
import Derived.Test.YtinmcelgfdjmfaaDoorSlJ
namespace Go.Proofs.YtinmcelgfdjmfaaDoor
open Go.RowKit

set_option maxRecDepth 100000 in
theorem info_set : (Tryd.prog.info? 27).map (fun i => (i.zero, i.size, i.bytes)) = some (some (.agg #[.int .u64 0, .int .u64 0, .int .u64 0, .int .u64 0]), 4, 32) := by kernel_rfl

/-- Sets are told, in memory of the call's own; nothing below has turned. -/
def SetsP (l : List Sl.Four) (w : World) (e : Ending) (w' : World) : Prop := ∃ A c, e = .returned (.slice A l.length c) ∧ SetsAt w' w'.heap.size A l.length l ∧ l.length ≤ c ∧ (∀ b, (Value.slice A l.length c).ownBlock = some b → w.heap.size ≤ b) ∧ Below w.heap.size w w'

/-- Between two rounds: the first k are moved. -/
def MmRel (n : Nat) (d : Int) (l : List Sl.Four) (w : World) (u i : Value) (wr : World) : Prop :=
  ∃ (k : Nat) (q : List Sl.Four), k ≤ n ∧ i = .int .i64 (k : Int) ∧ q = Mp.move (l.take k) d ∧ q.length = k ∧ wr.ownsRow w.heap.size 27 4 u k (sets q) ∧ Below w.heap.size w wr

set_option maxHeartbeats 4000000 in
set_option maxRecDepth 100000 in
theorem mpmove_any (a : Option Addr) (n c : Nat) (l : List Sl.Four) (d : Int) (w : World) (h : SetsAt w w.heap.size a n l) (hn : n ≤ 68719476736) (ho : ∀ s ∈ l, s.ok) (hT : Tab w) (hw : 0 < w.heap.size) :
    Calls Tryd.prog 6 #[.slice a n c, .int .i64 d] w (SetsP (Mp.move l d) w) := by
  obtain ⟨i0, hi, hz0, hz1, hz2⟩ := info_parts info_set
  have H := Lib.hid h
  have HL := Lib.hid h.1
  have HO := Lib.hid ho
  have HM := Lib.hid (fun (W : World) (hb : Below w.heap.size w W) (s : Sl.Four) (hs : s.ok) => move_any s hs d W (tab_below hT hb hw) (Nat.lt_of_lt_of_le hw hb.size))
  clear h ho hT hw
  go_enter Tryd.func6, Tryd.ntmps6
  go_wp2
  go_loopw [5, 10] (fun u i wr => MmRel n d l w u i wr) (fun _ i _ => n - (intOf i).toNat)
  case atStart => exact ⟨0, [], Nat.zero_le _, rfl, rfl, rfl, World.ownsRow_nil _ _ _ _, Below.refl _ _⟩
  case round =>
    obtain ⟨k, q, hk, rfl, hq, hql, hO, hB⟩ := hrel
    have HW := Lib.hid hO
    have HB := Lib.hid hB
    have HQ := Lib.hid (And.intro hq hql)
    clear hO hB hq hql
    by_cases hlt : k < n
    · obtain ⟨b, off, y, rfl, hbl, hy, hky, c0, c1, c2, c3⟩ := sets_cell (H.out.on HB.out) hlt
      have hoy := mp_ok HO.out hky
      have HS := Lib.hid (Mp.move_take d hky)
      rw [hy] at hoy HS
      have hb1 := HB.out.alloc HB.out.size (.cells #[.int .u64 (y.a : Int), .int .u64 (y.b : Int), .int .u64 (y.c : Int), .int .u64 (y.d : Int)] 27)
      have HC := Lib.hid (HM.out _ hb1 y hoy)
      have HO1 := Lib.hid (HW.out.alloc (.cells #[.int .u64 (y.a : Int), .int .u64 (y.b : Int), .int .u64 (y.c : Int), .int .u64 (y.d : Int)] 27))
      have HB1 := Lib.hid hb1
      generalize y.move d = z at *
      clear hb1 hoy hy hky
      have hk36 : k ≤ 68719476736 := by omega
      go_wp2_with (first
        | (go_at_call 17; go_must (refine HC.out.mono ?_; rintro _ w2 ⟨rfl, hb2⟩; have HO2 := Lib.hid (ownsRow_below HO1.out hb2); have HB2 := Lib.hid (below_self HB1.out hb2); clear hb2))
        | (at_builtin; refine wpList_append_lies _ rfl (.tmp 14) (.tmp 18) 22 rfl w.heap.size 27 i0 (.agg #[.int .u64 0, .int .u64 0, .int .u64 0, .int .u64 0]) 4 32 Tryd.underlying22 hi hz0 hz1 hz2 rfl (by decide) u5 k (sets q) rfl (HO2.out.alloc _) ⟨w2.heap.size, 0, none⟩ 1 1 (sets [z]) rfl rfl ?c1 (sets_one _) (by decide) ?c3 ?c4 ?c5 (w2.heap.size + 1) ?c6 ?_))
      case c1 => exact new_set w2 _ z
      case c3 => unfold maxLen; omega
      case c4 => omega
      case c5 => have := HB2.out.size; simp; omega
      case c6 => simp
      intro ga cap w4 hown4 hgrow4 hat4 _
      have HO5 := Lib.hid hown4
      have HB5 := Lib.hid ((HB2.out.alloc HB2.out.size (.cells #[.int .u64 (z.a : Int), .int .u64 (z.b : Int), .int .u64 (z.c : Int), .int .u64 (z.d : Int)] 27)).grown hgrow4 (by have := HB2.out.size; simp; omega) (fun b e => (HO2.out.lt b e).1))
      clear hown4 hgrow4 hat4
      go_wp2
      go_roundw
      case rel => exact ⟨k + 1, q ++ [z], hlt, by go_num, by rw [HS.out, HQ.out.1], by rw [List.length_append, HQ.out.2]; rfl, by rw [sets_append]; exact HO5.out, HB5.out⟩
      case measure => simp [intOf]; omega
    · obtain rfl : k = n := by omega
      have HE : Hid (q = Mp.move l d) := Lib.hid (by rw [HQ.out.1, List.take_of_length_le (by rw [HL.out]; omega)])
      have hO := HW.out
      rw [HE.out, show k = (Mp.move l d).length by rw [← HE.out, HQ.out.2]] at hO
      obtain ⟨A, c', rfl, hA, hlc⟩ := sets_slice hO
      have HF := Lib.hid (And.intro hA (And.intro hlc (fun b e => (hO.lt b e).1)))
      clear hA hO hlc
      generalize Mp.move l d = r at *
      go_wp2
      go_ret
      exact ⟨A, c', rfl, HF.out.1, HF.out.2.1, HF.out.2.2, HB.out⟩
end Go.Proofs.YtinmcelgfdjmfaaDoor
