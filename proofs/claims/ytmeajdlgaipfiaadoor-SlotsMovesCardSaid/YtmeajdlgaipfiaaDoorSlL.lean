/-
  The law's example: 3 and 70, moved. Conditions: the table of math/bits is laid.
-/
import Derived.Test.YtmeajdlgaipfiaaDoorSlJ
import Derived.Test.YtmeajdlgaipfiaaDoorSlG
import Derived.Test.YtmeajdlgaipfiaaDoorSlE
namespace Go.Proofs.YtmeajdlgaipfiaaDoor
open Go.RowKit

theorem ints_new1 (w : World) (x : Int) (t : TypeId) : IntsAt (w.alloc (.cells #[.int .i64 x] t)) (w.alloc (.cells #[.int .i64 x] t)).heap.size (some ⟨w.heap.size, 0, none⟩) 1 [x] := by
  have h : (w.alloc (.cells #[.int .i64 x] t)).heap[w.heap.size]? = some (.cells #[.int .i64 x] t (0, 0)) := heap_alloc_new w _
  refine ⟨rfl, fun _ => ⟨w.heap.size, 0, rfl, by simp, fun i hi => ?_⟩⟩
  obtain rfl : i = 0 := by omega
  exact cell_of_row _ _ 0 _ _ _ h
theorem ints_new2 (w : World) (x y : Int) (t : TypeId) : IntsAt (w.alloc (.cells #[.int .i64 x, .int .i64 y] t)) (w.alloc (.cells #[.int .i64 x, .int .i64 y] t)).heap.size (some ⟨w.heap.size, 0, none⟩) 2 [x, y] := by
  have h : (w.alloc (.cells #[.int .i64 x, .int .i64 y] t)).heap[w.heap.size]? = some (.cells #[.int .i64 x, .int .i64 y] t (0, 0)) := heap_alloc_new w _
  refine ⟨rfl, fun _ => ⟨w.heap.size, 0, rfl, by simp, fun i hi => ?_⟩⟩
  obtain rfl | rfl : i = 0 ∨ i = 1 := by omega
  · exact cell_of_row _ _ 0 _ _ _ h
  · exact cell_of_row _ _ 1 _ _ _ h

theorem ex_has : (Sl.of [3, 70]).hasI 70 = true := by decide +kernel
theorem ex_not : (Sl.of [3, 70]).hasI 4 = false := by decide +kernel
theorem ex_len : (Sl.of [3, 70]).list.length = 2 := by decide +kernel
theorem ex_list : (Sl.of [3, 70]).list = [3, 70] := by decide +kernel
theorem ex_move : (Sl.of [3, 70]).move (-5) = Sl.of [65] := by
  unfold Sl.Four.move
  rw [ex_list]
  show (Sl.no.with_ (-2)).with_ 65 = Sl.no.with_ 65
  rw [Sl.with_out (n := -2) (by omega)]

/-- A bool is answered; nothing below has turned. -/
def BoolP (b : Bool) (w : World) (e : Ending) (w' : World) : Prop := e = .returned (.bool b) ∧ Below w.heap.size w w'
theorem ex70 (w : World) : Calls Tryd.prog 9 #[setV (Sl.of [3, 70]), .int .i64 70] w (BoolP true w) := by
  have := has_any (Sl.of [3, 70]) (Sl.ok_of _) 70 w
  rw [ex_has] at this
  exact this
theorem ex4 (w : World) : Calls Tryd.prog 9 #[setV (Sl.of [3, 70]), .int .i64 4] w (BoolP false w) := by
  have := has_any (Sl.of [3, 70]) (Sl.ok_of _) 4 w
  rw [ex_not] at this
  exact this
theorem exM (w : World) (hT : Tab w) (hw : 1 ≤ w.heap.size) : Calls Tryd.prog 26 #[setV (Sl.of [3, 70]), .int .i64 (-5)] w (SetP (Sl.of [65]) w) := by
  have := move_any (Sl.of [3, 70]) (Sl.ok_of _) (-5) w hT hw
  rw [ex_move] at this
  exact this
theorem exC (w : World) : Calls Tryd.prog 20 #[setV (Sl.of [3, 70])] w fun e w' => e = .returned (.int .i64 2) ∧ Below w.heap.size w w' := by
  have := count_any (Sl.of [3, 70]) (Sl.ok_of _) w
  rw [ex_len] at this
  exact this

set_option maxHeartbeats 2000000 in
theorem lives_any (w : World) (hT : Tab w) (hw : 1 ≤ w.heap.size) :
    Calls Tryd.prog 7 #[] w (BoolP true w) := by
  have HT := Lib.hid hT
  have HW := Lib.hid hw
  have H70 := Lib.hid ex70
  have H4 := Lib.hid ex4
  have HM := Lib.hid exM
  have HC := Lib.hid exC
  have HO := Lib.hid (fun w => of_any _ 2 2 [3, 70] _ (ints_new2 w 3 70 3) (by omega))
  clear hT hw
  generalize Sl.of [3, 70] = s at *
  have eq := eq_same
  go_enter Tryd.func7, Tryd.ntmps7
  go_wp2_with fail
  refine (HO.out w).mono ?_
  rintro e w1 ⟨rfl, hb1⟩
  have HB1 := Lib.hid (((Below.refl _ w).alloc (Nat.le_refl _) _).trans (hb1.mono (by simp)))
  clear hb1
  go_wp2_with fail
  refine (H70.out _).mono ?_
  rintro e w2 ⟨rfl, hb2⟩
  have HS2 := Lib.hid ((SetAt.new w1 s).below hb2 (by simp))
  have HB2 := Lib.hid ((HB1.out.alloc HB1.out.size _).trans (hb2.mono (by have := HB1.out.size; simp; omega)))
  clear hb2
  obtain ⟨⟨c0, c1, c2, c3⟩, _⟩ := HS2.out.reads
  go_wp2_with fail
  refine (H4.out _).mono ?_
  rintro e w3 ⟨rfl, hb3⟩
  have HS3 := Lib.hid (HS2.out.below hb3 HS2.out.lt)
  have HB3 := Lib.hid (HB2.out.trans (hb3.mono HB2.out.size))
  clear hb3
  obtain ⟨⟨c0, c1, c2, c3⟩, _⟩ := HS3.out.reads
  go_wp2_with fail
  refine (HM.out _ (tab_below HT.out HB3.out HW.out) (Nat.le_trans HW.out HB3.out.size)).mono ?_
  rintro e w4 ⟨rfl, hb4⟩
  have HS4 := Lib.hid (HS3.out.below hb4 HS3.out.lt)
  have HB4 := Lib.hid (HB3.out.trans (hb4.mono HB3.out.size))
  clear hb4
  go_wp2_with fail
  refine (of_any _ 1 1 [65] _ (ints_new1 w4 65 3) (by omega)).mono ?_
  rintro e w5 ⟨rfl, hb5⟩
  have HS5 := Lib.hid ((HS4.out.alloc (.cells #[.int .i64 65] 3)).below hb5 (HS4.out.alloc _).lt)
  have HB5 := Lib.hid ((HB4.out.alloc HB4.out.size _).trans (hb5.mono (by have := HB4.out.size; simp; omega)))
  clear hb5
  obtain ⟨⟨c0, c1, c2, c3⟩, _⟩ := HS5.out.reads
  go_wp2_with fail
  refine (HC.out _).mono ?_
  rintro e w6 ⟨rfl, hb6⟩
  have HB6 := Lib.hid (HB5.out.trans (hb6.mono HB5.out.size))
  clear hb6
  go_wp2
  go_ret
  exact ⟨rfl, HB6.out⟩
end Go.Proofs.YtmeajdlgaipfiaaDoor
