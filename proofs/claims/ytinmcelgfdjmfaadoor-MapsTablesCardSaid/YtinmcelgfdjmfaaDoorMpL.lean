/-
  The example of the chapter, which ends every law of the layer. Conditions: the table of math/bits is laid.
-/
import Derived.Test.YtinmcelgfdjmfaaDoorMpB
import Derived.Test.YtinmcelgfdjmfaaDoorMpE
import Derived.Test.YtinmcelgfdjmfaaDoorSlD
namespace Go.Proofs.YtinmcelgfdjmfaaDoor
open Go.RowKit

theorem sets_new1 (w : World) (s : Sl.Four) (t : TypeId) : SetsAt (w.alloc (.cells #[.int .u64 (s.a : Int), .int .u64 (s.b : Int), .int .u64 (s.c : Int), .int .u64 (s.d : Int)] t)) (w.alloc (.cells #[.int .u64 (s.a : Int), .int .u64 (s.b : Int), .int .u64 (s.c : Int), .int .u64 (s.d : Int)] t)).heap.size (some ⟨w.heap.size, 0, none⟩) 1 [s] := by
  have h : (w.alloc (.cells #[.int .u64 (s.a : Int), .int .u64 (s.b : Int), .int .u64 (s.c : Int), .int .u64 (s.d : Int)] t)).heap[w.heap.size]? = some (.cells #[.int .u64 (s.a : Int), .int .u64 (s.b : Int), .int .u64 (s.c : Int), .int .u64 (s.d : Int)] t (0, 0)) := heap_alloc_new w _
  refine ⟨rfl, fun _ => ⟨w.heap.size, 0, rfl, by simp, fun i hi j hj => ?_⟩⟩
  obtain rfl : i = 0 := by omega
  refine (cell_of_row _ _ (0 + 0 * 4 + j) _ _ _ h).trans ?_
  rcases (show j = 0 ∨ j = 1 ∨ j = 2 ∨ j = 3 by omega) with rfl | rfl | rfl | rfl <;> rfl

theorem ex14_3 : Mp.right [Sl.of [3]] 3 = false := by decide +kernel
theorem ex14_4 : Mp.right [Sl.of [3]] 4 = true := by decide +kernel
theorem ex14_at : Mp.at_ [Sl.of [3]] 0 = Sl.of [3] := rfl

set_option maxHeartbeats 4000000 in
set_option maxRecDepth 100000 in
theorem lives14_any (w : World) (hT : Tab w) (hw : 0 < w.heap.size) : Calls Tryd.prog 5 #[] w (BoolP true w) := by
  have hok : (Sl.of [3]).ok := Sl.ok_of _
  have HOk : ∀ s ∈ [Sl.of [3]], s.ok := by
    intro s hs
    rw [List.mem_singleton] at hs
    rw [hs]
    exact hok
  have HO := Lib.hid (fun W => slof_any _ 1 1 [3] _ (ints_new1 W 3 3) (by omega))
  have HR (m : Int) (r : Bool) (hr : Mp.right [Sl.of [3]] m = r) : ∀ W, Below w.heap.size w W → Calls Tryd.prog 8 #[.slice (some ⟨W.heap.size, 0, none⟩) 1 1, .int .i64 m] (W.alloc (.cells #[.int .u64 ((Sl.of [3]).a : Int), .int .u64 ((Sl.of [3]).b : Int), .int .u64 ((Sl.of [3]).c : Int), .int .u64 ((Sl.of [3]).d : Int)] 27)) (BoolP r (W.alloc (.cells #[.int .u64 ((Sl.of [3]).a : Int), .int .u64 ((Sl.of [3]).b : Int), .int .u64 ((Sl.of [3]).c : Int), .int .u64 ((Sl.of [3]).d : Int)] 27))) := fun W hb => by
    have hb1 := hb.alloc hb.size (.cells #[.int .u64 ((Sl.of [3]).a : Int), .int .u64 ((Sl.of [3]).b : Int), .int .u64 ((Sl.of [3]).c : Int), .int .u64 ((Sl.of [3]).d : Int)] 27)
    have h := mpright_any _ 1 1 [Sl.of [3]] m _ (sets_new1 W (Sl.of [3]) 27) (by omega) HOk (tab_below hT hb1 hw) (Nat.lt_of_lt_of_le hw hb1.size)
    rw [hr] at h
    exact h
  have HR3 := Lib.hid (HR 3 false ex14_3)
  have HR4 := Lib.hid (HR 4 true ex14_4)
  have HA := Lib.hid (fun W => mpat_any _ 1 1 [Sl.of [3]] 0 _ (sets_new1 W (Sl.of [3]) 27))
  rw [ex14_at] at HA
  clear HR hok HOk hT
  generalize Sl.of [3] = s at *
  have eqs := eq_sets s s
  rw [Mp.same_self] at eqs
  go_enter Tryd.func5, Tryd.ntmps5
  go_wp2_with fail
  refine (HO.out w).mono ?_
  rintro e w1 ⟨rfl, hb1⟩
  have HB1 := Lib.hid (((Below.refl _ w).alloc (Nat.le_refl _) _).trans (hb1.mono (by simp)))
  clear hb1
  go_wp2_with fail
  refine (HR3.out w1 HB1.out).mono ?_
  rintro e w2 ⟨rfl, hb2⟩
  have HB2 := Lib.hid ((HB1.out.alloc HB1.out.size _).trans (hb2.mono (by have := HB1.out.size; simp; omega)))
  clear hb2
  go_wp2_with fail
  refine (HO.out w2).mono ?_
  rintro e w3 ⟨rfl, hb3⟩
  have HB3 := Lib.hid ((HB2.out.alloc HB2.out.size _).trans (hb3.mono (by have := HB2.out.size; simp; omega)))
  clear hb3
  go_wp2_with fail
  refine (HR4.out w3 HB3.out).mono ?_
  rintro e w4 ⟨rfl, hb4⟩
  have HB4 := Lib.hid ((HB3.out.alloc HB3.out.size _).trans (hb4.mono (by have := HB3.out.size; simp; omega)))
  clear hb4
  go_wp2_with fail
  refine (HO.out w4).mono ?_
  rintro e w5 ⟨rfl, hb5⟩
  have HB5 := Lib.hid ((HB4.out.alloc HB4.out.size _).trans (hb5.mono (by have := HB4.out.size; simp; omega)))
  clear hb5
  go_wp2_with fail
  refine (HA.out w5).mono ?_
  rintro e w6 ⟨rfl, hb6⟩
  have HB6 := Lib.hid ((HB5.out.alloc HB5.out.size _).trans (hb6.mono (by have := HB5.out.size; simp; omega)))
  clear hb6
  go_wp2_with fail
  refine (HO.out w6).mono ?_
  rintro e w7 ⟨rfl, hb7⟩
  have HB7 := Lib.hid ((HB6.out.alloc HB6.out.size _).trans (hb7.mono (by have := HB6.out.size; simp; omega)))
  clear hb7
  go_wp2
  go_ret
  exact ⟨rfl, HB7.out⟩
end Go.Proofs.YtinmcelgfdjmfaaDoor
