/-
  The law's example: 7 7 9 as runs. Conditions: none.
-/
import Derived.Test.YtkibbhkdeepnlaaRuOf
import Derived.Test.YtkibbhkdeepnlaaRuRow
import Derived.Test.YtkibbhkdeepnlaaRuRef
namespace Go.Proofs.Ytkibbhkdeepnlaa
open Go.RowKit

theorem ints_new3 (w : World) (x y z : Int) (t : TypeId) : IntsAt (w.alloc (.cells #[.int .i64 x, .int .i64 y, .int .i64 z] t)) (w.alloc (.cells #[.int .i64 x, .int .i64 y, .int .i64 z] t)).heap.size (some ⟨w.heap.size, 0, none⟩) 3 [x, y, z] := by
  have h : (w.alloc (.cells #[.int .i64 x, .int .i64 y, .int .i64 z] t)).heap[w.heap.size]? = some (.cells #[.int .i64 x, .int .i64 y, .int .i64 z] t (0, 0)) := heap_alloc_new w _
  refine ⟨rfl, fun _ => ⟨w.heap.size, 0, rfl, by simp, fun i hi => ?_⟩⟩
  obtain rfl | rfl | rfl : i = 0 ∨ i = 1 ∨ i = 2 := by omega
  · exact cell_of_row _ _ 0 _ _ _ h
  · exact cell_of_row _ _ 1 _ _ _ h
  · exact cell_of_row _ _ 2 _ _ _ h

theorem ex_of : Ru.of [7, 7, 9] = [(2, 7), (1, 9)] := by decide +kernel
theorem ex_row : Ru.row [(2, 7), (1, 9)] = [7, 7, 9] := by decide +kernel
theorem ex_right : Ru.right [(2, 7), (1, 9)] = true := by decide +kernel

theorem exO (w : World) : Calls Try.prog 8 #[.slice (some ⟨w.heap.size, 0, none⟩) 3 3] (w.alloc (.cells #[.int .i64 7, .int .i64 7, .int .i64 9] 3)) (RunsP 33 [(2, 7), (1, 9)] (w.alloc (.cells #[.int .i64 7, .int .i64 7, .int .i64 9] 3))) := by
  have := of_any _ 3 3 [7, 7, 9] _ (ints_new3 w 7 7 9 3) (by omega) (by decide)
  rw [ex_of] at this
  exact this
theorem exR (a : Option Addr) (c : Nat) (w : World) (h : PairsAt w w.heap.size a 2 [(2, 7), (1, 9)]) : Calls Try.prog 11 #[.slice a 2 c] w (NumsP [7, 7, 9] w) := by
  have := row_any a 2 c [(2, 7), (1, 9)] w h (by omega)
  rw [ex_row] at this
  exact this
theorem exG (a : Option Addr) (c : Nat) (w : World) (h : PairsAt w w.heap.size a 2 [(2, 7), (1, 9)]) (h2 : 2 ≤ c) (hc : c ≤ 9223372036854775807) : Calls Try.prog 12 #[.slice a 2 c] w (BoolP true w) := by
  have := right_any a 2 c [(2, 7), (1, 9)] w h h2 hc
  rw [ex_right] at this
  exact this
theorem own_cap {w : World} {b n size : Nat} {e : TypeId} {A : Option Addr} {k c : Nat} {xs : List Value} (h : w.ownsRow b e size (.slice A k c) n xs) : c ≤ 9223372036854775807 := by
  rcases h.2 with ⟨hv, _⟩ | ⟨g, cap, cur, hv, _, _, _, hcm, _⟩
  · injection hv with _ _ h3
    omega
  · injection hv with _ _ h3
    unfold maxLen at hcm
    omega

set_option maxHeartbeats 2000000 in
theorem lives_any (w : World) : Calls Try.prog 7 #[] w (BoolP true w) := by
  have HO := Lib.hid (exO w)
  go_enter Try.func7, Try.ntmps7
  go_wp2_with fail
  refine HO.out.mono ?_
  rintro e w1 ⟨v, rfl, hown, hb⟩
  obtain ⟨g, cap, rfl⟩ := own_some hown
  obtain ⟨_, hp, _, hcap⟩ := pairs_of_own hown
  have hcm := own_cap hown
  obtain ⟨b, off, e0, hbl, hc⟩ := hp.2 (by simp)
  injection e0 with e0
  injection e0 with e0 e1
  subst e0 e1
  have c0 : w1.cell? ⟨g, 0, none⟩ = some (.int .i64 2) := (hc 0 (by simp)).1
  have c1 : w1.cell? ⟨g, 3, none⟩ = some (.int .i64 9) := (hc 1 (by simp)).2
  have HP : Hid (PairsAt w1 w1.heap.size (some ⟨g, 0, none⟩) 2 [(2, 7), (1, 9)]) := Lib.hid hp
  have HB1 := Lib.hid (((Below.refl _ w).alloc (Nat.le_refl _) _).trans (hb.mono (by simp)))
  have hcap2 : 2 ≤ cap := hcap
  clear hc hp hown hb HO hcap
  go_wp2_with fail
  refine (exR _ _ _ HP.out).mono ?_
  rintro e w2 ⟨v2, rfl, hown2, hb2⟩
  obtain ⟨g2, cap2, rfl⟩ := own_some hown2
  have HP2 := Lib.hid ((HP.out.below hb2).more hb2.size)
  have HB2 := Lib.hid (HB1.out.trans (hb2.mono HB1.out.size))
  clear hown2 hb2
  go_wp2_with fail
  refine (exG _ _ _ HP2.out hcap2 hcm).mono ?_
  rintro e w3 ⟨rfl, hb3⟩
  have HB3 := Lib.hid (HB2.out.trans (hb3.mono HB2.out.size))
  clear hb3
  go_wp2
  go_ret
  exact ⟨rfl, HB3.out⟩
end Go.Proofs.Ytkibbhkdeepnlaa
