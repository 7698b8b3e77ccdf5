/-
  The example of the chapter, which ends every law of the layer. Conditions: none.
-/
import Derived.Test.YtnfflddcekffeaaLiA
import Derived.Test.YtnfflddcekffeaaLiOf
namespace Go.Proofs.Ytnfflddcekffeaa
open Go.RowKit

theorem ints_new4 (w : World) (x y z u : Int) (t : TypeId) : IntsAt (w.alloc (.cells #[.int .i64 x, .int .i64 y, .int .i64 z, .int .i64 u] t)) (w.alloc (.cells #[.int .i64 x, .int .i64 y, .int .i64 z, .int .i64 u] t)).heap.size (some ⟨w.heap.size, 0, none⟩) 4 [x, y, z, u] := by
  have h : (w.alloc (.cells #[.int .i64 x, .int .i64 y, .int .i64 z, .int .i64 u] t)).heap[w.heap.size]? = some (.cells #[.int .i64 x, .int .i64 y, .int .i64 z, .int .i64 u] t (0, 0)) := heap_alloc_new w _
  refine ⟨rfl, fun _ => ⟨w.heap.size, 0, rfl, by simp, fun i hi => ?_⟩⟩
  obtain rfl | rfl | rfl | rfl : i = 0 ∨ i = 1 ∨ i = 2 ∨ i = 3 := by omega
  · exact cell_of_row _ _ 0 _ _ _ h
  · exact cell_of_row _ _ 1 _ _ _ h
  · exact cell_of_row _ _ 2 _ _ _ h
  · exact cell_of_row _ _ 3 _ _ _ h

/-- Two spans of the call's own, read. -/
theorem own_two {w : World} {base : Nat} {e : TypeId} {v : Value} {a b c d : Int} (h : w.ownsRow base e 2 v 2 (ps [(a, b), (c, d)])) : ∃ g cap, v = .slice (some ⟨g, 0, none⟩) 2 cap ∧ w.cell? ⟨g, 1, none⟩ = some (.int .i64 b) ∧ w.cell? ⟨g, 2, none⟩ = some (.int .i64 c) := by
  obtain ⟨A, cc, rfl, hp, _⟩ := runs_slice (r := [(a, b), (c, d)]) h
  obtain ⟨g, cap, e⟩ := ownsRow_succ h
  injection e with e1 e2 e3
  subst e1 e3
  obtain ⟨b', off, e0, _, hc⟩ := hp.2 (by simp)
  injection e0 with e0
  injection e0 with e0 e1
  subst e0 e1
  exact ⟨g, cc, rfl, (hc 0 (by simp)).2, (hc 1 (by simp)).1⟩

set_option maxHeartbeats 2000000 in
set_option maxRecDepth 100000 in
theorem lives12_any (w : World) : Calls Try.prog 5 #[] w (BoolP true w) := by
  have b0 := (Below.refl w.heap.size w).alloc (Nat.le_refl _) (.cells #[.int .i64 1, .int .i64 1, .int .i64 2, .int .i64 1] 3)
  have HOF := Lib.hid (liof_any _ 4 4 [1, 1, 2, 1] 1 _ (ints_new4 w 1 1 2 1 3) (by decide) (by decide))
  rw [show Li.of 1 [1, 1, 2, 1] = [(0, 2), (3, 4)] by rfl] at HOF
  have HB0 := Lib.hid b0
  clear b0
  go_enter Try.func5, Try.ntmps5
  go_wp2_with (go_at_call 6; refine HOF.out.mono ?_; rintro _ w1 ⟨v, rfl, hown, b1⟩; refine Hid.out ?_)
  obtain ⟨g, cap, rfl, c1, c2⟩ := own_two hown
  have HB1 := Lib.hid (below_self HB0.out (b1.mono (by simp)))
  have HAT := Lib.hid (liat_any _ 1 1 _ [5] 0 _ (ints_new1 w1 5 3) (by decide))
  rw [show Li.at_ [5] 0 = 5 by rfl] at HAT
  have HRT := liright_any _ 1 1 _ [5] _ (ints_new1 (w1.alloc (.cells #[.int .i64 5] 3)) 5 3) (by decide)
  rw [show Li.right [5] = true by rfl] at HRT
  simp only [World.size_alloc] at HRT
  have HRT := Lib.hid HRT
  clear hown b1
  refine Lib.hid ?_
  go_wp2_with (first
    | (go_at_call 10; refine HAT.out.mono ?_; rintro _ w2 ⟨rfl, he⟩; obtain rfl := he.symm)
    | (go_at_call 8; refine HRT.out.mono ?_; rintro _ w3 ⟨rfl, he⟩; obtain rfl := he.symm))
  go_ret
  exact ⟨rfl, (HB1.out.alloc HB1.out.size _).alloc (by simp; have := HB1.out.size; omega) _⟩

end Go.Proofs.Ytnfflddcekffeaa
