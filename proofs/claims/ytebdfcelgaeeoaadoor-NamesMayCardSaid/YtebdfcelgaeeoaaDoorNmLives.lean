/-
  The example of the statements on names holds. Conditions: none.
-/
import Derived.Test.YtebdfcelgaeeoaaDoorNmRefFresh
namespace Go.Proofs.YtebdfcelgaeeoaaDoor
open Go.RowKit Go.Maps

theorem names_new1 (w : World) (x : ByteArray) (t : TypeId) : NamesAt (w.alloc (.cells #[.string x] t)) (w.alloc (.cells #[.string x] t)).heap.size (some ⟨w.heap.size, 0, none⟩) 1 [x] := by
  have h : (w.alloc (.cells #[.string x] t)).heap[w.heap.size]? = some (.cells #[.string x] t (0, 0)) := heap_alloc_new w _
  refine ⟨rfl, fun _ => ⟨w.heap.size, 0, rfl, by simp, fun i hi => ?_⟩⟩
  obtain rfl : i = 0 := by omega
  exact cell_of_row _ _ 0 _ _ _ h

theorem names_new2 (w : World) (x y : ByteArray) (t : TypeId) : NamesAt (w.alloc (.cells #[.string x, .string y] t)) (w.alloc (.cells #[.string x, .string y] t)).heap.size (some ⟨w.heap.size, 0, none⟩) 2 [x, y] := by
  have h : (w.alloc (.cells #[.string x, .string y] t)).heap[w.heap.size]? = some (.cells #[.string x, .string y] t (0, 0)) := heap_alloc_new w _
  refine ⟨rfl, fun _ => ⟨w.heap.size, 0, rfl, by simp, fun i hi => ?_⟩⟩
  obtain rfl | rfl : i = 0 ∨ i = 1 := by omega
  · exact cell_of_row _ _ 0 _ _ _ h
  · exact cell_of_row _ _ 1 _ _ _ h

namespace Nm
theorem mayA : may ⟨#[97, 95, 49]⟩ = true := by decide +kernel
theorem mayB : may ⟨#[49, 97]⟩ = false := by decide +kernel
theorem unA : unlike [⟨#[97]⟩, ⟨#[98]⟩] = true := by decide +kernel
theorem unB : unlike [⟨#[97]⟩, ⟨#[97]⟩] = false := by decide +kernel
theorem nm0 : nm 0 = ⟨#[102, 48]⟩ := by rw [nm_one (by omega)]; rfl
theorem freshA {y : ByteArray} (h : Fresh [⟨#[97]⟩] ⟨#[97]⟩ y) : y = ⟨#[102, 48]⟩ := by
  rcases h with ⟨_, h, _⟩ | ⟨_, i, _, rfl, ha, hn⟩
  · exact absurd (List.mem_singleton.2 rfl) h
  · by_cases e : i = 0
    · rw [e]; exact nm0
    · have := ha 0 (by omega)
      rw [nm0] at this
      have := List.mem_singleton.1 this
      have := congrArg ByteArray.size this
      cases this
end Nm

/-- The document's example: a fresh name where "a" is there. -/
theorem freshA_any (w : World) : Calls Tryd.prog 13 #[.slice (some ⟨w.heap.size, 0, none⟩) 1 1, .string ⟨#[97]⟩] (w.alloc (.cells #[.string ⟨#[97]⟩] 9)) fun e w' => e = .returned (.string ⟨#[102, 48]⟩) ∧ Below w.heap.size w w' := by
  refine (fresh_any _ 1 1 [⟨#[97]⟩] ⟨#[97]⟩ _ (names_new1 w _ _) (fun z hz => by rw [List.mem_singleton.1 hz]; decide +kernel) (by omega) (by decide +kernel)).mono ?_
  rintro _ w' ⟨y, rfl, hF, hb⟩
  exact ⟨retS (Nm.freshA hF), ((Below.refl _ _).alloc (Nat.le_refl _) _).trans (hb.mono (by simp))⟩

theorem unlike2_any (x y : ByteArray) (hx : x.size ≤ 60) (hy : y.size ≤ 60) (w : World) : Calls Tryd.prog 11 #[.slice (some ⟨w.heap.size, 0, none⟩) 2 2] (w.alloc (.cells #[.string x, .string y] 9)) fun e w' => e = .returned (.bool (Nm.unlike [x, y])) ∧ Below w.heap.size w w' := by
  refine (unlike_any _ 2 2 [x, y] _ (names_new2 w _ _ _) (fun z hz => ?_) (by omega)).mono ?_
  · have : z = x ∨ z = y := by simpa using hz
    unfold maxLen
    rcases this with rfl | rfl <;> omega
  rintro _ w' ⟨rfl, hb⟩
  exact ⟨rfl, ((Below.refl _ _).alloc (Nat.le_refl _) _).trans (hb.mono (by simp))⟩

set_option maxHeartbeats 2000000 in
set_option maxRecDepth 100000 in
theorem lives_any (w : World) : Calls Tryd.prog 6 #[] w (BoolP true w) := by
  have H1 := may_any ⟨#[97, 95, 49]⟩ w (by decide +kernel)
  rw [Nm.mayA] at H1
  have H2 := may_any ⟨#[49, 97]⟩ w (by decide +kernel)
  rw [Nm.mayB] at H2
  have H3 := freshA_any w
  have H4 := Lib.hid (fun W => unlike2_any ⟨#[97]⟩ ⟨#[98]⟩ (by decide +kernel) (by decide +kernel) W)
  rw [Nm.unA] at H4
  have H5 := Lib.hid (fun W => unlike2_any ⟨#[97]⟩ ⟨#[97]⟩ (by decide +kernel) (by decide +kernel) W)
  rw [Nm.unB] at H5
  go_enter Tryd.func6, Tryd.ntmps6
  go_wp2_with (first
    | (go_at_call 7; with_reducible refine H1.mono ?_; rintro _ w1 ⟨rfl, he⟩; obtain rfl := he.symm; clear H1)
    | (go_at_call 7; with_reducible refine H2.mono ?_; rintro _ w1 ⟨rfl, he⟩; obtain rfl := he.symm; clear H2)
    | (go_at_call 13; refine H3.mono ?_; rintro _ w3 ⟨rfl, b3⟩; clear H3)
    | (go_at_call 11; have t := H4; refine (H4.out w3).mono ?_; rintro _ w4 ⟨rfl, b4⟩; clear t H4)
    | (go_at_call 11; refine (H5.out w4).mono ?_; rintro _ w5 ⟨rfl, b5⟩))
  go_ret
  exact ⟨rfl, (b3.trans (b4.mono b3.size)).trans (b5.mono (Nat.le_trans b3.size b4.size))⟩
end Go.Proofs.YtebdfcelgaeeoaaDoor
