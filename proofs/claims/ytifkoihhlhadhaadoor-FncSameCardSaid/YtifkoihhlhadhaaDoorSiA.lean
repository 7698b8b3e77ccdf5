/-
  What sig.May, other, letter, typed and the document's May tell. Conditions: none.
-/
import Derived.Test.YtifkoihhlhadhaaDoorBase
import Derived.Test.YtifkoihhlhadhaaDoorSiMath
import Derived.WalkSmall
namespace Go.Proofs.YtifkoihhlhadhaaDoor
open Go.RowKit

theorem ty_kinds (t : Int) : t = 1 ∨ t = 2 ∨ ((t == 1) = false ∧ (t == 2) = false ∧ Si.may t = false ∧ Si.letter t = 63) := by
  by_cases h1 : t = 1
  · exact .inl h1
  by_cases h2 : t = 2
  · exact .inr (.inl h2)
  have e1 : (t == 1) = false := beq_eq_false_iff_ne.2 h1
  have e2 : (t == 2) = false := beq_eq_false_iff_ne.2 h2
  exact .inr (.inr ⟨e1, e2, by simp [Si.may, h1, h2], by simp [Si.letter, h1, h2]⟩)

set_option maxRecDepth 100000 in
theorem simay_any (t : Int) (w : World) : Calls Tryd.prog 54 #[.int .i64 t] w (SameP (.bool (Si.may t)) w) := by
  rcases ty_kinds t with rfl | rfl | ⟨e1, e2, em, _⟩
  · go_enter Tryd.func54, Tryd.ntmps54
    go_wp2
    go_ret
    exact ⟨rfl, rfl⟩
  · go_enter Tryd.func54, Tryd.ntmps54
    go_wp2
    go_ret
    exact ⟨rfl, rfl⟩
  · rw [em]
    go_enter Tryd.func54, Tryd.ntmps54
    go_wp2
    go_ret
    exact ⟨rfl, rfl⟩

set_option maxRecDepth 100000 in
theorem siother_any (t : Int) (w : World) : Calls Tryd.prog 41 #[.int .i64 t] w (SameP (.bool (!Si.may t)) w) := by
  have H := simay_any t w
  go_enter Tryd.func41, Tryd.ntmps41
  go_wp2_with (go_at_call 54; refine H.mono ?_; rintro _ w1 ⟨rfl, he⟩; obtain rfl := he.symm)
  go_ret
  exact ⟨rfl, rfl⟩

end Go.Proofs.YtifkoihhlhadhaaDoor
