/-
  What sig.May, other, letter, typed and the document's May tell. Conditions: none.
-/
import Derived.Test.YtialigkmckpjnaaBase
import Derived.Test.YtialigkmckpjnaaSiMath
import Derived.WalkSmall
namespace Go.Proofs.Ytialigkmckpjnaa
open Go.RowKit

theorem ty_kinds (t : Int) : t = 1 ∨ t = 2 ∨ ((t == 1) = false ∧ (t == 2) = false ∧ Si.may t = false ∧ Si.letter t = 63) := by
  by_cases h1 : t = 1
  · exact .inl h1
  by_cases h2 : t = 2
  · exact .inr (.inl h2)
  have e1 : (t == 1) = false := beq_eq_false_iff_ne.2 h1
  have e2 : (t == 2) = false := beq_eq_false_iff_ne.2 h2
  exact .inr (.inr ⟨e1, e2, by simp [Si.may, h1, h2], by simp [Si.letter, h1, h2]⟩)

theorem simay_any (t : Int) (w : World) : Calls Try.prog 7 #[.int .i64 t] w (SameP (.bool (Si.may t)) w) := by
  rcases ty_kinds t with rfl | rfl | ⟨e1, e2, em, _⟩
  · go_enter Try.func7, Try.ntmps7
    go_wp2
    go_ret
    exact ⟨rfl, rfl⟩
  · go_enter Try.func7, Try.ntmps7
    go_wp2
    go_ret
    exact ⟨rfl, rfl⟩
  · rw [em]
    go_enter Try.func7, Try.ntmps7
    go_wp2
    go_ret
    exact ⟨rfl, rfl⟩

theorem rsimay_any (t : Int) (w : World) : Calls Try.prog 8 #[.int .i64 t] w (SameP (.bool (Si.may t)) w) := by
  rcases ty_kinds t with rfl | rfl | ⟨e1, e2, em, _⟩
  · go_enter Try.func8, Try.ntmps8
    go_wp2
    go_ret
    exact ⟨rfl, rfl⟩
  · go_enter Try.func8, Try.ntmps8
    go_wp2
    go_ret
    exact ⟨rfl, rfl⟩
  · rw [em]
    go_enter Try.func8, Try.ntmps8
    go_wp2
    go_ret
    exact ⟨rfl, rfl⟩

theorem siother_any (t : Int) (w : World) : Calls Try.prog 26 #[.int .i64 t] w (SameP (.bool (!Si.may t)) w) := by
  have H := simay_any t w
  go_enter Try.func26, Try.ntmps26
  go_wp2_with (go_at_call 7; refine H.mono ?_; rintro _ w1 ⟨rfl, he⟩; obtain rfl := he.symm)
  go_ret
  exact ⟨rfl, rfl⟩

theorem siletter_any (t : Int) (w : World) : Calls Try.prog 23 #[.int .i64 t] w (SameP (.int .i32 (Si.letter t)) w) := by
  rcases ty_kinds t with rfl | rfl | ⟨e1, e2, _, el⟩
  · go_enter Try.func23, Try.ntmps23
    go_wp2
    go_ret
    exact ⟨rfl, rfl⟩
  · go_enter Try.func23, Try.ntmps23
    go_wp2
    go_ret
    exact ⟨rfl, rfl⟩
  · rw [el]
    go_enter Try.func23, Try.ntmps23
    go_wp2
    go_ret
    exact ⟨rfl, rfl⟩

theorem sityped_any (c : Int) (w : World) : Calls Try.prog 30 #[.int .i32 c] w (SameP (.int .i64 (Si.typed c)) w) := by
  by_cases h1 : c = 105
  · subst h1
    go_enter Try.func30, Try.ntmps30
    go_wp2
    go_ret
    exact ⟨rfl, rfl⟩
  by_cases h2 : c = 99
  · subst h2
    go_enter Try.func30, Try.ntmps30
    go_wp2
    go_ret
    exact ⟨rfl, rfl⟩
  have e1 : (c == 105) = false := beq_eq_false_iff_ne.2 h1
  have e2 : (c == 99) = false := beq_eq_false_iff_ne.2 h2
  rw [show Si.typed c = 0 by simp [Si.typed, h1, h2]]
  clear h1 h2
  go_enter Try.func30, Try.ntmps30
  go_wp2
  go_ret
  exact ⟨rfl, rfl⟩
end Go.Proofs.Ytialigkmckpjnaa
