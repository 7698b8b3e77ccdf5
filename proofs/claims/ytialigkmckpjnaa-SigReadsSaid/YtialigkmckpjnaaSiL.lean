/-
  The example of the chapter, which ends every law of the layer. Conditions: none.
-/
import Derived.Test.YtialigkmckpjnaaSiC
import Derived.Test.YtialigkmckpjnaaSiE
namespace Go.Proofs.Ytialigkmckpjnaa
open Go.RowKit

theorem ints_nil (w : World) (B : Nat) : IntsAt w B none 0 [] := ⟨rfl, fun h => absurd h (Nat.not_lt_zero _)⟩

set_option maxHeartbeats 2000000 in
set_option maxRecDepth 100000 in
theorem lives11_any (w : World) : Calls Try.prog 6 #[] w (BoolP true w) := by
  have HRd := siread_any ⟨#[105, 99]⟩ w (by decide)
  rw [show Si.read (Si.codes ⟨#[105, 99]⟩) = some [1, 2] by rfl] at HRd
  go_enter Try.func6, Try.ntmps6
  go_wp2_with (go_at_call 17; refine HRd.mono ?_; rintro _ w1 ⟨A, c, rfl, hi, b1⟩; refine Hid.out ?_)
  have HT1 := Lib.hid (sitext_any A _ c _ w1 hi (by decide))
  rw [show str (Si.text ((some [1, 2]).getD [])) = ⟨#[105, 99]⟩ by rfl] at HT1
  refine Lib.hid ?_
  go_wp2_with (go_at_call 9; refine HT1.out.mono ?_; rintro _ w2 ⟨rfl, b2⟩; refine Hid.out ?_)
  have HT2 := Lib.hid (sitext_any none 0 0 [] w2 (ints_nil w2 _) (by decide))
  rw [show str (Si.text []) = ⟨#[45]⟩ by rfl] at HT2
  refine Lib.hid ?_
  go_wp2_with (go_at_call 9; refine HT2.out.mono ?_; rintro _ w3 ⟨rfl, b3⟩; refine Hid.out ?_)
  have HM := simay_any 2 w3
  rw [show Si.may 2 = true from rfl] at HM
  refine Lib.hid ?_
  go_wp2_with (go_at_call 7; refine HM.mono ?_; rintro _ w4 ⟨rfl, he⟩; obtain rfl := he.symm)
  go_ret
  exact ⟨rfl, below_self (below_self b1 b2) b3⟩
end Go.Proofs.Ytialigkmckpjnaa
