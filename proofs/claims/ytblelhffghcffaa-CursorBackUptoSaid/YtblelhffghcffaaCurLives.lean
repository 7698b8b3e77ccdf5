/-
  The example that each statement of layer 2 ends with: lives answers true, and turns nothing that was there. Conditions: none.
-/
import Derived.Test.YtblelhffghcffaaCurE
namespace Go.Proofs.Ytblelhffghcffaa
open Go.RowKit

theorem num_300 : numA ([172, 2], 0) 300 = (300, [], 0) := by decide
theorem num_0 : numA ([], 0) 0 = (0, [], 3) := by decide
theorem bytes_ex : ∀ c ∈ [172, 2], c < 256 := by decide

theorem Only.below {g B : Nat} {w0 w w' : World} (h : Only (some ⟨g, 0, none⟩) w w') (hb : Below B w0 w) (hg : B ≤ g) (hB : B ≤ w.heap.size) : Below B w0 w' := hb.grown h hB (fun k hk => by injection hk with hk; subst hk; exact hg)

set_option maxHeartbeats 1000000 in
theorem lives2_any (w : World) : Calls Try.prog 13 #[] w fun e w' => e = .returned (.bool true) ∧ Below w.heap.size w w' := by
  have HN := Lib.hid (new_any (some ⟨w.heap.size, 0, none⟩) 2 2 [172, 2] (w.alloc (.cells #[.int .u8 172, .int .u8 2] 5)) (bytesAt_own (Has.new w #[.int .u8 172, .int .u8 2]) rfl rfl bytes_ex) (by omega))
  go_enter Try.func13, Try.ntmps13
  go_wp2_with fail
  refine HN.out.mono ?_
  rintro e w1 ⟨g, rfl, hg, hc, hb⟩
  have hb1 : Below w.heap.size w w1 := ((Below.refl _ _).alloc (Nat.le_refl _) _).trans (hb.mono (by simp))
  simp at hg
  have HM := Lib.hid (num_any (some ⟨g, 0, none⟩) ([172, 2], 0) 300 w1 (.inr ⟨g, rfl, hc⟩) (by omega) (by omega))
  rw [num_300] at HM
  clear hc hb HN
  go_wp2_with fail
  refine HM.out.mono ?_
  rintro e w2 ⟨rfl, hc2, ho2⟩
  have hb2 := Only.below ho2 hb1 (by omega) hb1.size
  have HE := Lib.hid (end_any _ _ w2 hc2)
  have HM2 := Lib.hid (num_any _ ([], 0) 0 w2 hc2 (by omega) (by omega))
  rw [show endA ((300, [], 0) : Nat × List Nat × Nat).2 = 0 from rfl] at HE
  rw [num_0] at HM2
  clear hc2 ho2 HM hb1
  go_wp2_with (first
    | (go_at_call 11; refine HE.out.mono ?_; rintro e w3 ⟨rfl, ⟨_, rfl⟩ | ⟨hx, _⟩⟩ <;> first | cases hx | skip)
    | (go_at_call 19; refine HM2.out.mono ?_; rintro e w4 ⟨rfl, hc4, ho4⟩)
    | (go_at_call 8; refine (err_any _ _ _ hc4).mono ?_; rintro e w5 ⟨rfl, ⟨_, rfl⟩ | ⟨hx, _⟩⟩ <;> first | cases hx | skip))
  go_ret
  exact ⟨rfl, Only.below ho4 hb2 (by omega) hb2.size⟩
end Go.Proofs.Ytblelhffghcffaa
