/-
  The walk of SigReads. Conditions: none.
-/
import Derived.Test.YtialigkmckpjnaaSiL
import Derived.Test.YtialigkmckpjnaaSiB
namespace Go.Proofs.Ytialigkmckpjnaa
open Go.RowKit

theorem Si.str_codes (s : ByteArray) : str (Si.codes s) = s :=
  Si.codes_inj (Si.codes_str _ (fun x hx => by
    obtain ⟨c, _, rfl⟩ := List.mem_map.1 hx
    exact c.toNat_lt))

set_option maxHeartbeats 4000000 in
set_option maxRecDepth 100000 in
theorem sigReads_walk (s : ByteArray) (w : World) : Calls Try.prog 4 #[.string s] w (BoolP true w) := by
  by_cases h300 : s.size ≤ 300
  · have hd : decide (300 < (s.size : Int)) = false := decide_eq_false (by omega)
    have HR1 := siread_any s w (by omega)
    have HR2 := fun W => rsiread_any s W (by omega)
    cases hr : Si.read (Si.codes s) with
    | none =>
      rw [hr] at HR1 HR2
      clear hr
      go_enter Try.func4, Try.ntmps4
      go_wp2_with (first
        | (go_at_call 17; refine HR1.mono ?_; rintro _ w1 ⟨A, c, rfl, hi1, b1⟩)
        | (go_at_call 18; refine (HR2 _).mono ?_; rintro _ w2 ⟨A2, c2, rfl, hi2, b2⟩; refine Hid.out ?_))
      have HS := Lib.hid (rsisame_any A A2 _ _ c c2 _ _ w2 ((hi1.below b2).more b2.size) hi2 (by simp))
      rw [decide_eq_true rfl] at HS
      have B2 := Lib.hid (below_self b1 b2)
      clear hi1 hi2 b1 b2
      refine Lib.hid ?_
      go_wp2_with (first
        | (go_at_call 14; refine HS.out.mono ?_; rintro _ w3 ⟨rfl, b3⟩)
        | (go_at_call 6; refine (lives11_any _).mono ?_; rintro _ w4 ⟨rfl, b4⟩))
      go_ret
      exact ⟨rfl, below_self (below_self B2.out b3) b4⟩
    | some l =>
      rw [hr] at HR1 HR2
      have htx := Si.text_read hr
      have hln : l.length ≤ 300 := by
        unfold Si.read at hr
        split at hr
        · injection hr with hr; rw [← hr]; simp
        · split at hr
          · cases hr
          · split at hr
            · injection hr with hr; rw [← hr, Si.types_length, Si.codes_length]; exact h300
            · cases hr
      have hst : str (Si.text l) = s := by rw [htx, Si.str_codes]
      have hsd : (s.toList == s.toList) = true := beq_self_eq_true _
      clear hr htx
      go_enter Try.func4, Try.ntmps4
      go_wp2_with (first
        | (go_at_call 17; refine HR1.mono ?_; rintro _ w1 ⟨A, c, rfl, hi1, b1⟩)
        | (go_at_call 18; refine (HR2 _).mono ?_; rintro _ w2 ⟨A2, c2, rfl, hi2, b2⟩; refine Hid.out ?_))
      have hi1' := (hi1.below b2).more b2.size
      have HS := Lib.hid (rsisame_any A A2 _ _ c c2 _ _ w2 hi1' hi2 (by simp; omega))
      rw [decide_eq_true rfl] at HS
      have HT := Lib.hid (fun (w3 : World) (b3 : Below w2.heap.size w2 w3) => sitext_any A _ c _ w3 ((hi1'.below b3).more b3.size) (by simp; omega))
      rw [show ((some l).getD [] : List Int) = l from rfl] at HT HS
      rw [hst] at HT
      have B2 := Lib.hid (below_self b1 b2)
      clear hi1 hi1' hi2 b1 b2 hst
      refine Lib.hid ?_
      go_wp2_with (first
        | (go_at_call 14; refine HS.out.mono ?_; rintro _ w3 ⟨rfl, b3⟩)
        | (go_at_call 9; refine (HT.out _ b3).mono ?_; rintro _ w5 ⟨rfl, b5⟩)
        | (go_at_call 6; refine (lives11_any _).mono ?_; rintro _ w4 ⟨rfl, b4⟩))
      go_ret
      exact ⟨rfl, below_self (below_self (below_self B2.out b3) b5) b4⟩
  · have hd : 300 < (s.size : Int) := by omega
    go_enter Try.func4, Try.ntmps4
    go_wp2_with (go_at_call 6; refine (lives11_any _).mono ?_; rintro _ w4 ⟨rfl, b4⟩)
    go_ret
    exact ⟨rfl, b4⟩
end Go.Proofs.Ytialigkmckpjnaa
