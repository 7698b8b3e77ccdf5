/-
  What lines.other, Right, At and the document's Right, At tell. Conditions: the table can be read.
  What fnc.Can tells. Conditions: the function can be read; words of 64 bits; the library's table is laid.
-/
import Derived.Test.YtngkjmghhoemgaaBM
import Derived.Test.YtngkjmghhoemgaaPMa
import Derived.BigQuiet
import Derived.Deep.QuietTactic
import Derived.WalkSmall
import Derived.Test.YtngkjmghhoemgaaFnCanX
import Derived.Test.YtngkjmghhoemgaaNmA
namespace Go.Proofs.Ytngkjmghhoemgaa
open Go.RowKit

theorem li_kinds (x : Int) : (x < 0 ∧ Li.may x = false) ∨ (¬ x < 0 ∧ 65535 < x ∧ Li.may x = false) ∨ (¬ x < 0 ∧ ¬ 65535 < x ∧ Li.may x = true) := by
  unfold Li.may
  by_cases h1 : x < 0
  · exact .inl ⟨h1, by rw [decide_eq_false (by omega)]; rfl⟩
  by_cases h2 : 65535 < x
  · exact .inr (.inl ⟨h1, h2, by rw [decide_eq_false (p := x ≤ 65535) (by omega), Bool.and_false]⟩)
  · exact .inr (.inr ⟨h1, h2, by rw [decide_eq_true (p := 0 ≤ x) (by omega), decide_eq_true (p := x ≤ 65535) (by omega)]; rfl⟩)

set_option maxRecDepth 100000 in
set_option maxHeartbeats 1000000 in
theorem rliright_any (a : Option Addr) (n c B : Nat) (l : List Int) (w : World) (h : IntsAt w B a n l) (hn : n ≤ 9223372036854775807) :
    Calls Try.prog 30 #[.slice a n c] w (SameP (.bool (Li.right l)) w) := by
  have H := Lib.hid h
  have hl : l.length = n := h.1
  unfold Li.right
  rw [hl]
  clear h hl
  go_enter Try.func30, Try.ntmps30
  go_wp2
  go_loopw [3] (fun i wr => ∃ k : Nat, k ≤ n ∧ i = .int .i64 (k : Int) ∧ wr = w ∧ (l.take k).all Li.may = true) (fun i _ => n - (intOf i).toNat)
  case atStart => exact ⟨0, Nat.zero_le _, rfl, rfl, rfl⟩
  case round =>
    obtain ⟨k, hk, rfl, rfl, hW⟩ := hrel
    by_cases hlt : k < n
    · obtain ⟨b, off, x, rfl, _, hc, hx, hkl⟩ := ints_cell H.out hlt
      have HS := Lib.hid (Li.all_take_succ hkl)
      have HB := Lib.hid (fun hb => Li.all_bad hkl hb)
      rw [hx, hW] at HS
      rw [hx] at HB
      clear hW hx hkl
      rcases li_kinds x with ⟨h1, h3⟩ | ⟨h1, h2, h3⟩ | ⟨h1, h2, h3⟩
      · have HE := Lib.hid (HB.out h3)
        clear HS HB h3
        go_wp2
        go_ret
        exact ⟨by rw [HE.out, Bool.and_false]; rfl, rfl⟩
      · have HE := Lib.hid (HB.out h3)
        clear HS HB h3
        go_wp2
        go_ret
        exact ⟨by rw [HE.out, Bool.and_false]; rfl, rfl⟩
      · rw [h3] at HS
        clear HB h3
        go_wp2
        go_roundw
        case rel => exact ⟨k + 1, hlt, by go_num, by trivial, HS.out⟩
        case measure => simp [intOf]; omega
    · have HE : Hid (l.all Li.may = true) := Lib.hid (by rw [← hW, List.take_of_length_le (by rw [H.out.1]; omega)])
      clear hW
      by_cases hd : n ≤ 2000
      · have hd2 : decide ((n : Int) ≤ 2000) = true := decide_eq_true (by omega)
        go_wp2
        go_ret
        exact ⟨by rw [decide_eq_true hd, HE.out]; rfl, rfl⟩
      · have hd2 : decide ((n : Int) ≤ 2000) = false := decide_eq_false (by omega)
        go_wp2
        go_ret
        exact ⟨by rw [decide_eq_false hd]; rfl, rfl⟩

theorem at_out {l : List Int} {pc : Int} (h : pc < 0 ∨ (l.length : Int) ≤ pc) : Li.at_ l pc = 0 := if_pos h
theorem at_in {l : List Int} {k : Nat} (h : k < l.length) : Li.at_ l (k : Int) = l.getD k 0 := by
  unfold Li.at_
  rw [if_neg (by omega)]
  simp

end Go.Proofs.Ytngkjmghhoemgaa

namespace Go.Proofs.Ytngkjmghhoemgaa
open Go.RowKit

/-- An error is told; nothing below has turned. -/
def ErrP (n : Nat) (w : World) (e : Ending) (w' : World) : Prop := e = .returned (.int .i64 (n : Int)) ∧ Below w.heap.size w w'
end Go.Proofs.Ytngkjmghhoemgaa
