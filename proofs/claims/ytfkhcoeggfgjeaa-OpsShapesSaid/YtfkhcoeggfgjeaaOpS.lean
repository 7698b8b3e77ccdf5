/-
  What the statements' same answers of two rows that hold the same: true. Conditions: both can be read.
-/
import Derived.Test.YtfkhcoeggfgjeaaBase
import Derived.BigQuiet
import Derived.Deep.QuietTactic
import Derived.WalkSmall
namespace Go.Proofs.Ytfkhcoeggfgjeaa
open Go.RowKit

set_option maxHeartbeats 1000000 in
theorem opsame_any (A A2 : Option Addr) (n c c2 : Nat) (l : List Int) (w : World) (h1 : IntsAt w w.heap.size A n l) (h2 : IntsAt w w.heap.size A2 n l) (hn : n ≤ 4096) :
    Calls Try.prog 11 #[.slice A n c, .slice A2 n c2] w (BoolP true w) := by
  have H1 := Lib.hid h1
  have H2 := Lib.hid h2
  clear h1 h2
  go_enter Try.func11, Try.ntmps11
  go_wp2
  go_loopw [5] (fun i wr => ∃ k : Nat, k ≤ n ∧ i = .int .i64 (k : Int) ∧ Below w.heap.size w wr) (fun i _ => n - (intOf i).toNat)
  case atStart => exact ⟨0, Nat.zero_le _, rfl, Below.refl _ _⟩
  case round =>
    obtain ⟨k, hk, rfl, hB⟩ := hrel
    have HB := Lib.hid hB
    clear hB
    by_cases hlt : k < n
    · obtain ⟨b, off, rfl, hlb, hc⟩ := (H1.out.below HB.out).2 (by omega)
      obtain ⟨b2, off2, rfl, hlb2, hc2⟩ := (H2.out.below HB.out).2 (by omega)
      have q1 := hc k hlt
      have q2 := hc2 k hlt
      clear hc hc2
      obtain ⟨x, hx⟩ : ∃ x, l.getD k 0 = x := ⟨_, rfl⟩
      rw [hx] at q1 q2
      have hki : (k : Int) < (n : Int) := by omega
      clear hx
      go_wp2
      go_quiet (fail)
      go_wp2
      go_roundw
      case rel => exact ⟨k + 1, hlt, by go_num, below_drewN HB.out _⟩
      case measure => simp [intOf]; omega
    · have hki : decide ((k : Int) < (n : Int)) = false := decide_eq_false (by omega)
      go_wp2
      go_ret
      exact ⟨rfl, HB.out⟩
end Go.Proofs.Ytfkhcoeggfgjeaa
