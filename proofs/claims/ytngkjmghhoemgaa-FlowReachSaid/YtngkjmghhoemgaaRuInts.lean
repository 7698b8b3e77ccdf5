/-
  What the document's Ints answers: whether two rows are the same. Conditions: none.
-/
import Derived.BigQuiet
import Derived.Test.YtngkjmghhoemgaaAtA
namespace Go.Proofs.Ytngkjmghhoemgaa
open Go.RowKit

def InRel (n : Nat) (l m : List Int) (w : World) (i : Value) (wr : World) : Prop :=
  ∃ (k q : Nat), k ≤ n ∧ i = .int .i64 (k : Int) ∧ l.take k = m.take k ∧ wr = w.drewN q

theorem getD_of_eq {l m : List Int} (h : l = m) (k : Nat) : l.getD k 0 = m.getD k 0 := by rw [h]

set_option maxHeartbeats 1000000 in
set_option maxRecDepth 100000 in
theorem ints_any (a : Option Addr) (n c : Nat) (l : List Int) (b : Option Addr) (n' c' : Nat) (m : List Int) (w : World) (h : IntsAt w w.heap.size a n l) (h' : IntsAt w w.heap.size b n' m) (hn : n ≤ 9223372036854775807) :
    Calls Try.prog 8 #[.slice a n c, .slice b n' c'] w (BoolP (decide (l = m)) w) := by
  have H := Lib.hid h
  have H' := Lib.hid h'
  have hl := h.1
  have hm := h'.1
  clear h h'
  by_cases hnn : n = n'
  · subst hnn
    go_enter Try.func8, Try.ntmps8
    go_wp2
    go_loopw [5] (InRel n l m w) (fun i _ => n - (intOf i).toNat)
    case atStart => exact ⟨0, 0, Nat.zero_le _, rfl, rfl, rfl⟩
    case round =>
      obtain ⟨k, q, hk, rfl, hT, rfl⟩ := hrel
      have HT := Lib.hid hT
      clear hT
      by_cases hlt : k < n
      · obtain ⟨b1, o1, rfl, hb1, hc1⟩ := H.out.2 (by omega)
        obtain ⟨b2, o2, rfl, hb2, hc2⟩ := H'.out.2 (by omega)
        have e1 := hc1 k hlt
        have e2 := hc2 k hlt
        have HS1 := Lib.hid (take_snoc l k (by omega))
        have HS2 := Lib.hid (take_snoc m k (by omega))
        have HG := Lib.hid (fun (h : l = m) => getD_of_eq h k)
        clear hc1 hc2
        generalize l.getD k 0 = x at *
        generalize m.getD k 0 = y at *
        by_cases hxy : x = y
        · subst hxy
          go_wp2
          go_quiet (fail)
          go_wp2
          go_roundw
          case rel => exact ⟨k + 1, _, by omega, by go_num, by rw [HS1.out, HS2.out, HT.out], rfl⟩
          case measure => simp [intOf]; omega
        · have hd : (x != y) = true := by rw [bne_iff_ne]; exact hxy
          go_wp2
          go_quiet (fail)
          go_wp2
          go_ret
          exact ⟨ret_bool (decide_eq_false (fun h => hxy (HG.out h))).symm, ⟨rfl, rfl, rfl, Nat.le_refl _, fun _ _ => rfl⟩⟩
      · have HE : Hid (l = m) := Lib.hid (by
          have := HT.out
          rwa [List.take_of_length_le (by omega), List.take_of_length_le (by omega)] at this)
        go_wp2
        go_ret
        exact ⟨ret_bool (decide_eq_true HE.out).symm, ⟨rfl, rfl, rfl, Nat.le_refl _, fun _ _ => rfl⟩⟩
  · have hd : ((n : Int) != (n' : Int)) = true := by rw [bne_iff_ne]; omega
    have HE : Hid (l ≠ m) := Lib.hid (fun e => hnn (by rw [← hl, ← hm, e]))
    go_enter Try.func8, Try.ntmps8
    go_wp2
    go_ret
    exact ⟨ret_bool (decide_eq_false HE.out).symm, Below.refl _ _⟩

end Go.Proofs.Ytngkjmghhoemgaa
