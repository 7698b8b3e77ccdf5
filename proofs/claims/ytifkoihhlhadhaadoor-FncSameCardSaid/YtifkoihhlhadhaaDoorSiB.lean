/-
  What sig.Right, sig.Same and the document's Right, Same tell. Conditions: the lists can be read.
-/
import Derived.Test.YtifkoihhlhadhaaDoorSiA
import Derived.BigQuiet
import Derived.Deep.QuietTactic
namespace Go.Proofs.YtifkoihhlhadhaaDoor
open Go.RowKit

set_option maxRecDepth 100000 in
set_option maxHeartbeats 1000000 in
theorem siindex_any (a : Option Addr) (n c B : Nat) (l : List Int) (w : World) (h : IntsAt w B a n l) (hn : n ≤ 9223372036854775807) :
    Calls Tryd.prog 53 #[.slice a n c, .func (.func 41) #[] #[]] w fun e w' => (∃ i : Int, e = .returned (.int .i64 i) ∧ decide (0 ≤ i) = !l.all Si.may) ∧ w' = w := by
  have H := Lib.hid h
  clear h
  go_enter Tryd.func53, Tryd.ntmps53
  go_wp2
  go_loopw [5, 8] (fun _ i wr => ∃ k : Nat, k ≤ n ∧ i = .int .i64 (k : Int) ∧ wr = w ∧ (l.take k).all Si.may = true) (fun _ i _ => n - (intOf i).toNat)
  case atStart => exact ⟨0, Nat.zero_le _, rfl, rfl, rfl⟩
  case round =>
    obtain ⟨k, hk, rfl, rfl, hW⟩ := hrel
    by_cases hlt : k < n
    · obtain ⟨b, off, x, rfl, _, hc, hx, hkl⟩ := ints_cell H.out hlt
      have HS := Lib.hid (Si.all_take_succ hkl)
      have HB := Lib.hid (fun hb => Si.all_bad hkl hb)
      rw [hx, hW] at HS
      rw [hx] at HB
      have HO := siother_any x
      clear hW hx hkl
      cases hm : Si.may x with
      | false =>
        rw [hm] at HO
        have HE := Lib.hid (HB.out hm)
        clear HS HB hm
        go_wp2_with (go_at_call 41; refine (HO _).mono ?_; rintro _ w1 ⟨rfl, he⟩; obtain rfl := he.symm)
        go_ret
        exact ⟨⟨_, rfl, by rw [HE.out]; simp⟩, rfl⟩
      | true =>
        rw [hm] at HO HS
        clear HB hm
        go_wp2_with (go_at_call 41; refine (HO _).mono ?_; rintro _ w1 ⟨rfl, he⟩; obtain rfl := he.symm)
        go_roundw
        case rel => exact ⟨k + 1, hlt, by go_num, by trivial, HS.out⟩
        case measure => simp [intOf]; omega
    · have HE : Hid (l.all Si.may = true) := Lib.hid (by rw [← hW, List.take_of_length_le (by rw [H.out.1]; omega)])
      clear hW
      go_wp2
      go_ret
      exact ⟨⟨_, rfl, by rw [HE.out]; rfl⟩, rfl⟩

set_option maxRecDepth 100000 in
theorem sicontains_any (a : Option Addr) (n c B : Nat) (l : List Int) (w : World) (h : IntsAt w B a n l) (hn : n ≤ 9223372036854775807) :
    Calls Tryd.prog 40 #[.slice a n c, .func (.func 41) #[] #[]] w (SameP (.bool (!l.all Si.may)) w) := by
  have H := siindex_any a n c B l w h hn
  clear h
  generalize (!l.all Si.may) = r at *
  go_enter Tryd.func40, Tryd.ntmps40
  go_wp2_with (go_at_call 53; refine H.mono ?_; rintro _ w1 ⟨⟨i, rfl, hi⟩, he⟩; obtain rfl := he.symm)
  go_ret
  exact ⟨rfl, rfl⟩

set_option maxRecDepth 100000 in
theorem siright_any (a : Option Addr) (n c B : Nat) (l : List Int) (most : Int) (w : World) (h : IntsAt w B a n l) (hn : n ≤ 9223372036854775807) :
    Calls Tryd.prog 30 #[.slice a n c, .int .i64 most] w (SameP (.bool (Si.right l most)) w) := by
  have H := sicontains_any a n c B l w h hn
  have hl : l.length = n := h.1
  unfold Si.right
  rw [hl]
  clear h hl
  generalize l.all Si.may = r at *
  cases hd : decide ((n : Int) ≤ most) with
  | false =>
    go_enter Tryd.func30, Tryd.ntmps30
    go_wp2
    go_ret
    exact ⟨rfl, rfl⟩
  | true =>
    go_enter Tryd.func30, Tryd.ntmps30
    go_wp2_with (go_at_call 40; refine H.mono ?_; rintro _ w1 ⟨rfl, he⟩; obtain rfl := he.symm)
    go_ret
    exact ⟨by cases r <;> rfl, rfl⟩

theorem take_eq_succ {l m : List Int} {k : Nat} (h : l.take k = m.take k) (h1 : k < l.length) (h2 : k < m.length) (e : l.getD k 0 = m.getD k 0) : l.take (k + 1) = m.take (k + 1) := by
  rw [take_snoc l k h1, take_snoc m k h2, h, e]

set_option maxRecDepth 100000 in
set_option maxHeartbeats 1000000 in
theorem siequal_any (a a2 : Option Addr) (n n2 c c2 : Nat) (l m : List Int) (w : World) (h : IntsAt w w.heap.size a n l) (h2 : IntsAt w w.heap.size a2 n2 m) (hn : n ≤ 9223372036854775807) :
    Calls Tryd.prog 27 #[.slice a n c, .slice a2 n2 c2] w (BoolP (decide (l = m)) w) := by
  have H := Lib.hid h
  have H2 := Lib.hid h2
  clear h h2
  by_cases hnm : n = n2
  · subst hnm
    go_enter Tryd.func27, Tryd.ntmps27
    go_wp2
    go_loopw [5, 13] (fun _ i wr => ∃ k : Nat, k ≤ n ∧ i = .int .i64 (k : Int) ∧ Below w.heap.size w wr ∧ l.take k = m.take k) (fun _ i _ => n - (intOf i).toNat)
    case atStart => exact ⟨0, Nat.zero_le _, rfl, Below.refl _ _, by simp⟩
    case round =>
      obtain ⟨k, hk, rfl, hB, hW⟩ := hrel
      have HB := Lib.hid hB
      have HW := Lib.hid hW
      clear hB hW
      by_cases hlt : k < n
      · obtain ⟨b, off, x, rfl, hlb, q1, hx, hkl⟩ := ints_cell (H.out.below HB.out) hlt
        obtain ⟨b2, off2, y, rfl, hlb2, q2, hy, hkm⟩ := ints_cell (H2.out.below HB.out) hlt
        have hki : (k : Int) < (n : Int) := by omega
        by_cases hxy : x = y
        · have HS := Lib.hid (take_eq_succ HW.out hkl hkm (by rw [hx, hy, hxy]))
          subst hxy
          clear hx hy hkl hkm
          go_wp2
          go_quiet (fail)
          go_wp2
          go_roundw
          case rel => exact ⟨k + 1, hlt, by go_num, below_drewN HB.out _, HS.out⟩
          case measure => simp [intOf]; omega
        · have HN : Hid (decide (l = m) = false) := Lib.hid (decide_eq_false (fun e => hxy (by rw [← hx, ← hy, e])))
          have hd : (x != y) = true := bne_iff_ne.2 hxy
          clear hx hy hkl hkm hxy
          go_wp2
          go_quiet (fail)
          go_wp2
          go_ret
          exact ⟨by rw [HN.out]; rfl, below_drewN HB.out _⟩
      · have HN : Hid (decide (l = m) = true) := Lib.hid (decide_eq_true (by
          have h1 := HW.out
          rwa [List.take_of_length_le (by rw [H.out.1]; omega), List.take_of_length_le (by rw [H2.out.1]; omega)] at h1))
        have hki : decide ((k : Int) < (n : Int)) = false := decide_eq_false (by omega)
        go_wp2
        go_ret
        exact ⟨by rw [HN.out]; rfl, HB.out⟩
  · have HN : Hid (decide (l = m) = false) := Lib.hid (decide_eq_false (fun e => hnm (by rw [← H.out.1, ← H2.out.1, e])))
    have hd : ((n : Int) != (n2 : Int)) = true := bne_iff_ne.2 (by omega)
    clear hnm
    go_enter Tryd.func27, Tryd.ntmps27
    go_wp2
    go_ret
    exact ⟨by rw [HN.out]; rfl, Below.refl _ _⟩

set_option maxRecDepth 100000 in
theorem sisame_any (a a2 : Option Addr) (n n2 c c2 : Nat) (l m : List Int) (w : World) (h : IntsAt w w.heap.size a n l) (h2 : IntsAt w w.heap.size a2 n2 m) (hn : n ≤ 9223372036854775807) :
    Calls Tryd.prog 10 #[.slice a n c, .slice a2 n2 c2] w (BoolP (decide (l = m)) w) := by
  have H := siequal_any a a2 n n2 c c2 l m w h h2 hn
  clear h h2
  generalize decide (l = m) = r at *
  go_enter Tryd.func10, Tryd.ntmps10
  go_wp2_with (go_at_call 27; refine H.mono ?_; rintro _ w1 ⟨rfl, b1⟩)
  go_ret
  exact ⟨rfl, b1⟩

set_option maxRecDepth 100000 in
set_option maxHeartbeats 1000000 in
theorem rsisame_any (a a2 : Option Addr) (n n2 c c2 : Nat) (l m : List Int) (w : World) (h : IntsAt w w.heap.size a n l) (h2 : IntsAt w w.heap.size a2 n2 m) (hn : n ≤ 9223372036854775807) :
    Calls Tryd.prog 15 #[.slice a n c, .slice a2 n2 c2] w (BoolP (decide (l = m)) w) := by
  have H := Lib.hid h
  have H2 := Lib.hid h2
  clear h h2
  by_cases hnm : n = n2
  · subst hnm
    go_enter Tryd.func15, Tryd.ntmps15
    go_wp2
    go_loopw [5] (fun i wr => ∃ k : Nat, k ≤ n ∧ i = .int .i64 (k : Int) ∧ Below w.heap.size w wr ∧ l.take k = m.take k) (fun i _ => n - (intOf i).toNat)
    case atStart => exact ⟨0, Nat.zero_le _, rfl, Below.refl _ _, by simp⟩
    case round =>
      obtain ⟨k, hk, rfl, hB, hW⟩ := hrel
      have HB := Lib.hid hB
      have HW := Lib.hid hW
      clear hB hW
      by_cases hlt : k < n
      · obtain ⟨b, off, x, rfl, hlb, q1, hx, hkl⟩ := ints_cell (H.out.below HB.out) hlt
        obtain ⟨b2, off2, y, rfl, hlb2, q2, hy, hkm⟩ := ints_cell (H2.out.below HB.out) hlt
        have hki : (k : Int) < (n : Int) := by omega
        by_cases hxy : x = y
        · have HS := Lib.hid (take_eq_succ HW.out hkl hkm (by rw [hx, hy, hxy]))
          subst hxy
          clear hx hy hkl hkm
          go_wp2
          go_quiet (fail)
          go_wp2
          go_roundw
          case rel => exact ⟨k + 1, hlt, by go_num, below_drewN HB.out _, HS.out⟩
          case measure => simp [intOf]; omega
        · have HN : Hid (decide (l = m) = false) := Lib.hid (decide_eq_false (fun e => hxy (by rw [← hx, ← hy, e])))
          have hd : (x != y) = true := bne_iff_ne.2 hxy
          clear hx hy hkl hkm hxy
          go_wp2
          go_quiet (fail)
          go_wp2
          go_ret
          exact ⟨by rw [HN.out]; rfl, below_drewN HB.out _⟩
      · have HN : Hid (decide (l = m) = true) := Lib.hid (decide_eq_true (by
          have h1 := HW.out
          rwa [List.take_of_length_le (by rw [H.out.1]; omega), List.take_of_length_le (by rw [H2.out.1]; omega)] at h1))
        have hki : decide ((k : Int) < (n : Int)) = false := decide_eq_false (by omega)
        go_wp2
        go_ret
        exact ⟨by rw [HN.out]; rfl, HB.out⟩
  · have HN : Hid (decide (l = m) = false) := Lib.hid (decide_eq_false (fun e => hnm (by rw [← H.out.1, ← H2.out.1, e])))
    have hd : ((n : Int) != (n2 : Int)) = true := bne_iff_ne.2 (by omega)
    clear hnm
    go_enter Tryd.func15, Tryd.ntmps15
    go_wp2
    go_ret
    exact ⟨by rw [HN.out]; rfl, Below.refl _ _⟩

end Go.Proofs.YtifkoihhlhadhaaDoor
