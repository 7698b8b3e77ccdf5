/-
  Whether a node stands in another one, told by tree.Inside and by the document's Inside. Conditions: the nodes are a tree and can be read.
-/
import Derived.Test.YtpfcfmpfommfaaaDoorTrUp
import Derived.WalkSmall
namespace Go.Proofs.YtpfcfmpfommfaaaDoor
open Go.RowKit

theorem any_take_succ {l : List Int} {k : Nat} (x : Int) (h : k < l.length) : (l.take (k + 1)).any (· == x) = ((l.take k).any (· == x) || (l.getD k 0 == x)) := by
  rw [take_snoc l k h, List.any_append]
  simp
theorem any_found {l : List Int} {k : Nat} {x : Int} (h : k < l.length) (e : l.getD k 0 = x) : l.any (· == x) = true := by
  refine List.any_eq_true.2 ⟨l[k], List.getElem_mem h, ?_⟩
  have : l.getD k 0 = l[k] := by simp [List.getD, h]
  rw [← this, e]
  simp

set_option maxRecDepth 100000 in
set_option maxHeartbeats 1000000 in
theorem intsindex_any (a : Option Addr) (n c B : Nat) (l : List Int) (x : Int) (w : World) (h : IntsAt w B a n l) (hn : n ≤ 9223372036854775807) :
    Calls Tryd.prog 62 #[.slice a n c, .int .i64 x] w fun e w' => (∃ i : Int, e = .returned (.int .i64 i) ∧ decide (0 ≤ i) = l.any (· == x)) ∧ w' = w := by
  have H := Lib.hid h
  clear h
  go_enter Tryd.func62, Tryd.ntmps62
  go_wp2
  go_loopw [5, 8] (fun _ i wr => ∃ k : Nat, k ≤ n ∧ i = .int .i64 (k : Int) ∧ wr = w ∧ (l.take k).any (· == x) = false) (fun _ i _ => n - (intOf i).toNat)
  case atStart => exact ⟨0, Nat.zero_le _, rfl, rfl, rfl⟩
  case round =>
    obtain ⟨k, hk, rfl, rfl, hW⟩ := hrel
    by_cases hlt : k < n
    · obtain ⟨b, off, y, rfl, _, hc, hy, hkl⟩ := ints_cell H.out hlt
      by_cases hxy : x = y
      · have HE : Hid (l.any (· == x) = true) := Lib.hid (any_found hkl (by rw [hy, hxy]))
        subst hxy
        clear hW hy hkl
        go_wp2
        go_ret
        exact ⟨⟨_, rfl, by rw [HE.out]; simp⟩, rfl⟩
      · have HS : Hid ((l.take (k + 1)).any (· == x) = false) := Lib.hid (by rw [any_take_succ x hkl, hW, hy]; simp; omega)
        have hd : (x == y) = false := beq_eq_false_iff_ne.2 hxy
        clear hW hy hkl
        go_wp2
        go_roundw
        case rel => exact ⟨k + 1, hlt, by go_num, by trivial, HS.out⟩
        case measure => simp [intOf]; omega
    · have HE : Hid (l.any (· == x) = false) := Lib.hid (by rw [← hW, List.take_of_length_le (by rw [H.out.1]; omega)])
      clear hW
      go_wp2
      go_ret
      exact ⟨⟨_, rfl, by rw [HE.out]; rfl⟩, rfl⟩

set_option maxRecDepth 100000 in
theorem intscontains_any (a : Option Addr) (n c B : Nat) (l : List Int) (x : Int) (w : World) (h : IntsAt w B a n l) (hn : n ≤ 9223372036854775807) :
    Calls Tryd.prog 42 #[.slice a n c, .int .i64 x] w (SameP (.bool (l.any (· == x))) w) := by
  have H := intsindex_any a n c B l x w h hn
  clear h
  generalize l.any (· == x) = r at *
  go_enter Tryd.func42, Tryd.ntmps42
  go_wp2_with (go_at_call 62; refine H.mono ?_; rintro _ w1 ⟨⟨i, rfl, hi⟩, he⟩; obtain rfl := he.symm)
  go_ret
  exact ⟨rfl, rfl⟩

set_option maxRecDepth 100000 in
set_option maxHeartbeats 1000000 in
theorem trinside_any (a : Option Addr) (n c : Nat) (l : List Tr.Nd) (x y : Int) (w : World) (h : NodesAt w w.heap.size a n l) (hr : Tr.right l = true) (hx : -9223372036854775808 ≤ x ∧ x ≤ 9223372036854775807) :
    Calls Tryd.prog 17 #[.slice a n c, .int .i64 x, .int .i64 y] w (BoolP (Tr.inside l x y) w) := by
  have HU := trup_any a n c l x w h hr hx
  have hlen : (Tr.ups l x).length ≤ 120 := Nat.le_trans (Tr.ups_len hr x) (Tr.right_run hr).2.1
  unfold Tr.inside
  clear h hr hx
  generalize Tr.ups l x = us at *
  have HC := Lib.hid (fun A cc (W : World) (hI : IntsAt W W.heap.size A us.length us) => intscontains_any A us.length cc _ us y W hI (by omega))
  generalize us.any (· == y) = r at *
  go_enter Tryd.func17, Tryd.ntmps17
  go_wp2_with (first
    | (go_at_call 13; refine HU.mono ?_; rintro _ w1 ⟨A, cc, rfl, hI, hb⟩; have HI := Lib.hid hI; clear hI)
    | (go_at_call 42; refine (HC.out _ _ _ HI.out).mono ?_; rintro _ w2 ⟨rfl, he⟩; obtain rfl := he.symm))
  go_ret
  exact ⟨rfl, hb⟩

set_option maxRecDepth 100000 in
set_option maxHeartbeats 1000000 in
theorem rtrinside_any (a : Option Addr) (n c : Nat) (l : List Tr.Nd) (x y : Int) (w : World) (h : NodesAt w w.heap.size a n l) (hr : Tr.right l = true) :
    Calls Tryd.prog 18 #[.slice a n c, .int .i64 x, .int .i64 y] w (BoolP (Tr.inside l x y) w) := by
  have HU := rtrup_any a n c l x w h hr
  have hlen : (Tr.ups l x).length ≤ 120 := Nat.le_trans (Tr.ups_len hr x) (Tr.right_run hr).2.1
  unfold Tr.inside
  clear h hr
  generalize Tr.ups l x = us at *
  go_enter Tryd.func18, Tryd.ntmps18
  go_wp2_with (go_at_call 14; refine HU.mono ?_; rintro _ w1 ⟨A, cc, rfl, hI, hb⟩; have HI := Lib.hid (And.intro hI hb); clear hI hb)
  go_loopw [8] (fun i wr => ∃ k : Nat, k ≤ us.length ∧ i = .int .i64 (k : Int) ∧ wr = w1 ∧ (us.take k).any (· == y) = false) (fun i _ => us.length - (intOf i).toNat)
  case atStart => exact ⟨0, Nat.zero_le _, rfl, rfl, rfl⟩
  case round =>
    obtain ⟨k, hk, rfl, rfl, hW⟩ := hrel
    by_cases hlt : k < us.length
    · obtain ⟨b, off, z, rfl, _, hc, hz, hkl⟩ := ints_cell HI.out.1 hlt
      by_cases hxy : z = y
      · have HE : Hid (us.any (· == y) = true) := Lib.hid (any_found hkl (by rw [hz, hxy]))
        subst hxy
        clear hW hz hkl
        go_wp2
        go_ret
        exact ⟨by rw [HE.out]; rfl, HI.out.2⟩
      · have HS : Hid ((us.take (k + 1)).any (· == y) = false) := Lib.hid (by rw [any_take_succ y hkl, hW, hz]; simp; omega)
        have hd : (z == y) = false := beq_eq_false_iff_ne.2 hxy
        clear hW hz hkl
        go_wp2
        go_roundw
        case rel => exact ⟨k + 1, hlt, by go_num, by trivial, HS.out⟩
        case measure => simp [intOf]; omega
    · have HE : Hid (us.any (· == y) = false) := Lib.hid (by rw [← hW, List.take_of_length_le (by omega)])
      clear hW
      go_wp2
      go_ret
      exact ⟨by rw [HE.out]; rfl, HI.out.2⟩
end Go.Proofs.YtpfcfmpfommfaaaDoor
