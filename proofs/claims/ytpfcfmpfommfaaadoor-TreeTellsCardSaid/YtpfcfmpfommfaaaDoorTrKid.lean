/-
  A node's kids, told by tree.Kids and by the document's Kids. Conditions: at most 4096 nodes, which can be read.
-/
import Derived.Test.YtpfcfmpfommfaaaDoorTrUp
namespace Go.Proofs.YtpfcfmpfommfaaaDoor
open Go.RowKit

theorem kids_yes {l : List Tr.Nd} {x : Int} {k : Nat} (h : 0 ≤ x) (e : (l.getD k Tr.Nd.nil).p = x) : Tr.kidsTo l x (k + 1) = Tr.kidsTo l x k ++ [(k : Int)] := by rw [Tr.kidsTo, if_pos ⟨h, e⟩]
theorem kids_no {l : List Tr.Nd} {x : Int} {k : Nat} (e : ¬ (0 ≤ x ∧ (l.getD k Tr.Nd.nil).p = x)) : Tr.kidsTo l x (k + 1) = Tr.kidsTo l x k := by rw [Tr.kidsTo, if_neg e, List.append_nil]

/-- Between two rounds: the kids among the first k are collected. -/
def KidRel (n : Nat) (l : List Tr.Nd) (x : Int) (w : World) (out i : Value) (wr : World) : Prop :=
  ∃ (k : Nat) (us : List Int), k ≤ n ∧ i = .int .i64 (k : Int) ∧ us = Tr.kidsTo l x k ∧ wr.ownsRow w.heap.size 3 1 out us.length (vs us) ∧ Below w.heap.size w wr

/-- No node has one that is none for its parent: of a tree the first alone has, and it has -1. -/
theorem kids_out {l : List Tr.Nd} {x : Int} (hr : Tr.right l = true) (h : ¬ (0 ≤ x ∧ x < (l.length : Int))) : ∀ k, k ≤ l.length → Tr.kidsTo l x k = []
  | 0, _ => rfl
  | k + 1, hk => by
    have hu := Tr.right_up hr (k := k) (by omega)
    rw [kids_no (by omega), kids_out hr h k (by omega)]

set_option maxHeartbeats 2000000 in
set_option maxRecDepth 100000 in
theorem trkids_any (a : Option Addr) (n c : Nat) (l : List Tr.Nd) (x : Int) (w : World) (h : NodesAt w w.heap.size a n l) (hr : Tr.right l = true) :
    Calls Tryd.prog 15 #[.slice a n c, .int .i64 x] w (NewInts (Tr.kids l x) w) := by
  obtain ⟨i0, hi, hz0, hz1, hz2⟩ := info_parts info_int
  have hl : l.length = n := h.1
  have hn120 := (Tr.right_run hr).2.1
  have HHc := trhas_any a n c x w (by omega)
  by_cases hc : 0 ≤ x ∧ x < (n : Int)
  · rw [decide_eq_true hc] at HHc
    have H := Lib.hid h
    have HL := Lib.hid (And.intro hl hn120)
    have hx0 := hc.1
    have hn2 : n ≤ 120 := by omega
    clear h hl hr hn120 hc
    go_enter Tryd.func15, Tryd.ntmps15
    go_wp2_with (go_at_call 41; refine HHc.mono ?_; rintro _ w1 ⟨rfl, he⟩; obtain rfl := he.symm; clear HHc)
    go_loopw [5, 6, 13] (fun out _ i wr => KidRel n l x w out i wr) (fun _ _ i _ => n - (intOf i).toNat)
    case atStart => exact ⟨0, [], Nat.zero_le _, rfl, rfl, World.ownsRow_nil _ _ _ _, Below.refl _ _⟩
    case round =>
      obtain ⟨k, us, hk, rfl, hus, hO, hB⟩ := hrel
      have HUs : Hid (us = Tr.kidsTo l x k ∧ us.length ≤ k) := Lib.hid ⟨hus, by rw [hus]; exact Tr.kidsTo_len l x k⟩
      have HB := Lib.hid hB
      have HO := Lib.hid hO
      clear hus hB hO
      by_cases hlt : k < n
      · obtain ⟨b, off, y, rfl, hltb, hy, hky, d0, _⟩ := nodes_cell (H.out.below HB.out) hlt
        by_cases hxy : y.p = x
        · have HS := Lib.hid (kids_yes (l := l) (k := k) hx0 (by rw [hy]; exact hxy))
          clear hy hky
          go_wp2_with (at_builtin; refine wpList_append_lies _ rfl (.tmp 23) (.tmp 25) 29 rfl w.heap.size 3 i0 (.int .i64 0) 1 8 Tryd.underlying29 hi hz0 hz1 hz2 rfl (by decide) u5 us.length (vs us) rfl (HO.out.alloc _) ⟨wr.heap.size, 0, none⟩ 1 1 (vs [(k : Int)]) rfl rfl ?c1 (vs_one _) (by decide) ?c3 ?c4 ?c5 (wr.heap.size + 1) ?c6 ?_)
          case c1 => exact new_one wr _ _
          case c3 => have := HUs.out; have := HL.out; unfold maxLen; omega
          case c4 => have := HUs.out; have := HL.out; omega
          case c5 => have := HB.out.size; simp; omega
          case c6 => simp
          intro g cap w2 hown2 hgrow2 hat2 _
          have HB2 := Lib.hid (own_grown HB.out HO.out hgrow2)
          have HO2 := Lib.hid hown2
          clear hown2 hgrow2 hat2 d0
          go_wp2
          go_roundw
          case rel => exact ⟨k + 1, us ++ [(k : Int)], hlt, by go_num, by rw [HS.out, ← HUs.out.1], by rw [List.length_append, vs_append]; exact HO2.out, HB2.out⟩
          case measure => simp [intOf]; omega
        · have HS := Lib.hid (kids_no (l := l) (x := x) (k := k) (by rw [hy]; exact fun h => hxy h.2))
          have hd : (y.p == x) = false := beq_eq_false_iff_ne.2 hxy
          clear hy hky
          go_wp2
          go_roundw
          case rel => exact ⟨k + 1, us, hlt, by go_num, by rw [HS.out]; exact HUs.out.1, HO.out, HB.out⟩
          case measure => simp [intOf]; omega
      · have HE : Hid (Tr.kids l x = us) := Lib.hid (by rw [HUs.out.1, Tr.kids, HL.out.1, show k = n by omega])
        go_wp2
        go_ret
        rw [HE.out]
        exact newInts HO.out HB.out
  · rw [decide_eq_false hc] at HHc
    have HE : Hid (Tr.kids l x = []) := Lib.hid (kids_out hr (by rw [hl]; exact hc) _ (Nat.le_refl _))
    clear h hl hr hn120 hc
    go_enter Tryd.func15, Tryd.ntmps15
    go_wp2_with (go_at_call 41; refine HHc.mono ?_; rintro _ w1 ⟨rfl, he⟩; obtain rfl := he.symm; clear HHc)
    go_ret
    rw [HE.out]
    exact ⟨none, 0, rfl, ⟨rfl, fun h => absurd h (by simp)⟩, Below.refl _ _⟩

set_option maxHeartbeats 2000000 in
set_option maxRecDepth 100000 in
theorem rtrkids_any (a : Option Addr) (n c : Nat) (l : List Tr.Nd) (x : Int) (w : World) (h : NodesAt w w.heap.size a n l) (hn : n ≤ 4096) :
    Calls Tryd.prog 16 #[.slice a n c, .int .i64 x] w (NewInts (Tr.kids l x) w) := by
  obtain ⟨i0, hi, hz0, hz1, hz2⟩ := info_parts info_int
  have hl : l.length = n := h.1
  have H := Lib.hid h
  have HL := Lib.hid (And.intro hl hn)
  clear h hl
  go_enter Tryd.func16, Tryd.ntmps16
  go_wp2
  go_loopw [5, 6] (fun out i wr => KidRel n l x w out i wr) (fun _ i _ => n - (intOf i).toNat)
  case atStart => exact ⟨0, [], Nat.zero_le _, rfl, rfl, World.ownsRow_nil _ _ _ _, Below.refl _ _⟩
  case round =>
    obtain ⟨k, us, hk, rfl, hus, hO, hB⟩ := hrel
    have HUs : Hid (us = Tr.kidsTo l x k ∧ us.length ≤ k) := Lib.hid ⟨hus, by rw [hus]; exact Tr.kidsTo_len l x k⟩
    have HB := Lib.hid hB
    have HO := Lib.hid hO
    clear hus hB hO
    by_cases hlt : k < n
    · obtain ⟨b, off, y, rfl, hltb, hy, hky, d0, _⟩ := nodes_cell (H.out.below HB.out) hlt
      by_cases hx0 : 0 ≤ x
      · by_cases hxy : y.p = x
        · have HS := Lib.hid (kids_yes (l := l) (k := k) hx0 (by rw [hy]; exact hxy))
          have dx : decide (0 ≤ x) = true := decide_eq_true hx0
          clear hy hky
          go_wp2_with (at_builtin; refine wpList_append_lies _ rfl (.tmp 24) (.tmp 26) 29 rfl w.heap.size 3 i0 (.int .i64 0) 1 8 Tryd.underlying29 hi hz0 hz1 hz2 rfl (by decide) u5 us.length (vs us) rfl (HO.out.alloc _) ⟨wr.heap.size, 0, none⟩ 1 1 (vs [(k : Int)]) rfl rfl ?c1 (vs_one _) (by decide) ?c3 ?c4 ?c5 (wr.heap.size + 1) ?c6 ?_)
          case c1 => exact new_one wr _ _
          case c3 => have := HUs.out; have := HL.out; unfold maxLen; omega
          case c4 => have := HUs.out; have := HL.out; omega
          case c5 => have := HB.out.size; simp; omega
          case c6 => simp
          intro g cap w2 hown2 hgrow2 hat2 _
          have HB2 := Lib.hid (own_grown HB.out HO.out hgrow2)
          have HO2 := Lib.hid hown2
          clear hown2 hgrow2 hat2 d0
          go_wp2
          go_roundw
          case rel => exact ⟨k + 1, us ++ [(k : Int)], hlt, by go_num, by rw [HS.out, ← HUs.out.1], by rw [List.length_append, vs_append]; exact HO2.out, HB2.out⟩
          case measure => simp [intOf]; omega
        · have HS := Lib.hid (kids_no (l := l) (x := x) (k := k) (by rw [hy]; exact fun h => hxy h.2))
          have hd : (y.p == x) = false := beq_eq_false_iff_ne.2 hxy
          have dx : decide (0 ≤ x) = true := decide_eq_true hx0
          clear hy hky
          go_wp2
          go_roundw
          case rel => exact ⟨k + 1, us, hlt, by go_num, by rw [HS.out]; exact HUs.out.1, HO.out, HB.out⟩
          case measure => simp [intOf]; omega
      · have HS := Lib.hid (kids_no (l := l) (x := x) (k := k) (fun h => hx0 h.1))
        have dx : decide (0 ≤ x) = false := decide_eq_false hx0
        clear hy hky
        go_wp2
        go_roundw
        case rel => exact ⟨k + 1, us, hlt, by go_num, by rw [HS.out]; exact HUs.out.1, HO.out, HB.out⟩
        case measure => simp [intOf]; omega
    · have HE : Hid (Tr.kids l x = us) := Lib.hid (by rw [HUs.out.1, Tr.kids, HL.out.1, show k = n by omega])
      go_wp2
      go_ret
      rw [HE.out]
      exact newInts HO.out HB.out
end Go.Proofs.YtpfcfmpfommfaaaDoor
