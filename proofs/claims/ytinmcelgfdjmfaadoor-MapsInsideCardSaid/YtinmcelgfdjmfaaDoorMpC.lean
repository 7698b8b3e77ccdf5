/-
  What the document's Right, Inside and maps.Inside tell of tables of sets. Conditions: the tables can be read; words of 64 bits.
-/
import Derived.Test.YtinmcelgfdjmfaaDoorMpA
import Derived.Test.YtinmcelgfdjmfaaDoorSlE
import Derived.Test.YtinmcelgfdjmfaaDoorQuiet
namespace Go.Proofs.YtinmcelgfdjmfaaDoor
open Go.RowKit

set_option maxRecDepth 100000 in
set_option maxHeartbeats 4000000 in
theorem rmpright_any (a : Option Addr) (n c : Nat) (l : List Sl.Four) (m : Int) (w : World) (h : SetsAt w w.heap.size a n l) (hn : n ≤ 9223372036854775807) (ho : ∀ s ∈ l, s.ok) :
    Calls Tryd.prog 9 #[.slice a n c, .int .i64 m] w (BoolP (Mp.right l m) w) := by
  have H := Lib.hid h
  have HL := Lib.hid h.1
  have HO := Lib.hid ho
  have HR := Lib.hid (fun (W : World) => rrange_any 0 m W)
  have hor : (Sl.range 0 m).ok := Sl.ok_span _ _
  have HI := Lib.hid (fun (s : Sl.Four) (hs : s.ok) (W : World) => rinside_any s (Sl.range 0 m) hs hor W)
  unfold Mp.right
  generalize Sl.range 0 m = g at *
  clear h ho hor
  go_enter Tryd.func9, Tryd.ntmps9
  go_wp2
  go_loopw [5] (fun i wr => ∃ k : Nat, k ≤ n ∧ i = .int .i64 (k : Int) ∧ Below w.heap.size w wr ∧ (l.take k).all (·.inside g) = true) (fun i _ => n - (intOf i).toNat)
  case atStart => exact ⟨0, Nat.zero_le _, rfl, Below.refl _ _, rfl⟩
  case round =>
    obtain ⟨k, hk, rfl, hB, hW⟩ := hrel
    have HB := Lib.hid hB
    by_cases hlt : k < n
    · obtain ⟨b, off, y, rfl, hbl, hy, hky, c0, c1, c2, c3⟩ := sets_cell (H.out.on hB) hlt
      have HS := Lib.hid (Mp.all_take_succ (·.inside g) hky)
      have HBad := Lib.hid (fun hb => Mp.all_bad (p := (·.inside g)) hky hb)
      have hoy := mp_ok HO.out hky
      rw [hy, hW] at HS
      rw [hy] at HBad hoy
      have HY := Lib.hid (HI.out y hoy)
      clear hW hy hky hoy hB
      cases hm : y.inside g with
      | false =>
        rw [hm] at HY
        have HE := Lib.hid (HBad.out hm)
        obtain ⟨K, hK, f, HC, HBe, HU⟩ := worlds_of wr
        have q0 := cell_q HBe.out hbl c0
        have q1 := cell_q HBe.out hbl c1
        have q2 := cell_q HBe.out hbl c2
        have q3 := cell_q HBe.out hbl c3
        clear HS HBad hm c0 c1 c2 c3
        have hki : (k : Int) < (n : Int) := by omega
        go_wp2
        refine region_q f HC.out (by kernel_rfl) (by kernel_rfl) ?_
        repeat (go_big_quiet_step (first | (go_at_call 24; refine Calls.q HU.out (HR.out _)) | (go_at_call 23; refine Calls.q HU.out (HY.out _))))
        refine wpQuiet_nil ?_
        rintro _ ⟨nq, rfl⟩
        go_wp2
        go_ret
        exact ⟨retB (by rw [HE.out, Bool.false_and]), HB.out.trans ((HBe.out nq).mono HB.out.size)⟩
      | true =>
        rw [hm] at HY HS
        obtain ⟨K, hK, f, HC, HBe, HU⟩ := worlds_of wr
        have q0 := cell_q HBe.out hbl c0
        have q1 := cell_q HBe.out hbl c1
        have q2 := cell_q HBe.out hbl c2
        have q3 := cell_q HBe.out hbl c3
        clear HBad hm c0 c1 c2 c3
        have hki : (k : Int) < (n : Int) := by omega
        go_wp2
        refine region_q f HC.out (by kernel_rfl) (by kernel_rfl) ?_
        repeat (go_big_quiet_step (first | (go_at_call 24; refine Calls.q HU.out (HR.out _)) | (go_at_call 23; refine Calls.q HU.out (HY.out _))))
        refine wpQuiet_nil ?_
        rintro _ ⟨nq, rfl⟩
        go_wp2
        go_roundw
        case rel => exact ⟨k + 1, hlt, by go_num, HB.out.trans ((HBe.out nq).mono HB.out.size), HS.out⟩
        case measure => simp [intOf]; omega
    · have HE : Hid (l.all (·.inside g) = true) := Lib.hid (by rw [← hW, List.take_of_length_le (by rw [HL.out]; omega)])
      clear hW hB
      go_wp2
      go_ret
      exact ⟨retB (by rw [HE.out, HL.out, Bool.true_and, Bool.eq_iff_iff]; simp; omega), HB.out⟩

set_option maxRecDepth 100000 in
set_option maxHeartbeats 4000000 in
theorem rmpinside_any (a b : Option Addr) (n c m d : Nat) (l r : List Sl.Four) (w : World) (h : SetsAt w w.heap.size a n l) (h2 : SetsAt w w.heap.size b m r) (hn : n ≤ 9223372036854775807) (ho : ∀ s ∈ l, s.ok) (ho2 : ∀ s ∈ r, s.ok) :
    Calls Tryd.prog 15 #[.slice a n c, .slice b m d] w (BoolP (Mp.inside l r) w) := by
  have hl : l.length = n := h.1
  have hr : r.length = m := h2.1
  by_cases hnm : n = m
  · subst hnm
    have H := Lib.hid h
    have H2 := Lib.hid h2
    have HG : Hid ((∀ k, k < n → (l.getD k Sl.no).inside (r.getD k Sl.no) = true) → Mp.inside l r = true) := Lib.hid (fun hk => Mp.inside_good (by omega) (by rw [hl]; exact hk))
    have HBd : Hid (∀ k, k < n → (l.getD k Sl.no).inside (r.getD k Sl.no) = false → Mp.inside l r = false) := Lib.hid (fun k hk => Mp.inside_bad (by omega))
    have HO : Hid (∀ k, k < n → (l.getD k Sl.no).ok ∧ (r.getD k Sl.no).ok) := Lib.hid (fun k hk => ⟨mp_ok ho (by omega), mp_ok ho2 (by omega)⟩)
    clear h h2 ho ho2 hl hr
    go_enter Tryd.func15, Tryd.ntmps15
    go_wp2
    go_loopw [5] (fun i wr => InsRel n l r w i wr) (fun i _ => n - (intOf i).toNat)
    case atStart => exact ⟨0, Nat.zero_le _, rfl, Below.refl _ _, fun j hj => absurd hj (by omega)⟩
    case round =>
      obtain ⟨k, hk, rfl, hBl, hW⟩ := hrel
      have HB := Lib.hid hBl
      have HW := Lib.hid hW
      clear hBl hW
      by_cases hlt : k < n
      · obtain ⟨b1, off1, x, rfl, hbl1, hx, _, c0, c1, c2, c3⟩ := sets_cell (H.out.on HB.out) hlt
        obtain ⟨b2, off2, y, rfl, hbl2, hy, _, d0, d1, d2, d3⟩ := sets_cell (H2.out.on HB.out) hlt
        obtain ⟨ox, oy⟩ := HO.out k hlt
        rw [hx] at ox
        rw [hy] at oy
        have HI := Lib.hid (fun W => rinside_any x y ox oy W)
        cases hi : x.inside y with
        | false =>
          rw [hi] at HI
          have HE := Lib.hid (HBd.out k hlt (by rw [hx, hy]; exact hi))
          clear HBd HG HO HW ox oy hx hy hi
          obtain ⟨K, hK, f, HC, HBe, HU⟩ := worlds_of wr
          have q0 := cell_q HBe.out hbl1 c0
          have q1 := cell_q HBe.out hbl1 c1
          have q2 := cell_q HBe.out hbl1 c2
          have q3 := cell_q HBe.out hbl1 c3
          have p0 := cell_q HBe.out hbl2 d0
          have p1 := cell_q HBe.out hbl2 d1
          have p2 := cell_q HBe.out hbl2 d2
          have p3 := cell_q HBe.out hbl2 d3
          clear c0 c1 c2 c3 d0 d1 d2 d3
          have hki : (k : Int) < (n : Int) := by omega
          go_wp2
          refine region_q f HC.out (by kernel_rfl) (by kernel_rfl) ?_
          repeat (go_big_quiet_step (first | (go_at_call 23; refine Calls.q HU.out (HI.out _))))
          refine wpQuiet_nil ?_
          rintro _ ⟨nq, rfl⟩
          go_wp2
          go_ret
          exact ⟨retB HE.out.symm, HB.out.trans ((HBe.out nq).mono HB.out.size)⟩
        | true =>
          rw [hi] at HI
          have HS : Hid (∀ j, j < k + 1 → (l.getD j Sl.no).inside (r.getD j Sl.no) = true) := Lib.hid (fun j hj => by
            rcases Nat.lt_or_eq_of_le (Nat.le_of_lt_succ hj) with h | rfl
            · exact HW.out j h
            · rw [hx, hy]; exact hi)
          clear HBd HG HO HW ox oy hx hy hi
          obtain ⟨K, hK, f, HC, HBe, HU⟩ := worlds_of wr
          have q0 := cell_q HBe.out hbl1 c0
          have q1 := cell_q HBe.out hbl1 c1
          have q2 := cell_q HBe.out hbl1 c2
          have q3 := cell_q HBe.out hbl1 c3
          have p0 := cell_q HBe.out hbl2 d0
          have p1 := cell_q HBe.out hbl2 d1
          have p2 := cell_q HBe.out hbl2 d2
          have p3 := cell_q HBe.out hbl2 d3
          clear c0 c1 c2 c3 d0 d1 d2 d3
          have hki : (k : Int) < (n : Int) := by omega
          go_wp2
          refine region_q f HC.out (by kernel_rfl) (by kernel_rfl) ?_
          repeat (go_big_quiet_step (first | (go_at_call 23; refine Calls.q HU.out (HI.out _))))
          refine wpQuiet_nil ?_
          rintro _ ⟨nq, rfl⟩
          go_wp2
          go_roundw
          case rel => exact ⟨k + 1, hlt, by go_num, HB.out.trans ((HBe.out nq).mono HB.out.size), HS.out⟩
          case measure => simp [intOf]; omega
      · have HE := Lib.hid (HG.out (fun j hj => HW.out j (by omega)))
        clear HBd HG HO HW
        go_wp2
        go_ret
        exact ⟨retB HE.out.symm, HB.out⟩
  · rw [Mp.inside_length (by omega)]
    have hd : decide ((n : Int) = (m : Int)) = false := decide_eq_false (by omega)
    clear h h2 ho ho2 hl hr
    go_enter Tryd.func15, Tryd.ntmps15
    go_wp2
    go_ret
    exact ⟨rfl, Below.refl _ _⟩

set_option maxRecDepth 100000 in
theorem mpinside_any (a b : Option Addr) (n c m d : Nat) (l r : List Sl.Four) (w : World) (h : SetsAt w w.heap.size a n l) (h2 : SetsAt w w.heap.size b m r) (hn : n ≤ 9223372036854775807) (ho : ∀ s ∈ l, s.ok) (ho2 : ∀ s ∈ r, s.ok) :
    Calls Tryd.prog 14 #[.slice a n c, .slice b m d] w (BoolP (Mp.inside l r) w) := by
  have HE := Lib.hid (mpequal_any a b n c m d l r w h h2 hn ho ho2)
  clear h h2 ho ho2
  go_enter Tryd.func14, Tryd.ntmps14
  go_wp2_with (go_at_call 28; refine HE.out.mono ?_; rintro _ w1 ⟨rfl, hb1⟩)
  go_ret
  exact ⟨rfl, hb1⟩
end Go.Proofs.YtinmcelgfdjmfaaDoor
