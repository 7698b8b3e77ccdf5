/-
  Where a run may go on behind a panic: the program's answer. Conditions: the function can be read, and laid; words of 64 bits; not more than a million instructions.
-/
import Derived.Test.YtngkjmghhoemgaaFwA
import Derived.Test.YtngkjmghhoemgaaFwUp
namespace Go.Proofs.Ytngkjmghhoemgaa
open Go.RowKit

set_option maxRecDepth 100000 in
set_option maxHeartbeats 8000000 in
theorem fwcatch_any (v : FnV) (f : Fn.F) (k : Nat) (w : World) (h : FnOk w w.heap.size v f) (hw : f.Wf) (hcan : f.can = 0) (hk : k < v.code.n) (hnn : v.nodes.n ≤ 1000000) :
    Calls Try.prog 22 #[.agg v.cells, .int .i64 (k : Int)] w (RowP (Fw.catch_ f k) w) := by
  have mixed : Try.prog.follows .mixedOrders = true := by kernel_rfl
  have hb := (Below.refl w.heap.size w).alloc (Nat.le_refl _) (.cells v.cells 28)
  have HB := Lib.hid hb
  have hA := FnAt.new w v
  have c0 := hA.c0; have c1 := hA.c1; have c2 := hA.c2; have c3 := hA.c3; have c4 := hA.c4; have c5 := hA.c5; have c6 := hA.c6; have c7 := hA.c7; have c8 := hA.c8; have c9 := hA.c9; have c10 := hA.c10
  have HRes := Lib.hid (fun (x : Int) (W : World) (hx : Below w.heap.size w W) => fwresume_any v f x W (h.on hx))
  have HNode := Lib.hid (fun (W : World) (hx : Below w.heap.size w W) => fwnode_any v f k W (h.on hx) hk)
  have HUp := Lib.hid (fun (W : World) (hx : Below w.heap.size w W) => trup_all v.nodes.a v.nodes.n v.nodes.c f (Fw.node f k) W (h.on hx).nodes.1 hcan (node_i64 hw k))
  have HH := fwhas_any v (k : Int) (w.alloc (.cells v.cells 28))
  rw [decide_eq_true (show 0 ≤ (k : Int) ∧ (k : Int) < (v.code.n : Int) by omega)] at HH
  obtain ⟨b, off, y, hca, hlt, hy, _, d0, _⟩ := pairs_cell (h.on hb).code.1 hk
  have hop : Fw.op f k = y.1 := by unfold Fw.op; rw [hy]
  have HLt := Lib.hid hlt
  have HRz := Lib.hid (fun W => raises_any y.1 W)
  have HLen : Hid ((Tr.ups f.nodes (Fw.node f k)).length ≤ 1000001) := Lib.hid (by
    have h1 := Tr.up_len f.nodes (f.nodes.length + 1) (Fw.node f k)
    have h2 := h.n_nodes
    unfold Tr.ups
    omega)
  clear h hw hcan hb hy hlt hnn
  obtain ⟨nm, inn, ⟨oa, on, oc⟩, ⟨pa, pn, pc⟩, ⟨ra, rn, rc⟩, ⟨la, ln, lc⟩, ⟨ca, cn, cc⟩, ⟨ia, i_n, ic⟩, ⟨na, nn, nc⟩, ⟨ta, tn, tc⟩, ⟨va, vn, vc⟩⟩ := v
  simp only at hca hk
  subst hca
  have HC := Lib.hid (And.intro c0 (And.intro c1 (And.intro c2 (And.intro c3 (And.intro c4 (And.intro c5 (And.intro c6 (And.intro c7 (And.intro c8 (And.intro c9 c10))))))))))
  obtain ⟨o, ar⟩ := y
  simp only at hop d0 HRz
  have hk1 : (k : Int) < (cn : Int) := by omega
  cases hr : (Op.row o).raises with
  | false =>
    have HE : Hid (Fw.catch_ f k = []) := Lib.hid (by unfold Fw.catch_; rw [hop, hr]; rfl)
    rw [hr] at HRz
    clear hop hr hA HLen
    go_enter Try.func22, Try.ntmps22
    go_wp2_with (first | (go_at_call 16; refine HH.mono ?_; rintro _ w1 ⟨rfl, hb1⟩; have HB1 := Lib.hid hb1; have c6' := (hb1.cell (p := ⟨w.heap.size, 6, none⟩) (by simp)).trans c6; have d0' := (hb1.cell (p := ⟨b, off + k * 2, none⟩) HLt.out).trans d0; clear hb1) | (go_at_call 37; refine (HRz.out _).mono ?_; rintro _ w2 ⟨rfl, hb2⟩; have HB2 := Lib.hid (below_self HB1.out hb2); have g0 := (HB2.out.cell (p := ⟨w.heap.size, 0, none⟩) (by simp)).trans c0; have g1 := (HB2.out.cell (p := ⟨w.heap.size, 1, none⟩) (by simp)).trans c1; have g2 := (HB2.out.cell (p := ⟨w.heap.size, 2, none⟩) (by simp)).trans c2; have g3 := (HB2.out.cell (p := ⟨w.heap.size, 3, none⟩) (by simp)).trans c3; have g4 := (HB2.out.cell (p := ⟨w.heap.size, 4, none⟩) (by simp)).trans c4; have g5 := (HB2.out.cell (p := ⟨w.heap.size, 5, none⟩) (by simp)).trans c5; have g6 := (HB2.out.cell (p := ⟨w.heap.size, 6, none⟩) (by simp)).trans c6; have g7 := (HB2.out.cell (p := ⟨w.heap.size, 7, none⟩) (by simp)).trans c7; have g8 := (HB2.out.cell (p := ⟨w.heap.size, 8, none⟩) (by simp)).trans c8; have g9 := (HB2.out.cell (p := ⟨w.heap.size, 9, none⟩) (by simp)).trans c9; have g10 := (HB2.out.cell (p := ⟨w.heap.size, 10, none⟩) (by simp)).trans c10; clear c6' d0' c0 c1 c2 c3 c4 c5 c6 c7 c8 c9 c10 d0 hb2))
    go_ret
    rw [HE.out]
    exact rowP_nil (HB.out.trans (HB2.out.mono (by simp)))
  | true =>
    have HE : Hid (Fw.catch_ f k = Fw.caught f (Tr.ups f.nodes (Fw.node f k))) := Lib.hid (by unfold Fw.catch_; rw [hop, hr]; rfl)
    rw [hr] at HRz
    clear hop hr hA
    generalize Tr.ups f.nodes (Fw.node f k) = us at *
    go_enter Try.func22, Try.ntmps22
    go_wp2_with (first | (go_at_call 16; refine HH.mono ?_; rintro _ w1 ⟨rfl, hb1⟩; have HB1 := Lib.hid hb1; have c6' := (hb1.cell (p := ⟨w.heap.size, 6, none⟩) (by simp)).trans c6; have d0' := (hb1.cell (p := ⟨b, off + k * 2, none⟩) HLt.out).trans d0; clear hb1) | (go_at_call 37; refine (HRz.out _).mono ?_; rintro _ w2 ⟨rfl, hb2⟩; have HB2 := Lib.hid (below_self HB1.out hb2); have g0 := (HB2.out.cell (p := ⟨w.heap.size, 0, none⟩) (by simp)).trans c0; have g1 := (HB2.out.cell (p := ⟨w.heap.size, 1, none⟩) (by simp)).trans c1; have g2 := (HB2.out.cell (p := ⟨w.heap.size, 2, none⟩) (by simp)).trans c2; have g3 := (HB2.out.cell (p := ⟨w.heap.size, 3, none⟩) (by simp)).trans c3; have g4 := (HB2.out.cell (p := ⟨w.heap.size, 4, none⟩) (by simp)).trans c4; have g5 := (HB2.out.cell (p := ⟨w.heap.size, 5, none⟩) (by simp)).trans c5; have g6 := (HB2.out.cell (p := ⟨w.heap.size, 6, none⟩) (by simp)).trans c6; have g7 := (HB2.out.cell (p := ⟨w.heap.size, 7, none⟩) (by simp)).trans c7; have g8 := (HB2.out.cell (p := ⟨w.heap.size, 8, none⟩) (by simp)).trans c8; have g9 := (HB2.out.cell (p := ⟨w.heap.size, 9, none⟩) (by simp)).trans c9; have g10 := (HB2.out.cell (p := ⟨w.heap.size, 10, none⟩) (by simp)).trans c10; clear c6' d0' c0 c1 c2 c3 c4 c5 c6 c7 c8 c9 c10 d0 hb2))
    go_region_with (first | (go_at_call 39; refine (HNode.out _ ((HB.out.trans (HB2.out.mono (by simp))).drew)).mono ?_; rintro _ w3 ⟨rfl, hb3⟩; have HB3 := Lib.hid (below_self HB2.out.drew hb3); have k8 := (hb3.cell (p := ⟨w.heap.size, 8, none⟩) (by have := HB2.out.size; simp at this ⊢; omega)).trans g8; clear hb3) | (go_at_call 38; refine (HUp.out _ (HB.out.trans (HB3.out.mono (by simp)))).mono ?_; rintro _ w4 ⟨A, cA, rfl, hi4, hb4⟩; have HI4 := Lib.hid hi4; have HB4 := Lib.hid (below_self HB3.out hb4); clear hi4 hb4))
    all_goals (simp only [Exit.then, Act.put, List.getElem_toArray, List.getElem_cons_succ, List.getElem_cons_zero, List.setIfInBounds_toArray, List.set_cons_succ, List.set_cons_zero])
    all_goals go_wp2
    all_goals go_loopw [5, 29] (fun cv i wr => ∃ j : Nat, i = .int .i64 (j : Int) ∧ j ≤ us.length ∧ Rq wr w4.heap.size cv (Fw.caught f (us.take j)) ∧ Below w4.heap.size w4 wr) (fun _ i _ => us.length - (intOf i).toNat)
    all_goals first | (exact ⟨0, rfl, Nat.zero_le _, Rq.nil _ _, Below.refl _ _⟩) | skip
    all_goals
      obtain ⟨j, rfl, hj, hq, hB⟩ := hrel
      have HQ := Lib.hid hq
      have HB5 := Lib.hid hB
      clear hq hB
      by_cases hjl : j < us.length
      · have hji : (j : Int) < (us.length : Int) := by omega
        obtain ⟨b2, off2, x, rfl, hlt2, x0, hx, _⟩ := ints_cell HI4.out hjl
        have x0' := (HB5.out.cell (p := ⟨b2, off2 + j, none⟩) hlt2).trans x0
        have hb6 := HB4.out.trans (HB5.out.mono HB4.out.size)
        obtain ⟨c0, c1, c2, c3, c4, c5, c6, c7, c8, c9, c10⟩ := HC.out
        have k0 := (hb6.cell (p := ⟨w.heap.size, 0, none⟩) (by simp)).trans c0; have k1 := (hb6.cell (p := ⟨w.heap.size, 1, none⟩) (by simp)).trans c1; have k2 := (hb6.cell (p := ⟨w.heap.size, 2, none⟩) (by simp)).trans c2; have k3 := (hb6.cell (p := ⟨w.heap.size, 3, none⟩) (by simp)).trans c3; have k4 := (hb6.cell (p := ⟨w.heap.size, 4, none⟩) (by simp)).trans c4; have k5 := (hb6.cell (p := ⟨w.heap.size, 5, none⟩) (by simp)).trans c5; have k6 := (hb6.cell (p := ⟨w.heap.size, 6, none⟩) (by simp)).trans c6; have k7 := (hb6.cell (p := ⟨w.heap.size, 7, none⟩) (by simp)).trans c7; have k8 := (hb6.cell (p := ⟨w.heap.size, 8, none⟩) (by simp)).trans c8; have k9 := (hb6.cell (p := ⟨w.heap.size, 9, none⟩) (by simp)).trans c9; have k10 := (hb6.cell (p := ⟨w.heap.size, 10, none⟩) (by simp)).trans c10
        have HS : Hid (Fw.caught f (us.take (j + 1)) = Fw.caught f (us.take j) ++ Fw.resume f x) := Lib.hid (by rw [Fw.caught_succ hjl, hx])
        have HJ := Lib.hid hjl
        have hjb : j ≤ 1000001 := by have := HLen.out; omega
        have HL2 : Hid ((Fw.caught f (us.take j)).length ≤ 1000001 ∧ (Fw.resume f x).length ≤ 1) := Lib.hid ⟨by have h1 := Fw.caught_len (f := f) (us.take j); have h2 := HLen.out; rw [List.length_take] at h1; omega, Fw.resume_len x⟩
        clear hb6 g0 g1 g2 g3 g4 g5 g6 g7 g8 g9 g10 c0 c1 c2 c3 c4 c5 c6 c7 c8 c9 c10 hx hlt2 x0 hj
        go_wp2_with (first
          | (go_at_call 32; refine (HRes.out x _ (HB.out.trans ((HB4.out.trans (HB5.out.mono HB4.out.size)).mono (by simp)))).mono ?_; rintro _ w6 ⟨u, rfl, hu, hb6⟩; obtain ⟨A2, cA2, rfl, hi2, _⟩ := hu.ints; have HI6 := Lib.hid hi2; have HB6 := Lib.hid (below_self HB5.out hb6); have HQ6 := Lib.hid (HQ.out.below hb6); clear hu hi2 hb6)
          | (at_builtin; refine wpList_append_q rfl rfl (.tmp 33) (.tmp 36) rfl (base := w4.heap.size) rfl HQ6.out rfl HI6.out HB6.out.size (by have := HL2.out; omega) ?_; intro v7 w7 hq7 hg7 _; have HQ7 := Lib.hid hq7; have HB7 := Lib.hid (below_append HB6.out HQ6.out hg7); clear hq7 hg7))
        go_roundw
        case rel =>
          refine ⟨j + 1, by go_num, HJ.out, ?_, HB7.out⟩
          rw [HS.out]
          exact HQ7.out
        case measure => have := HJ.out; simp [intOf]; omega
      · obtain rfl : j = us.length := by omega
        clear hj hjl
        go_wp2
        go_ret
        rw [HE.out]
        have hq := HQ.out
        rw [List.take_length] at hq
        exact ⟨_, rfl, hq.more (by have := HB.out.size; have := HB4.out.size; simp at *; omega), HB.out.trans ((HB4.out.trans (HB5.out.mono HB4.out.size)).mono (by simp))⟩
end Go.Proofs.Ytngkjmghhoemgaa
