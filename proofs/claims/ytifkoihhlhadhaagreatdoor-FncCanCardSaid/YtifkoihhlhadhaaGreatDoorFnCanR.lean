/-
  What the document's Bare and tables tell. Conditions: the function can be read; few of everything; words of 64 bits.
-/
import Derived.Test.YtifkoihhlhadhaaGreatDoorFnCanA
import Derived.Test.YtifkoihhlhadhaaGreatDoorFnSmall
import Derived.Test.YtifkoihhlhadhaaGreatDoorTrMp
namespace Go.Proofs.YtifkoihhlhadhaaGreatDoor
open Go.RowKit

set_option maxRecDepth 100000 in
set_option maxHeartbeats 2000000 in
theorem rfnbare_any (v : FnV) (hf : v.Few) (w : World) : Calls Tryz.prog 10 #[.agg v.cells] w (BoolP v.bare w) := by
  have HB := Lib.hid ((Below.refl w.heap.size w).alloc (Nat.le_refl _) (.cells v.cells 28))
  have c8 := (FnAt.new w v).c8
  have c9 := (FnAt.new w v).c9
  have c10 := (FnAt.new w v).c10
  have HE : Hid (v.bare = decide (v.nodes.n + v.at_.n + v.live.n = 0)) := Lib.hid (by
    unfold FnV.bare
    rw [Bool.eq_iff_iff]
    simp
    omega)
  rw [HE.out]
  obtain ⟨_, _, h1, h2, h3⟩ := hf
  clear HE
  obtain ⟨nm, inn, ⟨oa, on, oc⟩, ⟨pa, pn, pc⟩, ⟨ra, rn, rc⟩, ⟨la, ln, lc⟩, ⟨ca, cn, cc⟩, ⟨ia, i_n, ic⟩, ⟨na, nn, nc⟩, ⟨ta, tn, tc⟩, ⟨va, vn, vc⟩⟩ := v
  simp only at h1 h2 h3
  go_enter Tryz.func10, Tryz.ntmps10
  go_wp2
  go_ret
  exact ⟨retB (by rw [Bool.eq_iff_iff]; simp; omega), HB.out⟩

theorem mapped_bad {f : Fn.F} {k : Nat} (h : k < f.at_.length) (hb : Fn.out f.nodes.length (f.at_.getD k 0) = true) : f.mapped = false := by
  unfold Fn.F.mapped
  rw [Fn.any_good (p := Fn.out f.nodes.length) h hb]
  simp

set_option maxRecDepth 100000 in
set_option maxHeartbeats 8000000 in
theorem rfntables_any (v : FnV) (f : Fn.F) (w : World) (h : FnOk w w.heap.size v f) (hl : v.Len) (hw : f.Wf) (hf : v.Few) :
    Calls Tryz.prog 31 #[.agg v.cells, .int .i64 (f.slots : Int)] w (BoolP (f.bare || f.mapped) w) := by
  have hb0 := (Below.refl w.heap.size w).alloc (Nat.le_refl _) (.cells v.cells 28)
  have A1 := Lib.hid (FnAt.new w v)
  have O1 := Lib.hid (h.on hb0)
  have B1 := Lib.hid hb0
  have HBa := Lib.hid (fun (W : World) => rfnbare_any v hf W)
  rw [h.bare] at HBa
  have HTr := Lib.hid (fun (W : World) (o : FnOk W W.heap.size v f) => rtrright_any _ _ v.nodes.c f.nodes W o.nodes.1 hl.nodes)
  have HMp := Lib.hid (fun (W : World) (o : FnOk W W.heap.size v f) => rmpright_any _ _ v.live.c f.live (f.slots : Int) W o.live.1 hl.live hw.live)
  have HM : Hid (f.mapped = (Tr.right f.nodes && (decide (v.at_.n = v.code.n) && (decide (v.live.n = v.code.n) && (!f.at_.any (Fn.out v.nodes.n) && Mp.right f.live (f.slots : Int)))))) := Lib.hid (by rw [← h.n_nodes, ← h.n_at, ← h.n_code, ← h.n_live]; rfl)
  have HAt : Hid (f.at_.length = v.at_.n ∧ f.nodes.length = v.nodes.n) := Lib.hid ⟨h.n_at, h.n_nodes⟩
  have c0 := A1.out.c0; have c1 := A1.out.c1; have c2 := A1.out.c2; have c3 := A1.out.c3; have c4 := A1.out.c4; have c5 := A1.out.c5; have c6 := A1.out.c6; have c7 := A1.out.c7; have c8 := A1.out.c8; have c9 := A1.out.c9; have c10 := A1.out.c10
  have hla := hl.at_
  have hln := hl.nodes
  have hlc := hl.code
  have hlv := hl.live
  clear hb0 h hl hw hf
  rw [HM.out]
  clear HM
  generalize f.bare = b0 at *
  generalize Tr.right f.nodes = b1 at *
  generalize Mp.right f.live (f.slots : Int) = b5 at *
  generalize (f.slots : Int) = sl at *
  cases b0 with
  | true =>
    obtain ⟨nm, inn, ⟨oa, on, oc⟩, ⟨pa, pn, pc⟩, ⟨ra, rn, rc⟩, ⟨la, ln, lc⟩, ⟨ca, cn, cc⟩, ⟨ia, i_n, ic⟩, ⟨na, nn, nc⟩, ⟨ta, tn, tc⟩, ⟨va, vn, vc⟩⟩ := v
    go_enter Tryz.func31, Tryz.ntmps31
    go_wp2_with (go_at_call 10; go_must (refine (HBa.out _).mono ?_; rintro _ w2 ⟨rfl, hb2⟩; have A2 := Lib.hid (A1.out.on hb2); have O2 := Lib.hid (O1.out.on hb2); have B2 := Lib.hid (B1.out.trans (hb2.mono B1.out.size)); clear hb2; have c0 := A2.out.c0; have c1 := A2.out.c1; have c2 := A2.out.c2; have c3 := A2.out.c3; have c4 := A2.out.c4; have c5 := A2.out.c5; have c6 := A2.out.c6; have c7 := A2.out.c7; have c8 := A2.out.c8; have c9 := A2.out.c9; have c10 := A2.out.c10))
    go_ret
    exact ⟨rfl, B2.out⟩
  | false =>
  cases b1 with
  | false =>
    obtain ⟨nm, inn, ⟨oa, on, oc⟩, ⟨pa, pn, pc⟩, ⟨ra, rn, rc⟩, ⟨la, ln, lc⟩, ⟨ca, cn, cc⟩, ⟨ia, i_n, ic⟩, ⟨na, nn, nc⟩, ⟨ta, tn, tc⟩, ⟨va, vn, vc⟩⟩ := v
    simp only at hla hln hlc hlv
    go_enter Tryz.func31, Tryz.ntmps31
    go_wp2_with (first | (go_at_call 10; go_must (refine (HBa.out _).mono ?_; rintro _ w2 ⟨rfl, hb2⟩; have A2 := Lib.hid (A1.out.on hb2); have O2 := Lib.hid (O1.out.on hb2); have B2 := Lib.hid (B1.out.trans (hb2.mono B1.out.size)); clear hb2; have c0 := A2.out.c0; have c1 := A2.out.c1; have c2 := A2.out.c2; have c3 := A2.out.c3; have c4 := A2.out.c4; have c5 := A2.out.c5; have c6 := A2.out.c6; have c7 := A2.out.c7; have c8 := A2.out.c8; have c9 := A2.out.c9; have c10 := A2.out.c10)) | (go_at_call 82; go_must (refine (HTr.out w2 O2.out).mono ?_; rintro _ w3 ⟨rfl, hb3⟩; have A3 := Lib.hid (A2.out.on hb3); have O3 := Lib.hid (O2.out.on hb3); have B3 := Lib.hid (B2.out.trans (hb3.mono B2.out.size)); clear hb3; have c0 := A3.out.c0; have c1 := A3.out.c1; have c2 := A3.out.c2; have c3 := A3.out.c3; have c4 := A3.out.c4; have c5 := A3.out.c5; have c6 := A3.out.c6; have c7 := A3.out.c7; have c8 := A3.out.c8; have c9 := A3.out.c9; have c10 := A3.out.c10)))
    go_ret
    exact ⟨retB (by simp), B3.out⟩
  | true =>
  by_cases e1 : v.at_.n = v.code.n
  rotate_left
  · have d1 : ((v.at_.n : Int) != (v.code.n : Int)) = true := bne_iff_ne.2 (by omega)
    have hr : Hid (decide (v.at_.n = v.code.n) = false) := Lib.hid (decide_eq_false e1)
    clear e1
    obtain ⟨nm, inn, ⟨oa, on, oc⟩, ⟨pa, pn, pc⟩, ⟨ra, rn, rc⟩, ⟨la, ln, lc⟩, ⟨ca, cn, cc⟩, ⟨ia, i_n, ic⟩, ⟨na, nn, nc⟩, ⟨ta, tn, tc⟩, ⟨va, vn, vc⟩⟩ := v
    simp only at hla hln hlc hlv d1
    go_enter Tryz.func31, Tryz.ntmps31
    go_wp2_with (first | (go_at_call 10; go_must (refine (HBa.out _).mono ?_; rintro _ w2 ⟨rfl, hb2⟩; have A2 := Lib.hid (A1.out.on hb2); have O2 := Lib.hid (O1.out.on hb2); have B2 := Lib.hid (B1.out.trans (hb2.mono B1.out.size)); clear hb2; have c0 := A2.out.c0; have c1 := A2.out.c1; have c2 := A2.out.c2; have c3 := A2.out.c3; have c4 := A2.out.c4; have c5 := A2.out.c5; have c6 := A2.out.c6; have c7 := A2.out.c7; have c8 := A2.out.c8; have c9 := A2.out.c9; have c10 := A2.out.c10)) | (go_at_call 82; go_must (refine (HTr.out w2 O2.out).mono ?_; rintro _ w3 ⟨rfl, hb3⟩; have A3 := Lib.hid (A2.out.on hb3); have O3 := Lib.hid (O2.out.on hb3); have B3 := Lib.hid (B2.out.trans (hb3.mono B2.out.size)); clear hb3; have c0 := A3.out.c0; have c1 := A3.out.c1; have c2 := A3.out.c2; have c3 := A3.out.c3; have c4 := A3.out.c4; have c5 := A3.out.c5; have c6 := A3.out.c6; have c7 := A3.out.c7; have c8 := A3.out.c8; have c9 := A3.out.c9; have c10 := A3.out.c10)))
    go_ret
    exact ⟨retB (by simp [hr.out]), B3.out⟩
  have d1 : ((v.at_.n : Int) != (v.code.n : Int)) = false := bne_eq_false_iff_eq.2 (by omega)
  have hr1 : Hid (decide (v.at_.n = v.code.n) = true) := Lib.hid (decide_eq_true e1)
  by_cases e2 : v.live.n = v.code.n
  rotate_left
  · have d2 : ((v.live.n : Int) != (v.code.n : Int)) = true := bne_iff_ne.2 (by omega)
    have hr : Hid (decide (v.live.n = v.code.n) = false) := Lib.hid (decide_eq_false e2)
    clear e1 e2
    obtain ⟨nm, inn, ⟨oa, on, oc⟩, ⟨pa, pn, pc⟩, ⟨ra, rn, rc⟩, ⟨la, ln, lc⟩, ⟨ca, cn, cc⟩, ⟨ia, i_n, ic⟩, ⟨na, nn, nc⟩, ⟨ta, tn, tc⟩, ⟨va, vn, vc⟩⟩ := v
    simp only at hla hln hlc hlv d1 d2
    go_enter Tryz.func31, Tryz.ntmps31
    go_wp2_with (first | (go_at_call 10; go_must (refine (HBa.out _).mono ?_; rintro _ w2 ⟨rfl, hb2⟩; have A2 := Lib.hid (A1.out.on hb2); have O2 := Lib.hid (O1.out.on hb2); have B2 := Lib.hid (B1.out.trans (hb2.mono B1.out.size)); clear hb2; have c0 := A2.out.c0; have c1 := A2.out.c1; have c2 := A2.out.c2; have c3 := A2.out.c3; have c4 := A2.out.c4; have c5 := A2.out.c5; have c6 := A2.out.c6; have c7 := A2.out.c7; have c8 := A2.out.c8; have c9 := A2.out.c9; have c10 := A2.out.c10)) | (go_at_call 82; go_must (refine (HTr.out w2 O2.out).mono ?_; rintro _ w3 ⟨rfl, hb3⟩; have A3 := Lib.hid (A2.out.on hb3); have O3 := Lib.hid (O2.out.on hb3); have B3 := Lib.hid (B2.out.trans (hb3.mono B2.out.size)); clear hb3; have c0 := A3.out.c0; have c1 := A3.out.c1; have c2 := A3.out.c2; have c3 := A3.out.c3; have c4 := A3.out.c4; have c5 := A3.out.c5; have c6 := A3.out.c6; have c7 := A3.out.c7; have c8 := A3.out.c8; have c9 := A3.out.c9; have c10 := A3.out.c10)))
    go_ret
    exact ⟨retB (by simp [hr.out]), B3.out⟩
  have d2 : ((v.live.n : Int) != (v.code.n : Int)) = false := bne_eq_false_iff_eq.2 (by omega)
  have hr2 : Hid (decide (v.live.n = v.code.n) = true) := Lib.hid (decide_eq_true e2)
  clear e1 e2
  cases b5 with
  | false =>
    obtain ⟨nm, inn, ⟨oa, on, oc⟩, ⟨pa, pn, pc⟩, ⟨ra, rn, rc⟩, ⟨la, ln, lc⟩, ⟨ca, cn, cc⟩, ⟨ia, i_n, ic⟩, ⟨na, nn, nc⟩, ⟨ta, tn, tc⟩, ⟨va, vn, vc⟩⟩ := v
    simp only at hla hln hlc hlv d1 d2
    go_enter Tryz.func31, Tryz.ntmps31
    go_wp2_with (first | (go_at_call 10; go_must (refine (HBa.out _).mono ?_; rintro _ w2 ⟨rfl, hb2⟩; have A2 := Lib.hid (A1.out.on hb2); have O2 := Lib.hid (O1.out.on hb2); have B2 := Lib.hid (B1.out.trans (hb2.mono B1.out.size)); clear hb2; have c0 := A2.out.c0; have c1 := A2.out.c1; have c2 := A2.out.c2; have c3 := A2.out.c3; have c4 := A2.out.c4; have c5 := A2.out.c5; have c6 := A2.out.c6; have c7 := A2.out.c7; have c8 := A2.out.c8; have c9 := A2.out.c9; have c10 := A2.out.c10)) | (go_at_call 82; go_must (refine (HTr.out w2 O2.out).mono ?_; rintro _ w3 ⟨rfl, hb3⟩; have A3 := Lib.hid (A2.out.on hb3); have O3 := Lib.hid (O2.out.on hb3); have B3 := Lib.hid (B2.out.trans (hb3.mono B2.out.size)); clear hb3; have c0 := A3.out.c0; have c1 := A3.out.c1; have c2 := A3.out.c2; have c3 := A3.out.c3; have c4 := A3.out.c4; have c5 := A3.out.c5; have c6 := A3.out.c6; have c7 := A3.out.c7; have c8 := A3.out.c8; have c9 := A3.out.c9; have c10 := A3.out.c10)) | (go_at_call 83; go_must (refine (HMp.out w3 O3.out).mono ?_; rintro _ w4 ⟨rfl, hb4⟩; have A4 := Lib.hid (A3.out.on hb4); have O4 := Lib.hid (O3.out.on hb4); have B4 := Lib.hid (B3.out.trans (hb4.mono B3.out.size)); clear hb4; have c0 := A4.out.c0; have c1 := A4.out.c1; have c2 := A4.out.c2; have c3 := A4.out.c3; have c4 := A4.out.c4; have c5 := A4.out.c5; have c6 := A4.out.c6; have c7 := A4.out.c7; have c8 := A4.out.c8; have c9 := A4.out.c9; have c10 := A4.out.c10)))
    go_ret
    exact ⟨retB (by simp), B4.out⟩
  | true =>
    have HN : Hid ((decide (v.at_.n = v.code.n) && (decide (v.live.n = v.code.n) && (!f.at_.any (Fn.out v.nodes.n) && true))) = !f.at_.any (Fn.out v.nodes.n)) := Lib.hid (by rw [hr1.out, hr2.out]; simp)
    clear hr1 hr2
    obtain ⟨nm, inn, ⟨oa, on, oc⟩, ⟨pa, pn, pc⟩, ⟨ra, rn, rc⟩, ⟨la, ln, lc⟩, ⟨ca, cn, cc⟩, ⟨ia, i_n, ic⟩, ⟨na, nn, nc⟩, ⟨ta, tn, tc⟩, ⟨va, vn, vc⟩⟩ := v
    simp only at hla hln hlc hlv d1 d2 HN HAt
    go_enter Tryz.func31, Tryz.ntmps31
    go_wp2_with (first | (go_at_call 10; go_must (refine (HBa.out _).mono ?_; rintro _ w2 ⟨rfl, hb2⟩; have A2 := Lib.hid (A1.out.on hb2); have O2 := Lib.hid (O1.out.on hb2); have B2 := Lib.hid (B1.out.trans (hb2.mono B1.out.size)); clear hb2; have c0 := A2.out.c0; have c1 := A2.out.c1; have c2 := A2.out.c2; have c3 := A2.out.c3; have c4 := A2.out.c4; have c5 := A2.out.c5; have c6 := A2.out.c6; have c7 := A2.out.c7; have c8 := A2.out.c8; have c9 := A2.out.c9; have c10 := A2.out.c10)) | (go_at_call 82; go_must (refine (HTr.out w2 O2.out).mono ?_; rintro _ w3 ⟨rfl, hb3⟩; have A3 := Lib.hid (A2.out.on hb3); have O3 := Lib.hid (O2.out.on hb3); have B3 := Lib.hid (B2.out.trans (hb3.mono B2.out.size)); clear hb3; have c0 := A3.out.c0; have c1 := A3.out.c1; have c2 := A3.out.c2; have c3 := A3.out.c3; have c4 := A3.out.c4; have c5 := A3.out.c5; have c6 := A3.out.c6; have c7 := A3.out.c7; have c8 := A3.out.c8; have c9 := A3.out.c9; have c10 := A3.out.c10)) | (go_at_call 83; go_must (refine (HMp.out w3 O3.out).mono ?_; rintro _ w4 ⟨rfl, hb4⟩; have A4 := Lib.hid (A3.out.on hb4); have O4 := Lib.hid (O3.out.on hb4); have B4 := Lib.hid (B3.out.trans (hb4.mono B3.out.size)); clear hb4; have c0 := A4.out.c0; have c1 := A4.out.c1; have c2 := A4.out.c2; have c3 := A4.out.c3; have c4 := A4.out.c4; have c5 := A4.out.c5; have c6 := A4.out.c6; have c7 := A4.out.c7; have c8 := A4.out.c8; have c9 := A4.out.c9; have c10 := A4.out.c10)))
    go_loopw [5] (fun i wr => ∃ k : Nat, k ≤ tn ∧ i = .int .i64 (k : Int) ∧ Below w4.heap.size w4 wr ∧ (f.at_.take k).any (Fn.out nn) = false) (fun i _ => tn - (intOf i).toNat)
    case atStart => exact ⟨0, Nat.zero_le _, rfl, Below.refl _ _, rfl⟩
    case round =>
      obtain ⟨k, hk, rfl, hB, hW⟩ := hrel
      have HBr := Lib.hid hB
      have A5 := Lib.hid (A4.out.on hB)
      have O5 := Lib.hid (O4.out.on hB)
      clear hB
      have c0 := A5.out.c0; have c1 := A5.out.c1; have c2 := A5.out.c2; have c3 := A5.out.c3; have c4 := A5.out.c4; have c5 := A5.out.c5; have c6 := A5.out.c6; have c7 := A5.out.c7; have c8 := A5.out.c8; have c9 := A5.out.c9; have c10 := A5.out.c10
      by_cases hlt : k < tn
      · obtain ⟨b, off, x, e0, _, q0, hx, hkl⟩ := ints_cell O5.out.at_.1 hlt
        simp only at e0
        subst e0
        have hki : (k : Int) < (tn : Int) := by omega
        have HS := Lib.hid (Fn.any_succ (Fn.out nn) hkl)
        have HBd := Lib.hid (fun hb => Fn.any_good (p := Fn.out nn) hkl hb)
        rw [hx, hW] at HS
        rw [hx] at HBd
        clear hW hx hkl
        by_cases hx0 : x < 0
        · have hE := HBd.out (by unfold Fn.out; rw [decide_eq_true hx0]; rfl)
          have HE := Lib.hid hE
          have dx : decide (x < 0) = true := decide_eq_true hx0
          clear hE hx0 HS HBd
          go_wp2
          go_quiet (fail)
          go_wp2
          go_ret
          exact ⟨retB (by show false = (_ || _ && _); rw [Bool.false_or, Bool.true_and, HN.out, HE.out]; rfl), B4.out.trans ((below_drewN HBr.out _).mono B4.out.size)⟩
        · have dx : decide (x < 0) = false := decide_eq_false hx0
          by_cases hxn : (nn : Int) ≤ x
          · have hE := HBd.out (by unfold Fn.out; rw [decide_eq_true hxn, Bool.or_true])
            have HE := Lib.hid hE
            have dy : decide ((nn : Int) ≤ x) = true := decide_eq_true hxn
            clear hE hx0 hxn HS HBd
            go_wp2
            go_quiet (fail)
            go_wp2
            go_ret
            exact ⟨retB (by show false = (_ || _ && _); rw [Bool.false_or, Bool.true_and, HN.out, HE.out]; rfl), B4.out.trans ((below_drewN HBr.out _).mono B4.out.size)⟩
          · have dy : decide ((nn : Int) ≤ x) = false := decide_eq_false hxn
            rw [show Fn.out nn x = false by unfold Fn.out; rw [dx, dy]; rfl] at HS
            clear hx0 hxn HBd
            go_wp2
            go_quiet (fail)
            go_wp2
            go_roundw
            case rel => exact ⟨k + 1, hlt, by go_num, below_drewN HBr.out _, HS.out⟩
            case measure => simp [intOf]; omega
      · have HE : Hid (f.at_.any (Fn.out nn) = false) := Lib.hid (by rw [← hW, List.take_of_length_le (by rw [HAt.out.1]; omega)])
        have hki : decide ((k : Int) < (tn : Int)) = false := decide_eq_false (by omega)
        clear hW
        go_wp2
        go_ret
        exact ⟨retB (by have h := HN.out; rw [Bool.and_true] at h; rw [h, HE.out]; rfl), B4.out.trans (HBr.out.mono B4.out.size)⟩
end Go.Proofs.YtifkoihhlhadhaaGreatDoor
