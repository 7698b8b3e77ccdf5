/-
  The walk of FncSame. Conditions: the functions can be read; the library's table is laid.
-/
import Derived.Test.YtifkoihhlhadhaaDoorFnL
import Derived.Test.YtifkoihhlhadhaaDoorFnSmall
import Derived.Test.YtifkoihhlhadhaaDoorQuiet
namespace Go.Proofs.YtifkoihhlhadhaaDoor
open Go.RowKit

theorem EqP.at {p : Prop} {b : Bool} (hb : b = true ↔ p) {w w' : World} {e : Ending} (h : EqP p w e w') : e = .returned (.bool b) ∧ Below w.heap.size w w' := by
  obtain ⟨c, rfl, hc, hbl⟩ := h
  have : c = b := by rw [Bool.eq_iff_iff]; exact hc.trans hb.symm
  exact ⟨by rw [this], hbl⟩

set_option maxRecDepth 100000 in
set_option maxHeartbeats 8000000 in
theorem fncSame_walk (u v : FnV) (f g : Fn.F) (w : World) (hf : FnOk w w.heap.size u f) (hg : FnOk w w.heap.size v g) (lf : u.Len) (hT : Tab w) (hgT : 0 < w.heap.size) :
    Calls Tryd.prog 3 #[.agg u.cells, .agg v.cells] w (BoolP true w) := by
  have b0 := (Below.refl w.heap.size w).alloc (Nat.le_refl _) (.cells u.cells 28)
  have hsz : (w.alloc (.cells u.cells 28)).heap.size = w.heap.size + 1 := by simp
  have b1 : Below w.heap.size w ((w.alloc (.cells u.cells 28)).alloc (.cells v.cells 28)) := b0.alloc (by rw [hsz]; omega) _
  have A1 : Hid (FnAt ((w.alloc (.cells u.cells 28)).alloc (.cells v.cells 28)) w.heap.size u) := Lib.hid ((Below.heap_alloc _ _ _ (by rw [hsz]; omega)).trans (FnAt.new w u))
  have D1 : Hid (FnAt ((w.alloc (.cells u.cells 28)).alloc (.cells v.cells 28)) (w.heap.size + 1) v) := Lib.hid (by
    have := FnAt.new (w.alloc (.cells u.cells 28)) v
    rwa [hsz] at this)
  have O1 := Lib.hid (hf.on b1)
  have P1 := Lib.hid (hg.on b1)
  have B1 := Lib.hid b1
  have T1 := Lib.hid (tab_below hT b1 hgT)
  have G1 := Lib.hid (Nat.lt_of_lt_of_le hgT b1.size)
  have HSm := small15_any u ((w.alloc (.cells u.cells 28)).alloc (.cells v.cells 28))
  have HSn := Lib.hid (fun (W : World) => small15_any v W)
  have HL := Lib.hid lf
  have a0 := A1.out.c0; have a1 := A1.out.c1; have a2 := A1.out.c2; have a3 := A1.out.c3; have a4 := A1.out.c4; have a5 := A1.out.c5; have a6 := A1.out.c6; have a7 := A1.out.c7; have a8 := A1.out.c8; have a9 := A1.out.c9; have a10 := A1.out.c10; have d0 := D1.out.c0; have d1 := D1.out.c1; have d2 := D1.out.c2; have d3 := D1.out.c3; have d4 := D1.out.c4; have d5 := D1.out.c5; have d6 := D1.out.c6; have d7 := D1.out.c7; have d8 := D1.out.c8; have d9 := D1.out.c9; have d10 := D1.out.c10
  obtain ⟨bs, hbs⟩ : ∃ bs : Bool, (bs = true ↔ f = g) := by
    by_cases e : f = g
    · exact ⟨true, fun _ => e, fun _ => rfl⟩
    · exact ⟨false, fun h => (by cases h), fun h => absurd h e⟩
  have HBs := Lib.hid hbs
  clear b0 b1 hsz hf hg lf hT hgT hbs
  obtain ⟨nm, inn, ⟨oa, on, oc⟩, ⟨pa, pn, pc⟩, ⟨ra, rn, rc⟩, ⟨la, ln, lc⟩, ⟨ca, cn, cc⟩, ⟨ia, i_n, ic⟩, ⟨na, nn, nc⟩, ⟨ta, tn, tc⟩, ⟨va, vn, vc⟩⟩ := u
  obtain ⟨nm2, inn2, ⟨oa2, on2, oc2⟩, ⟨pa2, pn2, pc2⟩, ⟨ra2, rn2, rc2⟩, ⟨la2, ln2, lc2⟩, ⟨ca2, cn2, cc2⟩, ⟨ia2, in2, ic2⟩, ⟨na2, nn2, nc2⟩, ⟨ta2, tn2, tc2⟩, ⟨va2, vn2, vc2⟩⟩ := v
  go_enter Tryd.func3, Tryd.ntmps3
  go_wp2_with (go_at_call 4; refine HSm.mono ?_; rintro _ w2 ⟨s1, rfl, hs1, hb2⟩; clear HSm hs1; have A2 := Lib.hid (A1.out.on hb2); have D2 := Lib.hid (D1.out.on hb2); have O2 := Lib.hid (O1.out.on hb2); have P2 := Lib.hid (P1.out.on hb2); have B2 := Lib.hid (B1.out.trans (hb2.mono B1.out.size)); have T2 := Lib.hid (tab_below T1.out hb2 G1.out); have G2 := Lib.hid (Nat.lt_of_lt_of_le G1.out hb2.size); clear hb2; have a0 := A2.out.c0; have a1 := A2.out.c1; have a2 := A2.out.c2; have a3 := A2.out.c3; have a4 := A2.out.c4; have a5 := A2.out.c5; have a6 := A2.out.c6; have a7 := A2.out.c7; have a8 := A2.out.c8; have a9 := A2.out.c9; have a10 := A2.out.c10; have d0 := D2.out.c0; have d1 := D2.out.c1; have d2 := D2.out.c2; have d3 := D2.out.c3; have d4 := D2.out.c4; have d5 := D2.out.c5; have d6 := D2.out.c6; have d7 := D2.out.c7; have d8 := D2.out.c8; have d9 := D2.out.c9; have d10 := D2.out.c10; refine Hid.out ?_)
  cases s1 with
  | false =>
    have HLv := lives15_any w2 T2.out G2.out
    refine Lib.hid ?_
    go_wp2_with (go_at_call 5; go_must (refine HLv.mono ?_; rintro _ w3 ⟨rfl, hb3⟩; have B3 := Lib.hid (B2.out.trans (hb3.mono B2.out.size)); clear hb3))
    go_ret
    exact ⟨rfl, B3.out⟩
  | true =>
  refine Lib.hid ?_
  go_wp2_with (go_at_call 4; refine (HSn.out w2).mono ?_; rintro _ w3 ⟨s2, rfl, hs2, hb3⟩; clear HSn hs2; have A3 := Lib.hid (A2.out.on hb3); have D3 := Lib.hid (D2.out.on hb3); have O3 := Lib.hid (O2.out.on hb3); have P3 := Lib.hid (P2.out.on hb3); have B3 := Lib.hid (B2.out.trans (hb3.mono B2.out.size)); have T3 := Lib.hid (tab_below T2.out hb3 G2.out); have G3 := Lib.hid (Nat.lt_of_lt_of_le G2.out hb3.size); clear hb3; have a0 := A3.out.c0; have a1 := A3.out.c1; have a2 := A3.out.c2; have a3 := A3.out.c3; have a4 := A3.out.c4; have a5 := A3.out.c5; have a6 := A3.out.c6; have a7 := A3.out.c7; have a8 := A3.out.c8; have a9 := A3.out.c9; have a10 := A3.out.c10; have d0 := D3.out.c0; have d1 := D3.out.c1; have d2 := D3.out.c2; have d3 := D3.out.c3; have d4 := D3.out.c4; have d5 := D3.out.c5; have d6 := D3.out.c6; have d7 := D3.out.c7; have d8 := D3.out.c8; have d9 := D3.out.c9; have d10 := D3.out.c10; refine Hid.out ?_)
  cases s2 with
  | false =>
    have HLv := lives15_any w3 T3.out G3.out
    refine Lib.hid ?_
    go_wp2_with (go_at_call 5; go_must (refine HLv.mono ?_; rintro _ w4 ⟨rfl, hb4⟩; have B4 := Lib.hid (B3.out.trans (hb4.mono B3.out.size)); clear hb4))
    go_ret
    exact ⟨rfl, B4.out⟩
  | true =>
  obtain ⟨K, hK, F, HC, HBe, HU⟩ := worlds_of w3
  have HSf := Lib.hid (fun n => (fnsame_any _ _ f f (F n) (O3.out.on (HBe.out n)) (O3.out.on (HBe.out n)) HL.out).mono (fun _ _ => EqP.at (b := true) ⟨fun _ => rfl, fun _ => rfl⟩))
  have HS1 := Lib.hid (fun n => (fnsame_any _ _ f g (F n) (O3.out.on (HBe.out n)) (P3.out.on (HBe.out n)) HL.out).mono (fun _ _ => EqP.at HBs.out))
  have HS2 := Lib.hid (fun n => (rfnsame_any _ _ f g (F n) (O3.out.on (HBe.out n)) (P3.out.on (HBe.out n)) HL.out).mono (fun _ _ => EqP.at HBs.out))
  have HLv := Lib.hid (fun n => lives15_any (F n) (tab_below T3.out (HBe.out n) G3.out) (Nat.lt_of_lt_of_le G3.out (HBe.out n).size))
  have hl1 := A3.out.lt
  have hl2 := D3.out.lt
  have x0 := cell_q HBe.out hl1 A3.out.c0; have x1 := cell_q HBe.out hl1 A3.out.c1; have x2 := cell_q HBe.out hl1 A3.out.c2; have x3 := cell_q HBe.out hl1 A3.out.c3; have x4 := cell_q HBe.out hl1 A3.out.c4; have x5 := cell_q HBe.out hl1 A3.out.c5; have x6 := cell_q HBe.out hl1 A3.out.c6; have x7 := cell_q HBe.out hl1 A3.out.c7; have x8 := cell_q HBe.out hl1 A3.out.c8; have x9 := cell_q HBe.out hl1 A3.out.c9; have x10 := cell_q HBe.out hl1 A3.out.c10; have y0 := cell_q HBe.out hl2 D3.out.c0; have y1 := cell_q HBe.out hl2 D3.out.c1; have y2 := cell_q HBe.out hl2 D3.out.c2; have y3 := cell_q HBe.out hl2 D3.out.c3; have y4 := cell_q HBe.out hl2 D3.out.c4; have y5 := cell_q HBe.out hl2 D3.out.c5; have y6 := cell_q HBe.out hl2 D3.out.c6; have y7 := cell_q HBe.out hl2 D3.out.c7; have y8 := cell_q HBe.out hl2 D3.out.c8; have y9 := cell_q HBe.out hl2 D3.out.c9; have y10 := cell_q HBe.out hl2 D3.out.c10
  clear a0 a1 a2 a3 a4 a5 a6 a7 a8 a9 a10 d0 d1 d2 d3 d4 d5 d6 d7 d8 d9 d10
  have hbb : (bs == bs) = true := by cases bs <;> rfl
  refine Lib.hid ?_
  go_wp2
  refine region_q F HC.out (by kernel_rfl) (by kernel_rfl) ?_
  repeat (go_big_quiet_step (fail))
  go_big_quiet_step ((go_at_call 6; refine Calls.q HU.out (HS1.out _)))
  repeat (go_big_quiet_step (fail))
  go_big_quiet_step ((go_at_call 7; refine Calls.q HU.out (HS2.out _)))
  repeat (go_big_quiet_step (fail))
  go_big_quiet_step ((go_at_call 6; refine Calls.q HU.out (HSf.out _)))
  repeat (go_big_quiet_step (fail))
  go_big_quiet_step ((go_at_call 5; refine Calls.q HU.out (HLv.out _)))
  repeat (go_big_quiet_step (fail))
  refine wpQuiet_nil ?_
  rintro _ ⟨nq, rfl⟩
  go_wp2
  go_ret
  exact ⟨rfl, B3.out.trans ((HBe.out nq).mono B3.out.size)⟩
end Go.Proofs.YtifkoihhlhadhaaDoor
