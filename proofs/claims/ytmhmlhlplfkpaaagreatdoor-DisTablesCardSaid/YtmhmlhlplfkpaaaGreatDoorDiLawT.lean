/-
 inlaylaw18.DisTables: heads, lines and tables are the document's, of any function that can be laid. Conditions: the library's tables are laid.
-/
import Derived.Test.YtmhmlhlplfkpaaaGreatDoorDiFits
import Derived.Test.YtmhmlhlplfkpaaaGreatDoorDiTab
import Derived.Test.YtmhmlhlplfkpaaaGreatDoorDiRf
set_option maxRecDepth 100000
namespace Go.Proofs.YtmhmlhlplfkpaaaGreatDoor
open Go.RowKit
set_option maxHeartbeats 8000000 in
theorem disTables_walk (v : FnV) (f : Fn.F) (w : World) (h : FnOk w w.heap.size v f) (hl : v.Len) (hw : f.Wf) (hp : Pow w) (hT : Tab w) (hgt : 0 < w.heap.size) :
   Calls Tryz.prog 3 #[.agg v.cells] w (BoolP true w) := by
 have b0 := (Below.refl w.heap.size w).alloc (Nat.le_refl _) (.cells v.cells 28)
 have HLv := Lib.hid (fun (W : World) (hb : Below w.heap.size w W) => lives18_any W (hp.below hb))
 have HSm := Lib.hid (small15_any v (w.alloc (.cells v.cells 28)))
 have HCn := Lib.hid (fun (W : World) (hW : FnOk W W.heap.size v f) (hf : v.Few) => rfncan_any v f W hW hl hw hf)
 have HO := Lib.hid (h.on b0)
 have HA := Lib.hid (FnAt.new w v)
 have HB0 := Lib.hid b0
 have HP := Lib.hid (And.intro hp (And.intro hT hgt))
 have HLW := Lib.hid (And.intro hl hw)
 obtain ⟨c0, c1, c2, c3, c4, c5, c6, c7, c8, c9, c10⟩ := HA.out.all
 clear h hl hw hp hT hgt b0
 go_enter Tryz.func3, Tryz.ntmps3
 go_wp2_with (go_at_call 5; refine HSm.out.mono ?_; rintro _ w1 ⟨s1, rfl, hs1, hb1⟩; clear HSm c0 c1 c2 c3 c4 c5 c6 c7 c8 c9 c10; refine Hid.out ?_)
 have hB1 := HB0.out.trans (hb1.mono HB0.out.size)
 have HB1 := Lib.hid hB1
 have HS1 := Lib.hid hs1
 have HA1 := Lib.hid (HA.out.on hb1)
 have HO1 := Lib.hid (HO.out.on hb1)
 clear hb1 hB1 hs1
 cases s1 with
 | false =>
   refine Lib.hid ?_
   go_wp2_with (go_at_call 7; refine (HLv.out w1 HB1.out).mono ?_; rintro _ w2 ⟨rfl, hb2⟩; have HB2 := Lib.hid (HB1.out.trans (hb2.mono HB1.out.size)); clear hb2 HLv)
   go_ret
   exact ⟨rfl, HB2.out⟩
 | true =>
 have HF := Lib.hid (HS1.out rfl)
 have HC1 := Lib.hid (HCn.out w1 HO1.out HF.out)
 unfold ErrP at HC1
 obtain ⟨c0, c1, c2, c3, c4, c5, c6, c7, c8, c9, c10⟩ := HA1.out.all
 by_cases hcan : f.can = 0
 rotate_left
 · have hne : ((f.can : Int) == 0) = false := by
     rw [beq_eq_false_iff_ne]
     omega
   have hd : decide ((f.can : Int) = 0) = false := decide_eq_false (by omega)
   generalize f.can = cn at *
   refine Lib.hid ?_
   go_wp2_with (first
     | (go_at_call 6; refine HC1.out.mono ?_; rintro _ w2 ⟨rfl, hb2⟩; have HB2 := Lib.hid (HB1.out.trans (hb2.mono HB1.out.size)); clear hb2 HC1)
     | (go_at_call 7; refine (HLv.out w2 HB2.out).mono ?_; rintro _ w3 ⟨rfl, hb3⟩; have HB3 := Lib.hid (HB2.out.trans (hb3.mono HB2.out.size)); clear hb3 HLv))
   go_ret
   exact ⟨rfl, HB3.out⟩
 have HK := Lib.hid (DiOk.of HO1.out HLW.out.2 hcan HF.out.1)
 rw [hcan] at HC1
 clear hcan
 refine Lib.hid ?_
 go_wp2_with (go_at_call 6; refine HC1.out.mono ?_; rintro _ w2 ⟨rfl, hb2⟩; have HB2 := Lib.hid (HB1.out.trans (hb2.mono HB1.out.size)); have HA2 := Lib.hid (HA1.out.on hb2); have HO2 := Lib.hid (HO1.out.on hb2); clear hb2 HC1 c0 c1 c2 c3 c4 c5 c6 c7 c8 c9 c10; refine Hid.out ?_)
 obtain ⟨c0, c1, c2, c3, c4, c5, c6, c7, c8, c9, c10⟩ := HA2.out.all
 obtain ⟨K, hK, F, HC, HBe, HU⟩ := worlds_of w2
 have HBF := Lib.hid (fun q => HB2.out.trans ((HBe.out q).mono HB2.out.size))
 have HOF := Lib.hid (fun q => HO2.out.on (HBe.out q))
 have HPF := Lib.hid (fun q => HP.out.1.below (HBF.out q))
 have hlt2 := HA2.out.lt
 have p0 := cell_q HBe.out hlt2 c0; have p1 := cell_q HBe.out hlt2 c1; have p2 := cell_q HBe.out hlt2 c2; have p3 := cell_q HBe.out hlt2 c3; have p4 := cell_q HBe.out hlt2 c4; have p5 := cell_q HBe.out hlt2 c5; have p6 := cell_q HBe.out hlt2 c6; have p7 := cell_q HBe.out hlt2 c7; have p8 := cell_q HBe.out hlt2 c8; have p9 := cell_q HBe.out hlt2 c9; have p10 := cell_q HBe.out hlt2 c10
 have H1 := Lib.hid (fun q => dtables_any v f (F q) (HOF.out q) HLW.out.1 HLW.out.2 HK.out.right (HPF.out q) (tab_below HP.out.2.1 (HBF.out q) HP.out.2.2) (Nat.lt_of_lt_of_le HP.out.2.2 (HBF.out q).size) (HK.out.tabs HF.out))
 have H2 := Lib.hid (fun q => rdtables_any v f (F q) (HOF.out q) HLW.out.2 HF.out HK.out.right (HK.out.tabs HF.out))
 have H3 := Lib.hid (fun q => dhead_any v f (F q) (HOF.out q) HK.out.fit)
 have H4 := Lib.hid (fun q => rdihead_any v f (F q) (HOF.out q) HK.out.fit)
 have H5 := Lib.hid (fun q => dfunc_any v f (F q) (HOF.out q) HK.out.fit HLW.out.1 HLW.out.2 (HPF.out q) (Nat.le_trans HK.out.func (by decide)))
 have H6 := Lib.hid (fun q => rdfunc_any v f (F q) (HOF.out q) HK.out.fit HLW.out.1 HLW.out.2 (Nat.le_trans HK.out.func (by decide)))
 have H7 := Lib.hid (fun q => HLv.out (F q) (HBF.out q))
 clear c0 c1 c2 c3 c4 c5 c6 c7 c8 c9 c10 HOF HPF HLv HK
 generalize Di.tables f = x at *
 generalize Di.head f = y at *
 generalize Di.func f = z at *
 have ex : (x.toList == x.toList) = true := beq_self_eq_true _
 have ey : (y.toList == y.toList) = true := beq_self_eq_true _
 have ez : (z.toList == z.toList) = true := beq_self_eq_true _
 refine Lib.hid ?_
 go_wp2
 refine region_q F HC.out (by kernel_rfl) (by kernel_rfl) ?_
 repeat (go_big_quiet_step (first
   | (go_at_call 8; refine Calls.q HU.out (H1.out _))
   | (go_at_call 9; refine Calls.q HU.out (H2.out _))
   | (go_at_call 10; refine Calls.q HU.out (H3.out _))
   | (go_at_call 11; refine Calls.q HU.out (H4.out _))
   | (go_at_call 12; refine Calls.q HU.out (H5.out _))
   | (go_at_call 13; refine Calls.q HU.out (H6.out _))
   | (go_at_call 7; refine Calls.q HU.out (H7.out _))))
 refine wpQuiet_nil ?_
 rintro _ ⟨nq, rfl⟩
 go_wp2
 go_ret
 exact ⟨rfl, HBF.out nq⟩
end Go.Proofs.YtmhmlhlplfkpaaaGreatDoor
