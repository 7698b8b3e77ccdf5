/-
  Whether two functions are the same; the document's answer. Conditions: both can be read.
-/
import Derived.Test.YtifkoihhlhadhaaGreatDoorAtA
import Derived.Test.YtifkoihhlhadhaaGreatDoorFnEq
import Derived.Test.YtifkoihhlhadhaaGreatDoorSiOp
import Derived.Deep.DeepMust
namespace Go.Proofs.YtifkoihhlhadhaaGreatDoor
open Go.RowKit

set_option maxHeartbeats 8000000 in
set_option maxRecDepth 100000 in
theorem fnsame_any (u v : FnV) (f g : Fn.F) (w : World) (hf : FnOk w w.heap.size u f) (hg : FnOk w w.heap.size v g) (hl : u.Len) : Calls Tryz.prog 19 #[.agg u.cells, .agg v.cells] w (EqP (f = g) w) := by
  have b0 := (Below.refl w.heap.size w).alloc (Nat.le_refl _) (.cells u.cells 28)
  have hsz : (w.alloc (.cells u.cells 28)).heap.size = w.heap.size + 1 := by simp
  have b1 : Below w.heap.size w ((w.alloc (.cells u.cells 28)).alloc (.cells v.cells 28)) := b0.alloc (by rw [hsz]; omega) _
  have hU : FnAt ((w.alloc (.cells u.cells 28)).alloc (.cells v.cells 28)) w.heap.size u := (Below.heap_alloc _ _ _ (by rw [hsz]; omega)).trans (FnAt.new w u)
  have hV : FnAt ((w.alloc (.cells u.cells 28)).alloc (.cells v.cells 28)) (w.heap.size + 1) v := by
    have := FnAt.new (w.alloc (.cells u.cells 28)) v
    rwa [hsz] at this
  have HF := Lib.hid (hf.on b1)
  have HG := Lib.hid (hg.on b1)
  have HU := Lib.hid hU
  have HV := Lib.hid hV
  have HB := Lib.hid b1
  have HL := Lib.hid hl
  have HC0 := Lib.hid (sisame_any _ _ _ _ u.outer.c v.outer.c _ _ _ HF.out.outer.1 HG.out.outer.1 HL.out.outer)
  have a0 := hU.c0
  have a1 := hU.c1
  have a2 := hU.c2
  have d0 := hV.c0
  have d1 := hV.c1
  have d2 := hV.c2
  have HNm := Lib.hid (And.intro hf.name hg.name)
  have HIn := Lib.hid (And.intro hf.inner hg.inner)
  clear b0 b1 hsz hU hV hf hg hl
  obtain ⟨nm, inn, ⟨oa, on, oc⟩, ⟨pa, pn, pc⟩, ⟨ra, rn, rc⟩, ⟨la, ln, lc⟩, ⟨ca, cn, cc⟩, ⟨ia, i_n, ic⟩, ⟨na, nn, nc⟩, ⟨ta, tn, tc⟩, ⟨va, vn, vc⟩⟩ := u
  obtain ⟨nm2, inn2, ⟨oa2, on2, oc2⟩, ⟨pa2, pn2, pc2⟩, ⟨ra2, rn2, rc2⟩, ⟨la2, ln2, lc2⟩, ⟨ca2, cn2, cc2⟩, ⟨ia2, in2, ic2⟩, ⟨na2, nn2, nc2⟩, ⟨ta2, tn2, tc2⟩, ⟨va2, vn2, vc2⟩⟩ := v
  simp only at HNm HIn HC0
  by_cases hnm : nm = nm2
  rotate_left
  · have hd : (nm.toList == nm2.toList) = false := (Lib.bytes_beq_false_iff _ _).2 hnm
    have HN : Hid (¬ f = g) := Lib.hid (fun e => hnm (by rw [HNm.out.1, HNm.out.2, e]))
    go_enter Tryz.func19, Tryz.ntmps19
    go_wp2
    go_ret
    exact EqP.no HN.out HB.out
  subst hnm
  by_cases hin : inn = inn2
  rotate_left
  · have hd : (inn == inn2) = false := beq_eq_false_iff_ne.2 hin
    have HN : Hid (¬ f = g) := Lib.hid (fun e => hin (by rw [HIn.out.1, HIn.out.2, e]))
    clear hin
    go_enter Tryz.func19, Tryz.ntmps19
    go_wp2
    go_ret
    exact EqP.no HN.out HB.out
  subst hin
  go_enter Tryz.func19, Tryz.ntmps19
  go_wp2_with (go_at_call 62; go_must (refine HC0.out.mono ?_; rintro _ w1 ⟨rfl, hbl⟩; refine Hid.out ?_))
  obtain ⟨b, hb⟩ : ∃ b : Bool, decide (f.outer = g.outer) = b := ⟨_, rfl⟩
  have hb' : b = true ↔ f.outer = g.outer := by rw [← hb]; exact decide_eq_true_iff
  rw [hb]
  clear hb
  have hb := hb'
  clear hb'
  have HB1 := Lib.hid (HB.out.trans (hbl.mono HB.out.size))
  have HF1 := Lib.hid (HF.out.on hbl)
  have HG1 := Lib.hid (HG.out.on hbl)
  have HU1 := Lib.hid (HU.out.on hbl)
  have HV1 := Lib.hid (HV.out.on hbl)
  clear hbl
  cases b with
  | false =>
    have HN : Hid (¬ f = g) := Lib.hid (fun e => (by have := hb.2 (by rw [e]); cases this))
    clear hb
    refine Lib.hid ?_
    go_wp2
    go_ret
    exact EqP.no HN.out HB1.out
  | true =>
  have E0 := Lib.hid (hb.1 rfl)
  clear hb
  have HC1 := Lib.hid (sisame_any _ _ _ _ pc pc2 _ _ _ HF1.out.params.1 HG1.out.params.1 HL.out.params)
  simp only at HC1
  have a3 := HU1.out.c3
  have d3 := HV1.out.c3
  clear HC0
  refine Lib.hid ?_
  go_wp2_with (go_at_call 62; go_must (refine HC1.out.mono ?_; rintro _ w2 ⟨rfl, hbl⟩; refine Hid.out ?_))
  obtain ⟨b, hb⟩ : ∃ b : Bool, decide (f.params = g.params) = b := ⟨_, rfl⟩
  have hb' : b = true ↔ f.params = g.params := by rw [← hb]; exact decide_eq_true_iff
  rw [hb]
  clear hb
  have hb := hb'
  clear hb'
  have HB2 := Lib.hid (HB1.out.trans (hbl.mono HB1.out.size))
  have HF2 := Lib.hid (HF1.out.on hbl)
  have HG2 := Lib.hid (HG1.out.on hbl)
  have HU2 := Lib.hid (HU1.out.on hbl)
  have HV2 := Lib.hid (HV1.out.on hbl)
  clear hbl
  cases b with
  | false =>
    have HN : Hid (¬ f = g) := Lib.hid (fun e => (by have := hb.2 (by rw [e]); cases this))
    clear hb
    refine Lib.hid ?_
    go_wp2
    go_ret
    exact EqP.no HN.out HB2.out
  | true =>
  have E1 := Lib.hid (hb.1 rfl)
  clear hb
  have HC2 := Lib.hid (sisame_any _ _ _ _ rc rc2 _ _ _ HF2.out.results.1 HG2.out.results.1 HL.out.results)
  simp only at HC2
  have a4 := HU2.out.c4
  have d4 := HV2.out.c4
  clear HC1
  refine Lib.hid ?_
  go_wp2_with (go_at_call 62; go_must (refine HC2.out.mono ?_; rintro _ w3 ⟨rfl, hbl⟩; refine Hid.out ?_))
  obtain ⟨b, hb⟩ : ∃ b : Bool, decide (f.results = g.results) = b := ⟨_, rfl⟩
  have hb' : b = true ↔ f.results = g.results := by rw [← hb]; exact decide_eq_true_iff
  rw [hb]
  clear hb
  have hb := hb'
  clear hb'
  have HB3 := Lib.hid (HB2.out.trans (hbl.mono HB2.out.size))
  have HF3 := Lib.hid (HF2.out.on hbl)
  have HG3 := Lib.hid (HG2.out.on hbl)
  have HU3 := Lib.hid (HU2.out.on hbl)
  have HV3 := Lib.hid (HV2.out.on hbl)
  clear hbl
  cases b with
  | false =>
    have HN : Hid (¬ f = g) := Lib.hid (fun e => (by have := hb.2 (by rw [e]); cases this))
    clear hb
    refine Lib.hid ?_
    go_wp2
    go_ret
    exact EqP.no HN.out HB3.out
  | true =>
  have E2 := Lib.hid (hb.1 rfl)
  clear hb
  have HC3 := Lib.hid (sisame_any _ _ _ _ lc lc2 _ _ _ HF3.out.locals.1 HG3.out.locals.1 HL.out.locals)
  simp only at HC3
  have a5 := HU3.out.c5
  have d5 := HV3.out.c5
  clear HC2
  refine Lib.hid ?_
  go_wp2_with (go_at_call 62; go_must (refine HC3.out.mono ?_; rintro _ w4 ⟨rfl, hbl⟩; refine Hid.out ?_))
  obtain ⟨b, hb⟩ : ∃ b : Bool, decide (f.locals = g.locals) = b := ⟨_, rfl⟩
  have hb' : b = true ↔ f.locals = g.locals := by rw [← hb]; exact decide_eq_true_iff
  rw [hb]
  clear hb
  have hb := hb'
  clear hb'
  have HB4 := Lib.hid (HB3.out.trans (hbl.mono HB3.out.size))
  have HF4 := Lib.hid (HF3.out.on hbl)
  have HG4 := Lib.hid (HG3.out.on hbl)
  have HU4 := Lib.hid (HU3.out.on hbl)
  have HV4 := Lib.hid (HV3.out.on hbl)
  clear hbl
  cases b with
  | false =>
    have HN : Hid (¬ f = g) := Lib.hid (fun e => (by have := hb.2 (by rw [e]); cases this))
    clear hb
    refine Lib.hid ?_
    go_wp2
    go_ret
    exact EqP.no HN.out HB4.out
  | true =>
  have E3 := Lib.hid (hb.1 rfl)
  clear hb
  have HC4 := Lib.hid (codeequal_any _ _ _ _ cc cc2 _ _ _ HF4.out.code.1 HG4.out.code.1 HL.out.code)
  simp only at HC4
  have a6 := HU4.out.c6
  have d6 := HV4.out.c6
  clear HC3
  refine Lib.hid ?_
  go_wp2_with (go_at_call 63; go_must (refine HC4.out.mono ?_; rintro _ w5 ⟨b, rfl, hb, hbl⟩; refine Hid.out ?_))
  have HB5 := Lib.hid (HB4.out.trans (hbl.mono HB4.out.size))
  have HF5 := Lib.hid (HF4.out.on hbl)
  have HG5 := Lib.hid (HG4.out.on hbl)
  have HU5 := Lib.hid (HU4.out.on hbl)
  have HV5 := Lib.hid (HV4.out.on hbl)
  clear hbl
  cases b with
  | false =>
    have HN : Hid (¬ f = g) := Lib.hid (fun e => (by have := hb.2 (by rw [e]); cases this))
    clear hb
    refine Lib.hid ?_
    go_wp2
    go_ret
    exact EqP.no HN.out HB5.out
  | true =>
  have E4 := Lib.hid (hb.1 rfl)
  clear hb
  have HC5 := Lib.hid (intsequal_any _ _ _ _ ic ic2 _ _ _ HF5.out.lines.1 HG5.out.lines.1 HL.out.lines)
  simp only at HC5
  have a7 := HU5.out.c7
  have d7 := HV5.out.c7
  clear HC4
  refine Lib.hid ?_
  go_wp2_with (go_at_call 64; go_must (refine HC5.out.mono ?_; rintro _ w6 ⟨b, rfl, hb, hbl⟩; refine Hid.out ?_))
  have HB6 := Lib.hid (HB5.out.trans (hbl.mono HB5.out.size))
  have HF6 := Lib.hid (HF5.out.on hbl)
  have HG6 := Lib.hid (HG5.out.on hbl)
  have HU6 := Lib.hid (HU5.out.on hbl)
  have HV6 := Lib.hid (HV5.out.on hbl)
  clear hbl
  cases b with
  | false =>
    have HN : Hid (¬ f = g) := Lib.hid (fun e => (by have := hb.2 (by rw [e]); cases this))
    clear hb
    refine Lib.hid ?_
    go_wp2
    go_ret
    exact EqP.no HN.out HB6.out
  | true =>
  have E5 := Lib.hid (hb.1 rfl)
  clear hb
  have HC6 := Lib.hid (nodesequal_any _ _ _ _ nc nc2 _ _ _ HF6.out.nodes.1 HG6.out.nodes.1 HL.out.nodes)
  simp only at HC6
  have a8 := HU6.out.c8
  have d8 := HV6.out.c8
  clear HC5
  refine Lib.hid ?_
  go_wp2_with (go_at_call 65; go_must (refine HC6.out.mono ?_; rintro _ w7 ⟨b, rfl, hb, hbl⟩; refine Hid.out ?_))
  have HB7 := Lib.hid (HB6.out.trans (hbl.mono HB6.out.size))
  have HF7 := Lib.hid (HF6.out.on hbl)
  have HG7 := Lib.hid (HG6.out.on hbl)
  have HU7 := Lib.hid (HU6.out.on hbl)
  have HV7 := Lib.hid (HV6.out.on hbl)
  clear hbl
  cases b with
  | false =>
    have HN : Hid (¬ f = g) := Lib.hid (fun e => (by have := hb.2 (by rw [e]); cases this))
    clear hb
    refine Lib.hid ?_
    go_wp2
    go_ret
    exact EqP.no HN.out HB7.out
  | true =>
  have E6 := Lib.hid (hb.1 rfl)
  clear hb
  have HC7 := Lib.hid (intsequal_any _ _ _ _ tc tc2 _ _ _ HF7.out.at_.1 HG7.out.at_.1 HL.out.at_)
  simp only at HC7
  have a9 := HU7.out.c9
  have d9 := HV7.out.c9
  clear HC6
  refine Lib.hid ?_
  go_wp2_with (go_at_call 64; go_must (refine HC7.out.mono ?_; rintro _ w8 ⟨b, rfl, hb, hbl⟩; refine Hid.out ?_))
  have HB8 := Lib.hid (HB7.out.trans (hbl.mono HB7.out.size))
  have HF8 := Lib.hid (HF7.out.on hbl)
  have HG8 := Lib.hid (HG7.out.on hbl)
  have HU8 := Lib.hid (HU7.out.on hbl)
  have HV8 := Lib.hid (HV7.out.on hbl)
  clear hbl
  cases b with
  | false =>
    have HN : Hid (¬ f = g) := Lib.hid (fun e => (by have := hb.2 (by rw [e]); cases this))
    clear hb
    refine Lib.hid ?_
    go_wp2
    go_ret
    exact EqP.no HN.out HB8.out
  | true =>
  have E7 := Lib.hid (hb.1 rfl)
  clear hb
  have HC8 := Lib.hid (setsequal_any _ _ _ _ vc vc2 _ _ _ HF8.out.live.1 HG8.out.live.1 HL.out.live)
  simp only at HC8
  have a10 := HU8.out.c10
  have d10 := HV8.out.c10
  clear HC7
  refine Lib.hid ?_
  go_wp2_with (go_at_call 66; go_must (refine HC8.out.mono ?_; rintro _ w9 ⟨b, rfl, hb, hbl⟩; refine Hid.out ?_))
  have HB9 := Lib.hid (HB8.out.trans (hbl.mono HB8.out.size))
  have HF9 := Lib.hid (HF8.out.on hbl)
  have HG9 := Lib.hid (HG8.out.on hbl)
  have HU9 := Lib.hid (HU8.out.on hbl)
  have HV9 := Lib.hid (HV8.out.on hbl)
  clear hbl
  cases b with
  | false =>
    have HN : Hid (¬ f = g) := Lib.hid (fun e => (by have := hb.2 (by rw [e]); cases this))
    clear hb
    refine Lib.hid ?_
    go_wp2
    go_ret
    exact EqP.no HN.out HB9.out
  | true =>
  have E8 := Lib.hid (hb.1 rfl)
  clear hb
  have HE : Hid (f = g) := Lib.hid (by
    have e0 := HNm.out.1.symm.trans HNm.out.2
    have e1 := HIn.out.1.symm.trans HIn.out.2
    cases f
    cases g
    simp only at e0 e1
    have z0 := E0.out; have z1 := E1.out; have z2 := E2.out; have z3 := E3.out; have z4 := E4.out; have z5 := E5.out; have z6 := E6.out; have z7 := E7.out; have z8 := E8.out
    simp only at z0 z1 z2 z3 z4 z5 z6 z7 z8
    subst e0 e1 z0 z1 z2 z3 z4 z5 z6 z7 z8
    rfl)
  refine Lib.hid ?_
  go_wp2
  go_ret
  exact EqP.yes HE.out HB9.out

set_option maxHeartbeats 8000000 in
set_option maxRecDepth 100000 in
theorem rfnsame_any (u v : FnV) (f g : Fn.F) (w : World) (hf : FnOk w w.heap.size u f) (hg : FnOk w w.heap.size v g) (hl : u.Len) : Calls Tryz.prog 15 #[.agg u.cells, .agg v.cells] w (EqP (f = g) w) := by
  have b0 := (Below.refl w.heap.size w).alloc (Nat.le_refl _) (.cells u.cells 28)
  have hsz : (w.alloc (.cells u.cells 28)).heap.size = w.heap.size + 1 := by simp
  have b1 : Below w.heap.size w ((w.alloc (.cells u.cells 28)).alloc (.cells v.cells 28)) := b0.alloc (by rw [hsz]; omega) _
  have hU : FnAt ((w.alloc (.cells u.cells 28)).alloc (.cells v.cells 28)) w.heap.size u := (Below.heap_alloc _ _ _ (by rw [hsz]; omega)).trans (FnAt.new w u)
  have hV : FnAt ((w.alloc (.cells u.cells 28)).alloc (.cells v.cells 28)) (w.heap.size + 1) v := by
    have := FnAt.new (w.alloc (.cells u.cells 28)) v
    rwa [hsz] at this
  have HF := Lib.hid (hf.on b1)
  have HG := Lib.hid (hg.on b1)
  have HU := Lib.hid hU
  have HV := Lib.hid hV
  have HB := Lib.hid b1
  have HL := Lib.hid hl
  have HC0 := Lib.hid (rsisame_any _ _ _ _ u.outer.c v.outer.c _ _ _ HF.out.outer.1 HG.out.outer.1 HL.out.outer)
  have a0 := hU.c0
  have a1 := hU.c1
  have a2 := hU.c2
  have d0 := hV.c0
  have d1 := hV.c1
  have d2 := hV.c2
  have HNm := Lib.hid (And.intro hf.name hg.name)
  have HIn := Lib.hid (And.intro hf.inner hg.inner)
  clear b0 b1 hsz hU hV hf hg hl
  obtain ⟨nm, inn, ⟨oa, on, oc⟩, ⟨pa, pn, pc⟩, ⟨ra, rn, rc⟩, ⟨la, ln, lc⟩, ⟨ca, cn, cc⟩, ⟨ia, i_n, ic⟩, ⟨na, nn, nc⟩, ⟨ta, tn, tc⟩, ⟨va, vn, vc⟩⟩ := u
  obtain ⟨nm2, inn2, ⟨oa2, on2, oc2⟩, ⟨pa2, pn2, pc2⟩, ⟨ra2, rn2, rc2⟩, ⟨la2, ln2, lc2⟩, ⟨ca2, cn2, cc2⟩, ⟨ia2, in2, ic2⟩, ⟨na2, nn2, nc2⟩, ⟨ta2, tn2, tc2⟩, ⟨va2, vn2, vc2⟩⟩ := v
  simp only at HNm HIn HC0
  by_cases hnm : nm = nm2
  rotate_left
  · have hd : (nm.toList == nm2.toList) = false := (Lib.bytes_beq_false_iff _ _).2 hnm
    have HN : Hid (¬ f = g) := Lib.hid (fun e => hnm (by rw [HNm.out.1, HNm.out.2, e]))
    go_enter Tryz.func15, Tryz.ntmps15
    go_wp2
    go_ret
    exact EqP.no HN.out HB.out
  subst hnm
  by_cases hin : inn = inn2
  rotate_left
  · have hd : (inn == inn2) = false := beq_eq_false_iff_ne.2 hin
    have HN : Hid (¬ f = g) := Lib.hid (fun e => hin (by rw [HIn.out.1, HIn.out.2, e]))
    clear hin
    go_enter Tryz.func15, Tryz.ntmps15
    go_wp2
    go_ret
    exact EqP.no HN.out HB.out
  subst hin
  go_enter Tryz.func15, Tryz.ntmps15
  go_wp2_with (go_at_call 51; go_must (refine HC0.out.mono ?_; rintro _ w1 ⟨rfl, hbl⟩; refine Hid.out ?_))
  obtain ⟨b, hb⟩ : ∃ b : Bool, decide (f.outer = g.outer) = b := ⟨_, rfl⟩
  have hb' : b = true ↔ f.outer = g.outer := by rw [← hb]; exact decide_eq_true_iff
  rw [hb]
  clear hb
  have hb := hb'
  clear hb'
  have HB1 := Lib.hid (HB.out.trans (hbl.mono HB.out.size))
  have HF1 := Lib.hid (HF.out.on hbl)
  have HG1 := Lib.hid (HG.out.on hbl)
  have HU1 := Lib.hid (HU.out.on hbl)
  have HV1 := Lib.hid (HV.out.on hbl)
  clear hbl
  cases b with
  | false =>
    have HN : Hid (¬ f = g) := Lib.hid (fun e => (by have := hb.2 (by rw [e]); cases this))
    clear hb
    refine Lib.hid ?_
    go_wp2
    go_ret
    exact EqP.no HN.out HB1.out
  | true =>
  have E0 := Lib.hid (hb.1 rfl)
  clear hb
  have HC1 := Lib.hid (rsisame_any _ _ _ _ pc pc2 _ _ _ HF1.out.params.1 HG1.out.params.1 HL.out.params)
  simp only at HC1
  have a3 := HU1.out.c3
  have d3 := HV1.out.c3
  clear HC0
  refine Lib.hid ?_
  go_wp2_with (go_at_call 51; go_must (refine HC1.out.mono ?_; rintro _ w2 ⟨rfl, hbl⟩; refine Hid.out ?_))
  obtain ⟨b, hb⟩ : ∃ b : Bool, decide (f.params = g.params) = b := ⟨_, rfl⟩
  have hb' : b = true ↔ f.params = g.params := by rw [← hb]; exact decide_eq_true_iff
  rw [hb]
  clear hb
  have hb := hb'
  clear hb'
  have HB2 := Lib.hid (HB1.out.trans (hbl.mono HB1.out.size))
  have HF2 := Lib.hid (HF1.out.on hbl)
  have HG2 := Lib.hid (HG1.out.on hbl)
  have HU2 := Lib.hid (HU1.out.on hbl)
  have HV2 := Lib.hid (HV1.out.on hbl)
  clear hbl
  cases b with
  | false =>
    have HN : Hid (¬ f = g) := Lib.hid (fun e => (by have := hb.2 (by rw [e]); cases this))
    clear hb
    refine Lib.hid ?_
    go_wp2
    go_ret
    exact EqP.no HN.out HB2.out
  | true =>
  have E1 := Lib.hid (hb.1 rfl)
  clear hb
  have HC2 := Lib.hid (rsisame_any _ _ _ _ rc rc2 _ _ _ HF2.out.results.1 HG2.out.results.1 HL.out.results)
  simp only at HC2
  have a4 := HU2.out.c4
  have d4 := HV2.out.c4
  clear HC1
  refine Lib.hid ?_
  go_wp2_with (go_at_call 51; go_must (refine HC2.out.mono ?_; rintro _ w3 ⟨rfl, hbl⟩; refine Hid.out ?_))
  obtain ⟨b, hb⟩ : ∃ b : Bool, decide (f.results = g.results) = b := ⟨_, rfl⟩
  have hb' : b = true ↔ f.results = g.results := by rw [← hb]; exact decide_eq_true_iff
  rw [hb]
  clear hb
  have hb := hb'
  clear hb'
  have HB3 := Lib.hid (HB2.out.trans (hbl.mono HB2.out.size))
  have HF3 := Lib.hid (HF2.out.on hbl)
  have HG3 := Lib.hid (HG2.out.on hbl)
  have HU3 := Lib.hid (HU2.out.on hbl)
  have HV3 := Lib.hid (HV2.out.on hbl)
  clear hbl
  cases b with
  | false =>
    have HN : Hid (¬ f = g) := Lib.hid (fun e => (by have := hb.2 (by rw [e]); cases this))
    clear hb
    refine Lib.hid ?_
    go_wp2
    go_ret
    exact EqP.no HN.out HB3.out
  | true =>
  have E2 := Lib.hid (hb.1 rfl)
  clear hb
  have HC3 := Lib.hid (rsisame_any _ _ _ _ lc lc2 _ _ _ HF3.out.locals.1 HG3.out.locals.1 HL.out.locals)
  simp only at HC3
  have a5 := HU3.out.c5
  have d5 := HV3.out.c5
  clear HC2
  refine Lib.hid ?_
  go_wp2_with (go_at_call 51; go_must (refine HC3.out.mono ?_; rintro _ w4 ⟨rfl, hbl⟩; refine Hid.out ?_))
  obtain ⟨b, hb⟩ : ∃ b : Bool, decide (f.locals = g.locals) = b := ⟨_, rfl⟩
  have hb' : b = true ↔ f.locals = g.locals := by rw [← hb]; exact decide_eq_true_iff
  rw [hb]
  clear hb
  have hb := hb'
  clear hb'
  have HB4 := Lib.hid (HB3.out.trans (hbl.mono HB3.out.size))
  have HF4 := Lib.hid (HF3.out.on hbl)
  have HG4 := Lib.hid (HG3.out.on hbl)
  have HU4 := Lib.hid (HU3.out.on hbl)
  have HV4 := Lib.hid (HV3.out.on hbl)
  clear hbl
  cases b with
  | false =>
    have HN : Hid (¬ f = g) := Lib.hid (fun e => (by have := hb.2 (by rw [e]); cases this))
    clear hb
    refine Lib.hid ?_
    go_wp2
    go_ret
    exact EqP.no HN.out HB4.out
  | true =>
  have E3 := Lib.hid (hb.1 rfl)
  clear hb
  have HC4 := Lib.hid (rcodeequal_any _ _ _ _ cc cc2 _ _ _ HF4.out.code.1 HG4.out.code.1 HL.out.code)
  simp only at HC4
  have a6 := HU4.out.c6
  have d6 := HV4.out.c6
  clear HC3
  refine Lib.hid ?_
  go_wp2_with (go_at_call 52; go_must (refine HC4.out.mono ?_; rintro _ w5 ⟨b, rfl, hb, hbl⟩; refine Hid.out ?_))
  have HB5 := Lib.hid (HB4.out.trans (hbl.mono HB4.out.size))
  have HF5 := Lib.hid (HF4.out.on hbl)
  have HG5 := Lib.hid (HG4.out.on hbl)
  have HU5 := Lib.hid (HU4.out.on hbl)
  have HV5 := Lib.hid (HV4.out.on hbl)
  clear hbl
  cases b with
  | false =>
    have HN : Hid (¬ f = g) := Lib.hid (fun e => (by have := hb.2 (by rw [e]); cases this))
    clear hb
    refine Lib.hid ?_
    go_wp2
    go_ret
    exact EqP.no HN.out HB5.out
  | true =>
  have E4 := Lib.hid (hb.1 rfl)
  clear hb
  have HC5 := Lib.hid (rintsequal_any _ _ _ _ ic ic2 _ _ _ HF5.out.lines.1 HG5.out.lines.1 HL.out.lines)
  simp only at HC5
  have a7 := HU5.out.c7
  have d7 := HV5.out.c7
  clear HC4
  refine Lib.hid ?_
  go_wp2_with (go_at_call 53; go_must (refine HC5.out.mono ?_; rintro _ w6 ⟨b, rfl, hb, hbl⟩; refine Hid.out ?_))
  have HB6 := Lib.hid (HB5.out.trans (hbl.mono HB5.out.size))
  have HF6 := Lib.hid (HF5.out.on hbl)
  have HG6 := Lib.hid (HG5.out.on hbl)
  have HU6 := Lib.hid (HU5.out.on hbl)
  have HV6 := Lib.hid (HV5.out.on hbl)
  clear hbl
  cases b with
  | false =>
    have HN : Hid (¬ f = g) := Lib.hid (fun e => (by have := hb.2 (by rw [e]); cases this))
    clear hb
    refine Lib.hid ?_
    go_wp2
    go_ret
    exact EqP.no HN.out HB6.out
  | true =>
  have E5 := Lib.hid (hb.1 rfl)
  clear hb
  have HC6 := Lib.hid (rnodesequal_any _ _ _ _ nc nc2 _ _ _ HF6.out.nodes.1 HG6.out.nodes.1 HL.out.nodes)
  simp only at HC6
  have a8 := HU6.out.c8
  have d8 := HV6.out.c8
  clear HC5
  refine Lib.hid ?_
  go_wp2_with (go_at_call 54; go_must (refine HC6.out.mono ?_; rintro _ w7 ⟨b, rfl, hb, hbl⟩; refine Hid.out ?_))
  have HB7 := Lib.hid (HB6.out.trans (hbl.mono HB6.out.size))
  have HF7 := Lib.hid (HF6.out.on hbl)
  have HG7 := Lib.hid (HG6.out.on hbl)
  have HU7 := Lib.hid (HU6.out.on hbl)
  have HV7 := Lib.hid (HV6.out.on hbl)
  clear hbl
  cases b with
  | false =>
    have HN : Hid (¬ f = g) := Lib.hid (fun e => (by have := hb.2 (by rw [e]); cases this))
    clear hb
    refine Lib.hid ?_
    go_wp2
    go_ret
    exact EqP.no HN.out HB7.out
  | true =>
  have E6 := Lib.hid (hb.1 rfl)
  clear hb
  have HC7 := Lib.hid (rintsequal_any _ _ _ _ tc tc2 _ _ _ HF7.out.at_.1 HG7.out.at_.1 HL.out.at_)
  simp only at HC7
  have a9 := HU7.out.c9
  have d9 := HV7.out.c9
  clear HC6
  refine Lib.hid ?_
  go_wp2_with (go_at_call 53; go_must (refine HC7.out.mono ?_; rintro _ w8 ⟨b, rfl, hb, hbl⟩; refine Hid.out ?_))
  have HB8 := Lib.hid (HB7.out.trans (hbl.mono HB7.out.size))
  have HF8 := Lib.hid (HF7.out.on hbl)
  have HG8 := Lib.hid (HG7.out.on hbl)
  have HU8 := Lib.hid (HU7.out.on hbl)
  have HV8 := Lib.hid (HV7.out.on hbl)
  clear hbl
  cases b with
  | false =>
    have HN : Hid (¬ f = g) := Lib.hid (fun e => (by have := hb.2 (by rw [e]); cases this))
    clear hb
    refine Lib.hid ?_
    go_wp2
    go_ret
    exact EqP.no HN.out HB8.out
  | true =>
  have E7 := Lib.hid (hb.1 rfl)
  clear hb
  have HC8 := Lib.hid (rsetsequal_any _ _ _ _ vc vc2 _ _ _ HF8.out.live.1 HG8.out.live.1 HL.out.live)
  simp only at HC8
  have a10 := HU8.out.c10
  have d10 := HV8.out.c10
  clear HC7
  refine Lib.hid ?_
  go_wp2_with (go_at_call 55; go_must (refine HC8.out.mono ?_; rintro _ w9 ⟨b, rfl, hb, hbl⟩; refine Hid.out ?_))
  have HB9 := Lib.hid (HB8.out.trans (hbl.mono HB8.out.size))
  have HF9 := Lib.hid (HF8.out.on hbl)
  have HG9 := Lib.hid (HG8.out.on hbl)
  have HU9 := Lib.hid (HU8.out.on hbl)
  have HV9 := Lib.hid (HV8.out.on hbl)
  clear hbl
  cases b with
  | false =>
    have HN : Hid (¬ f = g) := Lib.hid (fun e => (by have := hb.2 (by rw [e]); cases this))
    clear hb
    refine Lib.hid ?_
    go_wp2
    go_ret
    exact EqP.no HN.out HB9.out
  | true =>
  have E8 := Lib.hid (hb.1 rfl)
  clear hb
  have HE : Hid (f = g) := Lib.hid (by
    have e0 := HNm.out.1.symm.trans HNm.out.2
    have e1 := HIn.out.1.symm.trans HIn.out.2
    cases f
    cases g
    simp only at e0 e1
    have z0 := E0.out; have z1 := E1.out; have z2 := E2.out; have z3 := E3.out; have z4 := E4.out; have z5 := E5.out; have z6 := E6.out; have z7 := E7.out; have z8 := E8.out
    simp only at z0 z1 z2 z3 z4 z5 z6 z7 z8
    subst e0 e1 z0 z1 z2 z3 z4 z5 z6 z7 z8
    rfl)
  refine Lib.hid ?_
  go_wp2
  go_ret
  exact EqP.yes HE.out HB9.out
end Go.Proofs.YtifkoihhlhadhaaGreatDoor
