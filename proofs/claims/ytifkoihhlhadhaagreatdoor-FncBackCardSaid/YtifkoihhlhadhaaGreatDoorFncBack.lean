/-
  The walk of FncBack. Conditions: the function and the bytes can be read; words of 64 bits; the table of math/bits is laid.
-/
import Derived.Test.YtifkoihhlhadhaaGreatDoorFnL
import Derived.Test.YtifkoihhlhadhaaGreatDoorPutX
import Derived.Test.YtifkoihhlhadhaaGreatDoorFnTake
import Derived.Test.YtifkoihhlhadhaaGreatDoorFnCopyW
import Derived.Test.YtifkoihhlhadhaaGreatDoorFnEqS
import Derived.Test.YtifkoihhlhadhaaGreatDoorCanQ
import Derived.Test.YtifkoihhlhadhaaGreatDoorCurS
import Derived.Test.YtifkoihhlhadhaaGreatDoorUv
import Derived.Test.YtifkoihhlhadhaaGreatDoorReg
namespace Go.Proofs.YtifkoihhlhadhaaGreatDoor
open Go.RowKit

theorem Fn.live_below {f : Fn.F} (hc : f.can = 0) (hw : f.Wf) (hb : f.bare = false) : f.live.all (·.below (f.slots : Int)) = true := by
  have h6 := (Fn.can_ok.1 hc).2.2.2.2.2
  have hm : f.mapped = true := by
    rcases h6 with h | h
    · rw [h] at hb; cases hb
    · exact h
  unfold Fn.F.mapped Mp.right at hm
  simp only [Bool.and_eq_true] at hm
  rw [List.all_eq_true]
  intro s hs
  rw [Sl.below_eq (hw.live s hs)]
  exact List.all_eq_true.1 hm.2.2.2.2.1 s hs
theorem FnOwn.len {b : Nat} {w : World} {v : FnV} {f : Fn.F} (h : FnOwn w b v f) (hn : f.name.size ≤ 12) : v.Len :=
  ⟨by rw [h.name]; omega, (nil_own h.outer).2, (nil_own h.params).2, (nil_own h.results).2, (nil_own h.locals).2, (nil_own h.code).2, (nil_own h.lines).2, (nil_own h.nodes).2, (nil_own h.at_).2, (nil_own h.live).2⟩
theorem few_long {w : World} {B : Nat} {v : FnV} {f : Fn.F} (h : FnOk w B v f) (hf : v.Few) (hc : f.can = 0) : ∀ s ∈ [v.outer, v.params, v.results, v.locals, v.code, v.lines, v.nodes, v.at_, v.live], s.n ≤ 1048576 := by
  obtain ⟨n1, n2, n3, n4, n5, n6, n7, n8, n9, n10⟩ := Fn.can_len hc
  obtain ⟨f1, f2, f3, f4, f5⟩ := hf
  have m1 := h.n_outer; have m2 := h.n_params; have m3 := h.n_results; have m4 := h.n_locals
  intro s hs
  simp only [List.mem_cons, List.not_mem_nil, or_false] at hs
  rcases hs with rfl | rfl | rfl | rfl | rfl | rfl | rfl | rfl | rfl <;> omega
theorem EqP.same {f : Fn.F} {w w' : World} {e : Ending} (h : EqP (f = f) w e w') : e = .returned (.bool true) ∧ Below w.heap.size w w' := by
  obtain ⟨b, rfl, hb, hbl⟩ := h
  rw [hb.2 rfl]
  exact ⟨rfl, hbl⟩
structure BkC (wd : World) (f : Fn.F) (x : FnV) (D : Nat → Bool) (W : World) : Prop where
  base : Below wd.heap.size wd W
  cp : D 17 = true → FnOk W W.heap.size x f ∧ x.Len
section
variable {wd W W' : World} {f : Fn.F} {x z : FnV} {D : Nat → Bool}
theorem BkC.up (h : BkC wd f x D W) {i : Nat} (h1 : (17 == i) = false) : BkC wd f x (add D i) W := ⟨h.base, by rw [up_other h1]; exact h.cp⟩
theorem BkC.below (h : BkC wd f x D W) (hb : Below W.heap.size W W') : BkC wd f x D W' := ⟨h.base.trans (hb.mono h.base.size), fun e => ⟨(h.cp e).1.on hb, (h.cp e).2⟩⟩
theorem BkC.copied (h : BkC wd f x D W) (hb : Below W.heap.size W W') (hv : FnOk W' W'.heap.size z f ∧ z.Len) : BkC wd f z (add D 17) W' := ⟨h.base.trans (hb.mono h.base.size), fun _ => hv⟩
end
def bkG (vf vt : FnV) (g nb cb : Nat) (a0 : Option Addr) (x : FnV) : Nat → Value → Prop
  | 0, v => v = .agg #[.string vt.name, .bool vt.inner, .slice vt.outer.a vt.outer.n vt.outer.c, .slice vt.params.a vt.params.n vt.params.c, .slice vt.results.a vt.results.n vt.results.c, .slice vt.locals.a vt.locals.n vt.locals.c, .slice vt.code.a vt.code.n vt.code.c, .slice vt.lines.a vt.lines.n vt.lines.c, .slice vt.nodes.a vt.nodes.n vt.nodes.c, .slice vt.at_.a vt.at_.n vt.at_.c, .slice vt.live.a vt.live.n vt.live.c]
  | 1, v => v = .agg #[.string vf.name, .bool vf.inner, .slice vf.outer.a vf.outer.n vf.outer.c, .slice vf.params.a vf.params.n vf.params.c, .slice vf.results.a vf.results.n vf.results.c, .slice vf.locals.a vf.locals.n vf.locals.c, .slice vf.code.a vf.code.n vf.code.c, .slice vf.lines.a vf.lines.n vf.lines.c, .slice vf.nodes.a vf.nodes.n vf.nodes.c, .slice vf.at_.a vf.at_.n vf.at_.c, .slice vf.live.a vf.live.n vf.live.c]
  | 2, v => v = .bool true
  | 3, v => v = .bool true
  | 4, v => v = .pointer (some ⟨g, 0, none⟩)
  | 5, v => v = .int .i64 0
  | 6, v => v = .bool true
  | 7, v => v = .bool true
  | 8, v => v = .bool true
  | 9, v => v = .pointer (some ⟨g, 0, none⟩)
  | 10, v => v = .int .i64 (nb : Int)
  | 11, v => v = .slice a0 nb cb
  | 12, v => v = .int .i64 (nb : Int)
  | 13, v => v = .bool true
  | 14, v => v = .bool true
  | 15, v => v = .bool true
  | 16, v => v = .agg #[.string vf.name, .bool vf.inner, .slice vf.outer.a vf.outer.n vf.outer.c, .slice vf.params.a vf.params.n vf.params.c, .slice vf.results.a vf.results.n vf.results.c, .slice vf.locals.a vf.locals.n vf.locals.c, .slice vf.code.a vf.code.n vf.code.c, .slice vf.lines.a vf.lines.n vf.lines.c, .slice vf.nodes.a vf.nodes.n vf.nodes.c, .slice vf.at_.a vf.at_.n vf.at_.c, .slice vf.live.a vf.live.n vf.live.c]
  | 17, v => v = .agg x.cells
  | 18, v => v = .agg #[.string vf.name, .bool vf.inner, .slice vf.outer.a vf.outer.n vf.outer.c, .slice vf.params.a vf.params.n vf.params.c, .slice vf.results.a vf.results.n vf.results.c, .slice vf.locals.a vf.locals.n vf.locals.c, .slice vf.code.a vf.code.n vf.code.c, .slice vf.lines.a vf.lines.n vf.lines.c, .slice vf.nodes.a vf.nodes.n vf.nodes.c, .slice vf.at_.a vf.at_.n vf.at_.c, .slice vf.live.a vf.live.n vf.live.c]
  | 19, v => v = .bool true
  | 20, v => v = .bool true
  | 21, v => v = .bool true
  | 22, v => v = .bool true
  | 23, v => v = .bool true
  | 24, v => v = .bool true
  | _, _ => True
theorem bk_cp {vf vt : FnV} {g nb cb : Nat} {a0 : Option Addr} {x z : FnV} {D : Nat → Bool} (h17 : D 17 = false) : ∀ j v, D j = true → bkG vf vt g nb cb a0 x j v → bkG vf vt g nb cb a0 z j v
  | 0, _, _, h => h
  | 1, _, _, h => h
  | 2, _, _, h => h
  | 3, _, _, h => h
  | 4, _, _, h => h
  | 5, _, _, h => h
  | 6, _, _, h => h
  | 7, _, _, h => h
  | 8, _, _, h => h
  | 9, _, _, h => h
  | 10, _, _, h => h
  | 11, _, _, h => h
  | 12, _, _, h => h
  | 13, _, _, h => h
  | 14, _, _, h => h
  | 15, _, _, h => h
  | 16, _, _, h => h
  | 17, _, hj, _ => by rw [h17] at hj; cases hj
  | 18, _, _, h => h
  | 19, _, _, h => h
  | 20, _, _, h => h
  | 21, _, _, h => h
  | 22, _, _, h => h
  | 23, _, _, h => h
  | 24, _, _, h => h
  | _ + 25, _, _, h => h
set_option maxHeartbeats 16000000 in
set_option maxRecDepth 100000 in
theorem fncBack_walk (vf : FnV) (f : Fn.F) (a0 : Option Addr) (nb cb : Nat) (lb : List Nat) (w : World) (h : FnOk w w.heap.size vf f) (hl : vf.Len) (hw : f.Wf) (hB : BytesAt w w.heap.size a0 nb lb) (hnb : nb ≤ 140737488351232) (hnil : a0 = none → cb = 0) (hT : Tab w) (hgT : 0 < w.heap.size) :
    Calls Tryz.prog 4 #[.agg vf.cells, .slice a0 nb cb] w (BoolP true w) := by
  have b0 := (Below.refl w.heap.size w).alloc (Nat.le_refl _) (.cells vf.cells 28)
  have A1 := Lib.hid (FnAt.new w vf)
  have O1 := Lib.hid (h.on b0)
  have B1 := Lib.hid b0
  have T1 := Lib.hid (tab_below hT b0 hgT)
  have G1 := Lib.hid (show 0 < (w.alloc (.cells vf.cells 28)).heap.size from Nat.lt_of_lt_of_le hgT b0.size)
  have Y1 := Lib.hid (show BytesAt (w.alloc (.cells vf.cells 28)) (w.alloc (.cells vf.cells 28)).heap.size a0 nb lb from (hB.below b0).more b0.size)
  have HSm := small15_any vf (w.alloc (.cells vf.cells 28))
  have HCr := Lib.hid (fun (hf : vf.Few) (W : World) (o : FnOk W W.heap.size vf f) => rfncan_any vf f W o hl hw hf)
  have HPt := Lib.hid (fun (W : World) base b m xs (o : FnOk W W.heap.size vf f) (t : Tab W) g ho hb hm => fnput_own base b m xs vf f W o hl hw t g ho hb hm)
  have HL := Lib.hid hl
  have HWf := Lib.hid hw
  have HNl := Lib.hid hnil
  have HLb := Lib.hid hB.1
  have c0 := A1.out.c0; have c1 := A1.out.c1; have c2 := A1.out.c2; have c3 := A1.out.c3; have c4 := A1.out.c4; have c5 := A1.out.c5; have c6 := A1.out.c6; have c7 := A1.out.c7; have c8 := A1.out.c8; have c9 := A1.out.c9; have c10 := A1.out.c10
  obtain ⟨cn0, hcn0⟩ : ∃ c, f.can = c := ⟨_, rfl⟩
  rw [hcn0] at HCr
  have HCn := Lib.hid hcn0
  clear b0 h hl hw hB hT hgT hcn0 hnil
  unfold ErrP at HCr
  go_enter Tryz.func4, Tryz.ntmps4
  go_wp2_with (go_at_call 5; refine HSm.mono ?_; rintro _ w1 ⟨s1, rfl, hs1, hb2⟩; clear HSm; refine Hid.out ?_)
  have A2 := Lib.hid (A1.out.on hb2)
  have O2 := Lib.hid (O1.out.on hb2)
  have B2 := Lib.hid (B1.out.trans (hb2.mono B1.out.size))
  have T2 := Lib.hid (tab_below T1.out hb2 G1.out)
  have G2 := Lib.hid (Nat.lt_of_lt_of_le G1.out hb2.size)
  have Y2 := Lib.hid ((Y1.out.below hb2).more hb2.size)
  clear hb2
  clear c0 c1 c2 c3 c4 c5 c6 c7 c8 c9 c10
  have c0 := A2.out.c0; have c1 := A2.out.c1; have c2 := A2.out.c2; have c3 := A2.out.c3; have c4 := A2.out.c4; have c5 := A2.out.c5; have c6 := A2.out.c6; have c7 := A2.out.c7; have c8 := A2.out.c8; have c9 := A2.out.c9; have c10 := A2.out.c10
  cases s1 with
  | false =>
    have HLv := lives15_any _ T2.out G2.out
    refine Lib.hid ?_
    go_wp2_with (go_at_call 6; go_must (refine HLv.mono ?_; rintro _ w9 ⟨rfl, hb9⟩; have B9 := Lib.hid (B2.out.trans (hb9.mono B2.out.size)); clear hb9))
    go_ret
    exact ⟨rfl, B9.out⟩
  | true =>
  have HFw := Lib.hid (hs1 rfl)
  clear hs1 A1 O1 B1 T1 G1 Y1
  refine Lib.hid ?_
  by_cases hlen : nb ≤ 50
  rotate_left
  · have hd : decide ((50 : Int) < (nb : Int)) = true := decide_eq_true (by omega)
    have HLv := lives15_any _ T2.out G2.out
    refine Lib.hid ?_
    go_wp2_with (go_at_call 6; go_must (refine HLv.mono ?_; rintro _ w9 ⟨rfl, hb9⟩; have B9 := Lib.hid (B2.out.trans (hb9.mono B2.out.size)); clear hb9))
    go_ret
    exact ⟨rfl, B9.out⟩
  have hd : decide ((50 : Int) < (nb : Int)) = false := decide_eq_false (by omega)
  have HCr2 := HCr.out HFw.out _ O2.out
  go_wp2_with (go_at_call 8; refine HCr2.mono ?_; rintro _ w2 ⟨rfl, hb3⟩; clear HCr2; refine Hid.out ?_)
  have A3 := Lib.hid (A2.out.on hb3)
  have O3 := Lib.hid (O2.out.on hb3)
  have B3 := Lib.hid (B2.out.trans (hb3.mono B2.out.size))
  have T3 := Lib.hid (tab_below T2.out hb3 G2.out)
  have G3 := Lib.hid (Nat.lt_of_lt_of_le G2.out hb3.size)
  have Y3 := Lib.hid ((Y2.out.below hb3).more hb3.size)
  clear hb3
  clear c0 c1 c2 c3 c4 c5 c6 c7 c8 c9 c10
  have c0 := A3.out.c0; have c1 := A3.out.c1; have c2 := A3.out.c2; have c3 := A3.out.c3; have c4 := A3.out.c4; have c5 := A3.out.c5; have c6 := A3.out.c6; have c7 := A3.out.c7; have c8 := A3.out.c8; have c9 := A3.out.c9; have c10 := A3.out.c10
  clear A2 O2 B2 T2 G2 Y2 HCr
  refine Lib.hid ?_
  by_cases hcan : cn0 = 0
  rotate_left
  · have hz : ((cn0 : Int) != 0) = true := bne_iff_ne.2 (by omega)
    have HLv := lives15_any _ T3.out G3.out
    refine Lib.hid ?_
    go_wp2_with (go_at_call 6; go_must (refine HLv.mono ?_; rintro _ w9 ⟨rfl, hb9⟩; have B9 := Lib.hid (B3.out.trans (hb9.mono B3.out.size)); clear hb9))
    go_ret
    exact ⟨rfl, B9.out⟩
  have hz : ((cn0 : Int) != 0) = false := by rw [hcan]; rfl
  have hc0 : f.can = 0 := HCn.out.trans hcan
  have hcb : f.bytes = f.laid := if_pos hc0
  have hlen2 := Fn.laid_len hc0 HWf.out
  have HPUT := Lib.hid (HPt.out w2 w2.heap.size (.slice none 0 0) 0 [] O3.out T3.out G3.out (World.ownsRow_nil _ _ _ _) (Nat.le_refl _) (by omega))
  rw [hcb] at HPUT
  have HBK := Lib.hid (Fn.take_back f hc0 HWf.out (fun hb => Fn.live_below hc0 HWf.out hb) lb)
  have HLY := Lib.hid (Fn.laid_byte (f := f))
  have HNm := Lib.hid (Fn.can_len hc0).1
  have HLg := Lib.hid (few_long O3.out HFw.out hc0)
  have HLN := Lib.hid hlen2
  clear hc0 hcb hlen2 HPt
  generalize f.laid = m at *
  go_wp2_with (go_at_call 11; refine HPUT.out.mono ?_; rintro _ w3 ⟨v1, rfl, hinv⟩; clear HPUT; refine Hid.out ?_)
  have hown1 := hinv.1
  rw [Nat.zero_add, List.nil_append] at hown1
  have hb1 : Below w2.heap.size w2 w3 := hinv.below (World.ownsRow_nil _ _ _ _) (Nat.le_refl _)
  obtain ⟨v2, w4, hr2, hown2, hg2⟩ := append_bytes (c := cb) hown1 (Y3.out.below hb1) HNl.out hb1.size (by have := HLN.out; omega)
  have hb4 : Below w2.heap.size w2 w4 := hb1.grown hg2 hb1.size (fun j hj => (hown1.lt j hj).1)
  rw [← bs_append, ← HLb.out, ← List.length_append] at hown2
  generalize hnz : (m ++ lb).length = nz at hown2
  obtain ⟨A2, c2, rfl, hB2, _⟩ := own_bytes hown2 (fun c hc => (List.mem_append.1 hc).elim (HLY.out c) (Y3.out.2.1 c))
  have HR2 := Lib.hid (hr2 33 rfl)
  have HNEW := Lib.hid (new_any A2 nz c2 (m ++ lb) w4 hB2 (by rw [← hnz, List.length_append, HLb.out]; have := HLN.out; omega))
  obtain ⟨A1, k1, c1, rfl⟩ : ∃ A n2 c, v1 = .slice A n2 c := by
    rcases hown1.2 with ⟨rfl, _⟩ | ⟨g, cap', cur, rfl, _⟩
    · exact ⟨_, _, _, rfl⟩
    · exact ⟨_, _, _, rfl⟩
  clear hinv hown1 hr2 hown2 hg2 hB2 hb1 hnz
  have A4 := Lib.hid (A3.out.on hb4)
  have O4 := Lib.hid (O3.out.on hb4)
  have B4 := Lib.hid (B3.out.trans (hb4.mono B3.out.size))
  have T4 := Lib.hid (tab_below T3.out hb4 G3.out)
  have G4 := Lib.hid (Nat.lt_of_lt_of_le G3.out hb4.size)
  have Y4 := Lib.hid ((Y3.out.below hb4).more hb4.size)
  clear hb4
  clear A3 O3 B3 T3 G3 Y3 HLY
  refine Lib.hid ?_
  go_wp2_with (at_builtin; refine Lib.wpList_append_run _ rfl (.tmp 22) (.tmp 23) _ _ rfl _ _ rfl rfl _ _ HR2.out ?_; clear HR2)
  refine HNEW.out.mono ?_
  rintro _ w5 ⟨g, rfl, hg5, hc5, hb5⟩
  have HTK := Lib.hid (fntake_cur g (m ++ lb, 0) w5 hc5 (tab_below T4.out hb5 G4.out) (by have := G4.out; omega))
  rw [HBK.out] at HTK
  have HGz := Lib.hid hg5
  have HZ4 := Lib.hid B4.out.size
  have HB5 := Lib.hid hb5
  clear hg5 hc5 hb5 HNEW HBK
  go_wp2_with fail
  refine HTK.out.mono ?_
  rintro _ w6 ⟨vt, rfl, hot, hc6, hg6⟩
  clear HTK
  have hb6 : Below w4.heap.size w4 w6 := HB5.out.grown hg6 HB5.out.size (fun j hj => by injection hj with hj; have := HGz.out; omega)
  have A6 := Lib.hid (A4.out.on hb6)
  have O6 := Lib.hid (O4.out.on hb6)
  have B6 := Lib.hid (B4.out.trans (hb6.mono B4.out.size))
  have T6 := Lib.hid (tab_below T4.out hb6 G4.out)
  have G6 := Lib.hid (Nat.lt_of_lt_of_le G4.out hb6.size)
  have Y6 := Lib.hid ((Y4.out.below hb6).more hb6.size)
  clear hb6
  have hb7 := (Below.refl w6.heap.size w6).alloc (Nat.le_refl _) (.cells vt.cells 28)
  have AT0 := FnAt.new w6 vt
  have OT0 := hot.ok.on hb7
  have HVl := Lib.hid (hot.len HNm.out)
  have hc7 := cur_grown hc6 hb7
  have O7 := O6.out.on hb7
  have A7 := A6.out.on hb7
  have T7 := tab_below T6.out hb7 G6.out
  have G7 := Nat.lt_of_lt_of_le G6.out hb7.size
  have B7 := B6.out.trans (hb7.mono B6.out.size)
  simp only at hc7
  clear hb7 hot hc6 hg6 A4 O4 B4 T4 G4 Y4 A6 O6 B6 T6 G6 Y6 HB5 HZ4 HGz
  simp only [FnV.cells, Sl3.val] at AT0 OT0 hc7 O7 A7 T7 G7 B7 ⊢
  have AT := Lib.hid AT0
  have OT := Lib.hid OT0
  have HC7 := Lib.hid hc7
  have OF := Lib.hid O7
  have AF := Lib.hid A7
  have T8 := Lib.hid T7
  have G8 := Lib.hid G7
  have B8 := Lib.hid B7
  clear AT0 OT0 hc7 O7 A7 T7 G7 B7
  refine Lib.hid ?_
  go_wp2
  generalize hw7 : w6.alloc (.cells #[.string vt.name, .bool vt.inner, .slice vt.outer.a vt.outer.n vt.outer.c, .slice vt.params.a vt.params.n vt.params.c, .slice vt.results.a vt.results.n vt.results.c, .slice vt.locals.a vt.locals.n vt.locals.c, .slice vt.code.a vt.code.n vt.code.c, .slice vt.lines.a vt.lines.n vt.lines.c, .slice vt.nodes.a vt.nodes.n vt.nodes.c, .slice vt.at_.a vt.at_.n vt.at_.c, .slice vt.live.a vt.live.n vt.live.c] 28) = w7 at *
  generalize hp6 : w6.heap.size = p6 at *
  generalize hpx : w.heap.size = p2 at *
  have HPX := Lib.hid hpx
  clear hw7 hp6 hpx
  have HS1 := Lib.hid (fun (W : World) (hb : Below w7.heap.size w7 W) => (rfnsame_any vt vf f f W (OT.out.on hb) (OF.out.on hb) HVl.out).mono (fun _ _ => EqP.same))
  have HS2 := Lib.hid (fun (W : World) (x : FnV) (hb : Below w7.heap.size w7 W) (hx : FnOk W W.heap.size x f ∧ x.Len) => (rfnsame_any x vf f f W hx.1 (OF.out.on hb) hx.2).mono (fun _ _ => EqP.same))
  have HEr : Hid (∀ W, Below w7.heap.size w7 W → Calls Tryz.prog 16 #[.pointer (some ⟨g, 0, none⟩)] W (fun e w' => e = .returned (.int .i64 0) ∧ Below W.heap.size W w')) := Lib.hid (fun W hb => (err_cur g _ W (cur_grown HC7.out hb)).mono (by rintro _ _ ⟨rfl, rfl⟩; exact ⟨rfl, Below.refl _ _⟩))
  have HLe : Hid (∀ W, Below w7.heap.size w7 W → Calls Tryz.prog 17 #[.pointer (some ⟨g, 0, none⟩)] W (fun e w' => e = .returned (.int .i64 (nb : Int)) ∧ Below W.heap.size W w')) := Lib.hid (fun W hb => (left_cur g _ W (cur_grown HC7.out hb)).mono (by rintro _ _ ⟨rfl, rfl⟩; exact ⟨by rw [← HLb.out], Below.refl _ _⟩))
  have HCp : Hid (∀ W, Below w7.heap.size w7 W → Calls Tryz.prog 18 #[.agg vf.cells] W (fun e w' => ∃ v', e = .returned (.agg v'.cells) ∧ (FnOk w' w'.heap.size v' f ∧ v'.Len) ∧ Below W.heap.size W w')) := Lib.hid (fun W hb => (fncopy_any vf f W (OF.out.on hb) HLg.out).mono (by rintro _ _ ⟨v', rfl, ho, hbl⟩; exact ⟨v', rfl, ⟨ho.ok, ho.len HNm.out⟩, hbl⟩))
  have HLv := Lib.hid (fun (W : World) (hb : Below w7.heap.size w7 W) => lives15_any W (tab_below T8.out hb G8.out) (Nat.lt_of_lt_of_le G8.out hb.size))
  unfold BoolP at HLv
  have hsd : ((nb : Int) == (nb : Int)) = true := beq_self_eq_true _
  have hS : BkC w7 f .zero (fun _ => false) w7.drew := ⟨(Below.refl _ _).drew, fun e => by cases e⟩
  refine region_k (FnV.zero : FnV) 54 (fun x D W => BkC w7 f x D W) (bkG vf vt g nb cb a0) (by kernel_rfl) (by kernel_rfl) (by kernel_rfl) rfl rfl hS ?_ ?_
  · refine ⟨?_, ?_, ?_, ?_, ?_, ?_, ?_, ?_, ?_, ?_, ?_, ?_, ?_, ?_, ?_, ?_, ?_, ?_, ?_, ?_, ?_, ?_, ?_, ?_, ?_, trivial⟩
    · intro x D a w hI hdep hD0 K hK
      have e6 : a.eval (.tmp 6) = .pointer (some ⟨p6, 0, none⟩) := hI.read 6 rfl
      have hA := AT.out.on hI.world.base
      have k0 := hA.c0
      have k1 := hA.c1
      have k2 := hA.c2
      have k3 := hA.c3
      have k4 := hA.c4
      have k5 := hA.c5
      have k6 := hA.c6
      have k7 := hA.c7
      have k8 := hA.c8
      have k9 := hA.c9
      have k10 := hA.c10
      refine ok_value (wanted_none rfl) (v := .agg #[.string vt.name, .bool vt.inner, .slice vt.outer.a vt.outer.n vt.outer.c, .slice vt.params.a vt.params.n vt.params.c, .slice vt.results.a vt.results.n vt.results.c, .slice vt.locals.a vt.locals.n vt.locals.c, .slice vt.code.a vt.code.n vt.code.c, .slice vt.lines.a vt.lines.n vt.lines.c, .slice vt.nodes.a vt.nodes.n vt.nodes.c, .slice vt.at_.a vt.at_.n vt.at_.c, .slice vt.live.a vt.live.n vt.live.c]) ?_ (hK x _ _ ((hI.world.up rfl)) (fun _ _ _ h => h) rfl)
      clear hA
      have ec : ∀ c, a.eval (.const c) = c := fun _ => rfl
      have ef : ∀ f, a.eval (.func f) = .func (.func f) #[] #[] := fun _ => rfl
      clear hI hdep hK
      generalize a.eval = ρ at e6 ec ef ⊢
      go_simp
    · intro x D a w hI hdep hD0 K hK
      have e2 : a.eval (.tmp 2) = .pointer (some ⟨p2, 0, none⟩) := hI.read 2 rfl
      have hA := AF.out.on hI.world.base
      have k0 := hA.c0
      have k1 := hA.c1
      have k2 := hA.c2
      have k3 := hA.c3
      have k4 := hA.c4
      have k5 := hA.c5
      have k6 := hA.c6
      have k7 := hA.c7
      have k8 := hA.c8
      have k9 := hA.c9
      have k10 := hA.c10
      refine ok_value (wanted_none rfl) (v := .agg #[.string vf.name, .bool vf.inner, .slice vf.outer.a vf.outer.n vf.outer.c, .slice vf.params.a vf.params.n vf.params.c, .slice vf.results.a vf.results.n vf.results.c, .slice vf.locals.a vf.locals.n vf.locals.c, .slice vf.code.a vf.code.n vf.code.c, .slice vf.lines.a vf.lines.n vf.lines.c, .slice vf.nodes.a vf.nodes.n vf.nodes.c, .slice vf.at_.a vf.at_.n vf.at_.c, .slice vf.live.a vf.live.n vf.live.c]) ?_ (hK x _ _ ((hI.world.up rfl)) (fun _ _ _ h => h) rfl)
      clear hA
      have ec : ∀ c, a.eval (.const c) = c := fun _ => rfl
      have ef : ∀ f, a.eval (.func f) = .func (.func f) #[] #[] := fun _ => rfl
      clear hI hdep hK
      generalize a.eval = ρ at e2 ec ef ⊢
      go_simp
    · intro x D a w hI hdep hD0 K hK
      have e30 : a.eval (.tmp 30) = .agg #[.string vt.name, .bool vt.inner, .slice vt.outer.a vt.outer.n vt.outer.c, .slice vt.params.a vt.params.n vt.params.c, .slice vt.results.a vt.results.n vt.results.c, .slice vt.locals.a vt.locals.n vt.locals.c, .slice vt.code.a vt.code.n vt.code.c, .slice vt.lines.a vt.lines.n vt.lines.c, .slice vt.nodes.a vt.nodes.n vt.nodes.c, .slice vt.at_.a vt.at_.n vt.at_.c, .slice vt.live.a vt.live.n vt.live.c] := hI.good 0 30 (dep_of hdep 0 rfl) rfl
      have e31 : a.eval (.tmp 31) = .agg #[.string vf.name, .bool vf.inner, .slice vf.outer.a vf.outer.n vf.outer.c, .slice vf.params.a vf.params.n vf.params.c, .slice vf.results.a vf.results.n vf.results.c, .slice vf.locals.a vf.locals.n vf.locals.c, .slice vf.code.a vf.code.n vf.code.c, .slice vf.lines.a vf.lines.n vf.lines.c, .slice vf.nodes.a vf.nodes.n vf.nodes.c, .slice vf.at_.a vf.at_.n vf.at_.c, .slice vf.live.a vf.live.n vf.live.c] := hI.good 1 31 (dep_of hdep 1 rfl) rfl
      refine ok_call (wanted_none rfl) (f := 15) (args := #[.agg #[.string vt.name, .bool vt.inner, .slice vt.outer.a vt.outer.n vt.outer.c, .slice vt.params.a vt.params.n vt.params.c, .slice vt.results.a vt.results.n vt.results.c, .slice vt.locals.a vt.locals.n vt.locals.c, .slice vt.code.a vt.code.n vt.code.c, .slice vt.lines.a vt.lines.n vt.lines.c, .slice vt.nodes.a vt.nodes.n vt.nodes.c, .slice vt.at_.a vt.at_.n vt.at_.c, .slice vt.live.a vt.live.n vt.live.c], .agg #[.string vf.name, .bool vf.inner, .slice vf.outer.a vf.outer.n vf.outer.c, .slice vf.params.a vf.params.n vf.params.c, .slice vf.results.a vf.results.n vf.results.c, .slice vf.locals.a vf.locals.n vf.locals.c, .slice vf.code.a vf.code.n vf.code.c, .slice vf.lines.a vf.lines.n vf.lines.c, .slice vf.nodes.a vf.nodes.n vf.nodes.c, .slice vf.at_.a vf.at_.n vf.at_.c, .slice vf.live.a vf.live.n vf.live.c]]) ?_ (HS1.out w hI.world.base) ?_
      · have ec : ∀ c, a.eval (.const c) = c := fun _ => rfl
        have ef : ∀ f, a.eval (.func f) = .func (.func f) #[] #[] := fun _ => rfl
        clear hI hdep hK
        generalize a.eval = ρ at e30 e31 ec ef ⊢
        go_simp
      · rintro e w2 ⟨rfl, hb2⟩
        exact ⟨_, rfl, hK x _ _ (((hI.world.up rfl)).below hb2) (fun _ _ _ h => h) rfl⟩
    · intro x D a w hI hdep hD0 K hK
      have e32 : a.eval (.tmp 32) = .bool true := hI.good 2 32 (dep_of hdep 2 rfl) rfl
      refine ok_value (wanted_none rfl) (v := .bool true) ?_ (hK x _ _ (hI.world.up rfl) (fun _ _ _ h => h) rfl)
      have ec : ∀ c, a.eval (.const c) = c := fun _ => rfl
      have ef : ∀ f, a.eval (.func f) = .func (.func f) #[] #[] := fun _ => rfl
      clear hI hdep hK
      generalize a.eval = ρ at e32 ec ef ⊢
      go_simp
    · intro x D a w hI hdep hD0 K hK
      have eg : a.eval (.tmp 33) = .bool true := hI.good 3 33 (dep_of hdep 3 rfl) rfl
      have e5 : a.eval (.tmp 5) = .pointer (some ⟨g, 0, none⟩) := hI.read 5 rfl
      refine ok_value (wanted_is rfl rfl hI.size (by simp) eg) (v := .pointer (some ⟨g, 0, none⟩)) ?_ (hK x _ _ (hI.world.up rfl) (fun _ _ _ h => h) rfl)
      have ec : ∀ c, a.eval (.const c) = c := fun _ => rfl
      have ef : ∀ f, a.eval (.func f) = .func (.func f) #[] #[] := fun _ => rfl
      clear hI hdep hK
      generalize a.eval = ρ at eg e5 ec ef ⊢
      go_simp
    · intro x D a w hI hdep hD0 K hK
      have eg : a.eval (.tmp 33) = .bool true := hI.good 3 33 (dep_of hdep 3 rfl) rfl
      have e34 : a.eval (.tmp 34) = .pointer (some ⟨g, 0, none⟩) := hI.good 4 34 (dep_of hdep 4 rfl) rfl
      refine ok_call (wanted_is rfl rfl hI.size (by simp) eg) (f := 16) (args := #[.pointer (some ⟨g, 0, none⟩)]) ?_ (HEr.out w hI.world.base) ?_
      · have ec : ∀ c, a.eval (.const c) = c := fun _ => rfl
        have ef : ∀ f, a.eval (.func f) = .func (.func f) #[] #[] := fun _ => rfl
        clear hI hdep hK
        generalize a.eval = ρ at eg e34 ec ef ⊢
        go_simp
      · rintro e w2 ⟨rfl, hb2⟩
        exact ⟨_, rfl, hK x _ _ (((hI.world.up rfl)).below hb2) (fun _ _ _ h => h) rfl⟩
    · intro x D a w hI hdep hD0 K hK
      have eg : a.eval (.tmp 33) = .bool true := hI.good 3 33 (dep_of hdep 3 rfl) rfl
      have e35 : a.eval (.tmp 35) = .int .i64 0 := hI.good 5 35 (dep_of hdep 5 rfl) rfl
      refine ok_value (wanted_is rfl rfl hI.size (by simp) eg) (v := .bool true) ?_ (hK x _ _ (hI.world.up rfl) (fun _ _ _ h => h) rfl)
      have ec : ∀ c, a.eval (.const c) = c := fun _ => rfl
      have ef : ∀ f, a.eval (.func f) = .func (.func f) #[] #[] := fun _ => rfl
      clear hI hdep hK
      generalize a.eval = ρ at eg e35 ec ef ⊢
      go_simp
    · intro x D a w hI hdep hD0 K hK
      have e33 : a.eval (.tmp 33) = .bool true := hI.good 3 33 (dep_of hdep 3 rfl) rfl
      have e36 : a.eval (.tmp 36) = .bool true := hI.good 6 36 (dep_of hdep 6 rfl) rfl
      refine ok_value (wanted_none rfl) (v := .bool true) ?_ (hK x _ _ (hI.world.up rfl) (fun _ _ _ h => h) rfl)
      have ec : ∀ c, a.eval (.const c) = c := fun _ => rfl
      have ef : ∀ f, a.eval (.func f) = .func (.func f) #[] #[] := fun _ => rfl
      clear hI hdep hK
      generalize a.eval = ρ at e33 e36 ec ef ⊢
      go_simp
    · intro x D a w hI hdep hD0 K hK
      have e37 : a.eval (.tmp 37) = .bool true := hI.good 7 37 (dep_of hdep 7 rfl) rfl
      refine ok_value (wanted_none rfl) (v := .bool true) ?_ (hK x _ _ (hI.world.up rfl) (fun _ _ _ h => h) rfl)
      have ec : ∀ c, a.eval (.const c) = c := fun _ => rfl
      have ef : ∀ f, a.eval (.func f) = .func (.func f) #[] #[] := fun _ => rfl
      clear hI hdep hK
      generalize a.eval = ρ at e37 ec ef ⊢
      go_simp
    · intro x D a w hI hdep hD0 K hK
      have eg : a.eval (.tmp 38) = .bool true := hI.good 8 38 (dep_of hdep 8 rfl) rfl
      have e5 : a.eval (.tmp 5) = .pointer (some ⟨g, 0, none⟩) := hI.read 5 rfl
      refine ok_value (wanted_is rfl rfl hI.size (by simp) eg) (v := .pointer (some ⟨g, 0, none⟩)) ?_ (hK x _ _ (hI.world.up rfl) (fun _ _ _ h => h) rfl)
      have ec : ∀ c, a.eval (.const c) = c := fun _ => rfl
      have ef : ∀ f, a.eval (.func f) = .func (.func f) #[] #[] := fun _ => rfl
      clear hI hdep hK
      generalize a.eval = ρ at eg e5 ec ef ⊢
      go_simp
    · intro x D a w hI hdep hD0 K hK
      have eg : a.eval (.tmp 38) = .bool true := hI.good 8 38 (dep_of hdep 8 rfl) rfl
      have e39 : a.eval (.tmp 39) = .pointer (some ⟨g, 0, none⟩) := hI.good 9 39 (dep_of hdep 9 rfl) rfl
      refine ok_call (wanted_is rfl rfl hI.size (by simp) eg) (f := 17) (args := #[.pointer (some ⟨g, 0, none⟩)]) ?_ (HLe.out w hI.world.base) ?_
      · have ec : ∀ c, a.eval (.const c) = c := fun _ => rfl
        have ef : ∀ f, a.eval (.func f) = .func (.func f) #[] #[] := fun _ => rfl
        clear hI hdep hK
        generalize a.eval = ρ at eg e39 ec ef ⊢
        go_simp
      · rintro e w2 ⟨rfl, hb2⟩
        exact ⟨_, rfl, hK x _ _ (((hI.world.up rfl)).below hb2) (fun _ _ _ h => h) rfl⟩
    · intro x D a w hI hdep hD0 K hK
      have eg : a.eval (.tmp 38) = .bool true := hI.good 8 38 (dep_of hdep 8 rfl) rfl
      have e1 : a.eval (.tmp 1) = .slice a0 nb cb := hI.read 1 rfl
      refine ok_value (wanted_is rfl rfl hI.size (by simp) eg) (v := .slice a0 nb cb) ?_ (hK x _ _ (hI.world.up rfl) (fun _ _ _ h => h) rfl)
      have ec : ∀ c, a.eval (.const c) = c := fun _ => rfl
      have ef : ∀ f, a.eval (.func f) = .func (.func f) #[] #[] := fun _ => rfl
      clear hI hdep hK
      generalize a.eval = ρ at eg e1 ec ef ⊢
      go_simp
    · intro x D a w hI hdep hD0 K hK
      have eg : a.eval (.tmp 38) = .bool true := hI.good 8 38 (dep_of hdep 8 rfl) rfl
      have e41 : a.eval (.tmp 41) = .slice a0 nb cb := hI.good 11 41 (dep_of hdep 11 rfl) rfl
      refine ok_value (wanted_is rfl rfl hI.size (by simp) eg) (v := .int .i64 (nb : Int)) ?_ (hK x _ _ (hI.world.up rfl) (fun _ _ _ h => h) rfl)
      have ec : ∀ c, a.eval (.const c) = c := fun _ => rfl
      have ef : ∀ f, a.eval (.func f) = .func (.func f) #[] #[] := fun _ => rfl
      clear hI hdep hK
      generalize a.eval = ρ at eg e41 ec ef ⊢
      go_simp
    · intro x D a w hI hdep hD0 K hK
      have eg : a.eval (.tmp 38) = .bool true := hI.good 8 38 (dep_of hdep 8 rfl) rfl
      have e40 : a.eval (.tmp 40) = .int .i64 (nb : Int) := hI.good 10 40 (dep_of hdep 10 rfl) rfl
      have e42 : a.eval (.tmp 42) = .int .i64 (nb : Int) := hI.good 12 42 (dep_of hdep 12 rfl) rfl
      refine ok_value (wanted_is rfl rfl hI.size (by simp) eg) (v := .bool true) ?_ (hK x _ _ (hI.world.up rfl) (fun _ _ _ h => h) rfl)
      have ec : ∀ c, a.eval (.const c) = c := fun _ => rfl
      have ef : ∀ f, a.eval (.func f) = .func (.func f) #[] #[] := fun _ => rfl
      clear hI hdep hK
      generalize a.eval = ρ at eg e40 e42 ec ef ⊢
      go_simp
    · intro x D a w hI hdep hD0 K hK
      have e38 : a.eval (.tmp 38) = .bool true := hI.good 8 38 (dep_of hdep 8 rfl) rfl
      have e43 : a.eval (.tmp 43) = .bool true := hI.good 13 43 (dep_of hdep 13 rfl) rfl
      refine ok_value (wanted_none rfl) (v := .bool true) ?_ (hK x _ _ (hI.world.up rfl) (fun _ _ _ h => h) rfl)
      have ec : ∀ c, a.eval (.const c) = c := fun _ => rfl
      have ef : ∀ f, a.eval (.func f) = .func (.func f) #[] #[] := fun _ => rfl
      clear hI hdep hK
      generalize a.eval = ρ at e38 e43 ec ef ⊢
      go_simp
    · intro x D a w hI hdep hD0 K hK
      have e44 : a.eval (.tmp 44) = .bool true := hI.good 14 44 (dep_of hdep 14 rfl) rfl
      refine ok_value (wanted_none rfl) (v := .bool true) ?_ (hK x _ _ (hI.world.up rfl) (fun _ _ _ h => h) rfl)
      have ec : ∀ c, a.eval (.const c) = c := fun _ => rfl
      have ef : ∀ f, a.eval (.func f) = .func (.func f) #[] #[] := fun _ => rfl
      clear hI hdep hK
      generalize a.eval = ρ at e44 ec ef ⊢
      go_simp
    · intro x D a w hI hdep hD0 K hK
      have eg : a.eval (.tmp 45) = .bool true := hI.good 15 45 (dep_of hdep 15 rfl) rfl
      have e2 : a.eval (.tmp 2) = .pointer (some ⟨p2, 0, none⟩) := hI.read 2 rfl
      have hA := AF.out.on hI.world.base
      have k0 := hA.c0
      have k1 := hA.c1
      have k2 := hA.c2
      have k3 := hA.c3
      have k4 := hA.c4
      have k5 := hA.c5
      have k6 := hA.c6
      have k7 := hA.c7
      have k8 := hA.c8
      have k9 := hA.c9
      have k10 := hA.c10
      refine ok_value (wanted_is rfl rfl hI.size (by simp) eg) (v := .agg #[.string vf.name, .bool vf.inner, .slice vf.outer.a vf.outer.n vf.outer.c, .slice vf.params.a vf.params.n vf.params.c, .slice vf.results.a vf.results.n vf.results.c, .slice vf.locals.a vf.locals.n vf.locals.c, .slice vf.code.a vf.code.n vf.code.c, .slice vf.lines.a vf.lines.n vf.lines.c, .slice vf.nodes.a vf.nodes.n vf.nodes.c, .slice vf.at_.a vf.at_.n vf.at_.c, .slice vf.live.a vf.live.n vf.live.c]) ?_ (hK x _ _ ((hI.world.up rfl)) (fun _ _ _ h => h) rfl)
      clear hA
      have ec : ∀ c, a.eval (.const c) = c := fun _ => rfl
      have ef : ∀ f, a.eval (.func f) = .func (.func f) #[] #[] := fun _ => rfl
      clear hI hdep hK
      generalize a.eval = ρ at eg e2 ec ef ⊢
      go_simp
    · intro x D a w hI hdep hD0 K hK
      have eg : a.eval (.tmp 45) = .bool true := hI.good 15 45 (dep_of hdep 15 rfl) rfl
      have e46 : a.eval (.tmp 46) = .agg #[.string vf.name, .bool vf.inner, .slice vf.outer.a vf.outer.n vf.outer.c, .slice vf.params.a vf.params.n vf.params.c, .slice vf.results.a vf.results.n vf.results.c, .slice vf.locals.a vf.locals.n vf.locals.c, .slice vf.code.a vf.code.n vf.code.c, .slice vf.lines.a vf.lines.n vf.lines.c, .slice vf.nodes.a vf.nodes.n vf.nodes.c, .slice vf.at_.a vf.at_.n vf.at_.c, .slice vf.live.a vf.live.n vf.live.c] := hI.good 16 46 (dep_of hdep 16 rfl) rfl
      refine ok_call (wanted_is rfl rfl hI.size (by simp) eg) (f := 18) (args := #[.agg #[.string vf.name, .bool vf.inner, .slice vf.outer.a vf.outer.n vf.outer.c, .slice vf.params.a vf.params.n vf.params.c, .slice vf.results.a vf.results.n vf.results.c, .slice vf.locals.a vf.locals.n vf.locals.c, .slice vf.code.a vf.code.n vf.code.c, .slice vf.lines.a vf.lines.n vf.lines.c, .slice vf.nodes.a vf.nodes.n vf.nodes.c, .slice vf.at_.a vf.at_.n vf.at_.c, .slice vf.live.a vf.live.n vf.live.c]]) ?_ (HCp.out w hI.world.base) ?_
      · have ec : ∀ c, a.eval (.const c) = c := fun _ => rfl
        have ef : ∀ f, a.eval (.func f) = .func (.func f) #[] #[] := fun _ => rfl
        clear hI hdep hK
        generalize a.eval = ρ at eg e46 ec ef ⊢
        go_simp
      · rintro e w2 ⟨v2, rfl, hv, hb2⟩
        exact ⟨_, rfl, hK v2 _ _ (hI.world.copied hb2 hv) (bk_cp hD0) rfl⟩
    · intro x D a w hI hdep hD0 K hK
      have eg : a.eval (.tmp 45) = .bool true := hI.good 15 45 (dep_of hdep 15 rfl) rfl
      have e2 : a.eval (.tmp 2) = .pointer (some ⟨p2, 0, none⟩) := hI.read 2 rfl
      have hA := AF.out.on hI.world.base
      have k0 := hA.c0
      have k1 := hA.c1
      have k2 := hA.c2
      have k3 := hA.c3
      have k4 := hA.c4
      have k5 := hA.c5
      have k6 := hA.c6
      have k7 := hA.c7
      have k8 := hA.c8
      have k9 := hA.c9
      have k10 := hA.c10
      refine ok_value (wanted_is rfl rfl hI.size (by simp) eg) (v := .agg #[.string vf.name, .bool vf.inner, .slice vf.outer.a vf.outer.n vf.outer.c, .slice vf.params.a vf.params.n vf.params.c, .slice vf.results.a vf.results.n vf.results.c, .slice vf.locals.a vf.locals.n vf.locals.c, .slice vf.code.a vf.code.n vf.code.c, .slice vf.lines.a vf.lines.n vf.lines.c, .slice vf.nodes.a vf.nodes.n vf.nodes.c, .slice vf.at_.a vf.at_.n vf.at_.c, .slice vf.live.a vf.live.n vf.live.c]) ?_ (hK x _ _ ((hI.world.up rfl)) (fun _ _ _ h => h) rfl)
      clear hA
      have ec : ∀ c, a.eval (.const c) = c := fun _ => rfl
      have ef : ∀ f, a.eval (.func f) = .func (.func f) #[] #[] := fun _ => rfl
      clear hI hdep hK
      generalize a.eval = ρ at eg e2 ec ef ⊢
      go_simp
    · intro x D a w hI hdep hD0 K hK
      have eg : a.eval (.tmp 45) = .bool true := hI.good 15 45 (dep_of hdep 15 rfl) rfl
      have e47 : a.eval (.tmp 47) = .agg x.cells := hI.good 17 47 (dep_of hdep 17 rfl) rfl
      have e48 : a.eval (.tmp 48) = .agg #[.string vf.name, .bool vf.inner, .slice vf.outer.a vf.outer.n vf.outer.c, .slice vf.params.a vf.params.n vf.params.c, .slice vf.results.a vf.results.n vf.results.c, .slice vf.locals.a vf.locals.n vf.locals.c, .slice vf.code.a vf.code.n vf.code.c, .slice vf.lines.a vf.lines.n vf.lines.c, .slice vf.nodes.a vf.nodes.n vf.nodes.c, .slice vf.at_.a vf.at_.n vf.at_.c, .slice vf.live.a vf.live.n vf.live.c] := hI.good 18 48 (dep_of hdep 18 rfl) rfl
      have hx := dep_of hdep 17 rfl
      refine ok_call (wanted_is rfl rfl hI.size (by simp) eg) (f := 15) (args := #[.agg x.cells, .agg #[.string vf.name, .bool vf.inner, .slice vf.outer.a vf.outer.n vf.outer.c, .slice vf.params.a vf.params.n vf.params.c, .slice vf.results.a vf.results.n vf.results.c, .slice vf.locals.a vf.locals.n vf.locals.c, .slice vf.code.a vf.code.n vf.code.c, .slice vf.lines.a vf.lines.n vf.lines.c, .slice vf.nodes.a vf.nodes.n vf.nodes.c, .slice vf.at_.a vf.at_.n vf.at_.c, .slice vf.live.a vf.live.n vf.live.c]]) ?_ (HS2.out w x hI.world.base (hI.world.cp hx)) ?_
      · have ec : ∀ c, a.eval (.const c) = c := fun _ => rfl
        have ef : ∀ f, a.eval (.func f) = .func (.func f) #[] #[] := fun _ => rfl
        clear hI hdep hK
        generalize a.eval = ρ at eg e47 e48 ec ef ⊢
        go_simp
      · rintro e w2 ⟨rfl, hb2⟩
        exact ⟨_, rfl, hK x _ _ (((hI.world.up rfl)).below hb2) (fun _ _ _ h => h) rfl⟩
    · intro x D a w hI hdep hD0 K hK
      have e45 : a.eval (.tmp 45) = .bool true := hI.good 15 45 (dep_of hdep 15 rfl) rfl
      have e49 : a.eval (.tmp 49) = .bool true := hI.good 19 49 (dep_of hdep 19 rfl) rfl
      refine ok_value (wanted_none rfl) (v := .bool true) ?_ (hK x _ _ (hI.world.up rfl) (fun _ _ _ h => h) rfl)
      have ec : ∀ c, a.eval (.const c) = c := fun _ => rfl
      have ef : ∀ f, a.eval (.func f) = .func (.func f) #[] #[] := fun _ => rfl
      clear hI hdep hK
      generalize a.eval = ρ at e45 e49 ec ef ⊢
      go_simp
    · intro x D a w hI hdep hD0 K hK
      have e50 : a.eval (.tmp 50) = .bool true := hI.good 20 50 (dep_of hdep 20 rfl) rfl
      refine ok_value (wanted_none rfl) (v := .bool true) ?_ (hK x _ _ (hI.world.up rfl) (fun _ _ _ h => h) rfl)
      have ec : ∀ c, a.eval (.const c) = c := fun _ => rfl
      have ef : ∀ f, a.eval (.func f) = .func (.func f) #[] #[] := fun _ => rfl
      clear hI hdep hK
      generalize a.eval = ρ at e50 ec ef ⊢
      go_simp
    · intro x D a w hI hdep hD0 K hK
      have eg : a.eval (.tmp 51) = .bool true := hI.good 21 51 (dep_of hdep 21 rfl) rfl
      refine ok_call (wanted_is rfl rfl hI.size (by simp) eg) (f := 6) (args := #[]) ?_ (HLv.out w hI.world.base) ?_
      · have ec : ∀ c, a.eval (.const c) = c := fun _ => rfl
        have ef : ∀ f, a.eval (.func f) = .func (.func f) #[] #[] := fun _ => rfl
        clear hI hdep hK
        generalize a.eval = ρ at eg ec ef ⊢
        go_simp
      · rintro e w2 ⟨rfl, hb2⟩
        exact ⟨_, rfl, hK x _ _ (((hI.world.up rfl)).below hb2) (fun _ _ _ h => h) rfl⟩
    · intro x D a w hI hdep hD0 K hK
      have e51 : a.eval (.tmp 51) = .bool true := hI.good 21 51 (dep_of hdep 21 rfl) rfl
      have e52 : a.eval (.tmp 52) = .bool true := hI.good 22 52 (dep_of hdep 22 rfl) rfl
      refine ok_value (wanted_none rfl) (v := .bool true) ?_ (hK x _ _ (hI.world.up rfl) (fun _ _ _ h => h) rfl)
      have ec : ∀ c, a.eval (.const c) = c := fun _ => rfl
      have ef : ∀ f, a.eval (.func f) = .func (.func f) #[] #[] := fun _ => rfl
      clear hI hdep hK
      generalize a.eval = ρ at e51 e52 ec ef ⊢
      go_simp
    · intro x D a w hI hdep hD0 K hK
      have e53 : a.eval (.tmp 53) = .bool true := hI.good 23 53 (dep_of hdep 23 rfl) rfl
      refine ok_value (wanted_none rfl) (v := .bool true) ?_ (hK x _ _ (hI.world.up rfl) (fun _ _ _ h => h) rfl)
      have ec : ∀ c, a.eval (.const c) = c := fun _ => rfl
      have ef : ∀ f, a.eval (.func f) = .func (.func f) #[] #[] := fun _ => rfl
      clear hI hdep hK
      generalize a.eval = ρ at e53 ec ef ⊢
      go_simp
  · intro x D a w8 hI hD
    have hfr := hI.frame [(30, .agg #[.string vt.name, .bool vt.inner, .slice vt.outer.a vt.outer.n vt.outer.c, .slice vt.params.a vt.params.n vt.params.c, .slice vt.results.a vt.results.n vt.results.c, .slice vt.locals.a vt.locals.n vt.locals.c, .slice vt.code.a vt.code.n vt.code.c, .slice vt.lines.a vt.lines.n vt.lines.c, .slice vt.nodes.a vt.nodes.n vt.nodes.c, .slice vt.at_.a vt.at_.n vt.at_.c, .slice vt.live.a vt.live.n vt.live.c]), (31, .agg #[.string vf.name, .bool vf.inner, .slice vf.outer.a vf.outer.n vf.outer.c, .slice vf.params.a vf.params.n vf.params.c, .slice vf.results.a vf.results.n vf.results.c, .slice vf.locals.a vf.locals.n vf.locals.c, .slice vf.code.a vf.code.n vf.code.c, .slice vf.lines.a vf.lines.n vf.lines.c, .slice vf.nodes.a vf.nodes.n vf.nodes.c, .slice vf.at_.a vf.at_.n vf.at_.c, .slice vf.live.a vf.live.n vf.live.c]), (32, .bool true), (33, .bool true), (34, .pointer (some ⟨g, 0, none⟩)), (35, .int .i64 0), (36, .bool true), (37, .bool true), (38, .bool true), (39, .pointer (some ⟨g, 0, none⟩)), (40, .int .i64 (nb : Int)), (41, .slice a0 nb cb), (42, .int .i64 (nb : Int)), (43, .bool true), (44, .bool true), (45, .bool true), (46, .agg #[.string vf.name, .bool vf.inner, .slice vf.outer.a vf.outer.n vf.outer.c, .slice vf.params.a vf.params.n vf.params.c, .slice vf.results.a vf.results.n vf.results.c, .slice vf.locals.a vf.locals.n vf.locals.c, .slice vf.code.a vf.code.n vf.code.c, .slice vf.lines.a vf.lines.n vf.lines.c, .slice vf.nodes.a vf.nodes.n vf.nodes.c, .slice vf.at_.a vf.at_.n vf.at_.c, .slice vf.live.a vf.live.n vf.live.c]), (47, .agg x.cells), (48, .agg #[.string vf.name, .bool vf.inner, .slice vf.outer.a vf.outer.n vf.outer.c, .slice vf.params.a vf.params.n vf.params.c, .slice vf.results.a vf.results.n vf.results.c, .slice vf.locals.a vf.locals.n vf.locals.c, .slice vf.code.a vf.code.n vf.code.c, .slice vf.lines.a vf.lines.n vf.lines.c, .slice vf.nodes.a vf.nodes.n vf.nodes.c, .slice vf.at_.a vf.at_.n vf.at_.c, .slice vf.live.a vf.live.n vf.live.c]), (49, .bool true), (50, .bool true), (51, .bool true), (52, .bool true), (53, .bool true), (4, .bool true)] (all_cons (hI.good 0 30 (hD 0 (by decide)) rfl) (all_cons (hI.good 1 31 (hD 1 (by decide)) rfl) (all_cons (hI.good 2 32 (hD 2 (by decide)) rfl) (all_cons (hI.good 3 33 (hD 3 (by decide)) rfl) (all_cons (hI.good 4 34 (hD 4 (by decide)) rfl) (all_cons (hI.good 5 35 (hD 5 (by decide)) rfl) (all_cons (hI.good 6 36 (hD 6 (by decide)) rfl) (all_cons (hI.good 7 37 (hD 7 (by decide)) rfl) (all_cons (hI.good 8 38 (hD 8 (by decide)) rfl) (all_cons (hI.good 9 39 (hD 9 (by decide)) rfl) (all_cons (hI.good 10 40 (hD 10 (by decide)) rfl) (all_cons (hI.good 11 41 (hD 11 (by decide)) rfl) (all_cons (hI.good 12 42 (hD 12 (by decide)) rfl) (all_cons (hI.good 13 43 (hD 13 (by decide)) rfl) (all_cons (hI.good 14 44 (hD 14 (by decide)) rfl) (all_cons (hI.good 15 45 (hD 15 (by decide)) rfl) (all_cons (hI.good 16 46 (hD 16 (by decide)) rfl) (all_cons (hI.good 17 47 (hD 17 (by decide)) rfl) (all_cons (hI.good 18 48 (hD 18 (by decide)) rfl) (all_cons (hI.good 19 49 (hD 19 (by decide)) rfl) (all_cons (hI.good 20 50 (hD 20 (by decide)) rfl) (all_cons (hI.good 21 51 (hD 21 (by decide)) rfl) (all_cons (hI.good 22 52 (hD 22 (by decide)) rfl) (all_cons (hI.good 23 53 (hD 23 (by decide)) rfl) (all_cons (hI.good 24 4 (hD 24 (by decide)) rfl) all_nil))))))))))))))))))))))))) rfl
    have hW := hI.world
    clear hI
    subst hfr
    simp only [List.foldl_cons, List.foldl_nil, List.setIfInBounds_toArray, List.set_cons_succ, List.set_cons_zero]
    have HB9 := Lib.hid hW.base
    clear hW hD hS
    go_wp2
    go_ret
    have hB := B8.out
    rw [← HPX.out] at hB
    exact ⟨rfl, hB.trans (HB9.out.mono hB.size)⟩
end Go.Proofs.YtifkoihhlhadhaaGreatDoor
