/-
  What may come next of an instruction: the program's answer. Conditions: the function can be read; few of everything but the types.
-/
import Derived.Test.YtngkjmghhoemgaaFwA
namespace Go.Proofs.Ytngkjmghhoemgaa
open Go.RowKit

set_option maxRecDepth 100000 in
set_option maxHeartbeats 4000000 in
theorem fwnext_any (v : FnV) (f : Fn.F) (k : Nat) (w : World) (h : FnOk w w.heap.size v f) (hk : k < v.code.n) (hk2 : v.code.n ≤ 1000000) :
    Calls Try.prog 15 #[.agg v.cells, .int .i64 (k : Int)] w (RowP (Fw.next f k) w) := by
  obtain ⟨i0, hi, hz0, hz1, hz2⟩ := info_parts info_int
  have hb := (Below.refl w.heap.size w).alloc (Nat.le_refl _) (.cells v.cells 28)
  have HB := Lib.hid hb
  have hA := FnAt.new w v
  have HA := Lib.hid hA
  have c0 := hA.c0; have c1 := hA.c1; have c2 := hA.c2; have c3 := hA.c3; have c4 := hA.c4; have c5 := hA.c5; have c6 := hA.c6; have c7 := hA.c7; have c8 := hA.c8; have c9 := hA.c9; have c10 := hA.c10
  have HR := Lib.hid (fun (x : Int) (W : World) (hw : Below w.heap.size w W) => fwresume_any v f x W (h.on hw))
  have HH := fwhas_any v (k : Int) (w.alloc (.cells v.cells 28))
  rw [decide_eq_true (show 0 ≤ (k : Int) ∧ (k : Int) < (v.code.n : Int) by omega)] at HH
  obtain ⟨b, off, y, hca, hlt, hy, _, d0, d1⟩ := pairs_cell (h.on hb).code.1 hk
  have hop : Fw.op f k = y.1 := by unfold Fw.op; rw [hy]
  have harg : Fw.arg f k = y.2 := by unfold Fw.arg; rw [hy]
  have HLt := Lib.hid hlt
  clear h hb hy hlt hA
  obtain ⟨nm, inn, ⟨oa, on, oc⟩, ⟨pa, pn, pc⟩, ⟨ra, rn, rc⟩, ⟨la, ln, lc⟩, ⟨ca, cn, cc⟩, ⟨ia, i_n, ic⟩, ⟨na, nn, nc⟩, ⟨ta, tn, tc⟩, ⟨va, vn, vc⟩⟩ := v
  simp only at hca hk hk2
  subst hca
  obtain ⟨o, ar⟩ := y
  simp only at hop harg d0 d1
  have hk1 : (k : Int) < (cn : Int) := by omega
  have hka : (k : Int) + 1 ≤ 1000000 := by omega
  have HOp := Lib.hid (And.intro hop harg)
  have HKa := Lib.hid hka
  clear hop harg hka hk2
  have hw : wrap64 ((k : Int) + 1) = (k : Int) + 1 := by have := HKa.out; unfold wrap64; omega
  by_cases h22 : o = 22
  · subst h22
    by_cases ha : ar = (k : Int) + 1
    · subst ha
      have HE : Hid (Fw.next f k = [(k : Int) + 1]) := Lib.hid (by unfold Fw.next; rw [HOp.out.1, HOp.out.2, if_pos rfl, if_pos rfl])
      clear HOp
      go_enter Try.func15, Try.ntmps15
      go_wp2_with (first | (go_at_call 16; refine HH.mono ?_; rintro _ w1 ⟨rfl, hb1⟩; have HB1 := Lib.hid (below_self HB.out hb1); have c6' := (hb1.cell (p := ⟨w.heap.size, 6, none⟩) (by simp)).trans c6; have d0' := (hb1.cell (p := ⟨b, off + k * 2, none⟩) HLt.out).trans d0; have d1' := (hb1.cell (p := ⟨b, off + k * 2 + 1, none⟩) HLt.out).trans d1; clear c0 c1 c2 c3 c4 c5 c6 c7 c8 c9 c10 d0 d1 hb1) | (at_builtin; refine wpList_append_q rfl rfl (.tmp 37) (.tmp 40) rfl (base := w.heap.size) (v := .slice none 0 0) rfl (Rq.nil _ _) rfl (ints_lit (by simp) _) (by have := HB1.out.size; simp; omega) (by simp) ?_; intro v1 w2 hq hg hl; have HQ := Lib.hid hq; have HB2 := Lib.hid (below_append (((HB1.out.alloc HB1.out.size _)).alloc (by have := HB1.out.size; simp; omega) _) (Rq.nil _ _) hg); clear hq hl))
      go_ret
      rw [HE.out]
      exact ⟨_, rfl, HQ.out, HB2.out⟩
    · have e1 : (ar != (k : Int) + 1) = true := by simp [ha]
      have HE : Hid (Fw.next f k = [(k : Int) + 1, ar]) := Lib.hid (by unfold Fw.next; rw [HOp.out.1, HOp.out.2, if_pos rfl, if_neg ha])
      clear HOp ha
      go_enter Try.func15, Try.ntmps15
      go_wp2_with (first | (go_at_call 16; refine HH.mono ?_; rintro _ w1 ⟨rfl, hb1⟩; have HB1 := Lib.hid (below_self HB.out hb1); have c6' := (hb1.cell (p := ⟨w.heap.size, 6, none⟩) (by simp)).trans c6; have d0' := (hb1.cell (p := ⟨b, off + k * 2, none⟩) HLt.out).trans d0; have d1' := (hb1.cell (p := ⟨b, off + k * 2 + 1, none⟩) HLt.out).trans d1; clear c0 c1 c2 c3 c4 c5 c6 c7 c8 c9 c10 d0 d1 hb1) | (at_builtin; refine wpList_append_q rfl rfl (.tmp 32) (.tmp 35) rfl (base := w.heap.size) (v := .slice none 0 0) rfl (Rq.nil _ _) rfl (ints_lit (by simp) _) (by have := HB1.out.size; simp; omega) (by simp) ?_; intro v1 w2 hq hg hl; have HQ := Lib.hid hq; have HB2 := Lib.hid (below_append (((HB1.out.alloc HB1.out.size _)).alloc (by have := HB1.out.size; simp; omega) _) (Rq.nil _ _) hg); clear hq hl; have x1 := hg.cell (a := ⟨w1.heap.size, 1, none⟩) (v := .int .i64 ar) (by simp) (by simp [Value.ownBlock]); clear hg) | (at_builtin; refine wpList_append_q rfl rfl (.tmp 37) (.tmp 40) rfl (base := w.heap.size) (v := v1) rfl (HQ.out.alloc _) rfl (ints_lit (by simp) _) (by have := HB2.out.size; simp; omega) (by simp) ?_; intro v2 w3 hq2 hg2 hl2; have HQ2 := Lib.hid hq2; have HB3 := Lib.hid (below_append (HB2.out.alloc HB2.out.size _) (HQ.out.alloc _) hg2); clear hq2 hl2 hg2))
      go_ret
      rw [HE.out]
      exact ⟨_, rfl, HQ2.out, HB3.out⟩
  by_cases h21 : o = 21
  · subst h21
    have HE : Hid (Fw.next f k = [ar]) := Lib.hid (by unfold Fw.next; rw [HOp.out.1, HOp.out.2, if_neg (by decide), if_pos rfl])
    clear HOp h22
    go_enter Try.func15, Try.ntmps15
    go_wp2_with (first | (go_at_call 16; refine HH.mono ?_; rintro _ w1 ⟨rfl, hb1⟩; have HB1 := Lib.hid (below_self HB.out hb1); have c6' := (hb1.cell (p := ⟨w.heap.size, 6, none⟩) (by simp)).trans c6; have d0' := (hb1.cell (p := ⟨b, off + k * 2, none⟩) HLt.out).trans d0; have d1' := (hb1.cell (p := ⟨b, off + k * 2 + 1, none⟩) HLt.out).trans d1; clear c0 c1 c2 c3 c4 c5 c6 c7 c8 c9 c10 d0 d1 hb1) | (at_builtin; refine wpList_append_q rfl rfl (.tmp 37) (.tmp 40) rfl (base := w.heap.size) (v := .slice none 0 0) rfl (Rq.nil _ _) rfl (ints_lit (by simp) _) (by have := HB1.out.size; simp; omega) (by simp) ?_; intro v1 w2 hq hg hl; have HQ := Lib.hid hq; have HB2 := Lib.hid (below_append (((HB1.out.alloc HB1.out.size _)).alloc (by have := HB1.out.size; simp; omega) _) (Rq.nil _ _) hg); clear hq hl))
    go_ret
    rw [HE.out]
    exact ⟨_, rfl, HQ.out, HB2.out⟩
  by_cases h34 : o = 34
  · subst h34
    have HE : Hid (Fw.next f k = Fw.resume f ar) := Lib.hid (by unfold Fw.next; rw [HOp.out.1, HOp.out.2, if_neg (by decide), if_neg (by decide), if_pos rfl])
    clear HOp h22 h21
    go_enter Try.func15, Try.ntmps15
    go_wp2_with (first | (go_at_call 16; refine HH.mono ?_; rintro _ w1 ⟨rfl, hb1⟩; have HB1 := Lib.hid (below_self HB.out hb1); have c6' := (hb1.cell (p := ⟨w.heap.size, 6, none⟩) (by simp)).trans c6; have d0' := (hb1.cell (p := ⟨b, off + k * 2, none⟩) HLt.out).trans d0; have d1' := (hb1.cell (p := ⟨b, off + k * 2 + 1, none⟩) HLt.out).trans d1; have hb3 := hb1.alloc hb1.size (.cells #[.int .i64 34, .int .i64 ar] 39); have g0 := (hb3.cell (p := ⟨w.heap.size, 0, none⟩) (by simp)).trans c0; have g1 := (hb3.cell (p := ⟨w.heap.size, 1, none⟩) (by simp)).trans c1; have g2 := (hb3.cell (p := ⟨w.heap.size, 2, none⟩) (by simp)).trans c2; have g3 := (hb3.cell (p := ⟨w.heap.size, 3, none⟩) (by simp)).trans c3; have g4 := (hb3.cell (p := ⟨w.heap.size, 4, none⟩) (by simp)).trans c4; have g5 := (hb3.cell (p := ⟨w.heap.size, 5, none⟩) (by simp)).trans c5; have g6 := (hb3.cell (p := ⟨w.heap.size, 6, none⟩) (by simp)).trans c6; have g7 := (hb3.cell (p := ⟨w.heap.size, 7, none⟩) (by simp)).trans c7; have g8 := (hb3.cell (p := ⟨w.heap.size, 8, none⟩) (by simp)).trans c8; have g9 := (hb3.cell (p := ⟨w.heap.size, 9, none⟩) (by simp)).trans c9; have g10 := (hb3.cell (p := ⟨w.heap.size, 10, none⟩) (by simp)).trans c10; clear hb3; clear c0 c1 c2 c3 c4 c5 c6 c7 c8 c9 c10 d0 d1 hb1) | (go_at_call 32; refine (HR.out ar _ (HB1.out.alloc HB1.out.size _)).mono ?_; rintro _ w2 ⟨u, rfl, hu, hb2⟩; have HU := Lib.hid hu; have HB2 := Lib.hid hb2; clear hu hb2))
    go_ret
    rw [HE.out]
    exact RowP.on ⟨u, rfl, HU.out, HB2.out⟩ (HB1.out.alloc HB1.out.size _)
  by_cases h25 : o = 25
  · subst h25
    have HE : Hid (Fw.next f k = []) := Lib.hid (by unfold Fw.next; rw [HOp.out.1, if_neg (by decide), if_neg (by decide), if_neg (by decide), if_pos (.inl rfl)])
    clear HOp h22 h21 h34
    go_enter Try.func15, Try.ntmps15
    go_wp2_with (first | (go_at_call 16; refine HH.mono ?_; rintro _ w1 ⟨rfl, hb1⟩; have HB1 := Lib.hid (below_self HB.out hb1); have c6' := (hb1.cell (p := ⟨w.heap.size, 6, none⟩) (by simp)).trans c6; have d0' := (hb1.cell (p := ⟨b, off + k * 2, none⟩) HLt.out).trans d0; have d1' := (hb1.cell (p := ⟨b, off + k * 2 + 1, none⟩) HLt.out).trans d1; clear c0 c1 c2 c3 c4 c5 c6 c7 c8 c9 c10 d0 d1 hb1))
    go_ret
    rw [HE.out]
    exact rowP_nil (HB1.out.alloc HB1.out.size _)
  by_cases h26 : o = 26
  · subst h26
    have HE : Hid (Fw.next f k = []) := Lib.hid (by unfold Fw.next; rw [HOp.out.1, if_neg (by decide), if_neg (by decide), if_neg (by decide), if_pos (.inr rfl)])
    clear HOp h22 h21 h34 h25
    go_enter Try.func15, Try.ntmps15
    go_wp2_with (first | (go_at_call 16; refine HH.mono ?_; rintro _ w1 ⟨rfl, hb1⟩; have HB1 := Lib.hid (below_self HB.out hb1); have c6' := (hb1.cell (p := ⟨w.heap.size, 6, none⟩) (by simp)).trans c6; have d0' := (hb1.cell (p := ⟨b, off + k * 2, none⟩) HLt.out).trans d0; have d1' := (hb1.cell (p := ⟨b, off + k * 2 + 1, none⟩) HLt.out).trans d1; clear c0 c1 c2 c3 c4 c5 c6 c7 c8 c9 c10 d0 d1 hb1))
    go_ret
    rw [HE.out]
    exact rowP_nil (HB1.out.alloc HB1.out.size _)
  have HE : Hid (Fw.next f k = [(k : Int) + 1]) := Lib.hid (by unfold Fw.next; rw [HOp.out.1, if_neg h22, if_neg h21, if_neg h34, if_neg (fun h => h.elim h25 h26)])
  have e22 : (o == 22) = false := beq_eq_false_iff_ne.2 h22
  have e21 : (o == 21) = false := beq_eq_false_iff_ne.2 h21
  have e34 : (o == 34) = false := beq_eq_false_iff_ne.2 h34
  have e25 : (o == 25) = false := beq_eq_false_iff_ne.2 h25
  have e26 : (o == 26) = false := beq_eq_false_iff_ne.2 h26
  clear HOp h22 h21 h34 h25 h26
  go_enter Try.func15, Try.ntmps15
  go_wp2_with (first | (go_at_call 16; refine HH.mono ?_; rintro _ w1 ⟨rfl, hb1⟩; have HB1 := Lib.hid (below_self HB.out hb1); have c6' := (hb1.cell (p := ⟨w.heap.size, 6, none⟩) (by simp)).trans c6; have d0' := (hb1.cell (p := ⟨b, off + k * 2, none⟩) HLt.out).trans d0; have d1' := (hb1.cell (p := ⟨b, off + k * 2 + 1, none⟩) HLt.out).trans d1; clear c0 c1 c2 c3 c4 c5 c6 c7 c8 c9 c10 d0 d1 hb1) | (at_builtin; refine wpList_append_q rfl rfl (.tmp 46) (.tmp 49) rfl (base := w.heap.size) (v := .slice none 0 0) rfl (Rq.nil _ _) rfl (ints_lit (by simp) _) (by have := HB1.out.size; simp; omega) (by simp) ?_; intro v1 w2 hq hg hl; have HQ := Lib.hid hq; have HB2 := Lib.hid (below_append (((HB1.out.alloc HB1.out.size _)).alloc (by have := HB1.out.size; simp; omega) _) (Rq.nil _ _) hg); clear hq hl))
  go_ret
  rw [HE.out]
  exact ⟨_, rfl, HQ.out, HB2.out⟩
end Go.Proofs.Ytngkjmghhoemgaa
