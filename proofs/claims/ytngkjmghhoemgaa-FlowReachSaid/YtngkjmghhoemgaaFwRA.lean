/-
  An instruction's node, what may come next of it, where an open's node goes on: the document's answers. Conditions: the function can be read; few of everything but the types.
-/
import Derived.Test.YtngkjmghhoemgaaFwA
import Derived.Test.YtngkjmghhoemgaaCanQ
namespace Go.Proofs.Ytngkjmghhoemgaa
open Go.RowKit

set_option maxRecDepth 100000 in
set_option maxHeartbeats 2000000 in
theorem rfwnode_any (v : FnV) (f : Fn.F) (k : Nat) (w : World) (h : FnOk w w.heap.size v f) (hf : v.Few) : Calls Try.prog 36 #[.agg v.cells, .int .i64 (k : Int)] w fun e w' => e = .returned (.int .i64 (Fw.node f k)) ∧ Below w.heap.size w w' := by
  have hb := (Below.refl w.heap.size w).alloc (Nat.le_refl _) (.cells v.cells 28)
  have HB := Lib.hid hb
  have hA := FnAt.new w v
  have c0 := hA.c0; have c1 := hA.c1; have c2 := hA.c2; have c3 := hA.c3; have c4 := hA.c4; have c5 := hA.c5; have c6 := hA.c6; have c7 := hA.c7; have c8 := hA.c8; have c9 := hA.c9; have c10 := hA.c10
  have HI := Lib.hid (h.on hb).at_.1
  have hl := h.n_at
  have HBa := rfnbare_any v hf (w.alloc (.cells v.cells 28))
  have hbare : v.bare = true → v.at_.n = 0 := fun e => by
    unfold FnV.bare at e
    simp only [Bool.and_eq_true, decide_eq_true_eq] at e
    omega
  clear h hb hA hf
  generalize v.bare = bb at HBa hbare
  obtain ⟨nm, inn, ⟨oa, on, oc⟩, ⟨pa, pn, pc⟩, ⟨ra, rn, rc⟩, ⟨la, ln, lc⟩, ⟨ca, cn, cc⟩, ⟨ia, i_n, ic⟩, ⟨na, nn, nc⟩, ⟨ta, tn, tc⟩, ⟨va, vn, vc⟩⟩ := v
  simp only at hl hbare
  cases bb with
  | true =>
    have h0 := hbare rfl
    have HE : Hid (Fw.node f k = 0) := Lib.hid (by unfold Fw.node; simp [List.getD, List.getElem?_eq_none (show f.at_.length ≤ k by omega)])
    clear hbare hl h0
    go_enter Try.func36, Try.ntmps36
    go_wp2_with (go_at_call 44; refine HBa.mono ?_; rintro _ w1 ⟨rfl, hb1⟩; have HB1 := Lib.hid (below_self HB.out hb1); clear hb1)
    go_ret
    rw [HE.out]
    exact ⟨rfl, HB1.out⟩
  | false =>
    clear hbare
    have dn : decide ((k : Int) < 0) = false := decide_eq_false (by omega)
    by_cases h1 : tn ≤ k
    · have d1 : decide (tn ≤ k) = true := decide_eq_true h1
      have HE : Hid (Fw.node f k = 0) := Lib.hid (by unfold Fw.node; simp [List.getD, List.getElem?_eq_none (show f.at_.length ≤ k by omega)])
      clear h1 hl
      go_enter Try.func36, Try.ntmps36
      go_wp2_with (go_at_call 44; refine HBa.mono ?_; rintro _ w1 ⟨rfl, hb1⟩; have HB1 := Lib.hid (below_self HB.out hb1); have c9' := (hb1.cell (p := ⟨w.heap.size, 9, none⟩) (by simp)).trans c9; clear c9 hb1)
      go_ret
      rw [HE.out]
      exact ⟨rfl, HB1.out⟩
    · have d1 : decide (tn ≤ k) = false := decide_eq_false h1
      obtain ⟨b, off, x, rfl, hlt, d0, hx, _⟩ := ints_cell HI.out (show k < tn by omega)
      have hk1 : (k : Int) < (tn : Int) := by omega
      have hk0 : k < tn := by omega
      have HE : Hid (Fw.node f k = x) := Lib.hid hx
      have HLt := Lib.hid hlt
      clear h1 hl hx HI hlt
      go_enter Try.func36, Try.ntmps36
      go_wp2_with (go_at_call 44; refine HBa.mono ?_; rintro _ w1 ⟨rfl, hb1⟩; have HB1 := Lib.hid (below_self HB.out hb1); have c9' := (hb1.cell (p := ⟨w.heap.size, 9, none⟩) (by simp)).trans c9; have d0' := (hb1.cell (p := ⟨b, off + k, none⟩) HLt.out).trans d0; clear c9 d0 hb1)
      go_ret
      rw [HE.out]
      exact ⟨rfl, HB1.out⟩

set_option maxRecDepth 100000 in
theorem rowP_lit2 {w wr : World} {x y : Int} {A : Nat} (hb : Below w.heap.size w wr) (hA : wr.heap.size = A) : RowP [x, y] w (.returned (.slice (some ⟨A, 0, none⟩) 2 2)) (wr.alloc (.cells #[.int .i64 x, .int .i64 y] 3)) := rowP_lit hb hA rfl rfl
set_option maxRecDepth 100000 in
theorem rowP_lit1 {w wr : World} {x : Int} {A : Nat} (hb : Below w.heap.size w wr) (hA : wr.heap.size = A) : RowP [x] w (.returned (.slice (some ⟨A, 0, none⟩) 1 1)) (wr.alloc (.cells #[.int .i64 x] 3)) := rowP_lit hb hA rfl rfl

set_option maxRecDepth 100000 in
set_option maxHeartbeats 8000000 in
theorem rfwnext_any (v : FnV) (f : Fn.F) (k : Nat) (w : World) (h : FnOk w w.heap.size v f) (hk : k < v.code.n) (hk2 : v.code.n ≤ 1000000) :
    Calls Try.prog 18 #[.agg v.cells, .int .i64 (k : Int)] w (RowP (Fw.next f k) w) := by
  have hb := (Below.refl w.heap.size w).alloc (Nat.le_refl _) (.cells v.cells 28)
  have HB := Lib.hid hb
  have c6 := (FnAt.new w v).c6
  have c8 := (FnAt.new w v).c8
  have HNd := Lib.hid (h.on hb).nodes.1
  have hnl := h.n_nodes
  obtain ⟨b, off, y, hca, hlt, hy, _, d0, d1⟩ := pairs_cell (h.on hb).code.1 hk
  have hop : Fw.op f k = y.1 := by unfold Fw.op; rw [hy]
  have harg : Fw.arg f k = y.2 := by unfold Fw.arg; rw [hy]
  have HLt := Lib.hid hlt
  clear h hb hy hlt
  obtain ⟨nm, inn, ⟨oa, on, oc⟩, ⟨pa, pn, pc⟩, ⟨ra, rn, rc⟩, ⟨la, ln, lc⟩, ⟨ca, cn, cc⟩, ⟨ia, i_n, ic⟩, ⟨na, nn, nc⟩, ⟨ta, tn, tc⟩, ⟨va, vn, vc⟩⟩ := v
  simp only at hca hk hk2 hnl
  subst hca
  obtain ⟨o, ar⟩ := y
  simp only at hop harg d0 d1
  have hk1 : (k : Int) < (cn : Int) := by omega
  have dn : decide ((k : Int) < 0) = false := decide_eq_false (by omega)
  have dk : decide (cn ≤ k) = false := decide_eq_false (by omega)
  have HOp := Lib.hid (And.intro hop harg)
  have HKa : Hid ((k : Int) + 1 ≤ 1000000) := Lib.hid (by omega)
  clear hop harg hk2
  have hw : wrap64 ((k : Int) + 1) = (k : Int) + 1 := by have := HKa.out; unfold wrap64; omega
  by_cases h21 : o = 21
  · subst h21
    have HE : Hid (Fw.next f k = [ar]) := Lib.hid (by unfold Fw.next; rw [HOp.out.1, HOp.out.2, if_neg (by decide), if_pos rfl])
    clear HOp
    go_enter Try.func18, Try.ntmps18
    go_wp2
    go_ret
    rw [HE.out]
    exact rowP_lit1 (HB.out.alloc HB.out.size (.cells #[.int .i64 21, .int .i64 ar] 39)) (by simp)
  have e21 : (o == 21) = false := beq_eq_false_iff_ne.2 h21
  by_cases h22 : o = 22
  · subst h22
    by_cases ha : ar = (k : Int) + 1
    · subst ha
      have e1 : ((k : Int) + 1 != (k : Int) + 1) = false := by simp
      have HE : Hid (Fw.next f k = [(k : Int) + 1]) := Lib.hid (by unfold Fw.next; rw [HOp.out.1, HOp.out.2, if_pos rfl, if_pos rfl])
      clear HOp h21
      go_enter Try.func18, Try.ntmps18
      go_wp2
      go_ret
      rw [HE.out]
      exact rowP_lit1 (HB.out.alloc HB.out.size (.cells #[.int .i64 22, .int .i64 ((k : Int) + 1)] 39)) (by simp)
    · have e1 : (ar != (k : Int) + 1) = true := by simp [ha]
      have HE : Hid (Fw.next f k = [(k : Int) + 1, ar]) := Lib.hid (by unfold Fw.next; rw [HOp.out.1, HOp.out.2, if_pos rfl, if_neg ha])
      clear HOp ha h21
      go_enter Try.func18, Try.ntmps18
      go_wp2
      go_ret
      rw [HE.out]
      exact rowP_lit2 (HB.out.alloc HB.out.size (.cells #[.int .i64 22, .int .i64 ar] 39)) (by simp)
  have e22 : (o == 22) = false := beq_eq_false_iff_ne.2 h22
  by_cases h25 : o = 25
  · subst h25
    have HE : Hid (Fw.next f k = []) := Lib.hid (by unfold Fw.next; rw [HOp.out.1, if_neg (by decide), if_neg (by decide), if_neg (by decide), if_pos (.inl rfl)])
    clear HOp h22 h21
    go_enter Try.func18, Try.ntmps18
    go_wp2
    go_ret
    rw [HE.out]
    exact rowP_nil (HB.out.alloc HB.out.size (.cells #[.int .i64 25, .int .i64 ar] 39))
  have e25 : (o == 25) = false := beq_eq_false_iff_ne.2 h25
  by_cases h26 : o = 26
  · subst h26
    have HE : Hid (Fw.next f k = []) := Lib.hid (by unfold Fw.next; rw [HOp.out.1, if_neg (by decide), if_neg (by decide), if_neg (by decide), if_pos (.inr rfl)])
    clear HOp h22 h21 h25
    go_enter Try.func18, Try.ntmps18
    go_wp2
    go_ret
    rw [HE.out]
    exact rowP_nil (HB.out.alloc HB.out.size (.cells #[.int .i64 26, .int .i64 ar] 39))
  have e26 : (o == 26) = false := beq_eq_false_iff_ne.2 h26
  by_cases h34 : o = 34
  · subst h34
    have HE : Hid (Fw.next f k = Fw.resume f ar) := Lib.hid (by unfold Fw.next; rw [HOp.out.1, HOp.out.2, if_neg (by decide), if_neg (by decide), if_pos rfl])
    clear HOp h22 h21 h25 h26
    have hb3 := (Below.refl (w.alloc (.cells (FnV.cells ⟨nm, inn, ⟨oa, on, oc⟩, ⟨pa, pn, pc⟩, ⟨ra, rn, rc⟩, ⟨la, ln, lc⟩, ⟨some ⟨b, off, none⟩, cn, cc⟩, ⟨ia, i_n, ic⟩, ⟨na, nn, nc⟩, ⟨ta, tn, tc⟩, ⟨va, vn, vc⟩⟩) 28)).heap.size _).alloc (Nat.le_refl _) (.cells #[.int .i64 34, .int .i64 ar] 39)
    have c8' := (hb3.cell (p := ⟨w.heap.size, 8, none⟩) (by simp)).trans c8
    by_cases ha0 : ar < 1
    · have q0 : decide (ar < 1) = true := decide_eq_true ha0
      have HE2 : Hid (Fw.resume f ar = []) := Lib.hid (if_neg (by omega))
      clear ha0 hb3
      go_enter Try.func18, Try.ntmps18
      go_wp2
      go_ret
      rw [HE.out, HE2.out]
      exact rowP_nil (HB.out.alloc HB.out.size (.cells #[.int .i64 34, .int .i64 ar] 39))
    · have q0 : decide (ar < 1) = false := decide_eq_false ha0
      by_cases ha1 : (nn : Int) ≤ ar
      · have q1 : decide ((nn : Int) ≤ ar) = true := decide_eq_true ha1
        have HE2 : Hid (Fw.resume f ar = []) := Lib.hid (if_neg (by omega))
        clear ha0 ha1 hb3
        go_enter Try.func18, Try.ntmps18
        go_wp2
        go_ret
        rw [HE.out, HE2.out]
        exact rowP_nil (HB.out.alloc HB.out.size (.cells #[.int .i64 34, .int .i64 ar] 39))
      · obtain ⟨i, rfl⟩ : ∃ i : Nat, ar = (i : Int) := ⟨ar.toNat, by omega⟩
        obtain ⟨b2, off2, z, rfl, hlt2, hz, _, _, _, _, _, _, _, d6⟩ := nodes_cell HNd.out (show i < nn by omega)
        have d6' := (hb3.cell (p := ⟨b2, off2 + i * 7 + 6, none⟩) hlt2).trans d6
        have HE2 : Hid (Fw.resume f (i : Int) = [z.r]) := Lib.hid (by unfold Fw.resume; rw [if_pos (by omega), Int.toNat_natCast, hz])
        have q1 : decide (nn ≤ i) = false := decide_eq_false (by omega)
        have hi1 : i < nn := by omega
        have hi2 : (i : Int) < (nn : Int) := by omega
        have hne : ¬ i = 0 := by omega
        have h1i : (1 : Int) ≤ (i : Int) := by omega
        have q1i : decide ((nn : Int) ≤ (i : Int)) = false := decide_eq_false (by omega)
        have q0n : decide (i = 0) = false := decide_eq_false hne
        clear ha0 ha1 hb3 hz hlt2 d6 hnl
        go_enter Try.func18, Try.ntmps18
        go_wp2
        go_ret
        rw [HE.out, HE2.out]
        exact rowP_lit1 (HB.out.alloc HB.out.size (.cells #[.int .i64 34, .int .i64 (i : Int)] 39)) (by simp)
  have e34 : (o == 34) = false := beq_eq_false_iff_ne.2 h34
  have HE : Hid (Fw.next f k = [(k : Int) + 1]) := Lib.hid (by unfold Fw.next; rw [HOp.out.1, if_neg h22, if_neg h21, if_neg h34, if_neg (fun h => h.elim h25 h26)])
  clear HOp h22 h21 h25 h26 h34
  go_enter Try.func18, Try.ntmps18
  go_wp2
  go_ret
  rw [HE.out]
  exact rowP_lit1 (HB.out.alloc HB.out.size (.cells #[.int .i64 o, .int .i64 ar] 39)) (by simp)
end Go.Proofs.Ytngkjmghhoemgaa
