/-
  Whether an instruction is there, its node, where a node ends, where an open's body ends: the program's answers. Conditions: the function can be read; few of everything but the types.
-/
import Derived.Test.YtngkjmghhoemgaaFwRow
import Derived.Test.YtngkjmghhoemgaaFwMath
import Derived.Test.YtngkjmghhoemgaaCanQ
import Derived.Test.YtngkjmghhoemgaaSiOp
import Derived.BigQuiet
import Derived.Deep.RegionWith
namespace Go.Proofs.Ytngkjmghhoemgaa
open Go.RowKit

/-- Numbers are told, in memory of the call's own. -/
def RowP (l : List Int) (w : World) (e : Ending) (w' : World) : Prop := ∃ u, e = .returned u ∧ Rq w' w.heap.size u l ∧ Below w.heap.size w w'
theorem rowP_nil {w w' : World} (hb : Below w.heap.size w w') : RowP [] w (.returned (.slice none 0 0)) w' := ⟨_, rfl, Rq.nil _ _, hb⟩
set_option maxRecDepth 100000 in
theorem rowP_lit {w wr : World} {l : List Int} {A n : Nat} {cs : Array Value} (hb : Below w.heap.size w wr) (hA : wr.heap.size = A) (hn : l.length = n) (hc : (vs l).toArray = cs) : RowP l w (.returned (.slice (some ⟨A, 0, none⟩) n n)) (wr.alloc (.cells cs 3)) := by
  subst hA hn hc
  exact ⟨_, rfl, Rq.lit wr _ l hb.size, hb.alloc hb.size _⟩
theorem RowP.on {l : List Int} {w W w' : World} {e : Ending} (h : RowP l W e w') (hb : Below w.heap.size w W) : RowP l w e w' := by
  obtain ⟨u, he, hu, h1⟩ := h
  exact ⟨u, he, hu.more hb.size, below_self hb h1⟩
theorem RowP.ret {l l' : List Int} {w w' : World} {e : Ending} (h : RowP l w e w') (hl : l = l') : RowP l' w e w' := hl ▸ h

set_option maxRecDepth 100000 in
theorem fwhas_any (v : FnV) (x : Int) (w : World) : Calls Try.prog 16 #[.agg v.cells, .int .i64 x] w (BoolP (decide (0 ≤ x ∧ x < (v.code.n : Int))) w) := by
  have HB := Lib.hid ((Below.refl w.heap.size w).alloc (Nat.le_refl _) (.cells v.cells 28))
  have c6 := (FnAt.new w v).c6
  obtain ⟨nm, inn, ⟨oa, on, oc⟩, ⟨pa, pn, pc⟩, ⟨ra, rn, rc⟩, ⟨la, ln, lc⟩, ⟨ca, cn, cc⟩, ⟨ia, i_n, ic⟩, ⟨na, nn, nc⟩, ⟨ta, tn, tc⟩, ⟨va, vn, vc⟩⟩ := v
  by_cases h0 : 0 ≤ x
  · have d0 : decide (0 ≤ x) = true := decide_eq_true h0
    rw [show decide (0 ≤ x ∧ x < (cn : Int)) = decide (x < (cn : Int)) by rw [Bool.eq_iff_iff]; simp [h0]]
    clear h0
    go_enter Try.func16, Try.ntmps16
    go_wp2
    go_ret
    exact ⟨rfl, HB.out⟩
  · have d0 : decide (0 ≤ x) = false := decide_eq_false h0
    rw [show decide (0 ≤ x ∧ x < (cn : Int)) = false from decide_eq_false (fun h => h0 h.1)]
    clear h0
    go_enter Try.func16, Try.ntmps16
    go_wp2
    go_ret
    exact ⟨rfl, HB.out⟩

set_option maxRecDepth 100000 in
set_option maxHeartbeats 2000000 in
theorem fwresume_any (v : FnV) (f : Fn.F) (x : Int) (w : World) (h : FnOk w w.heap.size v f) : Calls Try.prog 32 #[.agg v.cells, .int .i64 x] w (RowP (Fw.resume f x) w) := by
  have hb := (Below.refl w.heap.size w).alloc (Nat.le_refl _) (.cells v.cells 28)
  have HB := Lib.hid hb
  have c8 := (FnAt.new w v).c8
  have HN := Lib.hid (h.on hb).nodes.1
  have hl := h.n_nodes
  clear h hb
  obtain ⟨nm, inn, ⟨oa, on, oc⟩, ⟨pa, pn, pc⟩, ⟨ra, rn, rc⟩, ⟨la, ln, lc⟩, ⟨ca, cn, cc⟩, ⟨ia, i_n, ic⟩, ⟨na, nn, nc⟩, ⟨ta, tn, tc⟩, ⟨va, vn, vc⟩⟩ := v
  simp only at hl
  by_cases h0 : x ≤ 0
  · have HE : Hid (Fw.resume f x = []) := Lib.hid (if_neg (by omega))
    have d0 : decide (x ≤ 0) = true := decide_eq_true h0
    clear h0 hl
    go_enter Try.func32, Try.ntmps32
    go_wp2
    go_ret
    rw [HE.out]
    exact rowP_nil HB.out
  · have d0 : decide (x ≤ 0) = false := decide_eq_false h0
    by_cases h1 : (nn : Int) ≤ x
    · have HE : Hid (Fw.resume f x = []) := Lib.hid (if_neg (by omega))
      have d1 : decide ((nn : Int) ≤ x) = true := decide_eq_true h1
      clear h0 h1 hl
      go_enter Try.func32, Try.ntmps32
      go_wp2
      go_ret
      rw [HE.out]
      exact rowP_nil HB.out
    · obtain ⟨k, rfl⟩ : ∃ k : Nat, x = (k : Int) := ⟨x.toNat, by omega⟩
      have d1 : decide ((nn : Int) ≤ (k : Int)) = false := decide_eq_false h1
      obtain ⟨b, off, y, rfl, hlt, hy, _, _, _, _, _, _, _, d6⟩ := nodes_cell HN.out (show k < nn by omega)
      have HE : Hid (Fw.resume f (k : Int) = [y.r]) := Lib.hid (by unfold Fw.resume; rw [if_pos (by omega), Int.toNat_natCast, hy])
      have hk1 : (k : Int) < (nn : Int) := by omega
      have hk0 : k < nn := by omega
      have hne : ¬ k = 0 := by omega
      clear h0 h1 hl hy hlt HN d0
      go_enter Try.func32, Try.ntmps32
      go_wp2
      go_ret
      rw [HE.out]
      exact rowP_lit HB.out (by simp) rfl rfl

set_option maxRecDepth 100000 in
set_option maxHeartbeats 2000000 in
theorem fwnode_any (v : FnV) (f : Fn.F) (k : Nat) (w : World) (h : FnOk w w.heap.size v f) (hk : k < v.code.n) : Calls Try.prog 39 #[.agg v.cells, .int .i64 (k : Int)] w fun e w' => e = .returned (.int .i64 (Fw.node f k)) ∧ Below w.heap.size w w' := by
  have hb := (Below.refl w.heap.size w).alloc (Nat.le_refl _) (.cells v.cells 28)
  have HB := Lib.hid hb
  have hA := FnAt.new w v
  have c0 := hA.c0; have c1 := hA.c1; have c2 := hA.c2; have c3 := hA.c3; have c4 := hA.c4; have c5 := hA.c5; have c6 := hA.c6; have c7 := hA.c7; have c8 := hA.c8; have c9 := hA.c9; have c10 := hA.c10
  have HI := Lib.hid (h.on hb).at_.1
  have hl := h.n_at
  have HH := fwhas_any v (k : Int) (w.alloc (.cells v.cells 28))
  rw [decide_eq_true (show 0 ≤ (k : Int) ∧ (k : Int) < (v.code.n : Int) by omega)] at HH
  clear h hb hk hA
  obtain ⟨nm, inn, ⟨oa, on, oc⟩, ⟨pa, pn, pc⟩, ⟨ra, rn, rc⟩, ⟨la, ln, lc⟩, ⟨ca, cn, cc⟩, ⟨ia, i_n, ic⟩, ⟨na, nn, nc⟩, ⟨ta, tn, tc⟩, ⟨va, vn, vc⟩⟩ := v
  simp only at hl
  by_cases h1 : tn ≤ k
  · have d1 : decide (tn ≤ k) = true := decide_eq_true h1
    have HE : Hid (Fw.node f k = 0) := Lib.hid (by unfold Fw.node; simp [List.getD, List.getElem?_eq_none (show f.at_.length ≤ k by omega)])
    clear h1 hl
    go_enter Try.func39, Try.ntmps39
    go_wp2_with (go_at_call 16; refine HH.mono ?_; rintro _ w1 ⟨rfl, hb1⟩; have HB1 := Lib.hid (below_self HB.out hb1); have c9' := (hb1.cell (p := ⟨w.heap.size, 9, none⟩) (by simp)).trans c9; clear c9 hb1)
    go_ret
    rw [HE.out]
    exact ⟨rfl, HB1.out⟩
  · have d1 : decide (tn ≤ k) = false := decide_eq_false h1
    obtain ⟨b, off, x, rfl, hlt, d0, hx, _⟩ := ints_cell HI.out (show k < tn by omega)
    have hk1 : (k : Int) < (tn : Int) := by omega
    have hk0 : k < tn := by omega
    have HE : Hid (Fw.node f k = x) := Lib.hid hx
    have HLt := Lib.hid hlt
    clear h1 hl hx HI hlt
    go_enter Try.func39, Try.ntmps39
    go_wp2_with (go_at_call 16; refine HH.mono ?_; rintro _ w1 ⟨rfl, hb1⟩; have HB1 := Lib.hid (below_self HB.out hb1); have c9' := (hb1.cell (p := ⟨w.heap.size, 9, none⟩) (by simp)).trans c9; have d0' := (hb1.cell (p := ⟨b, off + k, none⟩) HLt.out).trans d0; clear c9 d0 hb1)
    go_ret
    rw [HE.out]
    exact ⟨rfl, HB1.out⟩

set_option maxRecDepth 100000 in
set_option maxHeartbeats 2000000 in
theorem fwopens_any (v : FnV) (f : Fn.F) (k : Nat) (w : World) (h : FnOk w w.heap.size v f) (hk : k < v.code.n) :
    Calls Try.prog 23 #[.agg v.cells, .int .i64 (k : Int)] w (RowP (Fw.opens f k) w) := by
  have hb := (Below.refl w.heap.size w).alloc (Nat.le_refl _) (.cells v.cells 28)
  have HB := Lib.hid hb
  have hA := FnAt.new w v
  have c0 := hA.c0; have c1 := hA.c1; have c2 := hA.c2; have c3 := hA.c3; have c4 := hA.c4; have c5 := hA.c5; have c6 := hA.c6; have c7 := hA.c7; have c8 := hA.c8; have c9 := hA.c9; have c10 := hA.c10
  have HR := Lib.hid (fun (x : Int) (W : World) (hw : Below w.heap.size w W) => fwresume_any v f x W (h.on hw))
  obtain ⟨b, off, y, hca, hlt, hy, _, d0, d1⟩ := pairs_cell (h.on hb).code.1 hk
  have hop : Fw.op f k = y.1 := by unfold Fw.op; rw [hy]
  have harg : Fw.arg f k = y.2 := by unfold Fw.arg; rw [hy]
  clear h hb hy hlt
  obtain ⟨nm, inn, ⟨oa, on, oc⟩, ⟨pa, pn, pc⟩, ⟨ra, rn, rc⟩, ⟨la, ln, lc⟩, ⟨ca, cn, cc⟩, ⟨ia, i_n, ic⟩, ⟨na, nn, nc⟩, ⟨ta, tn, tc⟩, ⟨va, vn, vc⟩⟩ := v
  simp only at hca hk
  subst hca
  obtain ⟨o, ar⟩ := y
  simp only at hop harg d0 d1
  have hk1 : (k : Int) < (cn : Int) := by omega
  by_cases h1 : o = 33
  · subst h1
    have HE : Hid (Fw.opens f k = Fw.resume f ar) := Lib.hid (by unfold Fw.opens; rw [hop, harg, if_pos rfl])
    clear hop harg
    have HR1 := Lib.hid (HR.out ar)
    have mixed : Try.prog.follows .mixedOrders = true := by kernel_rfl
    clear hA
    go_enter Try.func23, Try.ntmps23
    go_wp2
    go_region_with (go_at_call 32; refine (HR1.out _ HB.out.drew).mono ?_; rintro _ w1 ⟨u, rfl, hu, hb1⟩)
    all_goals (go_wp2; go_ret; rw [HE.out]; exact RowP.on ⟨u, rfl, hu, hb1⟩ HB.out.drew)
  · have e1 : (o == 33) = false := beq_eq_false_iff_ne.2 h1
    have e2 : (o != 33) = true := by unfold bne; rw [e1]; rfl
    have HE : Hid (Fw.opens f k = []) := Lib.hid (by unfold Fw.opens; rw [hop, if_neg h1])
    clear hop harg h1
    go_enter Try.func23, Try.ntmps23
    go_wp2
    go_ret
    rw [HE.out]
    exact rowP_nil HB.out
end Go.Proofs.Ytngkjmghhoemgaa
