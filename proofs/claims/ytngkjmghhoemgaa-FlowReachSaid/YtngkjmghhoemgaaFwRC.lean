/-
  Where an open's node goes on, where a run may go on behind a panic: the document's answers. Conditions: the function can be read, and laid; few of everything but the types.
-/
import Derived.Test.YtngkjmghhoemgaaFwRA
import Derived.Test.YtngkjmghhoemgaaFwUp
import Derived.Test.YtngkjmghhoemgaaInBB
import Derived.Deep.RegionWith
import Derived.Deep.RegionLaw
namespace Go.Proofs.Ytngkjmghhoemgaa
open Go.RowKit

set_option maxRecDepth 100000 in
theorem step_append_q {P : Program} {w : World} {ops : Array Oper} {o : Oper} {a : Act} {K : Act → World → Prop} {Q : Exit → Act → World → Prop} {E : Prop} (hP : P = Try.prog) (hgd : o.guard = none) (s x : Operand)
    (ho : o.op = .call { callee := .builtin .append, args := #[s, x], argTypes := #[24, 24] })
    {base : Nat} {v : Value} {l : List Int} (hs : a.eval s = v) (h : Rq w base v l) {B m c : Nat} {A : Option Addr} {k : List Int} (hx : a.eval x = .slice A m c) (hi : IntsAt w B A m k) (hb : base ≤ w.heap.size) (hl : l.length + m ≤ 1099511627776)
    (hK : ∀ v' w', Rq w' base v' (l ++ k) → w.grownBy w' v.ownBlock → (v'.ownBlock = v.ownBlock ∨ v'.ownBlock = some w.heap.size) → K (a.put o.dst v') w') :
    if Region.wanted o (yielded ops a.tmps) = true then Oper.wp P o a w K Q else E := by
  have hw : Region.wanted o (yielded ops a.tmps) = true := by simp [Region.wanted, hgd]
  rw [if_pos hw]
  exact wp_append_q hP s x ho hs h hx hi hb hl hK

set_option maxRecDepth 100000 in
set_option maxHeartbeats 8000000 in
theorem rfwopens_any (v : FnV) (f : Fn.F) (k : Nat) (w : World) (h : FnOk w w.heap.size v f) (hk : k < v.code.n) :
    Calls Try.prog 20 #[.agg v.cells, .int .i64 (k : Int)] w (RowP (Fw.opens f k) w) := by
  have hb := (Below.refl w.heap.size w).alloc (Nat.le_refl _) (.cells v.cells 28)
  have HB := Lib.hid hb
  have c6 := (FnAt.new w v).c6
  have c8 := (FnAt.new w v).c8
  have HNd := Lib.hid (h.on hb).nodes.1
  have hnl := h.n_nodes
  obtain ⟨b, off, y, hca, hlt, hy, _, d0, d1⟩ := pairs_cell (h.on hb).code.1 hk
  have hop : Fw.op f k = y.1 := by unfold Fw.op; rw [hy]
  have harg : Fw.arg f k = y.2 := by unfold Fw.arg; rw [hy]
  clear h hb hy hlt
  obtain ⟨nm, inn, ⟨oa, on, oc⟩, ⟨pa, pn, pc⟩, ⟨ra, rn, rc⟩, ⟨la, ln, lc⟩, ⟨ca, cn, cc⟩, ⟨ia, i_n, ic⟩, ⟨na, nn, nc⟩, ⟨ta, tn, tc⟩, ⟨va, vn, vc⟩⟩ := v
  simp only at hca hk hnl
  subst hca
  obtain ⟨o, ar⟩ := y
  simp only at hop harg d0 d1
  have hk1 : (k : Int) < (cn : Int) := by omega
  have HOp := Lib.hid (And.intro hop harg)
  clear hop harg
  by_cases h33 : o = 33
  · subst h33
    have HE : Hid (Fw.opens f k = Fw.resume f ar) := Lib.hid (by unfold Fw.opens; rw [HOp.out.1, HOp.out.2, if_pos rfl])
    clear HOp
    have hb3 := (Below.refl (w.alloc (.cells (FnV.cells ⟨nm, inn, ⟨oa, on, oc⟩, ⟨pa, pn, pc⟩, ⟨ra, rn, rc⟩, ⟨la, ln, lc⟩, ⟨some ⟨b, off, none⟩, cn, cc⟩, ⟨ia, i_n, ic⟩, ⟨na, nn, nc⟩, ⟨ta, tn, tc⟩, ⟨va, vn, vc⟩⟩) 28)).heap.size _).alloc (Nat.le_refl _) (.cells #[.int .i64 33, .int .i64 ar] 39)
    have c8' := (hb3.cell (p := ⟨w.heap.size, 8, none⟩) (by simp)).trans c8
    by_cases ha0 : 0 < ar
    · by_cases ha1 : ar < (nn : Int)
      · obtain ⟨i, rfl⟩ : ∃ i : Nat, ar = (i : Int) := ⟨ar.toNat, by omega⟩
        obtain ⟨b2, off2, z, rfl, hlt2, hz, _, _, _, _, _, _, _, d6⟩ := nodes_cell HNd.out (show i < nn by omega)
        have d6' := (hb3.cell (p := ⟨b2, off2 + i * 7 + 6, none⟩) hlt2).trans d6
        have HE2 : Hid (Fw.resume f (i : Int) = [z.r]) := Lib.hid (by unfold Fw.resume; rw [if_pos (by omega), Int.toNat_natCast, hz])
        have q0 : decide ((0 : Int) < (i : Int)) = true := decide_eq_true ha0
        have hi0 : 0 < i := by omega
        have q0n : decide (0 < i) = true := decide_eq_true hi0
        have hi1 : i < nn := by omega
        have hi2 : (i : Int) < (nn : Int) := by omega
        have hne : ¬ i = 0 := by omega
        clear ha0 ha1 hb3 hz hlt2 d6 hnl
        go_enter Try.func20, Try.ntmps20
        go_wp2
        go_ret
        rw [HE.out, HE2.out]
        exact rowP_lit1 (HB.out.alloc HB.out.size (.cells #[.int .i64 33, .int .i64 (i : Int)] 39)) (by simp)
      · have q0 : decide (0 < ar) = true := decide_eq_true ha0
        have q1 : decide (ar < (nn : Int)) = false := decide_eq_false ha1
        have HE2 : Hid (Fw.resume f ar = []) := Lib.hid (if_neg (by omega))
        clear ha1 hb3 hnl
        go_enter Try.func20, Try.ntmps20
        go_wp2
        go_ret
        rw [HE.out, HE2.out]
        exact rowP_nil (HB.out.alloc HB.out.size (.cells #[.int .i64 33, .int .i64 ar] 39))
    · have q0 : decide (0 < ar) = false := decide_eq_false ha0
      have HE2 : Hid (Fw.resume f ar = []) := Lib.hid (if_neg (by omega))
      clear ha0 hb3 hnl
      go_enter Try.func20, Try.ntmps20
      go_wp2
      go_ret
      rw [HE.out, HE2.out]
      exact rowP_nil (HB.out.alloc HB.out.size (.cells #[.int .i64 33, .int .i64 ar] 39))
  · have e1 : (o == 33) = false := beq_eq_false_iff_ne.2 h33
    have HE : Hid (Fw.opens f k = []) := Lib.hid (by unfold Fw.opens; rw [HOp.out.1, if_neg h33])
    clear HOp h33
    go_enter Try.func20, Try.ntmps20
    go_wp2
    go_ret
    rw [HE.out]
    exact rowP_nil (HB.out.alloc HB.out.size (.cells #[.int .i64 o, .int .i64 ar] 39))

set_option maxRecDepth 100000 in
set_option maxHeartbeats 16000000 in
theorem rfwcatch_any (v : FnV) (f : Fn.F) (k : Nat) (w : World) (h : FnOk w w.heap.size v f) (hf : v.Few) (hcan : f.can = 0) (hk : k < v.code.n) (hnn : v.nodes.n ≤ 1000000) :
    Calls Try.prog 19 #[.agg v.cells, .int .i64 (k : Int)] w (RowP (Fw.catch_ f k) w) := by
  have mixed : Try.prog.follows .mixedOrders = true := by kernel_rfl
  have hb := (Below.refl w.heap.size w).alloc (Nat.le_refl _) (.cells v.cells 28)
  have HB := Lib.hid hb
  have hA := FnAt.new w v
  have c0 := hA.c0; have c1 := hA.c1; have c2 := hA.c2; have c3 := hA.c3; have c4 := hA.c4; have c5 := hA.c5; have c6 := hA.c6; have c7 := hA.c7; have c8 := hA.c8; have c9 := hA.c9; have c10 := hA.c10
  have HNode := Lib.hid (fun (W : World) (hx : Below w.heap.size w W) => rfwnode_any v f k W (h.on hx) hf)
  have HUp := Lib.hid (fun (W : World) (hx : Below w.heap.size w W) => rtrup_all v.nodes.a v.nodes.n v.nodes.c f (Fw.node f k) W (h.on hx).nodes.1 hcan)
  have HNd := Lib.hid (h.on hb).nodes.1
  have HNl := Lib.hid h.n_nodes
  obtain ⟨b, off, y, hca, hlt, hy, _, d0, _⟩ := pairs_cell (h.on hb).code.1 hk
  have hop : Fw.op f k = y.1 := by unfold Fw.op; rw [hy]
  have HRz := Lib.hid (fun W => rraises_any y.1 W)
  have HLen : Hid ((Tr.ups f.nodes (Fw.node f k)).length ≤ 1000001) := Lib.hid (by
    have h1 := Tr.up_len f.nodes (f.nodes.length + 1) (Fw.node f k)
    have h2 := h.n_nodes
    unfold Tr.ups
    omega)
  have HUb : Hid (∀ x ∈ Tr.ups f.nodes (Fw.node f k), 0 ≤ x ∧ x < (f.nodes.length : Int)) := Lib.hid (Tr.up_bound f.nodes _ _)
  clear h hf hcan hb hy hlt hnn
  obtain ⟨nm, inn, ⟨oa, on, oc⟩, ⟨pa, pn, pc⟩, ⟨ra, rn, rc⟩, ⟨la, ln, lc⟩, ⟨ca, cn, cc⟩, ⟨ia, i_n, ic⟩, ⟨na, nn, nc⟩, ⟨ta, tn, tc⟩, ⟨va, vn, vc⟩⟩ := v
  simp only at hca hk HNl HNd
  subst hca
  obtain ⟨o, ar⟩ := y
  simp only at hop d0 HRz
  have HC := Lib.hid (And.intro c0 (And.intro c1 (And.intro c2 (And.intro c3 (And.intro c4 (And.intro c5 (And.intro c6 (And.intro c7 (And.intro c8 (And.intro c9 c10))))))))))
  have hk1 : (k : Int) < (cn : Int) := by omega
  have dn : decide ((k : Int) < 0) = false := decide_eq_false (by omega)
  have dk : decide (cn ≤ k) = false := decide_eq_false (by omega)
  cases hr : (Op.row o).raises with
  | false =>
    have HE : Hid (Fw.catch_ f k = []) := Lib.hid (by unfold Fw.catch_; rw [hop, hr]; rfl)
    rw [hr] at HRz
    clear hop hr hA HLen HUb
    go_enter Try.func19, Try.ntmps19
    go_wp2_with (go_at_call 34; refine (HRz.out _).mono ?_; rintro _ w2 ⟨rfl, he⟩; obtain rfl := he.symm)
    go_ret
    rw [HE.out]
    exact rowP_nil HB.out
  | true =>
    have HE : Hid (Fw.catch_ f k = Fw.caught f (Tr.ups f.nodes (Fw.node f k))) := Lib.hid (by unfold Fw.catch_; rw [hop, hr]; rfl)
    rw [hr] at HRz
    clear hop hr hA
    generalize Tr.ups f.nodes (Fw.node f k) = us at *
    go_enter Try.func19, Try.ntmps19
    go_wp2_with (go_at_call 34; refine (HRz.out _).mono ?_; rintro _ w2 ⟨rfl, he⟩; obtain rfl := he.symm)
    go_region_with (first | (go_at_call 36; refine (HNode.out _ HB.out.drew).mono ?_; rintro _ w3 ⟨rfl, hb3⟩; have HB3 := Lib.hid (below_self (Below.drew (Below.refl (w.alloc (.cells (FnV.cells ⟨nm, inn, ⟨oa, on, oc⟩, ⟨pa, pn, pc⟩, ⟨ra, rn, rc⟩, ⟨la, ln, lc⟩, ⟨some ⟨b, off, none⟩, cn, cc⟩, ⟨ia, i_n, ic⟩, ⟨na, nn, nc⟩, ⟨ta, tn, tc⟩, ⟨va, vn, vc⟩⟩) 28)).heap.size (w.alloc (.cells (FnV.cells ⟨nm, inn, ⟨oa, on, oc⟩, ⟨pa, pn, pc⟩, ⟨ra, rn, rc⟩, ⟨la, ln, lc⟩, ⟨some ⟨b, off, none⟩, cn, cc⟩, ⟨ia, i_n, ic⟩, ⟨na, nn, nc⟩, ⟨ta, tn, tc⟩, ⟨va, vn, vc⟩⟩) 28)))) hb3); have k8 := (hb3.cell (p := ⟨w.heap.size, 8, none⟩) (by simp)).trans c8; clear hb3) | (go_at_call 35; refine (HUp.out _ (HB.out.trans (HB3.out.mono (by simp)))).mono ?_; rintro _ w4 ⟨A, cA, rfl, hi4, hb4⟩; have HI4 := Lib.hid hi4; have HB4 := Lib.hid (below_self HB3.out hb4); clear hi4 hb4))
    all_goals (simp only [Exit.then, Act.put, List.getElem_toArray, List.getElem_cons_succ, List.getElem_cons_zero, List.setIfInBounds_toArray, List.set_cons_succ, List.set_cons_zero])
    all_goals go_wp2
    all_goals go_loopw [5, 7] (fun cv i wr => ∃ j : Nat, i = .int .i64 (j : Int) ∧ j ≤ us.length ∧ Rq wr w4.heap.size cv (Fw.caught f (us.take j)) ∧ Below w4.heap.size w4 wr) (fun _ i _ => us.length - (intOf i).toNat)
    all_goals first | (exact ⟨0, rfl, Nat.zero_le _, Rq.nil _ _, Below.refl _ _⟩) | skip
    all_goals
      obtain ⟨j, rfl, hj, hq, hB⟩ := hrel
      have HQ := Lib.hid hq
      have HB5 := Lib.hid hB
      clear hq hB
      by_cases hjl : j < us.length
      · have hji : (j : Int) < (us.length : Int) := by omega
        obtain ⟨b2, off2, x, rfl, hlt2, x0, hx, hxl⟩ := ints_cell HI4.out hjl
        have x0' := (HB5.out.cell (p := ⟨b2, off2 + j, none⟩) hlt2).trans x0
        have hb6 := HB4.out.trans (HB5.out.mono HB4.out.size)
        obtain ⟨c0, c1, c2, c3, c4, c5, c6, c7, c8, c9, c10⟩ := HC.out
        have k8 := (hb6.cell (p := ⟨w.heap.size, 8, none⟩) (by simp)).trans c8
        have HS : Hid (Fw.caught f (us.take (j + 1)) = Fw.caught f (us.take j) ++ Fw.resume f x) := Lib.hid (by rw [Fw.caught_succ hjl, hx])
        have hxb := HUb.out x (by rw [← hx]; simp only [List.getD, List.getElem?_eq_getElem hjl, Option.getD_some]; exact List.getElem_mem hjl)
        have HJ := Lib.hid hjl
        have hjb : j ≤ 1000001 := by have := HLen.out; omega
        have HL2 : Hid ((Fw.caught f (us.take j)).length ≤ 1000001) := Lib.hid (by have h1 := Fw.caught_len (f := f) (us.take j); have h2 := HLen.out; rw [List.length_take] at h1; omega)
        by_cases hx0 : 0 < x
        · obtain ⟨i, rfl⟩ : ∃ i : Nat, x = (i : Int) := ⟨x.toNat, by omega⟩
          obtain ⟨b3, off3, z, rfl, hlt3, hz, _, _, _, _, _, _, _, d6⟩ := nodes_cell HNd.out (show i < nn by have := HNl.out; omega)
          have d6' := (hb6.cell (p := ⟨b3, off3 + i * 7 + 6, none⟩) hlt3).trans d6
          have HR1 : Hid (Fw.resume f (i : Int) = [z.r]) := Lib.hid (by unfold Fw.resume; rw [if_pos (by omega), Int.toNat_natCast, hz])
          have q0 : decide ((0 : Int) < (i : Int)) = true := decide_eq_true hx0
          have hi0 : 0 < i := by omega
          have hi1 : i < nn := by have := HNl.out; omega
          have hi2 : (i : Int) < (nn : Int) := by omega
          have hne : ¬ i = 0 := by omega
          clear hb6 c0 c1 c2 c3 c4 c5 c6 c7 c8 c9 c10 hx hlt2 x0 hj hxl hxb hz hlt3 d6
          go_wp2
          go_region_law (refine step_append_q rfl rfl (.tmp 44) (.tmp 54) rfl (base := w4.heap.size) rfl ((HQ.out.below (Below.refl _ _).drew).alloc _) rfl (ints_lit rfl _) (by have := HB5.out.size; simp; omega) (by have := HL2.out; omega) ?_; intro v7 w7 hq7 hg7 _; have HQ7 := Lib.hid hq7; have HB7 := Lib.hid (below_append ((HB5.out.drew).alloc HB5.out.size _) ((HQ.out.below (Below.refl _ _).drew).alloc _) hg7); clear hq7 hg7)
          all_goals
            simp only [Exit.inBlock, Exit.then, Act.put, List.getElem_toArray, List.getElem_cons_succ, List.getElem_cons_zero, List.setIfInBounds_toArray, List.set_cons_succ, List.set_cons_zero]
            go_wp2
            go_roundw
            case rel =>
              refine ⟨j + 1, by go_num, HJ.out, ?_, HB7.out⟩
              rw [HS.out, HR1.out]
              exact HQ7.out
            case measure => have := HJ.out; simp [intOf]; omega
        · have q0 : decide (0 < x) = false := decide_eq_false hx0
          have HR1 : Hid (Fw.resume f x = []) := Lib.hid (if_neg (by omega))
          clear hb6 c0 c1 c2 c3 c4 c5 c6 c7 c8 c9 c10 hx hlt2 x0 hj hxl hxb
          go_wp2
          go_roundw
          case rel =>
            refine ⟨j + 1, by go_num, HJ.out, ?_, HB5.out⟩
            rw [HS.out, HR1.out, List.append_nil]
            exact HQ.out
          case measure => have := HJ.out; simp [intOf]; omega
      · obtain rfl : j = us.length := by omega
        clear hj hjl
        go_wp2
        go_ret
        rw [HE.out]
        have hq := HQ.out
        rw [List.take_length] at hq
        exact ⟨_, rfl, hq.more (by have := HB.out.size; have := HB4.out.size; simp at *; omega), HB.out.trans ((HB4.out.trans (HB5.out.mono HB4.out.size)).mono (by simp))⟩
end Go.Proofs.Ytngkjmghhoemgaa
