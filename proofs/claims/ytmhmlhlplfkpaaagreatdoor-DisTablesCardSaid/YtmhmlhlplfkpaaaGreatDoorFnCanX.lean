/-
 What fnc.Bare, typed, fits, slotsOf, other tell. Conditions: the function can be read.
-/
import Derived.Test.YtmhmlhlplfkpaaaGreatDoorFnEqS
import Derived.Test.YtmhmlhlplfkpaaaGreatDoorInR
import Derived.Test.YtmhmlhlplfkpaaaGreatDoorTrWR
set_option maxRecDepth 100000
namespace Go.Proofs.YtmhmlhlplfkpaaaGreatDoor
open Go.RowKit
def FnV.bare (v : FnV) : Bool := decide (v.nodes.n = 0) && (decide (v.at_.n = 0) && decide (v.live.n = 0))
theorem FnOk.bare {w : World} {B : Nat} {v : FnV} {f : Fn.F} (h : FnOk w B v f) : v.bare = f.bare := by
 unfold FnV.bare Fn.F.bare
 rw [h.n_nodes, h.n_at, h.n_live]
set_option maxHeartbeats 1000000 in
theorem fnbare_any (v : FnV) (w : World) : Calls Tryz.prog 26 #[.agg v.cells] w (BoolP v.bare w) := by
 have HB := Lib.hid ((Below.refl w.heap.size w).alloc (Nat.le_refl _) (.cells v.cells 28))
 have c8 := (FnAt.new w v).c8
 have c9 := (FnAt.new w v).c9
 have c10 := (FnAt.new w v).c10
 unfold FnV.bare
 obtain ⟨nm, inn, ⟨oa, on, oc⟩, ⟨pa, pn, pc⟩, ⟨ra, rn, rc⟩, ⟨la, ln, lc⟩, ⟨ca, cn, cc⟩, ⟨ia, i_n, ic⟩, ⟨na, nn, nc⟩, ⟨ta, tn, tc⟩, ⟨va, vn, vc⟩⟩ := v
 by_cases h1 : nn = 0
 · subst h1
   by_cases h2 : tn = 0
   · subst h2
     by_cases h3 : vn = 0
     · subst h3
       go_enter Tryz.func26, Tryz.ntmps26
       go_wp2
       go_ret
       exact ⟨rfl, HB.out⟩
     · have hd : ((vn : Int) == 0) = false := beq_eq_false_iff_ne.2 (by omega)
       have hr : Hid (decide (vn = 0) = false) := Lib.hid (decide_eq_false h3)
       clear h3
       go_enter Tryz.func26, Tryz.ntmps26
       go_wp2
       go_ret
       exact ⟨retB (by simp [hr.out]), HB.out⟩
   · have hd : ((tn : Int) == 0) = false := beq_eq_false_iff_ne.2 (by omega)
     have hr : Hid (decide (tn = 0) = false) := Lib.hid (decide_eq_false h2)
     clear h2
     go_enter Tryz.func26, Tryz.ntmps26
     go_wp2
     go_ret
     exact ⟨retB (by simp [hr.out]), HB.out⟩
 · have hd : ((nn : Int) == 0) = false := beq_eq_false_iff_ne.2 (by omega)
   have hr : Hid (decide (nn = 0) = false) := Lib.hid (decide_eq_false h1)
   clear h1
   go_enter Tryz.func26, Tryz.ntmps26
   go_wp2
   go_ret
   exact ⟨retB (by simp [hr.out]), HB.out⟩
theorem fnslots_any (v : FnV) (f : Fn.F) (w : World) (h : FnOk w w.heap.size v f) (hl : f.slots ≤ 1048576) :
   Calls Tryz.prog 156 #[.agg v.cells] w fun e w' => e = .returned (.int .i64 (f.slots : Int)) ∧ Below w.heap.size w w' := by
 have hb0 := (Below.refl w.heap.size w).alloc (Nat.le_refl _) (.cells v.cells 28)
 have h0 := h.on hb0
 have HS := Lib.hid (sislots_any v _ _ _ _ h0.params h0.results h0.locals (by unfold Fn.F.slots at hl; omega))
 have HE : Hid ((f.params ++ f.results ++ f.locals).length = f.slots) := Lib.hid (by unfold Fn.F.slots; simp; omega)
 have HB := Lib.hid hb0
 have hA := FnAt.new w v
 obtain ⟨c0, c1, c2, c3, c4, c5, c6, c7, c8, c9, c10⟩ := hA.all
 clear hb0 h0 h hl hA
 generalize f.params ++ f.results ++ f.locals = l at *
 obtain ⟨nm, inn, ⟨oa, on, oc⟩, ⟨pa, pn, pc⟩, ⟨ra, rn, rc⟩, ⟨la, ln, lc⟩, ⟨ca, cn, cc⟩, ⟨ia, i_n, ic⟩, ⟨na, nn, nc⟩, ⟨ta, tn, tc⟩, ⟨va, vn, vc⟩⟩ := v
 go_enter Tryz.func156, Tryz.ntmps156
 go_wp2_with (go_at_call 177; go_must (refine HS.out.mono ?_; rintro _ w1 ⟨A, c, rfl, hi, hb⟩; have HB1 := Lib.hid hb; clear hi hb))
 go_ret
 exact ⟨ret_int (by rw [HE.out]), below_self HB.out HB1.out⟩
-- behind this: tools/fncan.py
theorem fnfits_any (v : FnV) (f : Fn.F) (w : World) (h : FnOk w w.heap.size v f) (hl : f.slots ≤ 1048576) :
   Calls Tryz.prog 129 #[.agg v.cells] w (BoolP (decide (f.slots ≤ 256)) w) := by
 have hb0 := (Below.refl w.heap.size w).alloc (Nat.le_refl _) (.cells v.cells 28)
 have HS := Lib.hid (fnslots_any v f _ (h.on hb0) hl)
 have HB := Lib.hid hb0
 have hA := FnAt.new w v
 obtain ⟨c0, c1, c2, c3, c4, c5, c6, c7, c8, c9, c10⟩ := hA.all
 clear hb0 h hA
 generalize f.slots = k at *
 obtain ⟨nm, inn, ⟨oa, on, oc⟩, ⟨pa, pn, pc⟩, ⟨ra, rn, rc⟩, ⟨la, ln, lc⟩, ⟨ca, cn, cc⟩, ⟨ia, i_n, ic⟩, ⟨na, nn, nc⟩, ⟨ta, tn, tc⟩, ⟨va, vn, vc⟩⟩ := v
 go_enter Tryz.func129, Tryz.ntmps129
 go_wp2_with (go_at_call 156; go_must (refine HS.out.mono ?_; rintro _ w1 ⟨rfl, hb⟩; have HB1 := Lib.hid hb; clear hb))
 go_ret
 exact ⟨retB (by rw [decide_eq_decide]; omega), below_self HB.out HB1.out⟩
set_option maxHeartbeats 2000000 in
theorem fntyped_any (v : FnV) (f : Fn.F) (w : World) (h : FnOk w w.heap.size v f) (hl : v.Len) : Calls Tryz.prog 128 #[.agg v.cells] w (BoolP f.typed w) := by
 have hb0 := (Below.refl w.heap.size w).alloc (Nat.le_refl _) (.cells v.cells 28)
 have h0 := h.on hb0
 have H1 := siright_any v.outer.a v.outer.n v.outer.c _ f.outer 4 _ h0.outer.1 hl.outer
 have H2 := siright_any v.params.a v.params.n v.params.c _ f.params 8 _ h0.params.1 hl.params
 have H3 := siright_any v.results.a v.results.n v.results.c _ f.results 4 _ h0.results.1 hl.results
 have H4 := siright_any v.locals.a v.locals.n v.locals.c _ f.locals 256 _ h0.locals.1 hl.locals
 have HB := Lib.hid hb0
 have HT : Hid (f.typed = (Si.right f.outer 4 && (Si.right f.params 8 && (Si.right f.results 4 && (Si.right f.locals 256 && (v.inner || decide (v.outer.n = 0))))))) := Lib.hid (by rw [h.inner, ← h.n_outer]; rfl)
 have hA := FnAt.new w v
 have c1 := hA.c1; have c2 := hA.c2; have c3 := hA.c3; have c4 := hA.c4; have c5 := hA.c5
 clear hb0 h0 h hl hA
 rw [HT.out]
 clear HT
 generalize Si.right f.outer 4 = b1 at *
 generalize Si.right f.params 8 = b2 at *
 generalize Si.right f.results 4 = b3 at *
 generalize Si.right f.locals 256 = b4 at *
 obtain ⟨nm, inn, ⟨oa, on, oc⟩, ⟨pa, pn, pc⟩, ⟨ra, rn, rc⟩, ⟨la, ln, lc⟩, ⟨ca, cn, cc⟩, ⟨ia, i_n, ic⟩, ⟨na, nn, nc⟩, ⟨ta, tn, tc⟩, ⟨va, vn, vc⟩⟩ := v
 cases b1 with
 | false =>
   go_enter Tryz.func128, Tryz.ntmps128
   go_wp2_with (first | (go_at_call 155; (refine H1.mono ?_; rintro _ w1 ⟨rfl, he⟩; obtain rfl := he.symm; clear H1)))
   go_ret
   exact ⟨rfl, HB.out⟩
 | true =>
 cases b2 with
 | false =>
   go_enter Tryz.func128, Tryz.ntmps128
   go_wp2_with (first | (go_at_call 155; (refine H1.mono ?_; rintro _ w1 ⟨rfl, he⟩; obtain rfl := he.symm; clear H1)) | (go_at_call 155; (refine H2.mono ?_; rintro _ w2 ⟨rfl, he⟩; obtain rfl := he.symm; clear H2)))
   go_ret
   exact ⟨rfl, HB.out⟩
 | true =>
 cases b3 with
 | false =>
   go_enter Tryz.func128, Tryz.ntmps128
   go_wp2_with (first | (go_at_call 155; (refine H1.mono ?_; rintro _ w1 ⟨rfl, he⟩; obtain rfl := he.symm; clear H1)) | (go_at_call 155; (refine H2.mono ?_; rintro _ w2 ⟨rfl, he⟩; obtain rfl := he.symm; clear H2)) | (go_at_call 155; (refine H3.mono ?_; rintro _ w3 ⟨rfl, he⟩; obtain rfl := he.symm; clear H3)))
   go_ret
   exact ⟨rfl, HB.out⟩
 | true =>
 cases b4 with
 | false =>
   go_enter Tryz.func128, Tryz.ntmps128
   go_wp2_with (first | (go_at_call 155; (refine H1.mono ?_; rintro _ w1 ⟨rfl, he⟩; obtain rfl := he.symm; clear H1)) | (go_at_call 155; (refine H2.mono ?_; rintro _ w2 ⟨rfl, he⟩; obtain rfl := he.symm; clear H2)) | (go_at_call 155; (refine H3.mono ?_; rintro _ w3 ⟨rfl, he⟩; obtain rfl := he.symm; clear H3)) | (go_at_call 155; (refine H4.mono ?_; rintro _ w4 ⟨rfl, he⟩; obtain rfl := he.symm; clear H4)))
   go_ret
   exact ⟨rfl, HB.out⟩
 | true =>
 cases inn with
 | true =>
   go_enter Tryz.func128, Tryz.ntmps128
   go_wp2_with (first | (go_at_call 155; (refine H1.mono ?_; rintro _ w1 ⟨rfl, he⟩; obtain rfl := he.symm; clear H1)) | (go_at_call 155; (refine H2.mono ?_; rintro _ w2 ⟨rfl, he⟩; obtain rfl := he.symm; clear H2)) | (go_at_call 155; (refine H3.mono ?_; rintro _ w3 ⟨rfl, he⟩; obtain rfl := he.symm; clear H3)) | (go_at_call 155; (refine H4.mono ?_; rintro _ w4 ⟨rfl, he⟩; obtain rfl := he.symm; clear H4)))
   go_ret
   exact ⟨rfl, HB.out⟩
 | false =>
   by_cases ho : on = 0
   · subst ho
     go_enter Tryz.func128, Tryz.ntmps128
     go_wp2_with (first | (go_at_call 155; (refine H1.mono ?_; rintro _ w1 ⟨rfl, he⟩; obtain rfl := he.symm; clear H1)) | (go_at_call 155; (refine H2.mono ?_; rintro _ w2 ⟨rfl, he⟩; obtain rfl := he.symm; clear H2)) | (go_at_call 155; (refine H3.mono ?_; rintro _ w3 ⟨rfl, he⟩; obtain rfl := he.symm; clear H3)) | (go_at_call 155; (refine H4.mono ?_; rintro _ w4 ⟨rfl, he⟩; obtain rfl := he.symm; clear H4)))
     go_ret
     exact ⟨rfl, HB.out⟩
   · have hd : ((on : Int) == 0) = false := beq_eq_false_iff_ne.2 (by omega)
     have hr : Hid (decide (on = 0) = false) := Lib.hid (decide_eq_false ho)
     clear ho
     go_enter Tryz.func128, Tryz.ntmps128
     go_wp2_with (first | (go_at_call 155; (refine H1.mono ?_; rintro _ w1 ⟨rfl, he⟩; obtain rfl := he.symm; clear H1)) | (go_at_call 155; (refine H2.mono ?_; rintro _ w2 ⟨rfl, he⟩; obtain rfl := he.symm; clear H2)) | (go_at_call 155; (refine H3.mono ?_; rintro _ w3 ⟨rfl, he⟩; obtain rfl := he.symm; clear H3)) | (go_at_call 155; (refine H4.mono ?_; rintro _ w4 ⟨rfl, he⟩; obtain rfl := he.symm; clear H4)))
     go_ret
     exact ⟨retB (by simp [hr.out]), HB.out⟩
theorem fnother_any (op a0 : Int) (w : World) : Calls Tryz.prog 131 #[.agg #[.int .i64 op, .int .i64 a0]] w (BoolP (!In.right op a0) w) := by
 have HB := Lib.hid ((Below.refl w.heap.size w).alloc (Nat.le_refl _) (.cells #[.int .i64 op, .int .i64 a0] 48))
 have HR := Lib.hid (inright_any op a0 (w.alloc (.cells #[.int .i64 op, .int .i64 a0] 48)))
 generalize In.right op a0 = b at *
 go_enter Tryz.func131, Tryz.ntmps131
 go_wp2_with (go_at_call 95; go_must (refine HR.out.mono ?_; rintro _ w1 ⟨rfl, hb⟩; have HB1 := Lib.hid hb; clear hb))
 go_ret
 exact ⟨retB (by cases b <;> rfl), below_self HB.out HB1.out⟩
set_option maxHeartbeats 2000000 in
theorem fnindex_any (a : Option Addr) (n c : Nat) (l : List (Int × Int)) (w : World) (h : PairsAt w w.heap.size a n l) (hn : n ≤ 9223372036854775807) :
   Calls Tryz.prog 157 #[.slice a n c, .func (.func 131) #[] #[]] w fun e w' => (∃ i : Int, e = .returned (.int .i64 i) ∧ decide (0 ≤ i) = !l.all (fun p => In.right p.1 p.2)) ∧ Below w.heap.size w w' := by
 have H := Lib.hid h
 have HL := Lib.hid h.1
 clear h
 go_enter Tryz.func157, Tryz.ntmps157
 go_wp2
 go_loopw [5, 8] (fun _ i wr => ∃ k : Nat, k ≤ n ∧ i = .int .i64 (k : Int) ∧ Below w.heap.size w wr ∧ (l.take k).all (fun p => In.right p.1 p.2) = true) (fun _ i _ => n - (intOf i).toNat)
 case atStart => exact ⟨0, Nat.zero_le _, rfl, Below.refl _ _, rfl⟩
 case round =>
   obtain ⟨k, hk, rfl, hB, hW⟩ := hrel
   have HB := Lib.hid hB
   by_cases hlt : k < n
   · obtain ⟨b, off, x, rfl, _, hx, hkl, q0, q1⟩ := pairs_cell (H.out.below hB) hlt
     have HS := Lib.hid (Fn.ops_succ hkl)
     have HBd := Lib.hid (fun hb => Fn.ops_bad hkl hb)
     rw [hx, hW] at HS
     rw [hx] at HBd
     have HO := fnother_any x.1 x.2
     clear hW hx hkl hB
     cases hm : In.right x.1 x.2 with
     | false =>
       rw [hm] at HO
       have HE := Lib.hid (HBd.out hm)
       clear HS HBd hm
       go_wp2_with (go_at_call 131; go_must (refine (HO _).mono ?_; rintro _ w1 ⟨rfl, hb1⟩; have HB1 := Lib.hid hb1; clear hb1))
       go_ret
       exact ⟨⟨_, rfl, by rw [HE.out]; simp⟩, below_self HB.out HB1.out⟩
     | true =>
       rw [hm] at HO HS
       clear HBd hm
       go_wp2_with (go_at_call 131; go_must (refine (HO _).mono ?_; rintro _ w1 ⟨rfl, hb1⟩; have HB1 := Lib.hid hb1; clear hb1))
       go_roundw
       case rel => exact ⟨k + 1, hlt, by go_num, below_self HB.out HB1.out, HS.out⟩
       case measure => simp [intOf]; omega
   · have HE : Hid (l.all (fun p => In.right p.1 p.2) = true) := Lib.hid (by rw [← hW, List.take_of_length_le (by rw [HL.out]; omega)])
     clear hW hB
     go_wp2
     go_ret
     exact ⟨⟨_, rfl, by rw [HE.out]; rfl⟩, HB.out⟩
theorem fncontains_any (a : Option Addr) (n c : Nat) (l : List (Int × Int)) (w : World) (h : PairsAt w w.heap.size a n l) (hn : n ≤ 9223372036854775807) :
   Calls Tryz.prog 130 #[.slice a n c, .func (.func 131) #[] #[]] w (BoolP (!l.all (fun p => In.right p.1 p.2)) w) := by
 have H := fnindex_any a n c l w h hn
 clear h
 generalize (!l.all (fun p => In.right p.1 p.2)) = r at *
 go_enter Tryz.func130, Tryz.ntmps130
 go_wp2_with (go_at_call 157; go_must (refine H.mono ?_; rintro _ w1 ⟨⟨i, rfl, hi⟩, hb1⟩))
 go_ret
 exact ⟨rfl, hb1⟩
theorem fnlast_any (v : FnV) (w : World) (hl : v.nodes.n ≤ 9223372036854775807) : Calls Tryz.prog 161 #[.agg v.cells] w fun e w' => e = .returned (.int .i64 ((v.nodes.n : Int) - 1)) ∧ Below w.heap.size w w' := by
 have HB := Lib.hid ((Below.refl w.heap.size w).alloc (Nat.le_refl _) (.cells v.cells 28))
 have c8 := (FnAt.new w v).c8
 obtain ⟨nm, inn, ⟨oa, on, oc⟩, ⟨pa, pn, pc⟩, ⟨ra, rn, rc⟩, ⟨la, ln, lc⟩, ⟨ca, cn, cc⟩, ⟨ia, i_n, ic⟩, ⟨na, nn, nc⟩, ⟨ta, tn, tc⟩, ⟨va, vn, vc⟩⟩ := v
 simp only at hl
 go_enter Tryz.func161, Tryz.ntmps161
 go_wp2
 go_ret
 exact ⟨rfl, HB.out⟩
end Go.Proofs.YtmhmlhlplfkpaaaGreatDoor
namespace Go.Proofs.YtmhmlhlplfkpaaaGreatDoor
open Go.RowKit
theorem out_high {n : Nat} {x : Int} (h : ¬ x < 0) : Fn.out n x = decide ((n : Int) ≤ x) := by
 unfold Fn.out
 rw [decide_eq_false h, Bool.false_or]
set_option maxHeartbeats 1000000 in
theorem fnmapped1_any (x : Int) (q : Nat) (v : FnV) (w : World) (h : FnAt w q v) (hl : v.nodes.n ≤ 9223372036854775807) :
   Calls Tryz.prog 160 #[.int .i64 x, .pointer (some ⟨q, 0, none⟩)] w (BoolP (Fn.out v.nodes.n x) w) := by
 have HL := fnlast_any v w hl
 obtain ⟨c0, c1, c2, c3, c4, c5, c6, c7, c8, c9, c10⟩ := h.all
 obtain ⟨nm, inn, ⟨oa, on, oc⟩, ⟨pa, pn, pc⟩, ⟨ra, rn, rc⟩, ⟨la, ln, lc⟩, ⟨ca, cn, cc⟩, ⟨ia, i_n, ic⟩, ⟨na, nn, nc⟩, ⟨ta, tn, tc⟩, ⟨va, vn, vc⟩⟩ := v
 simp only at hl HL
 show Calls _ _ _ _ (BoolP (Fn.out nn x) w)
 by_cases hx : x < 0
 · have HE : Hid (Fn.out nn x = true) := Lib.hid (by unfold Fn.out; rw [decide_eq_true hx]; rfl)
   go_enter Tryz.func160, Tryz.ntmps160
   go_wp2
   go_ret
   exact ⟨retB HE.out.symm, Below.refl _ _⟩
 · have HE := Lib.hid (out_high (n := nn) hx)
   have hx' : decide (x < 0) = false := decide_eq_false hx
   clear hx
   go_enter Tryz.func160, Tryz.ntmps160
   go_wp2_with (go_at_call 161; go_must (refine HL.mono ?_; rintro _ w1 ⟨rfl, hb⟩; have HB1 := Lib.hid hb; clear hb))
   go_ret
   exact ⟨retB (by rw [HE.out, decide_eq_decide]; omega), HB1.out⟩
set_option maxHeartbeats 2000000 in
theorem fnat_index (a : Option Addr) (n c q : Nat) (l : List Int) (v : FnV) (w : World) (h : IntsAt w w.heap.size a n l) (hn : n ≤ 9223372036854775807) (hq : FnAt w q v) (hl : v.nodes.n ≤ 9223372036854775807) :
   Calls Tryz.prog 178 #[.slice a n c, .func (.func 160) #[] #[.pointer (some ⟨q, 0, none⟩)]] w fun e w' => (∃ i : Int, e = .returned (.int .i64 i) ∧ decide (0 ≤ i) = l.any (Fn.out v.nodes.n)) ∧ Below w.heap.size w w' := by
 have H := Lib.hid h
 have HL := Lib.hid h.1
 have HC := Lib.hid (fun (W : World) (hb : Below w.heap.size w W) (x : Int) => fnmapped1_any x q v W (hq.on hb) hl)
 clear h hq hl
 generalize v.nodes.n = m at *
 go_enter Tryz.func178, Tryz.ntmps178
 go_wp2
 go_loopw [5, 8] (fun _ i wr => ∃ k : Nat, k ≤ n ∧ i = .int .i64 (k : Int) ∧ Below w.heap.size w wr ∧ (l.take k).any (Fn.out m) = false) (fun _ i _ => n - (intOf i).toNat)
 case atStart => exact ⟨0, Nat.zero_le _, rfl, Below.refl _ _, rfl⟩
 case round =>
   obtain ⟨k, hk, rfl, hB, hW⟩ := hrel
   have HB := Lib.hid hB
   by_cases hlt : k < n
   · obtain ⟨b, off, x, rfl, _, q0, hx, hkl⟩ := ints_cell (H.out.below hB) hlt
     have HS := Lib.hid (Fn.any_succ (Fn.out m) hkl)
     have HBd := Lib.hid (fun hb => Fn.any_good (p := Fn.out m) hkl hb)
     rw [hx, hW] at HS
     rw [hx] at HBd
     have HO := Lib.hid (HC.out wr hB x)
     clear hW hx hkl hB
     cases hm : Fn.out m x with
     | true =>
       rw [hm] at HO
       have HE := Lib.hid (HBd.out hm)
       clear HS HBd hm
       go_wp2_with (go_at_call 160; go_must (refine HO.out.mono ?_; rintro _ w1 ⟨rfl, hb1⟩; have HB1 := Lib.hid hb1; clear hb1))
       go_ret
       exact ⟨⟨_, rfl, by rw [HE.out]; simp⟩, below_self HB.out HB1.out⟩
     | false =>
       rw [hm] at HO HS
       clear HBd hm
       go_wp2_with (go_at_call 160; go_must (refine HO.out.mono ?_; rintro _ w1 ⟨rfl, hb1⟩; have HB1 := Lib.hid hb1; clear hb1))
       go_roundw
       case rel => exact ⟨k + 1, hlt, by go_num, below_self HB.out HB1.out, HS.out⟩
       case measure => simp [intOf]; omega
   · have HE : Hid (l.any (Fn.out m) = false) := Lib.hid (by rw [← hW, List.take_of_length_le (by rw [HL.out]; omega)])
     clear hW hB
     go_wp2
     go_ret
     exact ⟨⟨_, rfl, by rw [HE.out]; rfl⟩, HB.out⟩
theorem fnat_contains (a : Option Addr) (n c q : Nat) (l : List Int) (v : FnV) (w : World) (h : IntsAt w w.heap.size a n l) (hn : n ≤ 9223372036854775807) (hq : FnAt w q v) (hl : v.nodes.n ≤ 9223372036854775807) :
   Calls Tryz.prog 158 #[.slice a n c, .func (.func 160) #[] #[.pointer (some ⟨q, 0, none⟩)]] w (BoolP (l.any (Fn.out v.nodes.n)) w) := by
 have H := fnat_index a n c q l v w h hn hq hl
 clear h hq
 generalize l.any (Fn.out v.nodes.n) = r at *
 go_enter Tryz.func158, Tryz.ntmps158
 go_wp2_with (go_at_call 178; go_must (refine H.mono ?_; rintro _ w1 ⟨⟨i, rfl, hi⟩, hb1⟩))
 go_ret
 exact ⟨rfl, hb1⟩
set_option maxHeartbeats 8000000 in
theorem fnmapped_any (v : FnV) (f : Fn.F) (w : World) (h : FnOk w w.heap.size v f) (hl : v.Len) (hw : f.Wf) (hs : f.slots ≤ 1048576) (hT : Tab w) (hg : 0 < w.heap.size) :
   Calls Tryz.prog 133 #[.agg v.cells] w (BoolP f.mapped w) := by
 have hb0 := (Below.refl w.heap.size w).alloc (Nat.le_refl _) (.cells v.cells 28)
 have hA := FnAt.new w v
 have h1 := h.on hb0
 have hT1 := tab_below hT hb0 hg
 have hg1 : 0 < (w.alloc (.cells v.cells 28)).heap.size := Nat.lt_of_lt_of_le hg hb0.size
 have hp : w.heap.size < (w.alloc (.cells v.cells 28)).heap.size := by simp
 obtain ⟨K, hK, F, HC, HBe, HU⟩ := worlds_of (w.alloc (.cells v.cells 28))
 have HTr := Lib.hid (fun n => trright_any v.nodes.a v.nodes.n v.nodes.c f.nodes (F n) (h1.on (HBe.out n)).nodes.1 hl.nodes)
 have HCt := Lib.hid (fun n => fnat_contains v.at_.a v.at_.n v.at_.c w.heap.size f.at_ v (F n) (h1.on (HBe.out n)).at_.1 hl.at_ (hA.on (HBe.out n)) hl.nodes)
 have HSl := Lib.hid (fun n => fnslots_any v f (F n) (h1.on (HBe.out n)) hs)
 have HMp := Lib.hid (fun n => mpright_any v.live.a v.live.n v.live.c f.live (f.slots : Int) (F n) (h1.on (HBe.out n)).live.1 hl.live hw.live (tab_below hT1 (HBe.out n) hg1) (Nat.lt_of_lt_of_le hg1 (HBe.out n).size))
 have HE : Hid (f.mapped = (Tr.right f.nodes && (decide (v.at_.n = v.code.n) && (decide (v.live.n = v.code.n) && (!f.at_.any (Fn.out v.nodes.n) && Mp.right f.live (f.slots : Int)))))) := Lib.hid (by rw [← h.n_nodes, ← h.n_at, ← h.n_code, ← h.n_live]; rfl)
 have HB := Lib.hid hb0
 have c0 := cell_q HBe.out hp hA.c0; have c1 := cell_q HBe.out hp hA.c1; have c2 := cell_q HBe.out hp hA.c2; have c3 := cell_q HBe.out hp hA.c3; have c4 := cell_q HBe.out hp hA.c4; have c5 := cell_q HBe.out hp hA.c5; have c6 := cell_q HBe.out hp hA.c6; have c7 := cell_q HBe.out hp hA.c7; have c8 := cell_q HBe.out hp hA.c8; have c9 := cell_q HBe.out hp hA.c9; have c10 := cell_q HBe.out hp hA.c10
 rw [HE.out]
 clear HE h1 hT1 hg1 hp hA hb0 h hw hs hT hg
 generalize Tr.right f.nodes = b1 at *
 generalize f.at_.any (Fn.out v.nodes.n) = b4 at *
 generalize Mp.right f.live (f.slots : Int) = b5 at *
 generalize (f.slots : Int) = sl at *
 obtain ⟨nm, inn, ⟨oa, on, oc⟩, ⟨pa, pn, pc⟩, ⟨ra, rn, rc⟩, ⟨la, ln, lc⟩, ⟨ca, cn, cc⟩, ⟨ia, i_n, ic⟩, ⟨na, nn, nc⟩, ⟨ta, tn, tc⟩, ⟨va, vn, vc⟩⟩ := v
 have hln := hl.at_
 have hlc := hl.code
 have hlv := hl.live
 simp only at hln hlc hlv HTr HCt HSl HMp
 clear hl
 cases b1 with
 | false =>
   go_enter Tryz.func133, Tryz.ntmps133
   go_wp2
   refine region_q F HC.out (by kernel_rfl) (by kernel_rfl) ?_
   repeat (go_big_quiet_step (first | (go_at_call 162; refine Calls.q HU.out (HTr.out _)) | (go_at_call 158; refine Calls.q HU.out (HCt.out _)) | (go_at_call 156; refine Calls.q HU.out (HSl.out _)) | (go_at_call 163; refine Calls.q HU.out (HMp.out _))))
   refine wpQuiet_nil ?_
   rintro _ ⟨nq, rfl⟩
   go_wp2
   go_ret
   exact ⟨rfl, HB.out.trans ((HBe.out nq).mono (by simp))⟩
 | true =>
 by_cases e1 : tn = cn
 rotate_left
 · have hd : ((tn : Int) == (cn : Int)) = false := beq_eq_false_iff_ne.2 (by omega)
   have hr : Hid (decide (tn = cn) = false) := Lib.hid (decide_eq_false e1)
   clear e1
   go_enter Tryz.func133, Tryz.ntmps133
   go_wp2
   refine region_q F HC.out (by kernel_rfl) (by kernel_rfl) ?_
   repeat (go_big_quiet_step (first | (go_at_call 162; refine Calls.q HU.out (HTr.out _)) | (go_at_call 158; refine Calls.q HU.out (HCt.out _)) | (go_at_call 156; refine Calls.q HU.out (HSl.out _)) | (go_at_call 163; refine Calls.q HU.out (HMp.out _))))
   refine wpQuiet_nil ?_
   rintro _ ⟨nq, rfl⟩
   go_wp2
   go_ret
   exact ⟨retB (by simp [hr.out]), HB.out.trans ((HBe.out nq).mono (by simp))⟩
 subst e1
 by_cases e2 : vn = tn
 rotate_left
 · have hd : ((vn : Int) == (tn : Int)) = false := beq_eq_false_iff_ne.2 (by omega)
   have hr : Hid (decide (vn = tn) = false) := Lib.hid (decide_eq_false e2)
   clear e2
   go_enter Tryz.func133, Tryz.ntmps133
   go_wp2
   refine region_q F HC.out (by kernel_rfl) (by kernel_rfl) ?_
   repeat (go_big_quiet_step (first | (go_at_call 162; refine Calls.q HU.out (HTr.out _)) | (go_at_call 158; refine Calls.q HU.out (HCt.out _)) | (go_at_call 156; refine Calls.q HU.out (HSl.out _)) | (go_at_call 163; refine Calls.q HU.out (HMp.out _))))
   refine wpQuiet_nil ?_
   rintro _ ⟨nq, rfl⟩
   go_wp2
   go_ret
   exact ⟨retB (by simp [hr.out]), HB.out.trans ((HBe.out nq).mono (by simp))⟩
 subst e2
 cases b4 with
 | true =>
   go_enter Tryz.func133, Tryz.ntmps133
   go_wp2
   refine region_q F HC.out (by kernel_rfl) (by kernel_rfl) ?_
   repeat (go_big_quiet_step (first | (go_at_call 162; refine Calls.q HU.out (HTr.out _)) | (go_at_call 158; refine Calls.q HU.out (HCt.out _)) | (go_at_call 156; refine Calls.q HU.out (HSl.out _)) | (go_at_call 163; refine Calls.q HU.out (HMp.out _))))
   refine wpQuiet_nil ?_
   rintro _ ⟨nq, rfl⟩
   go_wp2
   go_ret
   exact ⟨retB (by simp), HB.out.trans ((HBe.out nq).mono (by simp))⟩
 | false =>
   go_enter Tryz.func133, Tryz.ntmps133
   go_wp2
   refine region_q F HC.out (by kernel_rfl) (by kernel_rfl) ?_
   repeat (go_big_quiet_step (first | (go_at_call 162; refine Calls.q HU.out (HTr.out _)) | (go_at_call 158; refine Calls.q HU.out (HCt.out _)) | (go_at_call 156; refine Calls.q HU.out (HSl.out _)) | (go_at_call 163; refine Calls.q HU.out (HMp.out _))))
   refine wpQuiet_nil ?_
   rintro _ ⟨nq, rfl⟩
   go_wp2
   go_ret
   exact ⟨retB (by simp), HB.out.trans ((HBe.out nq).mono (by simp))⟩
end Go.Proofs.YtmhmlhlplfkpaaaGreatDoor
