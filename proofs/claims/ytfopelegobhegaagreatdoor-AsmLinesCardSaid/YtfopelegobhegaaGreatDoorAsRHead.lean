/-
 What the document's Head tells of any text. Conditions: at most a million bytes.
-/
import Derived.Test.YtfopelegobhegaaGreatDoorAsHead
import Derived.Test.YtfopelegobhegaaGreatDoorCanQ
set_option maxRecDepth 100000
namespace Go.Proofs.YtfopelegobhegaaGreatDoor
open Go.RowKit
theorem rhead_results {B : Nat} {tmps : Array Value} {v : FnV} {w : World} {x : Value} (h2 : tmps.getD 2 undef = .pointer (some ⟨B, 0, none⟩)) (h3 : tmps.getD 3 undef = x) (hr : w.rangeAt B 0 v.cells.toList) : (results Tryz.f8 tmps).run Tryz.prog w = .ok (.tuple #[.agg v.cells, x]) w := by
 have hl := run_loadVar_mid (P := Tryz.prog) w B 0 35 v.cells.toList _ hr Tryz.underlying35 rfl (by kernel_rfl)
 have h4 : tmps[2]?.getD undef = .pointer (some ⟨B, 0, none⟩) := by simpa using h2
 have h5 : tmps[3]?.getD undef = x := by simpa using h3
 simp [results, Tryz.results8, asAddr, h4, h5, hl]
def ars (v : FnV) : Array Value := #[v.params.val, v.results.val, v.locals.val, v.outer.val]
theorem ars_part {k : Nat} (h : k < 4) (t : Sl3) (v : FnV) : (ars v).setIfInBounds k t.val = ars (vpart k t v) := by
 rcases four_cases h with rfl | rfl | rfl | rfl <;> rfl
theorem FnOwn.array {w wr w5 : World} {L k : Nat} {v : FnV} {f : Fn.F} {t : Sl3} {l : List Int} (h : FnOwn wr w.heap.size v f) (hL : wr.heap[L]? = some (.cells (ars v) 59 (0, 0))) (hs : w.heap.size ≤ wr.heap.size) (hb : Below wr.heap.size wr w5) (ho : w5.ownsRow wr.heap.size 86 1 t.val l.length (vs l)) (hk : k < 4) :
   (∃ y, w5.cell? ⟨L, k, none⟩ = some y) ∧ w5.frozen? ⟨L, k, none⟩ = false ∧ (w5.setCell ⟨L, k, none⟩ t.val).heap[L]? = some (.cells (ars (vpart k t v)) 59 (0, 0)) ∧ FnOwn (w5.setCell ⟨L, k, none⟩ t.val) w.heap.size (vpart k t v) (As.part k l f) := by
 have h5 : w5.heap[L]? = some (.cells (ars v) 59 (0, 0)) := (hb.block L (heap_lt hL)).trans hL
 have hg : w5.grownBy (w5.setCell ⟨L, k, none⟩ t.val) (some L) := Lib.grownBy_setB (World.grownBy.refl w5 _) _ _
 have he : Else 59 := by unfold Else; decide
 have hr : ∀ b, some L = some b → ∃ C t m, w5.heap[b]? = some (.cells C t m) ∧ Else t := fun b e => by injection e with e; subst e; exact ⟨_, _, _, h5, he⟩
 refine ⟨?_, by simp [World.frozen?, h5], by rw [← ars_part hk]; exact mid_set h5 _, FnOwn.part ((h.below hb).kept hg hr) hk (row_other (ownsRow_base ho hs) hg fun b e => ?_)⟩
 · rw [cell_of_row w5 L k _ _ _ h5]
   rcases four_cases hk with rfl | rfl | rfl | rfl <;> exact ⟨_, rfl⟩
 · obtain ⟨C, t', m, h1, h2⟩ := hr b e
   exact ⟨C, t', m, h1, h2.1⟩
def HrRel (l : List ByteArray) (o : Fn.F × Nat) (m : Nat) (x : ByteArray) (b : Bool) (w : World) (L : Nat) (W0 : World) (i : Value) (wr : World) : Prop :=
 ∃ (k j : Nat) (v : FnV) (f : Fn.F), k ≤ m ∧ j = 2 + k ∧ i = .int .i64 (j : Int) ∧ wr.heap[L]? = some (.cells (ars v) 59 (0, 0)) ∧ v = FnV.four x b v ∧ FnOwn wr w.heap.size v f ∧ As.parts k (l.drop (2 + k)) f = o ∧ Off L L W0 wr
set_option maxHeartbeats 8000000 in
theorem rashead_any (s : ByteArray) (hs : s.size ≤ 1048576) (w : World) : Calls Tryz.prog 8 #[.string s] w (HeadP (As.head s) w) := by
 have b1 := (Below.refl w.heap.size w).alloc (Nat.le_refl _) (.cells FnV.zero.cells 35)
 have hR1 := heap_alloc_new w (.cells FnV.zero.cells 35)
 have HSp := rascut_any s hs (w.alloc (.cells FnV.zero.cells 35))
 obtain ⟨l, hl⟩ : ∃ l, As.words 32 s = l := ⟨_, rfl⟩
 have hne : 1 ≤ l.length := by
   rw [← hl, As.words_cut]
   simp
 have HSz := Lib.hid (fun i => show (l.getD i ByteArray.empty).size ≤ 1048576 from by
   rcases Nat.lt_or_ge i l.length with h | h
   · have h1 : l.getD i ByteArray.empty ∈ l := by simp [List.getD, h]
     have h2 : l.getD i ByteArray.empty ∈ As.words 32 s := by rw [hl]; exact h1
     exact Nat.le_trans (As.words_size 32 s.size s (Nat.le_refl _) _ h2) hs
   · rw [List.getD_eq_getElem?_getD, List.getElem?_eq_none h]
     exact Nat.zero_le _)
 rw [show As.head s = As.headOf l by rw [← hl]; rfl]
 rw [hl] at HSp
 have H0 := Lib.hid (fun h => As.head_bad (l := l) h)
 have H1 := Lib.hid (fun h0 h1 h2 => As.head_name (l := l) h0 h1 h2)
 have H2 := Lib.hid (fun h0 h1 h2 => As.head_parts (l := l) h0 h1 h2)
 obtain ⟨o, ho⟩ : ∃ o, As.headOf l = o := ⟨_, rfl⟩
 rw [ho] at H0 H1 H2 ⊢
 clear ho
 have B1 := Lib.hid b1
 have HR1 := Lib.hid hR1
 have HNe := Lib.hid hne
 clear b1 hR1 hl hne hs
 go_enter Tryz.func8, Tryz.ntmps8
 go_wp2_with fail
 refine HSp.mono ?_
 rintro _ w2 ⟨a, c, rfl, hA, hb2⟩
 have HA := Lib.hid hA
 have B2 := Lib.hid (B1.out.trans (hb2.mono B1.out.size))
 have hR2 := (hb2.block _ (heap_lt HR1.out)).trans HR1.out
 have HR2 := Lib.hid hR2
 obtain ⟨hT2, hQ2, hD2⟩ := over_new (v := .zero) hR2 B2.out (Nat.le_refl _)
 have HD2 := Lib.hid (And.intro hQ2 hD2)
 obtain ⟨b, off, rfl, hbl, hce⟩ := hA.2 HNe.out
 have HCe := Lib.hid hce
 have HBl := Lib.hid hbl
 have hc0 := hce 0 HNe.out
 rw [Nat.add_zero] at hc0
 clear HSp hA hb2 hR2 hQ2 hD2 hce hbl HR1 B1
 by_cases hx : l.getD 0 ByteArray.empty = As.func_
 rotate_left
 · have HO := Lib.hid (H0.out (.inl hx))
   have hx1 : (((l.getD 0 ByteArray.empty).toList == [102, 117, 110, 99]) = false) := by
     rw [show ([102, 117, 110, 99] : List UInt8) = As.func_.toList by kernel_rfl]
     exact (Lib.bytes_beq_false_iff _ _).2 hx
   have hx2 : ((l.getD 0 ByteArray.empty).toList != [102, 117, 110, 99]) = true := by unfold bne; rw [hx1]; rfl
   generalize l.getD 0 ByteArray.empty = x0 at *
   clear hx H0 H1 H2
   go_wp2_with (with_reducible refine wpList_store_mid ?_ 35 (.tmp 2) (.tmp 25) ?_ w.heap.size 0 FnV.zero.cells ?_ ?_ hT2 ?_ ?_ ?_; rfl; rfl; go_must (go_simp; (unfold FnV.zero FnV.cells Sl3.nil Sl3.val; go_simp); kernel_rfl; kernel_rfl; generalize hw3 : w2.setCells w.heap.size 0 FnV.zero.cells.toList = w3 at *))
   refine bodyPost_ret (rhead_results (by go_simp) (by go_simp) HD2.out.1) (by go_simp) (HeadP.bad HO.out HD2.out.2)
 have hx1 : (((l.getD 0 ByteArray.empty).toList == [102, 117, 110, 99]) = true) := by
   rw [show ([102, 117, 110, 99] : List UInt8) = As.func_.toList by kernel_rfl, hx]
   exact beq_self_eq_true _
 have hx2 : ((l.getD 0 ByteArray.empty).toList != [102, 117, 110, 99]) = false := by unfold bne; rw [hx1]; rfl
 replace H1 := Lib.hid (H1.out hx)
 replace H2 := Lib.hid (H2.out hx)
 clear hx
 generalize l.getD 0 ByteArray.empty = x0 at *
 by_cases hn : l.length = 5 ∨ l.length = 6
 rotate_left
 · have HO := Lib.hid (H0.out (.inr (by omega)))
   have hn5 : ((l.length : Int) != 5) = true := by rw [bne_iff_ne]; omega
   have hn6 : ((l.length : Int) != 6) = true := by rw [bne_iff_ne]; omega
   clear hn H0 H1 H2
   go_wp2_with (with_reducible refine wpList_store_mid ?_ 35 (.tmp 2) (.tmp 25) ?_ w.heap.size 0 FnV.zero.cells ?_ ?_ hT2 ?_ ?_ ?_; rfl; rfl; go_must (go_simp; (unfold FnV.zero FnV.cells Sl3.nil Sl3.val; go_simp); kernel_rfl; kernel_rfl; generalize hw3 : w2.setCells w.heap.size 0 FnV.zero.cells.toList = w3 at *))
   refine bodyPost_ret (rhead_results (by go_simp) (by go_simp) HD2.out.1) (by go_simp) (HeadP.bad HO.out HD2.out.2)
 have hn56 : ((l.length : Int) != 5) = false ∨ (((l.length : Int) != 5) = true ∧ ((l.length : Int) != 6) = false) := by
   rcases hn with h | h
   · left; rw [bne_eq_false_iff_eq]; omega
   · right; exact ⟨by rw [bne_iff_ne]; omega, by rw [bne_eq_false_iff_eq]; omega⟩
 have hl1 : (1 : Int) < (l.length : Int) := by omega
 replace H1 := Lib.hid (H1.out hn)
 replace H2 := Lib.hid (H2.out hn)
 have HN := Lib.hid hn
 have hc1 := HCe.out 1 (by omega)
 obtain ⟨x1, hx1e⟩ : ∃ x1, l.getD 1 ByteArray.empty = x1 := ⟨_, rfl⟩
 have hxs := HSz.out 1
 rw [hx1e] at hc1 hxs
 have HMy := rmay_any x1 w2 (by omega)
 rw [hx1e] at H1 H2
 obtain ⟨my, hmy⟩ : ∃ my, Nm.may x1 = my := ⟨_, rfl⟩
 rw [hmy] at HMy H1 H2
 have HXs := Lib.hid hxs
 have HX1 := Lib.hid hx1e
 clear hn H0 hx1e hxs hmy
 cases my with
 | false =>
   have HO := Lib.hid (H1.out rfl)
   clear H1 H2
   rcases hn56 with h5 | ⟨h5, h6⟩
   all_goals
     go_wp2_with (first
       | (go_at_call 21; refine HMy.mono ?_; rintro _ wa ⟨rfl, he⟩; obtain rfl := he.symm; clear HMy)
       | (with_reducible refine wpList_store_mid ?_ 35 (.tmp 2) (.tmp 31) ?_ w.heap.size 0 FnV.zero.cells ?_ ?_ hT2 ?_ ?_ ?_; rfl; rfl; go_must (go_simp; (unfold FnV.zero FnV.cells Sl3.nil Sl3.val; go_simp); kernel_rfl; kernel_rfl; generalize hw3 : w2.setCells w.heap.size 0 FnV.zero.cells.toList = w3 at *)))
     refine bodyPost_ret (rhead_results (by go_simp) (by go_simp) HD2.out.1) (by go_simp) (HeadP.bad HO.out HD2.out.2)
 | true =>
   have HO := Lib.hid (H2.out rfl)
   clear H1 H2
   obtain ⟨m, hm⟩ : ∃ m, l.length = m + 2 := ⟨l.length - 2, by have := HN.out; omega⟩
   have hm4 : m ≤ 4 := by have := HN.out; omega
   have HM := Lib.hid hm
   have HM4 := Lib.hid hm4
   clear hm hm4
   rcases hn56 with h5 | ⟨h5, h6⟩
   all_goals
     go_wp2_with (go_at_call 21; refine HMy.mono ?_; rintro _ wa ⟨rfl, he⟩; obtain rfl := he.symm; clear HMy hc0 hc1)
     obtain ⟨inn, hin⟩ : ∃ inn, ((l.length : Int) == 6) = inn := ⟨_, rfl⟩
     have HIn : Hid (inn = decide (l.length = 6)) := Lib.hid (by
       rw [← hin, Bool.eq_iff_iff, beq_iff_eq, decide_eq_true_eq]
       omega)
     have HL0 := Lib.hid (heap_alloc_new w2 (.cells (ars .zero) 59))
     have HB30 := Lib.hid ((Below.refl w2.heap.size w2).alloc (Nat.le_refl _) (.cells (ars .zero) 59))
     have HO0 := Lib.hid (FnOwn.titled (w2.alloc (.cells (ars .zero) 59)) w.heap.size x1 l.length)
     have HBB : Hid (w.heap.size < w2.heap.size) := Lib.hid (heap_lt HR2.out)
     have HLn : Hid (l.length = 5 ∨ l.length = 6) := HN
     unfold ars FnV.zero Sl3.nil Sl3.val at HL0 HB30 HO0
     simp only at HL0 HB30 HO0
     generalize w2.alloc (.cells #[.slice none 0 0, .slice none 0 0, .slice none 0 0, .slice none 0 0] 59) = W0 at *
     have HL1 : Hid (W0.heap[w2.heap.size]? = some (.cells (ars (FnV.titled x1 inn)) 59 (0, 0))) := HL0
     have HO1 : Hid (FnOwn W0 w.heap.size (FnV.titled x1 inn) (As.title x1 l.length)) := Lib.hid (by have := HO0.out; rwa [← HIn.out] at this)
     have HB1 := Lib.hid (B2.out.trans (HB30.out.mono B2.out.size))
     have HRW := Lib.hid (fun (W : World) (h : Off w2.heap.size w2.heap.size W0 W) => show W.heap[w.heap.size]? = some (.cells FnV.zero.cells 35 (0, 0)) from
       (h.block _ (Nat.lt_of_lt_of_le HBB.out HB30.out.size) (by have := HBB.out; omega) (by have := HBB.out; omega)).trans ((HB30.out.block _ HBB.out).trans HR2.out))
     have HNW := Lib.hid (fun (W : World) (h : Off w2.heap.size w2.heap.size W0 W) (i : Nat) (hi : i < l.length) => show W.cell? ⟨b, off + i, none⟩ = some (.string (l.getD i ByteArray.empty)) from by
       have e1 := HB30.out.block b HBl.out
       have e2 := h.block b (Nat.lt_of_lt_of_le HBl.out HB30.out.size) (by have := HBl.out; omega) (by have := HBl.out; omega)
       rw [World.cell?_of_block (a := ⟨b, off + i, none⟩) (e2.trans e1)]
       exact HCe.out i hi)
     have HBW := Lib.hid (fun (W : World) (h : Off w2.heap.size w2.heap.size W0 W) => show Below w.heap.size w W from HB1.out.trans ⟨h.os, h.tape, h.output, h.size, fun j hj => h.block j (Nat.lt_of_lt_of_le hj HB1.out.size) (by have := HBB.out; omega) (by have := HBB.out; omega)⟩)
     clear HL0 HO0 hT2 HD2 HCe HA
     generalize w2.heap.size = L at *
     go_loopw [6, 7, 8] (fun i _ _ wr => HrRel l o m x1 inn w L W0 i wr) (fun i _ _ _ => l.length - (intOf i).toNat)
     case atStart => exact ⟨0, 2, _, _, Nat.zero_le _, rfl, rfl, HL1.out, rfl, HO1.out, HO.out.symm, Off.refl _ _ _⟩
     case round =>
       obtain ⟨k, j, v, f, hk, hj, rfl, hF, hv, hO, hp, hof⟩ := hrel
       have HF := Lib.hid hF
       have HV := Lib.hid hv
       have HFO := Lib.hid hO
       have HPt := Lib.hid hp
       have HOf := Lib.hid hof
       have HJ := Lib.hid hj
       clear hF hO hp hof hv
       by_cases hlt : k < m
       · have HK4 := Lib.hid (show k < 4 by have := HM4.out; omega)
         have hki : (j : Int) < (l.length : Int) := by have := HM.out; omega
         have hsub : (j : Int) - 2 = (k : Int) := by omega
         have hk4 : (k : Int) < 4 := by have := HK4.out; omega
         have HK := Lib.hid (show 2 + k < l.length by have := HM.out; omega)
         have cN := HNW.out wr HOf.out (2 + k) HK.out
         rw [← hj] at cN
         obtain ⟨x, hx⟩ : ∃ x, l.getD (2 + k) ByteArray.empty = x := ⟨_, rfl⟩
         have hxs := HSz.out (2 + k)
         have hx2 : l.getD j ByteArray.empty = x := by rw [hj]; exact hx
         rw [hx2] at cN
         rw [hx] at hxs
         have HX := Lib.hid hx
         have HRd := rsiread_own x wr hxs
         unfold SrdO at HRd
         obtain ⟨r, hr⟩ : ∃ r, Si.read (Si.codes x) = r := ⟨_, rfl⟩
         rw [hr] at HRd
         have HR := Lib.hid hr
         clear hx hx2 hxs hr hj
         cases r with
         | none =>
           simp only [Option.getD_none, Option.isSome_none, List.length_nil, Bool.false_eq_true, if_false] at HRd
           have HE := Lib.hid (HPt.out.symm.trans (As.parts_none HK.out (by rw [HX.out]; exact HR.out)))
           go_wp2_with (go_at_call 22; refine HRd.mono ?_; rintro _ w5 ⟨A, c5, rfl, _, hb5⟩; clear HRd cN; refine Hid.out ?_)
           obtain ⟨hT, hQ, hD⟩ := over_new (v := .zero) ((hb5.block _ (heap_lt (HRW.out wr HOf.out))).trans (HRW.out wr HOf.out)) ((HBW.out wr HOf.out).trans (hb5.mono (HBW.out wr HOf.out).size)) (Nat.le_refl _)
           have HQ := Lib.hid (And.intro hQ hD)
           clear hb5 hQ hD
           refine Lib.hid ?_
           go_wp2_with (with_reducible refine wpList_store_mid ?_ 35 (.tmp 2) (.tmp 48) ?_ w.heap.size 0 FnV.zero.cells ?_ ?_ hT ?_ ?_ ?_; rfl; rfl; go_must (go_simp; (unfold FnV.zero FnV.cells Sl3.nil Sl3.val; go_simp); kernel_rfl; kernel_rfl; generalize hw6 : w5.setCells w.heap.size 0 FnV.zero.cells.toList = w6 at *))
           refine bodyPost_ret (rhead_results (by go_simp) (by go_simp) HQ.out.1) (by go_simp) (HeadP.bad HE.out HQ.out.2)
         | some t =>
           simp only [Option.getD_some, Option.isSome_some, if_true] at HRd
           have HE := Lib.hid (HPt.out.symm.trans (As.parts_some HK.out (by rw [HX.out]; exact HR.out)))
           go_wp2_with (go_at_call 22; refine HRd.mono ?_; rintro _ w5 ⟨A, c5, rfl, ho5, hb5⟩; clear HRd cN; refine Hid.out ?_)
           obtain ⟨⟨y, hy⟩, hz, h6, h7⟩ := HFO.out.array (t := ⟨A, t.length, c5⟩) HF.out (HBW.out wr HOf.out).size hb5 ho5 HK4.out
           have HOf6 := Lib.hid (HOf.out.trans ((Off.below hb5).trans (Off.set L L k (Sl3.mk A t.length c5).val w5)))
           have HV7 := Lib.hid (four_part (t := ⟨A, t.length, c5⟩) HK4.out HV.out)
           have H67 := Lib.hid (And.intro h6 h7)
           clear ho5 hb5 h6 h7
           simp only [Sl3.val] at H67 HOf6
           refine Lib.hid ?_
           go_wp2
           go_roundw
           case rel => exact ⟨k + 1, j + 1, _, _, hlt, by have := HJ.out; omega, by go_num, H67.out.1, HV7.out, H67.out.2, HE.out.symm, HOf6.out⟩
           case measure => simp [intOf]; omega
       · obtain rfl : k = m := by omega
         have hki : decide ((j : Int) < (l.length : Int)) = false := decide_eq_false (by have := HM.out; omega)
         have hkn : decide (j < l.length) = false := decide_eq_false (by have := HM.out; omega)
         have hl1 : (1 : Int) < (l.length : Int) := by have := HLn.out; omega
         have cN := HNW.out wr HOf.out 1 (by have := HLn.out; omega)
         rw [HX1.out] at cN
         have cA := fun k => cell_of_row wr L k _ _ _ HF.out
         have cA0 : wr.cell? ⟨L, 0, none⟩ = some (.slice v.params.a v.params.n v.params.c) := cA 0
         have cA1 : wr.cell? ⟨L, 1, none⟩ = some (.slice v.results.a v.results.n v.results.c) := cA 1
         have cA2 : wr.cell? ⟨L, 2, none⟩ = some (.slice v.locals.a v.locals.n v.locals.c) := cA 2
         have cA3 : wr.cell? ⟨L, 3, none⟩ = some (.slice v.outer.a v.outer.n v.outer.c) := cA 3
         have cR := FnAt.all (v := .zero) (show FnAt wr w.heap.size .zero from HRW.out wr HOf.out)
         have fR := FnAt.ice (v := .zero) (show FnAt wr w.heap.size .zero from HRW.out wr HOf.out)
         obtain ⟨r0, r1, r2, r3, r4, r5, r6, r7, r8, r9, r10⟩ := cR
         have f0 := fR 0; have f1 := fR 1; have f2 := fR 2; have f3 := fR 3; have f4 := fR 4; have f5 := fR 5; have f6 := fR 6; have f7 := fR 7; have f8 := fR 8; have f9 := fR 9; have f10 := fR 10
         clear cA fR hj
         go_wp2
         go_region
         show Exit.then _ _ _ _ (World.drew (World.setCells wr w.heap.size 0 (FnV.four x1 inn v).cells.toList))
         rw [← HV.out]
         have hR := HRW.out wr HOf.out
         obtain ⟨_, hQ, hD⟩ := over_new (v := v) hR (HBW.out wr HOf.out) (Nat.le_refl _)
         have hX := HFO.out.kept (sets_grown w.heap.size v.cells.toList 0 wr) (fun b e => by injection e with e; subst e; exact ⟨_, _, _, hR, else_func⟩)
         have HE := Lib.hid (HPt.out.symm.trans (As.parts_all (by have := HM.out; omega)))
         generalize wr.setCells w.heap.size 0 v.cells.toList = w6 at *
         have HQ := Lib.hid (show w6.drew.rangeAt w.heap.size 0 v.cells.toList ∧ Below w.heap.size w w6.drew from ⟨hQ, hD.drew⟩)
         have HX := Lib.hid (hX.below ((Below.refl _ _).drew))
         clear hQ hD hX hR
         generalize w6.drew = w7 at *
         go_wp2
         refine bodyPost_ret (rhead_results (x := .int .i64 0) (by go_simp) (by go_simp) HQ.out.1) (by go_simp) ?_
         rw [HE.out]
         exact ⟨v, rfl, HX.out, ⟨_, _, HV.out⟩, HQ.out.2⟩
end Go.Proofs.YtfopelegobhegaaGreatDoor
