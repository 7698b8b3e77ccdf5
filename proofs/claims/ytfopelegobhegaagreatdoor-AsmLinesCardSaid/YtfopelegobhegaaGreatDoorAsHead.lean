/-
 What asm.Head tells of any text. Conditions: at most a million bytes.
-/
import Derived.Test.YtfopelegobhegaaGreatDoorAsW
set_option maxRecDepth 100000
namespace Go.Proofs.YtfopelegobhegaaGreatDoor
open Go.RowKit
theorem head_results {B : Nat} {tmps : Array Value} {v : FnV} {w : World} {x : Value} (h2 : tmps.getD 2 undef = .pointer (some ⟨B, 0, none⟩)) (h3 : tmps.getD 3 undef = x) (hr : w.rangeAt B 0 v.cells.toList) : (results Tryz.f7 tmps).run Tryz.prog w = .ok (.tuple #[.agg v.cells, x]) w := by
 have hl := run_loadVar_mid (P := Tryz.prog) w B 0 35 v.cells.toList _ hr Tryz.underlying35 rfl (by kernel_rfl)
 have h4 : tmps[2]?.getD undef = .pointer (some ⟨B, 0, none⟩) := by simpa using h2
 have h5 : tmps[3]?.getD undef = x := by simpa using h3
 simp [results, Tryz.results7, asAddr, h4, h5, hl]
theorem over_new {w W : World} {v0 v : FnV} {R : Nat} (hR : W.heap[R]? = some (.cells v0.cells 35 (0, 0))) (hb : Below w.heap.size w W) (hw : w.heap.size ≤ R) :
   W.there R 0 v.cells.size ∧ (W.setCells R 0 v.cells.toList).rangeAt R 0 v.cells.toList ∧ Below w.heap.size w (W.setCells R 0 v.cells.toList) := by
 have ht : W.there R 0 v.cells.size := there_block hR (Nat.le_of_eq (by rfl))
 refine ⟨ht, World.rangeAt_setCells_same W R 0 v.cells.toList ht, hb.grown (sets_grown R v.cells.toList 0 W) hb.size (fun k e => by injection e with e; omega)⟩
def HdRel (l : List ByteArray) (o : Fn.F × Nat) (m : Nat) (x : ByteArray) (b : Bool) (w : World) (B : Nat) (W0 : World) (i : Value) (wr : World) : Prop :=
 ∃ (k : Nat) (v : FnV) (f : Fn.F), k ≤ m ∧ i = .int .i64 (k : Int) ∧ FnAt wr B v ∧ v = FnV.four x b v ∧ FnOwn wr w.heap.size v f ∧ As.parts k (l.drop (2 + k)) f = o ∧ Off B B W0 wr
def ptrs (B : Nat) : Array Value := #[.pointer (some ⟨B, 3, none⟩), .pointer (some ⟨B, 4, none⟩), .pointer (some ⟨B, 5, none⟩), .pointer (some ⟨B, 2, none⟩)]
theorem ptrs_at (B : Nat) {k : Nat} (h : k < 4) : (ptrs B)[k]? = some (.pointer (some ⟨B, voff k, none⟩)) := by
 rcases four_cases h with rfl | rfl | rfl | rfl <;> rfl
theorem FnAt.at {w : World} {B : Nat} {v : FnV} (h : FnAt w B v) {k : Nat} (hk : k < 4) : ∃ y, w.cell? ⟨B, voff k, none⟩ = some y := by
 rw [h.cell]
 rcases four_cases hk with rfl | rfl | rfl | rfl <;> exact ⟨_, rfl⟩
theorem FnAt.ice {w : World} {B : Nat} {v : FnV} (h : FnAt w B v) (j : Nat) : w.frozen? ⟨B, j, none⟩ = false := by
 unfold FnAt at h
 simp [World.frozen?, h]
theorem FnAt.list {w : World} {B : Nat} {v : FnV} (h : FnAt w B v) {k : Nat} (hk : k < 4) (t : Sl3) : FnAt (w.setCell ⟨B, voff k, none⟩ t.val) B (vpart k t v) := by
 unfold FnAt
 rw [← vpart_cells hk]
 exact mid_set h _
theorem FnOwn.list {w wr w5 : World} {B k : Nat} {v : FnV} {f : Fn.F} {t : Sl3} {l : List Int} (h : FnOwn wr w.heap.size v f) (hB : FnAt wr B v) (hs : w.heap.size ≤ wr.heap.size) (hb : Below wr.heap.size wr w5) (ho : w5.ownsRow wr.heap.size 86 1 t.val l.length (vs l)) (hk : k < 4) :
   FnAt w5 B v ∧ FnAt (w5.setCell ⟨B, voff k, none⟩ t.val) B (vpart k t v) ∧ FnOwn (w5.setCell ⟨B, voff k, none⟩ t.val) w.heap.size (vpart k t v) (As.part k l f) := by
 have h5 : FnAt w5 B v := (hb.block B (FnAt.lt hB)).trans hB
 have hg : w5.grownBy (w5.setCell ⟨B, voff k, none⟩ t.val) (some B) := Lib.grownBy_setB (World.grownBy.refl w5 _) _ _
 have hr : ∀ b, some B = some b → ∃ C t m, w5.heap[b]? = some (.cells C t m) ∧ Else t := fun b e => by injection e with e; subst e; exact ⟨_, _, _, h5, else_func⟩
 refine ⟨h5, h5.list hk t, FnOwn.part ((h.below hb).kept hg hr) hk (row_other (ownsRow_base ho hs) hg fun b e => ?_)⟩
 obtain ⟨C, t', m, h1, h2⟩ := hr b e
 exact ⟨C, t', m, h1, h2.1⟩
set_option maxHeartbeats 8000000 in
theorem ashead_any (s : ByteArray) (hs : s.size ≤ 1048576) (w : World) : Calls Tryz.prog 7 #[.string s] w (HeadP (As.head s) w) := by
 have b1 := (Below.refl w.heap.size w).alloc (Nat.le_refl _) (.cells FnV.zero.cells 35)
 have hR1 := heap_alloc_new w (.cells FnV.zero.cells 35)
 have HSp := assplit_any s (by omega) (w.alloc (.cells FnV.zero.cells 35))
 obtain ⟨l, hl⟩ : ∃ l, (As.words 32 s).take 7 = l := ⟨_, rfl⟩
 have hne : 1 ≤ l.length := by
   rw [← hl, As.words_cut]
   simp
 have HSz := Lib.hid (fun i => show (l.getD i ByteArray.empty).size ≤ 1048576 from by
   rcases Nat.lt_or_ge i l.length with h | h
   · have h1 : l.getD i ByteArray.empty ∈ l := by simp [List.getD, h]
     have h2 : l.getD i ByteArray.empty ∈ As.words 32 s := List.mem_of_mem_take (by rw [hl]; exact h1)
     exact Nat.le_trans (As.words_size 32 s.size s (Nat.le_refl _) _ h2) hs
   · rw [List.getD_eq_getElem?_getD, List.getElem?_eq_none h]
     exact Nat.zero_le _)
 rw [As.head_take hl]
 rw [hl] at HSp
 have H0 := Lib.hid (fun h => As.head_bad (l := l) h)
 have H1 := Lib.hid (fun h0 h1 h2 => As.head_name (l := l) h0 h1 h2)
 have H2 := Lib.hid (fun h0 h1 h2 => As.head_parts (l := l) h0 h1 h2)
 obtain ⟨o, ho⟩ : ∃ o, As.headOf l = o := ⟨_, rfl⟩
 rw [ho] at H0 H1 H2 ⊢
 clear ho
 have B1 := Lib.hid b1
 have HR1 := Lib.hid hR1
 have HNe := Lib.hid hne
 clear b1 hR1 hl hne hs
 go_enter Tryz.func7, Tryz.ntmps7
 go_wp2_with fail
 refine HSp.mono ?_
 rintro _ w2 ⟨a, c, rfl, hA, hb2⟩
 have HA := Lib.hid hA
 have B2 := Lib.hid (B1.out.trans (hb2.mono B1.out.size))
 have hR2 := (hb2.block _ (heap_lt HR1.out)).trans HR1.out
 have HR2 := Lib.hid hR2
 obtain ⟨hT2, hQ2, hD2⟩ := over_new (v := .zero) hR2 B2.out (Nat.le_refl _)
 have HD2 := Lib.hid (And.intro hQ2 hD2)
 obtain ⟨b, off, rfl, hbl, hce⟩ := hA.2 HNe.out
 have HCe := Lib.hid hce
 have HBl := Lib.hid hbl
 have hc0 := hce 0 HNe.out
 rw [Nat.add_zero] at hc0
 clear HSp hA hb2 hR2 hQ2 hD2 hce hbl HR1 B1
 by_cases hx : l.getD 0 ByteArray.empty = As.func_
 rotate_left
 · have HO := Lib.hid (H0.out (.inl hx))
   have hx1 : (((l.getD 0 ByteArray.empty).toList == [102, 117, 110, 99]) = false) := by
     rw [show ([102, 117, 110, 99] : List UInt8) = As.func_.toList by kernel_rfl]
     exact (Lib.bytes_beq_false_iff _ _).2 hx
   have hx2 : ((l.getD 0 ByteArray.empty).toList != [102, 117, 110, 99]) = true := by unfold bne; rw [hx1]; rfl
   generalize l.getD 0 ByteArray.empty = x0 at *
   clear hx H0 H1 H2
   go_wp2_with (with_reducible refine wpList_store_mid ?_ 35 (.tmp 2) (.tmp 26) ?_ w.heap.size 0 FnV.zero.cells ?_ ?_ hT2 ?_ ?_ ?_; rfl; rfl; go_must (go_simp; (unfold FnV.zero FnV.cells Sl3.nil Sl3.val; go_simp); kernel_rfl; kernel_rfl; generalize hw3 : w2.setCells w.heap.size 0 FnV.zero.cells.toList = w3 at *))
   refine bodyPost_ret (head_results (by go_simp) (by go_simp) HD2.out.1) (by go_simp) (HeadP.bad HO.out HD2.out.2)
 have hx1 : (((l.getD 0 ByteArray.empty).toList == [102, 117, 110, 99]) = true) := by
   rw [show ([102, 117, 110, 99] : List UInt8) = As.func_.toList by kernel_rfl, hx]
   exact beq_self_eq_true _
 have hx2 : ((l.getD 0 ByteArray.empty).toList != [102, 117, 110, 99]) = false := by unfold bne; rw [hx1]; rfl
 replace H1 := Lib.hid (H1.out hx)
 replace H2 := Lib.hid (H2.out hx)
 clear hx
 generalize l.getD 0 ByteArray.empty = x0 at *
 by_cases hn : l.length = 5 ∨ l.length = 6
 rotate_left
 · have HO := Lib.hid (H0.out (.inr (by omega)))
   have hn5 : ((l.length : Int) != 5) = true := by rw [bne_iff_ne]; omega
   have hn6 : ((l.length : Int) != 6) = true := by rw [bne_iff_ne]; omega
   clear hn H0 H1 H2
   go_wp2_with (with_reducible refine wpList_store_mid ?_ 35 (.tmp 2) (.tmp 26) ?_ w.heap.size 0 FnV.zero.cells ?_ ?_ hT2 ?_ ?_ ?_; rfl; rfl; go_must (go_simp; (unfold FnV.zero FnV.cells Sl3.nil Sl3.val; go_simp); kernel_rfl; kernel_rfl; generalize hw3 : w2.setCells w.heap.size 0 FnV.zero.cells.toList = w3 at *))
   refine bodyPost_ret (head_results (by go_simp) (by go_simp) HD2.out.1) (by go_simp) (HeadP.bad HO.out HD2.out.2)
 have hn56 : ((l.length : Int) != 5) = false ∨ (((l.length : Int) != 5) = true ∧ ((l.length : Int) != 6) = false) := by
   rcases hn with h | h
   · left; rw [bne_eq_false_iff_eq]; omega
   · right; exact ⟨by rw [bne_iff_ne]; omega, by rw [bne_eq_false_iff_eq]; omega⟩
 have hl1 : (1 : Int) < (l.length : Int) := by omega
 replace H1 := Lib.hid (H1.out hn)
 replace H2 := Lib.hid (H2.out hn)
 have HN := Lib.hid hn
 have hc1 := HCe.out 1 (by omega)
 obtain ⟨x1, hx1e⟩ : ∃ x1, l.getD 1 ByteArray.empty = x1 := ⟨_, rfl⟩
 have hxs := HSz.out 1
 rw [hx1e] at hc1 hxs
 have HMy := may_any x1 w2 (by omega)
 rw [hx1e] at H1 H2
 obtain ⟨my, hmy⟩ : ∃ my, Nm.may x1 = my := ⟨_, rfl⟩
 rw [hmy] at HMy H1 H2
 have HXs := Lib.hid hxs
 clear hn H0 hx1e hxs hmy
 cases my with
 | false =>
   have HO := Lib.hid (H1.out rfl)
   clear H1 H2
   rcases hn56 with h5 | ⟨h5, h6⟩
   all_goals
     go_wp2_with (first
       | (go_at_call 17; refine HMy.mono ?_; rintro _ wa ⟨rfl, he⟩; obtain rfl := he.symm; clear HMy)
       | (with_reducible refine wpList_store_mid ?_ 35 (.tmp 2) (.tmp 32) ?_ w.heap.size 0 FnV.zero.cells ?_ ?_ hT2 ?_ ?_ ?_; rfl; rfl; go_must (go_simp; (unfold FnV.zero FnV.cells Sl3.nil Sl3.val; go_simp); kernel_rfl; kernel_rfl; generalize hw3 : w2.setCells w.heap.size 0 FnV.zero.cells.toList = w3 at *)))
     refine bodyPost_ret (head_results (by go_simp) (by go_simp) HD2.out.1) (by go_simp) (HeadP.bad HO.out HD2.out.2)
 | true =>
   have HO := Lib.hid (H2.out rfl)
   clear H1 H2
   have HCl := strclone_any x1 (by have := HXs.out; omega) w2
   obtain ⟨inn, hin⟩ : ∃ inn, ((l.length : Int) == 6) = inn := ⟨_, rfl⟩
   have HIn : Hid (inn = decide (l.length = 6)) := Lib.hid (by
     rw [← hin, Bool.eq_iff_iff, beq_iff_eq, decide_eq_true_eq]
     omega)
   obtain ⟨m, hm⟩ : ∃ m, l.length = m + 2 := ⟨l.length - 2, by have := HN.out; omega⟩
   have hm4 : (m : Int) ≤ 4 := by have := HN.out; omega
   have hsub : (l.length : Int) - 2 = (m : Int) := by omega
   have HM := Lib.hid hm
   clear hm
   rcases hn56 with h5 | ⟨h5, h6⟩
   all_goals
     go_wp2_with (first
       | (go_at_call 17; refine HMy.mono ?_; rintro _ wa ⟨rfl, he⟩; obtain rfl := he.symm; clear HMy)
       | (go_at_call 18; refine HCl.mono ?_; rintro _ w3 ⟨rfl, hb3⟩; clear HCl hc0 hc1; have HB3 := Lib.hid hb3; clear hb3))
     have hF0 : FnAt ((w3.alloc (.cells (FnV.titled x1 inn).cells 35)).alloc (.cells (ptrs w3.heap.size) 55)) w3.heap.size (FnV.titled x1 inn) := (Below.heap_alloc _ _ _ (by simp)).trans (heap_alloc_new w3 _)
     have hP0 := heap_alloc_new (w3.alloc (.cells (FnV.titled x1 inn).cells 35)) (.cells (ptrs w3.heap.size) 55)
     have hb0 := ((Below.refl w3.heap.size w3).alloc (Nat.le_refl _) (.cells (FnV.titled x1 inn).cells 35)).alloc (by simp) (.cells (ptrs w3.heap.size) 55)
     have hO0 := FnOwn.titled ((w3.alloc (.cells (FnV.titled x1 inn).cells 35)).alloc (.cells (ptrs w3.heap.size) 55)) w.heap.size x1 l.length
     rw [← HIn.out] at hO0
     rw [World.size_alloc] at hP0
     have HF0 := Lib.hid hF0
     have HP0 := Lib.hid hP0
     have HO0 := Lib.hid hO0
     have HB30 := Lib.hid (HB3.out.trans (hb0.mono HB3.out.size))
     have HBB : Hid (w2.heap.size ≤ w3.heap.size ∧ w.heap.size < w2.heap.size) := Lib.hid ⟨HB3.out.size, heap_lt HR2.out⟩
     clear hF0 hP0 hO0 hb0
     unfold FnV.titled FnV.zero FnV.cells ptrs Sl3.nil Sl3.val at HF0 HP0 HO0 HB30
     simp only at HF0 HP0 HO0 HB30
     generalize (w3.alloc (.cells #[.string x1, .bool inn, .slice none 0 0, .slice none 0 0, .slice none 0 0, .slice none 0 0, .slice none 0 0, .slice none 0 0, .slice none 0 0, .slice none 0 0, .slice none 0 0] 35)).alloc (.cells #[.pointer (some ⟨w3.heap.size, 3, none⟩), .pointer (some ⟨w3.heap.size, 4, none⟩), .pointer (some ⟨w3.heap.size, 5, none⟩), .pointer (some ⟨w3.heap.size, 2, none⟩)] 55) = W0 at *
     have HF1 : Hid (FnAt W0 w3.heap.size (FnV.titled x1 inn)) := HF0
     have HP1 : Hid (W0.heap[w3.heap.size + 1]? = some (.cells (ptrs w3.heap.size) 55 (0, 0))) := HP0
     have HO1 : Hid (FnOwn W0 w.heap.size (FnV.titled x1 inn) (As.title x1 l.length)) := HO0
     have HB1 := Lib.hid (B2.out.trans (HB30.out.mono B2.out.size))
     have HRW := Lib.hid (fun (W : World) (h : Off w3.heap.size w3.heap.size W0 W) => show W.heap[w.heap.size]? = some (.cells FnV.zero.cells 35 (0, 0)) from
       (h.block _ (Nat.lt_of_lt_of_le HBB.out.2 HB30.out.size) (by have := HBB.out; omega) (by have := HBB.out; omega)).trans ((HB30.out.block _ HBB.out.2).trans HR2.out))
     have HPW := Lib.hid (fun (W : World) (h : Off w3.heap.size w3.heap.size W0 W) => show W.heap[w3.heap.size + 1]? = some (.cells (ptrs w3.heap.size) 55 (0, 0)) from (h.block _ (heap_lt HP1.out) (by omega) (by omega)).trans HP1.out)
     have HNW := Lib.hid (fun (W : World) (h : Off w3.heap.size w3.heap.size W0 W) (i : Nat) (hi : i < l.length) => show W.cell? ⟨b, off + i, none⟩ = some (.string (l.getD i ByteArray.empty)) from by
       have e1 := HB30.out.block b HBl.out
       have e2 := h.block b (Nat.lt_of_lt_of_le HBl.out HB30.out.size) (by have := HBl.out; have := HBB.out; omega) (by have := HBl.out; have := HBB.out; omega)
       rw [World.cell?_of_block (a := ⟨b, off + i, none⟩) (e2.trans e1)]
       exact HCe.out i hi)
     have HBW := Lib.hid (fun (W : World) (h : Off w3.heap.size w3.heap.size W0 W) => show Below w.heap.size w W from HB1.out.trans ⟨h.os, h.tape, h.output, h.size, fun j hj => h.block j (Nat.lt_of_lt_of_le hj HB1.out.size) (by have := HBB.out; omega) (by have := HBB.out; omega)⟩)
     clear HF0 HP0 HO0 HB3 hT2 HD2 HCe HA
     generalize w3.heap.size = B at *
     go_loopw [6, 7, 8, 9, 51] (fun _ _ _ _ i wr => HdRel l o m x1 inn w B W0 i wr) (fun _ _ _ _ i _ => m - (intOf i).toNat)
     case atStart => exact ⟨0, _, _, Nat.zero_le _, rfl, HF1.out, rfl, HO1.out, HO.out.symm, Off.refl _ _ _⟩
     case round =>
       obtain ⟨k, v, f, hk, rfl, hF, hv, hO, hp, hof⟩ := hrel
       have HV := Lib.hid hv
       have HF := Lib.hid hF
       have HFO := Lib.hid hO
       have HPt := Lib.hid hp
       have HOf := Lib.hid hof
       clear hF hO hp hof hv
       by_cases hlt : k < m
       · have hk4 : k < 4 := by omega
         have hki : (k : Int) < (m : Int) := by omega
         have hkl : (2 : Int) + (k : Int) < (l.length : Int) := by have := HM.out; omega
         have HK := Lib.hid (show 2 + k < l.length by have := HM.out; omega)
         have cP := cell_of_row wr (B + 1) k _ _ _ (HPW.out wr HOf.out)
         rw [ptrs_at B hk4] at cP
         have cN := HNW.out wr HOf.out (2 + k) HK.out
         obtain ⟨x, hx⟩ : ∃ x, l.getD (2 + k) ByteArray.empty = x := ⟨_, rfl⟩
         have hxs := HSz.out (2 + k)
         rw [hx] at cN hxs
         have HX := Lib.hid hx
         have HRd := siread_own x wr hxs
         unfold SrdO at HRd
         obtain ⟨r, hr⟩ : ∃ r, Si.read (Si.codes x) = r := ⟨_, rfl⟩
         rw [hr] at HRd
         have HR := Lib.hid hr
         clear hx hxs hr
         cases r with
         | none =>
           simp only [Option.getD_none, Option.isSome_none, List.length_nil, Bool.false_eq_true, if_false] at HRd
           have HE := Lib.hid (HPt.out.symm.trans (As.parts_none HK.out (by rw [HX.out]; exact HR.out)))
           go_wp2_with (go_at_call 19; refine HRd.mono ?_; rintro _ w5 ⟨A, c5, rfl, _, hb5⟩; clear HRd cP cN; refine Hid.out ?_)
           obtain ⟨hT, hQ, hD⟩ := over_new (v := .zero) ((hb5.block _ (heap_lt (HRW.out wr HOf.out))).trans (HRW.out wr HOf.out)) ((HBW.out wr HOf.out).trans (hb5.mono (HBW.out wr HOf.out).size)) (Nat.le_refl _)
           have HQ := Lib.hid (And.intro hQ hD)
           clear hb5 hQ hD
           refine Lib.hid ?_
           go_wp2_with (with_reducible refine wpList_store_mid ?_ 35 (.tmp 2) (.tmp 67) ?_ w.heap.size 0 FnV.zero.cells ?_ ?_ hT ?_ ?_ ?_; rfl; rfl; go_must (go_simp; (unfold FnV.zero FnV.cells Sl3.nil Sl3.val; go_simp); kernel_rfl; kernel_rfl; generalize hw6 : w5.setCells w.heap.size 0 FnV.zero.cells.toList = w6 at *))
           refine bodyPost_ret (head_results (by go_simp) (by go_simp) HQ.out.1) (by go_simp) (HeadP.bad HE.out HQ.out.2)
         | some t =>
           simp only [Option.getD_some, Option.isSome_some, if_true] at HRd
           have HE := Lib.hid (HPt.out.symm.trans (As.parts_some HK.out (by rw [HX.out]; exact HR.out)))
           go_wp2_with (go_at_call 19; refine HRd.mono ?_; rintro _ w5 ⟨A, c5, rfl, ho5, hb5⟩; clear HRd cP cN; refine Hid.out ?_)
           obtain ⟨h5, h6, h7⟩ := HFO.out.list (t := ⟨A, t.length, c5⟩) HF.out (HBW.out wr HOf.out).size hb5 ho5 hk4
           have HOf6 := Lib.hid (HOf.out.trans ((Off.below hb5).trans (Off.set B B (voff k) (Sl3.mk A t.length c5).val w5)))
           obtain ⟨y, hy⟩ := h5.at hk4
           have hz := h5.ice (voff k)
           have HV7 := Lib.hid (four_part (t := ⟨A, t.length, c5⟩) hk4 HV.out)
           have H67 := Lib.hid (And.intro h6 h7)
           clear ho5 hb5 h5 h6 h7
           simp only [Sl3.val] at H67 HOf6
           refine Lib.hid ?_
           go_wp2
           go_roundw
           case rel => exact ⟨k + 1, _, _, hlt, by go_num, H67.out.1, HV7.out, H67.out.2, HE.out.symm, HOf6.out⟩
           case measure => simp [intOf]; omega
       · obtain rfl : k = m := by omega
         have hki : decide ((k : Int) < (k : Int)) = false := decide_eq_false (by omega)
         have hq : wr.rangeAt B 0 v.cells.toList := World.rangeAt_of_block HF.out 0 11
         obtain ⟨hT, hQ, hD⟩ := over_new (v := v) (HRW.out wr HOf.out) (HBW.out wr HOf.out) (Nat.le_refl _)
         have hk := sets_grown w.heap.size v.cells.toList 0 wr
         have HQ := Lib.hid (And.intro hQ hD)
         have HX := Lib.hid (HFO.out.kept hk (fun b e => by injection e with e; subst e; exact ⟨_, _, _, HRW.out wr HOf.out, else_func⟩))
         have HE := Lib.hid (HPt.out.symm.trans (As.parts_all (by have := HM.out; omega)))
         clear hQ hD hk
         go_wp2_with (first
           | (with_reducible refine wpList_load_mid ?_ 35 (.tmp 5) ?_ B 0 ?_ v.cells.toList _ hq Tryz.underlying35 ?_ ?_ ?_; rfl; rfl; go_must (go_simp; rfl; kernel_rfl))
           | (with_reducible refine wpList_store_mid ?_ 35 (.tmp 2) (.tmp 73) ?_ w.heap.size 0 v.cells ?_ ?_ hT ?_ ?_ ?_; rfl; rfl; go_must (go_simp; go_simp; kernel_rfl; kernel_rfl; generalize hw6 : wr.setCells w.heap.size 0 v.cells.toList = w6 at *)))
         refine bodyPost_ret (head_results (x := .int .i64 0) (by go_simp) (by go_simp) HQ.out.1) (by go_simp) ?_
         rw [HE.out]
         exact ⟨v, rfl, HX.out, ⟨_, _, HV.out⟩, HQ.out.2⟩
end Go.Proofs.YtfopelegobhegaaGreatDoor
