/-
 Whether two programs are the same; the document's answer. Conditions: the functions can be read.
-/
import Derived.Test.YtdopheoedpldiaaGreatDoorFlA
import Derived.Test.YtdopheoedpldiaaGreatDoorFnEqS
set_option maxRecDepth 100000
namespace Go.Proofs.YtdopheoedpldiaaGreatDoor
open Go.RowKit
theorem EqP.tells {p : Prop} {b : Bool} (hb : b = true ↔ p) {w w' : World} {e : Ending} (h : EqP p w e w') : e = .returned (.bool b) ∧ Below w.heap.size w w' := by
 obtain ⟨c, rfl, hc, hbl⟩ := h
 have : c = b := by rw [Bool.eq_iff_iff]; exact hc.trans hb.symm
 exact ⟨by rw [this], hbl⟩
set_option maxHeartbeats 4000000 in
theorem flequal_any (a b : Option Addr) (n c m d : Nat) (us vs : List FnV) (fs gs : List Fn.F) (w : World) (h : FnsAt w w.heap.size a n us fs) (h2 : FnsAt w w.heap.size b m vs gs) (hn : n ≤ 9223372036854775807) :
   Calls Tryz.prog 33 #[.slice a n c, .slice b m d, .func (.func 34) #[] #[]] w (EqP (fs = gs) w) := by
 have H := Lib.hid h
 have H2 := Lib.hid h2
 clear h h2
 by_cases hnm : n = m
 · subst hnm
   go_enter Tryz.func33, Tryz.ntmps33
   go_wp2
   go_loopw [7, 8, 9, 17] (fun _ _ _ i wr => ∃ k : Nat, k ≤ n ∧ i = .int .i64 (k : Int) ∧ Below w.heap.size w wr ∧ fs.take k = gs.take k) (fun _ _ _ i _ => n - (intOf i).toNat)
   case atStart => exact ⟨0, Nat.zero_le _, rfl, Below.refl _ _, by simp⟩
   case round =>
     obtain ⟨k, hk, rfl, hB, hW⟩ := hrel
     have HB := Lib.hid hB
     have HW := Lib.hid hW
     clear hB hW
     by_cases hlt : k < n
     · obtain ⟨b1, off1, x, f, rfl, hlt1, e1, ef, ok1, ln1, hk1, c0, c1, c2, c3, c4, c5, c6, c7, c8, c9, c10⟩ := fns_cell (H.out.on HB.out) hlt
       have hb1 := (Below.refl wr.heap.size wr).alloc (Nat.le_refl _) (.cells x.cells 43)
       obtain ⟨b2, off2, y, g, rfl, hlt2, e2, eg, ok2, ln2, hk2, d0, d1, d2, d3, d4, d5, d6, d7, d8, d9, d10⟩ := fns_cell ((H2.out.on HB.out).on hb1) hlt
       simp only [FnV.cells, Sl3.val] at d0 d1 d2 d3 d4 d5 d6 d7 d8 d9 d10
       have hb2 := (Below.refl (wr.alloc (.cells x.cells 43)).heap.size (wr.alloc (.cells x.cells 43))).alloc (Nat.le_refl _) (.cells y.cells 43)
       have HSm := Lib.hid (fnsame_any x y f g ((wr.alloc (.cells x.cells 43)).alloc (.cells y.cells 43)) ((ok1.on hb1).on hb2) (ok2.on hb2) ln1)
       have HB2 := Lib.hid (HB.out.trans ((hb1.trans (hb2.mono hb1.size)).mono HB.out.size))
       clear hb1 hb2 ok1 ok2 ln1 ln2
       by_cases hfg : f = g
       · have HC := Lib.hid (HSm.out.mono fun _ _ => EqP.tells (b := true) ⟨fun _ => hfg, fun _ => rfl⟩)
         have HN := Lib.hid (take_same_succ Fn.F.zero HW.out hk1 hk2 (by rw [ef, eg, hfg]))
         clear HSm hfg ef eg e1 e2 hk1 hk2
         go_wp2_with (go_at_call 34; refine HC.out.mono ?_; rintro _ w1 ⟨rfl, hb3⟩; have HB3 := Lib.hid (HB2.out.trans (hb3.mono HB2.out.size)); clear HC hb3 c0 c1 c2 c3 c4 c5 c6 c7 c8 c9 c10 d0 d1 d2 d3 d4 d5 d6 d7 d8 d9 d10)
         go_roundw
         case rel => exact ⟨k + 1, hlt, by go_num, HB3.out, HN.out⟩
         case measure => simp [intOf]; omega
       · have HC := Lib.hid (HSm.out.mono fun _ _ => EqP.tells (b := false) ⟨fun e => (by cases e), fun e => absurd e hfg⟩)
         have HN : Hid (¬ fs = gs) := Lib.hid (fun e => hfg (by rw [← ef, ← eg, e]))
         clear HSm hfg ef eg e1 e2 hk1 hk2
         go_wp2_with (go_at_call 34; refine HC.out.mono ?_; rintro _ w1 ⟨rfl, hb3⟩; have HB3 := Lib.hid (HB2.out.trans (hb3.mono HB2.out.size)); clear HC hb3 c0 c1 c2 c3 c4 c5 c6 c7 c8 c9 c10 d0 d1 d2 d3 d4 d5 d6 d7 d8 d9 d10)
         go_ret
         exact EqP.no HN.out HB3.out
     · have HN : Hid (fs = gs) := Lib.hid (by
         have h1 := HW.out
         rwa [List.take_of_length_le (by rw [H.out.lenf]; omega), List.take_of_length_le (by rw [H2.out.lenf]; omega)] at h1)
       go_wp2
       go_ret
       exact EqP.yes HN.out HB.out
 · have HN : Hid (¬ fs = gs) := Lib.hid (fun e => hnm (by rw [← H.out.lenf, ← H2.out.lenf, e]))
   have hd : ((n : Int) != (m : Int)) = true := bne_iff_ne.2 (by omega)
   clear hnm
   go_enter Tryz.func33, Tryz.ntmps33
   go_wp2
   go_ret
   exact EqP.no HN.out (Below.refl _ _)
set_option maxHeartbeats 4000000 in
theorem flsame_any (a b : Option Addr) (n c m d : Nat) (us vs : List FnV) (fs gs : List Fn.F) (w : World) (h : FnsAt w w.heap.size a n us fs) (h2 : FnsAt w w.heap.size b m vs gs) (hn : n ≤ 9223372036854775807) :
   Calls Tryz.prog 16 #[.agg #[.slice a n c], .agg #[.slice b m d]] w (EqP (fs = gs) w) := by
 have b0 := (Below.refl w.heap.size w).alloc (Nat.le_refl _) (.cells #[.slice a n c] 24)
 have b1 := b0.alloc b0.size (.cells #[.slice b m d] 24)
 have HE := flequal_any a b n c m d us vs fs gs _ (h.on b1) (h2.on b1) hn
 unfold EqP at HE
 have B1 := Lib.hid b1
 clear h h2 b0 b1
 go_enter Tryz.func16, Tryz.ntmps16
 go_wp2_with (go_at_call 33; refine HE.mono ?_; rintro _ w1 ⟨b, rfl, hb, hb3⟩; have HB3 := Lib.hid (B1.out.trans (hb3.mono B1.out.size)); have Hb := Lib.hid hb; clear HE hb3 hb)
 go_ret
 exact ⟨_, rfl, Hb.out, HB3.out⟩
set_option maxHeartbeats 8000000 in
theorem rflsame_any (a b : Option Addr) (n c m d : Nat) (us vs : List FnV) (fs gs : List Fn.F) (w : World) (h : FnsAt w w.heap.size a n us fs) (h2 : FnsAt w w.heap.size b m vs gs) (hn : n ≤ 9223372036854775807) :
   Calls Tryz.prog 14 #[.agg #[.slice a n c], .agg #[.slice b m d]] w (EqP (fs = gs) w) := by
 have b0 := (Below.refl w.heap.size w).alloc (Nat.le_refl _) (.cells #[.slice a n c] 24)
 have b1 := b0.alloc b0.size (.cells #[.slice b m d] 24)
 have H := Lib.hid (h.on b1)
 have H2 := Lib.hid (h2.on b1)
 have B1 := Lib.hid b1
 have hh2 := heap_alloc_new (w.alloc (.cells #[.slice a n c] 24)) (.cells #[.slice b m d] 24)
 rw [World.size_alloc] at hh2
 have hh1 := (Below.heap_alloc (w.alloc (.cells #[.slice a n c] 24)) (.cells #[.slice b m d] 24) w.heap.size (by simp)).trans (heap_alloc_new w (.cells #[.slice a n c] 24))
 have hq1 := cell_of_row _ _ 0 _ _ _ hh1
 have hq2 := cell_of_row _ _ 0 _ _ _ hh2
 have HQ1 := Lib.hid hq1
 have HQ2 := Lib.hid hq2
 have HZ := Lib.hid (show w.heap.size + 1 < ((w.alloc (.cells #[.slice a n c] 24)).alloc (.cells #[.slice b m d] 24)).heap.size by simp)
 clear h h2 b0 b1 hh1 hh2
 by_cases hnm : n = m
 · subst hnm
   go_enter Tryz.func14, Tryz.ntmps14
   go_wp2
   generalize hw1 : (w.alloc (.cells #[.slice a n c] 24)).alloc (.cells #[.slice b n d] 24) = w1 at *
   clear hw1 hq1 hq2
   go_loopw [5] (fun i wr => ∃ k : Nat, k ≤ n ∧ i = .int .i64 (k : Int) ∧ Below w1.heap.size w1 wr ∧ fs.take k = gs.take k) (fun i _ => n - (intOf i).toNat)
   case atStart => exact ⟨0, Nat.zero_le _, rfl, Below.refl _ _, by simp⟩
   case round =>
     obtain ⟨k, hk, rfl, hB, hW⟩ := hrel
     have HB := Lib.hid hB
     have HW := Lib.hid hW
     have hq1 := (HB.out.cell (p := ⟨w.heap.size, 0, none⟩) (show w.heap.size < w1.heap.size by have := HZ.out; omega)).trans HQ1.out
     have hq2 := (HB.out.cell (p := ⟨w.heap.size + 1, 0, none⟩) (show w.heap.size + 1 < w1.heap.size from HZ.out)).trans HQ2.out
     clear hB hW
     by_cases hlt : k < n
     · obtain ⟨b1, off1, x, f, rfl, hlt1, e1, ef, ok1, ln1, hk1, c0, c1, c2, c3, c4, c5, c6, c7, c8, c9, c10⟩ := fns_cell (H.out.on HB.out) hlt
       obtain ⟨b2, off2, y, g, rfl, hlt2, e2, eg, ok2, ln2, hk2, d0, d1, d2, d3, d4, d5, d6, d7, d8, d9, d10⟩ := fns_cell (H2.out.on HB.out) hlt
       obtain ⟨K, hK, F, HC, HBe, HU⟩ := worlds_of wr
       have HSm := Lib.hid (fun q => rfnsame_any x y f g (F q) (ok1.on (HBe.out q)) (ok2.on (HBe.out q)) ln1)
       have p0 := cell_q HBe.out hlt1 c0; have p1 := cell_q HBe.out hlt1 c1; have p2 := cell_q HBe.out hlt1 c2; have p3 := cell_q HBe.out hlt1 c3; have p4 := cell_q HBe.out hlt1 c4; have p5 := cell_q HBe.out hlt1 c5; have p6 := cell_q HBe.out hlt1 c6; have p7 := cell_q HBe.out hlt1 c7; have p8 := cell_q HBe.out hlt1 c8; have p9 := cell_q HBe.out hlt1 c9; have p10 := cell_q HBe.out hlt1 c10
       have r0 := cell_q HBe.out hlt2 d0; have r1 := cell_q HBe.out hlt2 d1; have r2 := cell_q HBe.out hlt2 d2; have r3 := cell_q HBe.out hlt2 d3; have r4 := cell_q HBe.out hlt2 d4; have r5 := cell_q HBe.out hlt2 d5; have r6 := cell_q HBe.out hlt2 d6; have r7 := cell_q HBe.out hlt2 d7; have r8 := cell_q HBe.out hlt2 d8; have r9 := cell_q HBe.out hlt2 d9; have r10 := cell_q HBe.out hlt2 d10
       have s1 := cell_q HBe.out (show w.heap.size < wr.heap.size by have := HZ.out; have := HB.out.size; omega) hq1
       have s2 := cell_q HBe.out (show w.heap.size + 1 < wr.heap.size by have := HZ.out; have := HB.out.size; omega) hq2
       have hki : (k : Int) < (n : Int) := by omega
       clear ok1 ok2 ln1 ln2 c0 c1 c2 c3 c4 c5 c6 c7 c8 c9 c10 d0 d1 d2 d3 d4 d5 d6 d7 d8 d9 d10
       by_cases hfg : f = g
       · have HE := Lib.hid (fun q => (HSm.out q).mono fun _ _ => EqP.tells (b := true) ⟨fun _ => hfg, fun _ => rfl⟩)
         have HN := Lib.hid (take_same_succ Fn.F.zero HW.out hk1 hk2 (by rw [ef, eg, hfg]))
         clear HSm hfg ef eg e1 e2 hk1 hk2
         go_wp2
         refine region_q F HC.out (by kernel_rfl) (by kernel_rfl) ?_
         repeat (go_big_quiet_step (first | (go_at_call 17; refine Calls.q HU.out (HE.out _))))
         refine wpQuiet_nil ?_
         rintro _ ⟨nq, rfl⟩
         go_wp2
         go_roundw
         case rel => exact ⟨k + 1, hlt, by go_num, HB.out.trans ((HBe.out nq).mono HB.out.size), HN.out⟩
         case measure => simp [intOf]; omega
       · have HE := Lib.hid (fun q => (HSm.out q).mono fun _ _ => EqP.tells (b := false) ⟨fun e => (by cases e), fun e => absurd e hfg⟩)
         have HN : Hid (¬ fs = gs) := Lib.hid (fun e => hfg (by rw [← ef, ← eg, e]))
         clear HSm hfg ef eg e1 e2 hk1 hk2
         go_wp2
         refine region_q F HC.out (by kernel_rfl) (by kernel_rfl) ?_
         repeat (go_big_quiet_step (first | (go_at_call 17; refine Calls.q HU.out (HE.out _))))
         refine wpQuiet_nil ?_
         rintro _ ⟨nq, rfl⟩
         go_wp2
         go_ret
         exact EqP.no HN.out (B1.out.trans ((HB.out.trans ((HBe.out nq).mono HB.out.size)).mono B1.out.size))
     · have HN : Hid (fs = gs) := Lib.hid (by
         have h1 := HW.out
         rwa [List.take_of_length_le (by rw [H.out.lenf]; omega), List.take_of_length_le (by rw [H2.out.lenf]; omega)] at h1)
       go_wp2
       go_ret
       exact EqP.yes HN.out (B1.out.trans (HB.out.mono B1.out.size))
 · have HN : Hid (¬ fs = gs) := Lib.hid (fun e => hnm (by rw [← H.out.lenf, ← H2.out.lenf, e]))
   have hd : ((n : Int) != (m : Int)) = true := bne_iff_ne.2 (by omega)
   clear hnm
   go_enter Tryz.func14, Tryz.ntmps14
   go_wp2
   go_ret
   exact EqP.no HN.out B1.out
end Go.Proofs.YtdopheoedpldiaaGreatDoor
