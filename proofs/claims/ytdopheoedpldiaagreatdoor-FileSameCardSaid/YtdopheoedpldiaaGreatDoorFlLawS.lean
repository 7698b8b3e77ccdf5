/-
 The walk of FileSame. Conditions: the programs can be read; the library's table is laid.
-/
import Derived.Test.YtdopheoedpldiaaGreatDoorFlR
import Derived.Test.YtdopheoedpldiaaGreatDoorFlSame
set_option maxRecDepth 100000
namespace Go.Proofs.YtdopheoedpldiaaGreatDoor
open Go.RowKit
set_option maxHeartbeats 16000000 in
theorem fileSame_walk (s t : Sl3) (us vs : List FnV) (fs gs : List Fn.F) (w : World) (h : FnsAt w w.heap.size s.a s.n us fs) (h2 : FnsAt w w.heap.size t.a t.n vs gs) (hn : s.n ≤ 9223372036854775807) (hm : t.n ≤ 9223372036854775807) (hT : Tab w) (hgT : 0 < w.heap.size) :
   Calls Tryz.prog 5 #[.agg #[s.val], .agg #[t.val]] w (BoolP true w) := by
 obtain ⟨a, n, c⟩ := s
 obtain ⟨b, m, d⟩ := t
 simp only [Sl3.val] at h h2 hn hm ⊢
 have b0 := (Below.refl w.heap.size w).alloc (Nat.le_refl _) (.cells #[.slice a n c] 24)
 have b1 := b0.alloc b0.size (.cells #[.slice b m d] 24)
 have H := Lib.hid (h.on b1)
 have H2 := Lib.hid (h2.on b1)
 have B1 := Lib.hid b1
 have HT := Lib.hid (And.intro (tab_below hT b1 hgT) (Nat.lt_of_lt_of_le hgT b1.size))
 have hh2 := heap_alloc_new (w.alloc (.cells #[.slice a n c] 24)) (.cells #[.slice b m d] 24)
 rw [World.size_alloc] at hh2
 have hh1 := (Below.heap_alloc (w.alloc (.cells #[.slice a n c] 24)) (.cells #[.slice b m d] 24) w.heap.size (by simp)).trans (heap_alloc_new w (.cells #[.slice a n c] 24))
 have hq1 := (prog_cell hh1).1
 have hq2 := (prog_cell hh2).1
 have HQ1 := Lib.hid hq1
 have HQ2 := Lib.hid hq2
 have HZ := Lib.hid (show w.heap.size + 1 < ((w.alloc (.cells #[.slice a n c] 24)).alloc (.cells #[.slice b m d] 24)).heap.size by simp)
 have HSm := Lib.hid (small16_any a n c us fs _ H.out hn)
 unfold SmallsP at HSm
 obtain ⟨bs, hbs⟩ : ∃ bs : Bool, (bs = true ↔ fs = gs) := by
   by_cases e : fs = gs
   · exact ⟨true, fun _ => e, fun _ => rfl⟩
   · exact ⟨false, fun h => (by cases h), fun h => absurd h e⟩
 have HBs := Lib.hid hbs
 clear h h2 b0 b1 hh1 hh2 hT hgT hbs
 go_enter Tryz.func5, Tryz.ntmps5
 go_wp2_with (go_at_call 7; refine HSm.out.mono ?_; rintro _ w2 ⟨s1, rfl, _, hb2⟩; clear HSm hq1 hq2; refine Hid.out ?_)
 generalize (w.alloc (.cells #[.slice a n c] 24)).alloc (.cells #[.slice b m d] 24) = w1 at *
 have HLv := Lib.hid (fun (W : World) (hb : Below w1.heap.size w1 W) => lives16_any W (tab_below HT.out.1 hb HT.out.2) (Nat.lt_of_lt_of_le HT.out.2 hb.size))
 unfold BoolP at HLv
 have HB2 := Lib.hid hb2
 have hq2 := (hb2.cell (p := ⟨w.heap.size + 1, 0, none⟩) HZ.out).trans HQ2.out
 have HSm2 := Lib.hid (small16_any b m d vs gs w2 (H2.out.on hb2) hm)
 unfold SmallsP at HSm2
 clear hb2
 cases s1 with
 | false =>
   refine Lib.hid ?_
   go_wp2_with (go_at_call 8; refine (HLv.out w2 HB2.out).mono ?_; rintro _ w3 ⟨rfl, hb3⟩; have HB3 := Lib.hid (HB2.out.trans (hb3.mono HB2.out.size)); clear hb3 HLv)
   go_ret
   exact ⟨rfl, B1.out.trans (HB3.out.mono B1.out.size)⟩
 | true =>
 refine Lib.hid ?_
 go_wp2_with (go_at_call 7; refine HSm2.out.mono ?_; rintro _ w3 ⟨s2, rfl, _, hb3⟩; clear HSm2 hq2; refine Hid.out ?_)
 have HB3 := Lib.hid (HB2.out.trans (hb3.mono HB2.out.size))
 clear hb3
 cases s2 with
 | false =>
   refine Lib.hid ?_
   go_wp2_with (go_at_call 8; refine (HLv.out w3 HB3.out).mono ?_; rintro _ w4 ⟨rfl, hb4⟩; have HB4 := Lib.hid (HB3.out.trans (hb4.mono HB3.out.size)); clear hb4 HLv)
   go_ret
   exact ⟨rfl, B1.out.trans (HB4.out.mono B1.out.size)⟩
 | true =>
 refine Lib.hid ?_
 go_wp2
 go_loopw [5] (fun i wr => ∃ k : Nat, k ≤ n ∧ i = .int .i64 (k : Int) ∧ Below w1.heap.size w1 wr) (fun i _ => n - (intOf i).toNat)
 case atStart => exact ⟨0, Nat.zero_le _, rfl, HB3.out⟩
 case round =>
   obtain ⟨k, hk, rfl, hB⟩ := hrel
   have HB := Lib.hid hB
   have hq1 := (HB.out.cell (p := ⟨w.heap.size, 0, none⟩) (show w.heap.size < w1.heap.size by have := HZ.out; omega)).trans HQ1.out
   have hq2 := (HB.out.cell (p := ⟨w.heap.size + 1, 0, none⟩) HZ.out).trans HQ2.out
   clear hB
   obtain ⟨K, hK, F, HC, HBe, HU⟩ := worlds_of wr
   have HBF := Lib.hid (fun q => HB.out.trans ((HBe.out q).mono HB.out.size))
   have s1 := cell_q HBe.out (show w.heap.size < wr.heap.size by have := HZ.out; have := HB.out.size; omega) hq1
   have s2 := cell_q HBe.out (show w.heap.size + 1 < wr.heap.size by have := HZ.out; have := HB.out.size; omega) hq2
   by_cases hlt : k < n
   · obtain ⟨b1, off1, x, f, rfl, hlt1, e1, ef, ok1, ln1, hk1, c0, c1, c2, c3, c4, c5, c6, c7, c8, c9, c10⟩ := fns_cell (H.out.on HB.out) hlt
     have HSm := Lib.hid (fun q => (rfnsame_any x x f f (F q) (ok1.on (HBe.out q)) (ok1.on (HBe.out q)) ln1).mono fun _ _ => EqP.tells (b := true) ⟨fun _ => rfl, fun _ => rfl⟩)
     have p0 := cell_q HBe.out hlt1 c0; have p1 := cell_q HBe.out hlt1 c1; have p2 := cell_q HBe.out hlt1 c2; have p3 := cell_q HBe.out hlt1 c3; have p4 := cell_q HBe.out hlt1 c4; have p5 := cell_q HBe.out hlt1 c5; have p6 := cell_q HBe.out hlt1 c6; have p7 := cell_q HBe.out hlt1 c7; have p8 := cell_q HBe.out hlt1 c8; have p9 := cell_q HBe.out hlt1 c9; have p10 := cell_q HBe.out hlt1 c10
     have hki : (k : Int) < (n : Int) := by omega
     clear ok1 ln1 hk1 e1 ef c0 c1 c2 c3 c4 c5 c6 c7 c8 c9 c10
     go_wp2
     refine region_q F HC.out (by kernel_rfl) (by kernel_rfl) ?_
     repeat (go_big_quiet_step (first | (go_at_call 17; refine Calls.q HU.out (HSm.out _))))
     refine wpQuiet_nil ?_
     rintro _ ⟨nq, rfl⟩
     go_wp2
     go_roundw
     case rel => exact ⟨k + 1, hlt, by go_num, HBF.out nq⟩
     case measure => simp [intOf]; omega
   · have HA := Lib.hid (fun q => (flsame_any a b n c m d us vs fs gs (F q) (H.out.on (HBF.out q)) (H2.out.on (HBF.out q)) hn).mono fun _ _ => EqP.tells HBs.out)
     have HR := Lib.hid (fun q => (rflsame_any a b n c m d us vs fs gs (F q) (H.out.on (HBF.out q)) (H2.out.on (HBF.out q)) hn).mono fun _ _ => EqP.tells HBs.out)
     have HS := Lib.hid (fun q => (flsame_any a a n c n c us us fs fs (F q) (H.out.on (HBF.out q)) (H.out.on (HBF.out q)) hn).mono fun _ _ => EqP.tells (b := true) ⟨fun _ => rfl, fun _ => rfl⟩)
     have HL := Lib.hid (fun q => HLv.out (F q) (HBF.out q))
     have hbb : (bs == bs) = true := by cases bs <;> rfl
     have hki : decide ((k : Int) < (n : Int)) = false := decide_eq_false (by omega)
     go_wp2
     refine region_q F HC.out (by kernel_rfl) (by kernel_rfl) ?_
     repeat (go_big_quiet_step (first
       | (go_at_call 14; refine Calls.q HU.out (HR.out _))
       | (go_at_call 16; with_reducible refine Calls.q HU.out (HA.out _))
       | (go_at_call 16; refine Calls.q HU.out (HS.out _))
       | (go_at_call 8; refine Calls.q HU.out (HL.out _))))
     refine wpQuiet_nil ?_
     rintro _ ⟨nq, rfl⟩
     go_wp2
     go_ret
     exact ⟨rfl, B1.out.trans ((HBF.out nq).mono B1.out.size)⟩
end Go.Proofs.YtdopheoedpldiaaGreatDoor
