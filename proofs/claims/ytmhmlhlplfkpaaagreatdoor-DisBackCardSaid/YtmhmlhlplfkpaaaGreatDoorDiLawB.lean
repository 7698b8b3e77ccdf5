/-
 inlaylaw18.DisBack: a program that can be laid, and has no tables, is read from its text as it was. Conditions: the library's variables and tables are laid.
-/
import Derived.Test.YtmhmlhlplfkpaaaGreatDoorDiFits
import Derived.Test.YtmhmlhlplfkpaaaGreatDoorDiBk
import Derived.Test.YtmhmlhlplfkpaaaGreatDoorAsB
set_option maxRecDepth 100000
namespace Go.Proofs.YtmhmlhlplfkpaaaGreatDoor
open Go.RowKit
theorem Di.text_bound {l : List Fn.F} (hn : l.length ≤ 50) (h : ∀ f ∈ l, (Di.func f).size ≤ 11000) : (Di.text l).size ≤ 1048576 := by
 have h1 := Di.textTo_size h (Nat.le_refl l.length)
 have h2 : l.length * 11000 ≤ 50 * 11000 := Nat.mul_le_mul_right _ hn
 unfold Di.text
 omega
theorem mem_at {l : List Fn.F} {f : Fn.F} (h : f ∈ l) : ∃ k, k < l.length ∧ l.getD k .zero = f := by
 obtain ⟨k, hk, e⟩ := List.getElem_of_mem h
 exact ⟨k, hk, by rw [← e]; simp [List.getD, hk]⟩
set_option maxHeartbeats 8000000 in
theorem disBack_walk (a : Option Addr) (n c : Nat) (vs : List FnV) (fs : List Fn.F) (w : World) (h : FnsAt w w.heap.size a n vs fs) (hn : n ≤ 9223372036854775807) (hw : ∀ f ∈ fs, f.Wf) (hg : Glob w) (hT : Tab w) (hgt : 0 < w.heap.size) :
   Calls Tryz.prog 4 #[.agg #[.slice a n c]] w (BoolP true w) := by
 have b0 := (Below.refl w.heap.size w).alloc (Nat.le_refl _) (.cells #[.slice a n c] 36)
 have HLv := Lib.hid (fun (W : World) (hb : Below w.heap.size w W) => lives18_any W (hg.pow.below hb))
 have H := Lib.hid (h.on b0)
 have HSm := Lib.hid (small16_any a n c vs fs _ H.out hn)
 have HCn := Lib.hid (fun (W : World) (hW : FnsAt W W.heap.size a n vs fs) (hs : ∀ k, k < n → (vs.getD k .zero).Few) => rflcan_any a n c vs fs W hW hw hs)
 have HB0 := Lib.hid b0
 have HP := Lib.hid (And.intro hg (And.intro hT hgt))
 have HW := Lib.hid hw
 have HLf := Lib.hid h.lenf
 have hc := heap_alloc_new w (.cells #[.slice a n c] 36)
 have HQ := Lib.hid (cell_of_row (w.alloc (.cells #[.slice a n c] 36)) _ 0 _ _ _ hc)
 have HZ := Lib.hid (show w.heap.size < (w.alloc (.cells #[.slice a n c] 36)).heap.size by simp)
 have q0 := HQ.out
 clear h hw hg hT hgt b0 hc
 go_enter Tryz.func4, Tryz.ntmps4
 go_wp2_with (go_at_call 14; refine HSm.out.mono ?_; rintro _ w1 ⟨s1, rfl, hs1, hb1⟩; clear HSm q0; refine Hid.out ?_)
 have q1 := (hb1.cell (p := ⟨w.heap.size, 0, none⟩) HZ.out).trans HQ.out
 have HB1 := Lib.hid (HB0.out.trans (hb1.mono HB0.out.size))
 have HS1 := Lib.hid hs1
 have H1 := Lib.hid (H.out.on hb1)
 have HZ1 := Lib.hid (Nat.lt_of_lt_of_le HZ.out hb1.size)
 have HQ1 := Lib.hid q1
 clear hb1 hs1 HQ HZ
 cases s1 with
 | false =>
   refine Lib.hid ?_
   go_wp2_with (go_at_call 7; refine (HLv.out w1 HB1.out).mono ?_; rintro _ w2 ⟨rfl, hb2⟩; have HB2 := Lib.hid (HB1.out.trans (hb2.mono HB1.out.size)); clear hb2 HLv)
   go_ret
   exact ⟨rfl, HB2.out⟩
 | true =>
 have HF := Lib.hid (HS1.out rfl)
 have HC1 := Lib.hid (HCn.out w1 H1.out HF.out.2)
 unfold ErrP at HC1
 by_cases hcan : Fl.can fs = 0
 rotate_left
 · have hd : decide ((Fl.can fs : Int) = 0) = false := decide_eq_false (by omega)
   have hne : ((Fl.can fs : Int) == 0) = false := by
     rw [beq_eq_false_iff_ne]
     omega
   generalize Fl.can fs = cn at *
   refine Lib.hid ?_
   go_wp2_with (first
     | (go_at_call 15; refine HC1.out.mono ?_; rintro _ w2 ⟨rfl, hb2⟩; have HB2 := Lib.hid (HB1.out.trans (hb2.mono HB1.out.size)); clear hb2 HC1)
     | (go_at_call 7; refine (HLv.out w2 HB2.out).mono ?_; rintro _ w3 ⟨rfl, hb3⟩; have HB3 := Lib.hid (HB2.out.trans (hb3.mono HB2.out.size)); clear hb3 HLv))
   go_ret
   exact ⟨rfl, HB3.out⟩
 rw [hcan] at HC1
 have HCan := Lib.hid hcan
 clear hcan
 refine Lib.hid ?_
 go_wp2_with (go_at_call 15; refine HC1.out.mono ?_; rintro _ w2 ⟨rfl, hb2⟩; have HB2 := Lib.hid (HB1.out.trans (hb2.mono HB1.out.size)); have H2 := Lib.hid (H1.out.on hb2); have HQ2 := Lib.hid ((hb2.cell (p := ⟨w.heap.size, 0, none⟩) HZ1.out).trans HQ1.out); have HZ2 := Lib.hid (Nat.lt_of_lt_of_le HZ1.out hb2.size); clear hb2 HC1 q1)
 go_loopw [3] (fun i wr => ∃ k : Nat, k ≤ n ∧ i = .int .i64 (k : Int) ∧ Below w2.heap.size w2 wr ∧ ∀ j, j < k → (fs.getD j .zero).bare = true) (fun i _ => n - (intOf i).toNat)
 case atStart => exact ⟨0, Nat.zero_le _, rfl, Below.refl _ _, fun j hj => absurd hj (Nat.not_lt_zero _)⟩
 case round =>
   obtain ⟨k, hk, rfl, hB, hbare⟩ := hrel
   have HB := Lib.hid hB
   have HBa := Lib.hid hbare
   have q2 := (HB.out.cell (p := ⟨w.heap.size, 0, none⟩) HZ2.out).trans HQ2.out
   have HBw := Lib.hid (HB2.out.trans (HB.out.mono HB2.out.size))
   clear hB hbare
   by_cases hlt : k < n
   · obtain ⟨b1, off1, x, f, rfl, hlt1, e1, ef, ok1, ln1, hk1, c0, c1, c2, c3, c4, c5, c6, c7, c8, c9, c10⟩ := fns_cell (H2.out.on HB.out) hlt
     have hfew : x.Few := by
       have := HF.out.2 k hlt
       rwa [e1] at this
     have HBr := Lib.hid (fun W => rfnbare_any x hfew W)
     rw [ok1.bare] at HBr
     have hki : (k : Int) < (n : Int) := by omega
     have hk1' : k + 1 ≤ n := hlt
     have HBn : Hid (f.bare = true → ∀ j, j < k + 1 → (fs.getD j .zero).bare = true) := Lib.hid (fun hb j hj => by
       rcases Nat.lt_or_ge j k with h1 | h1
       · exact HBa.out j h1
       · obtain rfl : j = k := by omega
         rw [ef]
         exact hb)
     clear ok1 ln1 hk1 e1 ef hfew hk hlt hlt1
     cases hfb : f.bare with
     | false =>
       rw [hfb] at HBr
       go_wp2_with (first
         | (go_at_call 16; refine (HBr.out _).mono ?_; rintro _ w3 ⟨rfl, hb3⟩; have HB3 := Lib.hid (HBw.out.trans (hb3.mono HBw.out.size)); clear hb3 HBr)
         | (go_at_call 7; refine (HLv.out w3 HB3.out).mono ?_; rintro _ w4 ⟨rfl, hb4⟩; have HB4 := Lib.hid (HB3.out.trans (hb4.mono HB3.out.size)); clear hb4 HLv))
       go_ret
       exact ⟨rfl, HB4.out⟩
     | true =>
       rw [hfb] at HBr
       have HBn := Lib.hid (HBn.out hfb)
       clear hfb
       go_wp2_with (go_at_call 16; refine (HBr.out _).mono ?_; rintro _ w3 ⟨rfl, hb3⟩; have HB3 := Lib.hid (HB.out.trans (hb3.mono HB.out.size)); clear hb3 HBr)
       go_roundw
       case rel => exact ⟨k + 1, hk1', by go_num, HB3.out, HBn.out⟩
       case measure => simp [intOf]; omega
   · obtain rfl : k = n := by omega
     have hki : decide ((k : Int) < (k : Int)) = false := decide_eq_false (by omega)
     have hok : ∀ j, j < k → DiOk (vs.getD j .zero) (fs.getD j .zero) := fun j hj => DiOk.of (H2.out.ok j hj) (HW.out _ (by
       have : j < fs.length := by rw [HLf.out]; exact hj
       simp [List.getD, this])) (by
       have : j < fs.length := by rw [HLf.out]; exact hj
       exact (Fl.can_ok.1 HCan.out).2.2.1 _ (by simp [List.getD, this])) (HF.out.2 j hj).1
     have hsz := Di.text_bound (l := fs) (by rw [HLf.out]; exact HF.out.1) (fun f hf => by
       obtain ⟨j, hj, rfl⟩ := mem_at hf
       exact (hok j (by rw [← HLf.out]; exact hj)).func)
     have hrd := As.read_back HCan.out HW.out (fun f hf => by
       obtain ⟨j, hj, rfl⟩ := mem_at hf
       exact HBa.out j (by rw [← HLf.out]; exact hj))
     have hFr := H2.out.on HB.out
     have HTx := Lib.hid (dtext_any a k c vs fs wr hFr HF.out.1 (fun j hj => (hok j hj).fit) HW.out (HP.out.1.pow.below HBw.out) (Nat.le_trans hsz (by decide)))
     have HRd := Lib.hid (fun (W : World) (hb : Below w.heap.size w W) => asread_any (Di.text fs) hsz W (HP.out.1.below hb) (tab_below HP.out.2.1 hb HP.out.2.2) (Nat.lt_of_lt_of_le HP.out.2.2 hb.size))
     unfold AsReadP at HRd
     rw [hrd] at HRd
     have HFr := Lib.hid hFr
     have HZr := Lib.hid (Nat.lt_of_lt_of_le HZ2.out HB.out.size)
     have HQr := Lib.hid q2
     clear hok hsz hrd hFr HBa HCn
     generalize Di.text fs = tx at *
     go_wp2_with (first
       | (go_at_call 18; refine HTx.out.mono ?_; rintro _ w3 ⟨rfl, hb3⟩; have HB3 := Lib.hid (HBw.out.trans (hb3.mono HBw.out.size)); have HF3 := Lib.hid (HFr.out.on hb3); have HQ3 := Lib.hid ((hb3.cell (p := ⟨w.heap.size, 0, none⟩) HZr.out).trans HQr.out); have HZ3 := Lib.hid (Nat.lt_of_lt_of_le HZr.out hb3.size); clear hb3 HTx q2)
       | (go_at_call 17; refine (HRd.out w3 HB3.out).mono ?_; rintro _ w4 ⟨⟨sa, sn, sc⟩, us, rfl, hsn, hf4, _, hb4⟩; refine Hid.out ?_))
     replace hsn : sn = fs.length := hsn
     subst hsn
     have hb5 := hb4.trans (((Below.refl w4.heap.size w4).alloc (Nat.le_refl _) (.cells #[.slice sa fs.length sc] 36)).mono hb4.size)
     have HF5 := Lib.hid (HF3.out.on hb5)
     have HG5 := Lib.hid (hf4.on ((Below.refl w4.heap.size w4).alloc (Nat.le_refl _) (.cells #[.slice sa fs.length sc] 36)))
     have HQ5 := Lib.hid ((hb5.cell (p := ⟨w.heap.size, 0, none⟩) HZ3.out).trans HQ3.out)
     have HC5 := Lib.hid (prog_cell (heap_alloc_new w4 (.cells #[.slice sa fs.length sc] 36))).1
     have HB5 := Lib.hid (HB3.out.trans (hb5.mono HB3.out.size))
     have HSa := Lib.hid ((rflsame_any sa a fs.length sc k c us vs fs fs _ HG5.out HF5.out (by rw [HLf.out]; exact hn)).mono fun _ _ => EqP.tells (b := true) ⟨fun _ => rfl, fun _ => rfl⟩)
     have e5 := HC5.out
     have q5 := HQ5.out
     simp only [Sl3.val]
     clear hf4 hb4 hb5 HRd
     refine Lib.hid ?_
     go_wp2_with (first
       | (go_at_call 19; refine HSa.out.mono ?_; rintro _ w6 ⟨rfl, hb6⟩; have HB6 := Lib.hid (HB5.out.trans (hb6.mono HB5.out.size)); clear hb6 HSa e5 q5)
       | (go_at_call 7; refine (HLv.out w6 HB6.out).mono ?_; rintro _ w7 ⟨rfl, hb7⟩; have HB7 := Lib.hid (HB6.out.trans (hb7.mono HB6.out.size)); clear hb7 HLv))
     go_ret
     exact ⟨rfl, HB7.out⟩
end Go.Proofs.YtmhmlhlplfkpaaaGreatDoor
