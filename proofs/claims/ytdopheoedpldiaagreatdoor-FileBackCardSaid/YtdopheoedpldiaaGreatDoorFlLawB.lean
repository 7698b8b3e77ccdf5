/-
 The walk of FileBack. Conditions: the program can be read; the library's table is laid.
-/
import Derived.Test.YtdopheoedpldiaaGreatDoorFlSame
import Derived.Test.YtdopheoedpldiaaGreatDoorFlCopy
set_option maxRecDepth 100000
namespace Go.Proofs.YtdopheoedpldiaaGreatDoor
open Go.RowKit
theorem fl_long {w : World} {B : Nat} {v : FnV} {f : Fn.F} (h : FnOk w B v f) (hf : v.Few) (hc : f.can = 0) : ∀ s ∈ [v.outer, v.params, v.results, v.locals, v.code, v.lines, v.nodes, v.at_, v.live], s.n ≤ 1048576 := by
 obtain ⟨n1, n2, n3, n4, n5, n6, n7, n8, n9, n10⟩ := Fn.can_len hc
 obtain ⟨f1, f2, f3, f4, f5⟩ := hf
 have m1 := h.n_outer; have m2 := h.n_params; have m3 := h.n_results; have m4 := h.n_locals
 intro s hs
 simp only [List.mem_cons, List.not_mem_nil, or_false] at hs
 rcases hs with rfl | rfl | rfl | rfl | rfl | rfl | rfl | rfl | rfl <;> omega
theorem EqP.yes_of {α : Type} {f : α} {w w' : World} {e : Ending} (h : EqP (f = f) w e w') : e = .returned (.bool true) ∧ Below w.heap.size w w' := h.tells ⟨fun _ => rfl, fun _ => rfl⟩
structure FbC (wd : World) (fs : List Fn.F) (x : Sl3 × List FnV) (D : Nat → Bool) (W : World) : Prop where
 base : Below wd.heap.size wd W
 cp : D 13 = true → FnsAt W W.heap.size x.1.a x.1.n x.2 fs ∧ x.1.n = fs.length
section
variable {wd W W' : World} {fs : List Fn.F} {x z : Sl3 × List FnV} {D : Nat → Bool}
theorem FbC.up (h : FbC wd fs x D W) {i : Nat} (h1 : (13 == i) = false) : FbC wd fs x (add D i) W := ⟨h.base, by rw [up_other h1]; exact h.cp⟩
theorem FbC.below (h : FbC wd fs x D W) (hb : Below W.heap.size W W') : FbC wd fs x D W' := ⟨h.base.trans (hb.mono h.base.size), fun e => ⟨(h.cp e).1.on hb, (h.cp e).2⟩⟩
theorem FbC.copied (h : FbC wd fs x D W) (hb : Below W.heap.size W W') (hs : z.1.n = fs.length) (hv : FnsAt W' W'.heap.size z.1.a z.1.n z.2 fs) : FbC wd fs z (add D 13) W' := ⟨h.base.trans (hb.mono h.base.size), fun _ => ⟨hv, hs⟩⟩
end
def fbG (_ _ n : Nat) (pa : Option Addr) (c : Nat) (sa : Option Addr) (sc : Nat) (x : Sl3 × List FnV) : Nat → Value → Prop
 | 0, v => v = .int .i64 0
 | 1, v => v = .bool true
 | 2, v => v = .bool true
 | 3, v => v = .int .i64 0
 | 4, v => v = .bool true
 | 5, v => v = .bool true
 | 6, v => v = .bool true
 | 7, v => v = .agg #[.slice sa n sc]
 | 8, v => v = .agg #[.slice pa n c]
 | 9, v => v = .bool true
 | 10, v => v = .bool true
 | 11, v => v = .bool true
 | 12, v => v = .agg #[.slice pa n c]
 | 13, v => v = .agg #[.slice x.1.a x.1.n x.1.c]
 | 14, v => v = .agg #[.slice pa n c]
 | 15, v => v = .bool true
 | 16, v => v = .bool true
 | 17, v => v = .bool true
 | 18, v => v = .agg #[.slice sa n sc]
 | 19, v => v = .agg #[.slice pa n c]
 | 20, v => v = .bool true
 | 21, v => v = .bool true
 | 22, v => v = .bool true
 | 23, v => v = .bool true
 | 24, v => v = .bool true
 | 25, v => v = .bool true
 | _, _ => True
theorem fb_cp {p2 p6 n : Nat} {pa : Option Addr} {c : Nat} {sa : Option Addr} {sc : Nat} {x z : Sl3 × List FnV} {D : Nat → Bool} (h13 : D 13 = false) : ∀ j v, D j = true → fbG p2 p6 n pa c sa sc x j v → fbG p2 p6 n pa c sa sc z j v
 | 0, _, _, h => h
 | 1, _, _, h => h
 | 2, _, _, h => h
 | 3, _, _, h => h
 | 4, _, _, h => h
 | 5, _, _, h => h
 | 6, _, _, h => h
 | 7, _, _, h => h
 | 8, _, _, h => h
 | 9, _, _, h => h
 | 10, _, _, h => h
 | 11, _, _, h => h
 | 12, _, _, h => h
 | 13, _, hj, _ => by rw [h13] at hj; cases hj
 | 14, _, _, h => h
 | 15, _, _, h => h
 | 16, _, _, h => h
 | 17, _, _, h => h
 | 18, _, _, h => h
 | 19, _, _, h => h
 | 20, _, _, h => h
 | 21, _, _, h => h
 | 22, _, _, h => h
 | 23, _, _, h => h
 | 24, _, _, h => h
 | 25, _, _, h => h
 | _ + 26, _, _, h => h
set_option maxHeartbeats 16000000 in
theorem fileBack_walk (s : Sl3) (vs : List FnV) (fs : List Fn.F) (w : World) (h : FnsAt w w.heap.size s.a s.n vs fs) (hw : ∀ f ∈ fs, f.Wf) (hn : s.n ≤ 9223372036854775807) (hT : Tab w) (hgT : 0 < w.heap.size) :
   Calls Tryz.prog 4 #[.agg #[s.val]] w (BoolP true w) := by
 obtain ⟨pa, n, c⟩ := s
 simp only [Sl3.val] at h hn ⊢
 have b0 := (Below.refl w.heap.size w).alloc (Nat.le_refl _) (.cells #[.slice pa n c] 24)
 have H := Lib.hid (h.on b0)
 have B0 := Lib.hid b0
 have HT := Lib.hid (And.intro (tab_below hT b0 hgT) (Nat.lt_of_lt_of_le hgT b0.size))
 have hc0 := (prog_cell (heap_alloc_new w (.cells #[.slice pa n c] 24))).1
 have HC := Lib.hid hc0
 have HZ := Lib.hid (show w.heap.size < (w.alloc (.cells #[.slice pa n c] 24)).heap.size by simp)
 have HSm := Lib.hid (small16_any pa n c vs fs _ H.out hn)
 unfold SmallsP at HSm
 have HW := Lib.hid hw
 clear h b0 hT hgT hw
 go_enter Tryz.func4, Tryz.ntmps4
 go_wp2_with (go_at_call 7; refine HSm.out.mono ?_; rintro _ w2 ⟨bs, rfl, hbs, hb2⟩; clear HSm hc0; refine Hid.out ?_)
 generalize w.alloc (.cells #[.slice pa n c] 24) = w1 at *
 have HLv := Lib.hid (fun (W : World) (hb : Below w1.heap.size w1 W) => lives16_any W (tab_below HT.out.1 hb HT.out.2) (Nat.lt_of_lt_of_le HT.out.2 hb.size))
 unfold BoolP at HLv
 have HB2 := Lib.hid hb2
 have hc2 := (hb2.cell (p := ⟨w.heap.size, 0, none⟩) HZ.out).trans HC.out
 cases bs with
 | false =>
   clear hb2 hbs
   refine Lib.hid ?_
   go_wp2_with (go_at_call 8; refine (HLv.out w2 HB2.out).mono ?_; rintro _ w3 ⟨rfl, hb3⟩; have HB3 := Lib.hid (HB2.out.trans (hb3.mono HB2.out.size)); clear hb3 HLv)
   go_ret
   exact ⟨rfl, B0.out.trans (HB3.out.mono B0.out.size)⟩
 | true =>
 obtain ⟨hn50, hfew⟩ := hbs rfl
 have HRC := Lib.hid (rflcan_any pa n c vs fs w2 (H.out.on hb2) HW.out hfew)
 unfold ErrP at HRC
 obtain ⟨cf, hcf⟩ : ∃ cf, Fl.can fs = cf := ⟨_, rfl⟩
 rw [hcf] at HRC
 clear hb2 hfew
 by_cases hz : cf = 0
 rotate_left
 · have hd : ((cf : Int) != 0) = true := bne_iff_ne.2 (by omega)
   clear hcf hz
   refine Lib.hid ?_
   go_wp2_with (first
     | (go_at_call 12; refine HRC.out.mono ?_; rintro _ w3 ⟨rfl, hb3⟩; have HB3 := Lib.hid (HB2.out.trans (hb3.mono HB2.out.size)); clear hb3 HRC)
     | (go_at_call 8; refine (HLv.out w3 HB3.out).mono ?_; rintro _ w4 ⟨rfl, hb4⟩; have HB4 := Lib.hid (HB3.out.trans (hb4.mono HB3.out.size)); clear hb4 HLv))
   go_ret
   exact ⟨rfl, B0.out.trans (HB4.out.mono B0.out.size)⟩
 have hd : ((cf : Int) != 0) = false := by rw [hz]; rfl
 have hcan : Fl.can fs = 0 := hcf.trans hz
 have HEn := Lib.hid (fun (W : World) (hb : Below w1.heap.size w1 W) => flencode_any pa n c vs fs W (H.out.on hb) HW.out (tab_below HT.out.1 hb HT.out.2) (Nat.lt_of_lt_of_le HT.out.2 hb.size))
 rw [hcan, show Fl.bytes fs = Fl.laid fs from if_pos hcan] at HEn
 unfold EncP at HEn
 have HCan := Lib.hid hcan
 have HPos := Lib.hid (laid_pos fs)
 have HLl := Lib.hid (Fl.laid_lens hcan HW.out)
 have HFw := Lib.hid (fun k hk => (hbs rfl).2 k hk)
 clear hcf hcan hbs
 refine Lib.hid ?_
 go_wp2_with (first
   | (go_at_call 12; refine HRC.out.mono ?_; rintro _ w3 ⟨rfl, hb3⟩; have HB3 := Lib.hid (HB2.out.trans (hb3.mono HB2.out.size)); clear hb3 HRC hc2; have hc3 := (HB3.out.cell (p := ⟨w.heap.size, 0, none⟩) HZ.out).trans HC.out)
   | (go_at_call 9; refine (HEn.out w3 HB3.out).mono ?_; rintro _ w4 ⟨v4, rfl, ho4, hb4⟩; clear HEn hc3; refine Hid.out ?_))
 have HB4 := Lib.hid (HB3.out.trans (hb4.mono HB3.out.size))
 obtain ⟨A, k, rfl, hB4, hk1, hk2⟩ := own_at ho4 (Fl.laid_bytes _)
 have hD := fldecode_any A _ k (Fl.laid fs) w4 hB4 (by have := HLl.out; omega) hk1 hk2 (tab_below HT.out.1 HB4.out HT.out.2) (Nat.lt_of_lt_of_le HT.out.2 HB4.out.size) (fun _ _ => by
   have := back_names HCan.out HW.out []
   rwa [List.append_nil] at this)
 rw [Fl.dec_back HCan.out HW.out] at hD
 unfold DecP at hD
 have HD := Lib.hid hD
 clear ho4 hb4 hB4 hk1 hk2 hD
 generalize (Fl.laid fs).length = nl at *
 refine Lib.hid ?_
 go_wp2_with (go_at_call 13; refine HD.out.mono ?_; rintro _ w5 ⟨⟨sa, sn, sc⟩, qs, rfl, hsn, hq5, _, hb5⟩; replace hsn : n = sn := ((show sn = fs.length from hsn).trans H.out.lenf).symm; subst hsn; simp only [Sl3.val] at hq5 ⊢; clear HD; refine Hid.out ?_)
 have hb6 := hb5.alloc hb5.size (.cells #[.slice sa n sc] 24)
 have b6 := (Below.refl w5.heap.size w5).alloc (Nat.le_refl _) (.cells #[.slice sa n sc] 24)
 have hq6 := hq5.on b6
 have hp6 := (prog_cell (heap_alloc_new w5 (.cells #[.slice sa n sc] 24))).1
 have hl6 := heap_lt (heap_alloc_new w5 (.cells #[.slice sa n sc] 24))
 have HB6 := Lib.hid (HB4.out.trans (hb6.mono HB4.out.size))
 clear hb5 hb6 b6 hq5
 refine Lib.hid ?_
 go_wp2
 generalize hw7 : w5.alloc (.cells #[.slice sa n sc] 24) = w7 at *
 generalize hpp : w5.heap.size = p6 at *
 clear hw7 hpp
 have hc7 := (HB6.out.cell (p := ⟨w.heap.size, 0, none⟩) HZ.out).trans HC.out
 have hl7 : w.heap.size < w7.heap.size := Nat.lt_of_lt_of_le HZ.out HB6.out.size
 generalize hpx : w.heap.size = p2 at *
 have HPX := Lib.hid hpx
 clear hpx
 have HPc := Lib.hid (fun (W : World) (hb : Below w7.heap.size w7 W) => (hb.cell (p := ⟨p2, 0, none⟩) hl7).trans hc7)
 have HQc := Lib.hid (fun (W : World) (hb : Below w7.heap.size w7 W) => (hb.cell (p := ⟨p6, 0, none⟩) hl6).trans hp6)
 have HP7 := Lib.hid (H.out.on HB6.out)
 have HQ7 := Lib.hid hq6
 have HS1 := Lib.hid (fun (W : World) (hb : Below w7.heap.size w7 W) => (rflsame_any sa pa n sc n c qs vs fs fs W (HQ7.out.on hb) (HP7.out.on hb) hn).mono (fun _ _ => EqP.yes_of))
 have HS3 := Lib.hid (fun (W : World) (hb : Below w7.heap.size w7 W) => (flsame_any sa pa n sc n c qs vs fs fs W (HQ7.out.on hb) (HP7.out.on hb) hn).mono (fun _ _ => EqP.yes_of))
 have HS2 := Lib.hid (fun (W : World) (x : Sl3 × List FnV) (hb : Below w7.heap.size w7 W) (hx : FnsAt W W.heap.size x.1.a x.1.n x.2 fs ∧ x.1.n = fs.length) => (rflsame_any x.1.a pa x.1.n x.1.c n c x.2 vs fs fs W hx.1 (HP7.out.on hb) (by rw [hx.2, H.out.lenf]; exact hn)).mono (fun _ _ => EqP.yes_of))
 have HCp := Lib.hid (fun (W : World) (hb : Below w7.heap.size w7 W) => flcopy_any pa n c vs fs W (HP7.out.on hb) hn50 (fun k hk => fl_long (HP7.out.ok k hk) (HFw.out k hk) (HP7.out.canF (Fl.can_ok.1 HCan.out).2.2.1 hk rfl)))
 have HLv2 := Lib.hid (fun (W : World) (hb : Below w7.heap.size w7 W) => HLv.out W (HB6.out.trans (hb.mono HB6.out.size)))
 unfold ProgP at HCp
 have hS : FbC w7 fs (.nil, []) (fun _ => false) w7.drew := ⟨(Below.refl _ _).drew, fun e => by cases e⟩
 clear hc7 hl7 hl6 hp6 hq6
 refine region_k ((.nil, []) : Sl3 × List FnV) 51 (fun x D W => FbC w7 fs x D W) (fbG p2 p6 n pa c sa sc) (by kernel_rfl) (by kernel_rfl) (by kernel_rfl) rfl rfl hS ?_ ?_
 · refine ⟨?_, ?_, ?_, ?_, ?_, ?_, ?_, ?_, ?_, ?_, ?_, ?_, ?_, ?_, ?_, ?_, ?_, ?_, ?_, ?_, ?_, ?_, ?_, ?_, ?_, ?_, trivial⟩
   · intro x D a w hI hdep hD0 K hK
     have e4 : a.eval (.tmp 4) = .int .i64 0 := hI.read 4 rfl
     refine ok_value (wanted_none rfl) (v := .int .i64 0) ?_ (hK x _ _ (hI.world.up rfl) (fun _ _ _ h => h) rfl)
     obtain ⟨ec, ef⟩ := ecs a; clear hI hdep hK; generalize a.eval = ρ at e4 ec ef ⊢; go_simp
   · intro x D a w hI hdep hD0 K hK
     have e26 : a.eval (.tmp 26) = .int .i64 0 := hI.good 0 26 (dep_of hdep 0 rfl) rfl
     refine ok_value (wanted_none rfl) (v := .bool true) ?_ (hK x _ _ (hI.world.up rfl) (fun _ _ _ h => h) rfl)
     obtain ⟨ec, ef⟩ := ecs a; clear hI hdep hK; generalize a.eval = ρ at e26 ec ef ⊢; go_simp
   · intro x D a w hI hdep hD0 K hK
     have e27 : a.eval (.tmp 27) = .bool true := hI.good 1 27 (dep_of hdep 1 rfl) rfl
     refine ok_value (wanted_none rfl) (v := .bool true) ?_ (hK x _ _ (hI.world.up rfl) (fun _ _ _ h => h) rfl)
     obtain ⟨ec, ef⟩ := ecs a; clear hI hdep hK; generalize a.eval = ρ at e27 ec ef ⊢; go_simp
   · intro x D a w hI hdep hD0 K hK
     have eg : a.eval (.tmp 28) = .bool true := hI.good 2 28 (dep_of hdep 2 rfl) rfl
     have e6 : a.eval (.tmp 6) = .int .i64 0 := hI.read 6 rfl
     refine ok_value (wanted_is rfl rfl hI.size (by simp) eg) (v := .int .i64 0) ?_ (hK x _ _ (hI.world.up rfl) (fun _ _ _ h => h) rfl)
     obtain ⟨ec, ef⟩ := ecs a; clear hI hdep hK; generalize a.eval = ρ at eg e6 ec ef ⊢; go_simp
   · intro x D a w hI hdep hD0 K hK
     have eg : a.eval (.tmp 28) = .bool true := hI.good 2 28 (dep_of hdep 2 rfl) rfl
     have e29 : a.eval (.tmp 29) = .int .i64 0 := hI.good 3 29 (dep_of hdep 3 rfl) rfl
     refine ok_value (wanted_is rfl rfl hI.size (by simp) eg) (v := .bool true) ?_ (hK x _ _ (hI.world.up rfl) (fun _ _ _ h => h) rfl)
     obtain ⟨ec, ef⟩ := ecs a; clear hI hdep hK; generalize a.eval = ρ at eg e29 ec ef ⊢; go_simp
   · intro x D a w hI hdep hD0 K hK
     have e28 : a.eval (.tmp 28) = .bool true := hI.good 2 28 (dep_of hdep 2 rfl) rfl
     have e30 : a.eval (.tmp 30) = .bool true := hI.good 4 30 (dep_of hdep 4 rfl) rfl
     refine ok_value (wanted_none rfl) (v := .bool true) ?_ (hK x _ _ (hI.world.up rfl) (fun _ _ _ h => h) rfl)
     obtain ⟨ec, ef⟩ := ecs a; clear hI hdep hK; generalize a.eval = ρ at e28 e30 ec ef ⊢; go_simp
   · intro x D a w hI hdep hD0 K hK
     have e31 : a.eval (.tmp 31) = .bool true := hI.good 5 31 (dep_of hdep 5 rfl) rfl
     refine ok_value (wanted_none rfl) (v := .bool true) ?_ (hK x _ _ (hI.world.up rfl) (fun _ _ _ h => h) rfl)
     obtain ⟨ec, ef⟩ := ecs a; clear hI hdep hK; generalize a.eval = ρ at e31 ec ef ⊢; go_simp
   · intro x D a w hI hdep hD0 K hK
     have eg : a.eval (.tmp 32) = .bool true := hI.good 6 32 (dep_of hdep 6 rfl) rfl
     have e5 : a.eval (.tmp 5) = .pointer (some ⟨p6, 0, none⟩) := hI.read 5 rfl
     have k0 := HQc.out w hI.world.base
     refine ok_value (wanted_is rfl rfl hI.size (by simp) eg) (v := .agg #[.slice sa n sc]) ?_ (hK x _ _ ((hI.world.up rfl)) (fun _ _ _ h => h) rfl)
     obtain ⟨ec, ef⟩ := ecs a; clear hI hdep hK; generalize a.eval = ρ at eg e5 ec ef ⊢; go_simp
   · intro x D a w hI hdep hD0 K hK
     have eg : a.eval (.tmp 32) = .bool true := hI.good 6 32 (dep_of hdep 6 rfl) rfl
     have e1 : a.eval (.tmp 1) = .pointer (some ⟨p2, 0, none⟩) := hI.read 1 rfl
     have k0 := HPc.out w hI.world.base
     refine ok_value (wanted_is rfl rfl hI.size (by simp) eg) (v := .agg #[.slice pa n c]) ?_ (hK x _ _ ((hI.world.up rfl)) (fun _ _ _ h => h) rfl)
     obtain ⟨ec, ef⟩ := ecs a; clear hI hdep hK; generalize a.eval = ρ at eg e1 ec ef ⊢; go_simp
   · intro x D a w hI hdep hD0 K hK
     have eg : a.eval (.tmp 32) = .bool true := hI.good 6 32 (dep_of hdep 6 rfl) rfl
     have e33 : a.eval (.tmp 33) = .agg #[.slice sa n sc] := hI.good 7 33 (dep_of hdep 7 rfl) rfl
     have e34 : a.eval (.tmp 34) = .agg #[.slice pa n c] := hI.good 8 34 (dep_of hdep 8 rfl) rfl
     refine ok_call (wanted_is rfl rfl hI.size (by simp) eg) (f := 14) (args := #[.agg #[.slice sa n sc], .agg #[.slice pa n c]]) ?_ (HS1.out w hI.world.base) ?_
     · obtain ⟨ec, ef⟩ := ecs a; clear hI hdep hK; generalize a.eval = ρ at eg e33 e34 ec ef ⊢; go_simp
     · rintro e w2 ⟨rfl, hb2⟩
       exact ⟨_, rfl, hK x _ _ (((hI.world.up rfl)).below hb2) (fun _ _ _ h => h) rfl⟩
   · intro x D a w hI hdep hD0 K hK
     have e32 : a.eval (.tmp 32) = .bool true := hI.good 6 32 (dep_of hdep 6 rfl) rfl
     have e35 : a.eval (.tmp 35) = .bool true := hI.good 9 35 (dep_of hdep 9 rfl) rfl
     refine ok_value (wanted_none rfl) (v := .bool true) ?_ (hK x _ _ (hI.world.up rfl) (fun _ _ _ h => h) rfl)
     obtain ⟨ec, ef⟩ := ecs a; clear hI hdep hK; generalize a.eval = ρ at e32 e35 ec ef ⊢; go_simp
   · intro x D a w hI hdep hD0 K hK
     have e36 : a.eval (.tmp 36) = .bool true := hI.good 10 36 (dep_of hdep 10 rfl) rfl
     refine ok_value (wanted_none rfl) (v := .bool true) ?_ (hK x _ _ (hI.world.up rfl) (fun _ _ _ h => h) rfl)
     obtain ⟨ec, ef⟩ := ecs a; clear hI hdep hK; generalize a.eval = ρ at e36 ec ef ⊢; go_simp
   · intro x D a w hI hdep hD0 K hK
     have eg : a.eval (.tmp 37) = .bool true := hI.good 11 37 (dep_of hdep 11 rfl) rfl
     have e1 : a.eval (.tmp 1) = .pointer (some ⟨p2, 0, none⟩) := hI.read 1 rfl
     have k0 := HPc.out w hI.world.base
     refine ok_value (wanted_is rfl rfl hI.size (by simp) eg) (v := .agg #[.slice pa n c]) ?_ (hK x _ _ ((hI.world.up rfl)) (fun _ _ _ h => h) rfl)
     obtain ⟨ec, ef⟩ := ecs a; clear hI hdep hK; generalize a.eval = ρ at eg e1 ec ef ⊢; go_simp
   · intro x D a w hI hdep hD0 K hK
     have eg : a.eval (.tmp 37) = .bool true := hI.good 11 37 (dep_of hdep 11 rfl) rfl
     have e38 : a.eval (.tmp 38) = .agg #[.slice pa n c] := hI.good 12 38 (dep_of hdep 12 rfl) rfl
     refine ok_call (wanted_is rfl rfl hI.size (by simp) eg) (f := 15) (args := #[.agg #[.slice pa n c]]) ?_ (HCp.out w hI.world.base) ?_
     · obtain ⟨ec, ef⟩ := ecs a; clear hI hdep hK; generalize a.eval = ρ at eg e38 ec ef ⊢; go_simp
     · rintro e w2 ⟨s2, us2, rfl, hs2, hv, _, hb2⟩
       exact ⟨_, rfl, hK (s2, us2) _ _ (hI.world.copied hb2 hs2 hv) (fb_cp hD0) rfl⟩
   · intro x D a w hI hdep hD0 K hK
     have eg : a.eval (.tmp 37) = .bool true := hI.good 11 37 (dep_of hdep 11 rfl) rfl
     have e1 : a.eval (.tmp 1) = .pointer (some ⟨p2, 0, none⟩) := hI.read 1 rfl
     have k0 := HPc.out w hI.world.base
     refine ok_value (wanted_is rfl rfl hI.size (by simp) eg) (v := .agg #[.slice pa n c]) ?_ (hK x _ _ ((hI.world.up rfl)) (fun _ _ _ h => h) rfl)
     obtain ⟨ec, ef⟩ := ecs a; clear hI hdep hK; generalize a.eval = ρ at eg e1 ec ef ⊢; go_simp
   · intro x D a w hI hdep hD0 K hK
     have eg : a.eval (.tmp 37) = .bool true := hI.good 11 37 (dep_of hdep 11 rfl) rfl
     have e39 : a.eval (.tmp 39) = .agg #[.slice x.1.a x.1.n x.1.c] := hI.good 13 39 (dep_of hdep 13 rfl) rfl
     have e40 : a.eval (.tmp 40) = .agg #[.slice pa n c] := hI.good 14 40 (dep_of hdep 14 rfl) rfl
     have hx := dep_of hdep 13 rfl
     refine ok_call (wanted_is rfl rfl hI.size (by simp) eg) (f := 14) (args := #[.agg #[.slice x.1.a x.1.n x.1.c], .agg #[.slice pa n c]]) ?_ (HS2.out w x hI.world.base (hI.world.cp hx)) ?_
     · obtain ⟨ec, ef⟩ := ecs a; clear hI hdep hK; generalize a.eval = ρ at eg e39 e40 ec ef ⊢; go_simp
     · rintro e w2 ⟨rfl, hb2⟩
       exact ⟨_, rfl, hK x _ _ (((hI.world.up rfl)).below hb2) (fun _ _ _ h => h) rfl⟩
   · intro x D a w hI hdep hD0 K hK
     have e37 : a.eval (.tmp 37) = .bool true := hI.good 11 37 (dep_of hdep 11 rfl) rfl
     have e41 : a.eval (.tmp 41) = .bool true := hI.good 15 41 (dep_of hdep 15 rfl) rfl
     refine ok_value (wanted_none rfl) (v := .bool true) ?_ (hK x _ _ (hI.world.up rfl) (fun _ _ _ h => h) rfl)
     obtain ⟨ec, ef⟩ := ecs a; clear hI hdep hK; generalize a.eval = ρ at e37 e41 ec ef ⊢; go_simp
   · intro x D a w hI hdep hD0 K hK
     have e42 : a.eval (.tmp 42) = .bool true := hI.good 16 42 (dep_of hdep 16 rfl) rfl
     refine ok_value (wanted_none rfl) (v := .bool true) ?_ (hK x _ _ (hI.world.up rfl) (fun _ _ _ h => h) rfl)
     obtain ⟨ec, ef⟩ := ecs a; clear hI hdep hK; generalize a.eval = ρ at e42 ec ef ⊢; go_simp
   · intro x D a w hI hdep hD0 K hK
     have eg : a.eval (.tmp 43) = .bool true := hI.good 17 43 (dep_of hdep 17 rfl) rfl
     have e5 : a.eval (.tmp 5) = .pointer (some ⟨p6, 0, none⟩) := hI.read 5 rfl
     have k0 := HQc.out w hI.world.base
     refine ok_value (wanted_is rfl rfl hI.size (by simp) eg) (v := .agg #[.slice sa n sc]) ?_ (hK x _ _ ((hI.world.up rfl)) (fun _ _ _ h => h) rfl)
     obtain ⟨ec, ef⟩ := ecs a; clear hI hdep hK; generalize a.eval = ρ at eg e5 ec ef ⊢; go_simp
   · intro x D a w hI hdep hD0 K hK
     have eg : a.eval (.tmp 43) = .bool true := hI.good 17 43 (dep_of hdep 17 rfl) rfl
     have e1 : a.eval (.tmp 1) = .pointer (some ⟨p2, 0, none⟩) := hI.read 1 rfl
     have k0 := HPc.out w hI.world.base
     refine ok_value (wanted_is rfl rfl hI.size (by simp) eg) (v := .agg #[.slice pa n c]) ?_ (hK x _ _ ((hI.world.up rfl)) (fun _ _ _ h => h) rfl)
     obtain ⟨ec, ef⟩ := ecs a; clear hI hdep hK; generalize a.eval = ρ at eg e1 ec ef ⊢; go_simp
   · intro x D a w hI hdep hD0 K hK
     have eg : a.eval (.tmp 43) = .bool true := hI.good 17 43 (dep_of hdep 17 rfl) rfl
     have e44 : a.eval (.tmp 44) = .agg #[.slice sa n sc] := hI.good 18 44 (dep_of hdep 18 rfl) rfl
     have e45 : a.eval (.tmp 45) = .agg #[.slice pa n c] := hI.good 19 45 (dep_of hdep 19 rfl) rfl
     refine ok_call (wanted_is rfl rfl hI.size (by simp) eg) (f := 16) (args := #[.agg #[.slice sa n sc], .agg #[.slice pa n c]]) ?_ (HS3.out w hI.world.base) ?_
     · obtain ⟨ec, ef⟩ := ecs a; clear hI hdep hK; generalize a.eval = ρ at eg e44 e45 ec ef ⊢; go_simp
     · rintro e w2 ⟨rfl, hb2⟩
       exact ⟨_, rfl, hK x _ _ (((hI.world.up rfl)).below hb2) (fun _ _ _ h => h) rfl⟩
   · intro x D a w hI hdep hD0 K hK
     have e43 : a.eval (.tmp 43) = .bool true := hI.good 17 43 (dep_of hdep 17 rfl) rfl
     have e46 : a.eval (.tmp 46) = .bool true := hI.good 20 46 (dep_of hdep 20 rfl) rfl
     refine ok_value (wanted_none rfl) (v := .bool true) ?_ (hK x _ _ (hI.world.up rfl) (fun _ _ _ h => h) rfl)
     obtain ⟨ec, ef⟩ := ecs a; clear hI hdep hK; generalize a.eval = ρ at e43 e46 ec ef ⊢; go_simp
   · intro x D a w hI hdep hD0 K hK
     have e47 : a.eval (.tmp 47) = .bool true := hI.good 21 47 (dep_of hdep 21 rfl) rfl
     refine ok_value (wanted_none rfl) (v := .bool true) ?_ (hK x _ _ (hI.world.up rfl) (fun _ _ _ h => h) rfl)
     obtain ⟨ec, ef⟩ := ecs a; clear hI hdep hK; generalize a.eval = ρ at e47 ec ef ⊢; go_simp
   · intro x D a w hI hdep hD0 K hK
     have eg : a.eval (.tmp 48) = .bool true := hI.good 22 48 (dep_of hdep 22 rfl) rfl
     refine ok_call (wanted_is rfl rfl hI.size (by simp) eg) (f := 8) (args := #[]) ?_ (HLv2.out w hI.world.base) ?_
     · obtain ⟨ec, ef⟩ := ecs a; clear hI hdep hK; generalize a.eval = ρ at eg ec ef ⊢; go_simp
     · rintro e w2 ⟨rfl, hb2⟩
       exact ⟨_, rfl, hK x _ _ (((hI.world.up rfl)).below hb2) (fun _ _ _ h => h) rfl⟩
   · intro x D a w hI hdep hD0 K hK
     have e48 : a.eval (.tmp 48) = .bool true := hI.good 22 48 (dep_of hdep 22 rfl) rfl
     have e49 : a.eval (.tmp 49) = .bool true := hI.good 23 49 (dep_of hdep 23 rfl) rfl
     refine ok_value (wanted_none rfl) (v := .bool true) ?_ (hK x _ _ (hI.world.up rfl) (fun _ _ _ h => h) rfl)
     obtain ⟨ec, ef⟩ := ecs a; clear hI hdep hK; generalize a.eval = ρ at e48 e49 ec ef ⊢; go_simp
   · intro x D a w hI hdep hD0 K hK
     have e50 : a.eval (.tmp 50) = .bool true := hI.good 24 50 (dep_of hdep 24 rfl) rfl
     refine ok_value (wanted_none rfl) (v := .bool true) ?_ (hK x _ _ (hI.world.up rfl) (fun _ _ _ h => h) rfl)
     obtain ⟨ec, ef⟩ := ecs a; clear hI hdep hK; generalize a.eval = ρ at e50 ec ef ⊢; go_simp
 · intro x D a w8 hI hD
   have hfr := hI.frame [(26, .int .i64 0), (27, .bool true), (28, .bool true), (29, .int .i64 0), (30, .bool true), (31, .bool true), (32, .bool true), (33, .agg #[.slice sa n sc]), (34, .agg #[.slice pa n c]), (35, .bool true), (36, .bool true), (37, .bool true), (38, .agg #[.slice pa n c]), (39, .agg #[.slice x.1.a x.1.n x.1.c]), (40, .agg #[.slice pa n c]), (41, .bool true), (42, .bool true), (43, .bool true), (44, .agg #[.slice sa n sc]), (45, .agg #[.slice pa n c]), (46, .bool true), (47, .bool true), (48, .bool true), (49, .bool true), (50, .bool true), (2, .bool true)] (all_cons (hI.good 0 26 (hD 0 (by decide)) rfl) (all_cons (hI.good 1 27 (hD 1 (by decide)) rfl) (all_cons (hI.good 2 28 (hD 2 (by decide)) rfl) (all_cons (hI.good 3 29 (hD 3 (by decide)) rfl) (all_cons (hI.good 4 30 (hD 4 (by decide)) rfl) (all_cons (hI.good 5 31 (hD 5 (by decide)) rfl) (all_cons (hI.good 6 32 (hD 6 (by decide)) rfl) (all_cons (hI.good 7 33 (hD 7 (by decide)) rfl) (all_cons (hI.good 8 34 (hD 8 (by decide)) rfl) (all_cons (hI.good 9 35 (hD 9 (by decide)) rfl) (all_cons (hI.good 10 36 (hD 10 (by decide)) rfl) (all_cons (hI.good 11 37 (hD 11 (by decide)) rfl) (all_cons (hI.good 12 38 (hD 12 (by decide)) rfl) (all_cons (hI.good 13 39 (hD 13 (by decide)) rfl) (all_cons (hI.good 14 40 (hD 14 (by decide)) rfl) (all_cons (hI.good 15 41 (hD 15 (by decide)) rfl) (all_cons (hI.good 16 42 (hD 16 (by decide)) rfl) (all_cons (hI.good 17 43 (hD 17 (by decide)) rfl) (all_cons (hI.good 18 44 (hD 18 (by decide)) rfl) (all_cons (hI.good 19 45 (hD 19 (by decide)) rfl) (all_cons (hI.good 20 46 (hD 20 (by decide)) rfl) (all_cons (hI.good 21 47 (hD 21 (by decide)) rfl) (all_cons (hI.good 22 48 (hD 22 (by decide)) rfl) (all_cons (hI.good 23 49 (hD 23 (by decide)) rfl) (all_cons (hI.good 24 50 (hD 24 (by decide)) rfl) (all_cons (hI.good 25 2 (hD 25 (by decide)) rfl) all_nil)))))))))))))))))))))))))) rfl
   have hW := hI.world
   clear hI
   subst hfr
   simp only [List.foldl_cons, List.foldl_nil, List.setIfInBounds_toArray, List.set_cons_succ, List.set_cons_zero]
   have HB9 := Lib.hid hW.base
   clear hW hD hS
   go_wp2
   go_ret
   have hB := B0.out
   exact ⟨rfl, by rw [HPX.out]; exact hB.trans ((HB6.out.trans (HB9.out.mono HB6.out.size)).mono (by have := hB.size; have := HPX.out; omega))⟩
end Go.Proofs.YtdopheoedpldiaaGreatDoor
