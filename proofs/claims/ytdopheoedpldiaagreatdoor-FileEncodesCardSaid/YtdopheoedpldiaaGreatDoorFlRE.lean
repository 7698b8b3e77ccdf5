/-
 The document's bytes of a program. Conditions: the functions can be read; few of everything.
-/
import Derived.Test.YtdopheoedpldiaaGreatDoorFnRput
import Derived.ArgAppend
import Derived.Test.YtdopheoedpldiaaGreatDoorFlR
set_option maxRecDepth 100000
namespace Go.Proofs.YtdopheoedpldiaaGreatDoor
open Go.RowKit
theorem Lies.app {w0 W W1 : World} {l m : List Nat} {u v : Value} (h : Lies w0 l u W1) {k : Nat} (hW : Below W1.heap.size W1 W) (ho : W.ownsRow k 5 1 v m.length (bs m)) (hm : ∀ c ∈ m, c < 256) (hl : l.length + m.length ≤ 140737488355328) :
   ∃ u' W', (∀ ty, ty = 27 → (Builtin.append_ #[27, 27] ty #[u, v]).run Tryz.prog W = .ok u' W') ∧ Lies w0 (l ++ m) u' W' := by
 obtain ⟨A, c, rfl, hB, hnil⟩ := own_bytes ho hm
 have h2 := h.on hW
 obtain ⟨u', W', hr, hown, hg⟩ := append_bytes h2.1 hB hnil h2.2.size hl
 exact ⟨u', W', hr, h2.grow hown hg⟩
theorem mg_app {w W : World} {n : Nat} {m : List Nat} {v : Value} (hW : Below (mgW w).heap.size (mgW w) W) (hn : m.length = n) (hp : 0 < n) (ho : W.ownsRow (mgW w).heap.size 5 1 v n (bs m)) (hl : n ≤ 1000) :
   ∃ u' W', (∀ ty, ty = 27 → (Builtin.append_ #[27, 27] ty #[.slice (some ⟨w.heap.size, 0, none⟩) 4 4, v]).run Tryz.prog W = .ok u' W') ∧ Lies w (Fl.magic ++ m) u' W' := by
 obtain ⟨i0, hi, hz0, hz1, hz2⟩ := info_parts info_u8
 obtain ⟨g, cap, rfl, _, _⟩ := ho.form hp
 have hc : ∀ j u, (bs Fl.magic)[j]? = some u → W.cell? ((⟨w.heap.size, 0, none⟩ : Addr).add j) = some u := by
   intro j u hu
   have h1 := mg_cell w j u hu
   have h2 : ((⟨w.heap.size, 0, none⟩ : Addr).add j).block < (mgW w).heap.size := by
     rw [mg_size]
     unfold Addr.add
     split <;> simp
   exact (hW.cell h2).trans h1
 obtain ⟨u', W', hr, hown, hg⟩ := run_append_arg_grows (P := Tryz.prog) (w := W) 27 27 5 i0 (.int .u8 0) 1 1 Tryz.underlying27 hi hz0 hz1 hz2 rfl (by decide) ⟨w.heap.size, 0, none⟩ 4 4 (bs Fl.magic) rfl hc ⟨g, 0, none⟩ n cap (bs m) (by rw [bs_length, hn]; omega) (ho.cells (g := g) rfl) (by omega) (by unfold maxLen; omega) (by omega)
 refine ⟨u', W', fun ty e => by subst e; exact hr, ?_, ?_⟩
 · rw [List.length_append, bs_append, hn]
   exact ownsRow_base hown (by have := hW.size; have := mg_size w; omega)
 · exact (((mg_below w).trans (hW.mono (by rw [mg_size]; omega)))).grown hg (by have := hW.size; have := mg_size w; omega) (fun k hk => by cases hk)
set_option maxHeartbeats 4000000 in
theorem rflencode_any (a : Option Addr) (n c : Nat) (vs : List FnV) (fs : List Fn.F) (w : World) (h : FnsAt w w.heap.size a n vs fs) (hw : ∀ f ∈ fs, f.Wf) (hs : ∀ k, k < n → (vs.getD k .zero).Few) :
   Calls Tryz.prog 10 #[.agg #[.slice a n c]] w (EncP (Fl.bytes fs) (Fl.can fs) w) := by
 have b0 := (Below.refl w.heap.size w).alloc (Nat.le_refl _) (.cells #[.slice a n c] 24)
 have H := Lib.hid (h.on b0)
 have B0 := Lib.hid b0
 have hc0 := cell_of_row (w.alloc (.cells #[.slice a n c] 24)) _ 0 _ _ _ (heap_alloc_new w (.cells #[.slice a n c] 24))
 have HC := Lib.hid hc0
 have HZ := Lib.hid (show w.heap.size < (w.alloc (.cells #[.slice a n c] 24)).heap.size by simp)
 have HW := Lib.hid hw
 have HS := Lib.hid hs
 have HLf := Lib.hid h.lenf
 have HCn := rflcan_any a n c vs fs _ (h.on b0) hw hs
 obtain ⟨cf, hcf⟩ : ∃ cf, Fl.can fs = cf := ⟨_, rfl⟩
 rw [hcf] at HCn ⊢
 unfold ErrP at HCn
 clear h b0 hw hs
 by_cases hz : cf = 0
 rotate_left
 · have hd : ((cf : Int) != 0) = true := bne_iff_ne.2 (by omega)
   have HE : Hid (Fl.bytes fs = []) := Lib.hid (if_neg (by rw [hcf]; exact hz))
   clear hcf hz
   go_enter Tryz.func10, Tryz.ntmps10
   go_wp2_with (go_at_call 12; refine HCn.mono ?_; rintro _ w2 ⟨rfl, hb3⟩; have HB3 := Lib.hid (B0.out.trans (hb3.mono B0.out.size)); clear HCn hb3 hc0)
   go_ret2
   rw [HE.out]
   exact ⟨_, rfl, World.ownsRow_nil _ _ _ _, HB3.out⟩
 have hd : ((cf : Int) != 0) = false := by rw [hz]; rfl
 have HCa := Lib.hid (Fl.can_ok.1 (hcf.trans hz))
 have hn40 : n ≤ 40 := by have := HCa.out.2.1; have := HLf.out; omega
 have HE : Hid (Fl.bytes fs = Fl.laid fs) := Lib.hid (if_pos (hcf.trans hz))
 have HLn := Lib.hid (Fl.upto_len HCa.out.2.2.1 HW.out HCa.out.2.1)
 rw [HE.out]
 clear hcf
 have hcs := conv_magic
 go_enter Tryz.func10, Tryz.ntmps10
 go_wp2_with (first
   | (go_at_call 12; refine HCn.mono ?_; rintro _ w2 ⟨rfl, hb3⟩; have HB3 := Lib.hid hb3; clear HCn hb3 hc0; have hc0 := (HB3.out.cell (p := ⟨w.heap.size, 0, none⟩) HZ.out).trans HC.out; have hc1 := ((mg_below w2).cell (p := ⟨w.heap.size, 0, none⟩) (Nat.lt_of_lt_of_le HZ.out HB3.out.size)).trans hc0)
   | (go_at_call 22; refine (rput_any n (mgW w2) (by omega)).mono ?_; rintro _ w3 ⟨v3, rfl, ho3, hb4⟩; obtain ⟨u4, w4, hr, hl4⟩ := mg_app hb4 rfl (Uv.put_len_pos n) ho3 (by have := Uv.put_len_10 (n := n) (by omega); omega); have HR := Lib.hid (hr 27 rfl); have HL1 := Lib.hid hl4; clear ho3 hb4 hc1 hc0 hr hl4)
   | (at_builtin; refine Lib.wpList_append_run _ rfl (.tmp 13) (.tmp 18) _ _ rfl _ _ rfl rfl _ _ HR.out ?_))
 go_loopw [5, 6] (fun u i wr => ∃ k : Nat, k ≤ n ∧ i = .int .i64 (k : Int) ∧ Lies w2 (Fl.upto fs k) u wr) (fun _ i _ => n - (intOf i).toNat)
 case atStart => exact ⟨0, Nat.zero_le _, rfl, by rw [← Fl.upto_zero, HLf.out]; exact HL1.out⟩
 case round =>
   obtain ⟨k, hk, rfl, hL⟩ := hrel
   have HL := Lib.hid hL
   clear hL
   have hc0 := (HL.out.2.cell (p := ⟨w.heap.size, 0, none⟩) (Nat.lt_of_lt_of_le HZ.out HB3.out.size)).trans ((HB3.out.cell (p := ⟨w.heap.size, 0, none⟩) HZ.out).trans HC.out)
   by_cases hlt : k < n
   · have HBr := Lib.hid (HB3.out.trans (HL.out.2.mono HB3.out.size))
     obtain ⟨b, off, v, f, rfl, hltb, hv, hf, hok, hlen, hkl, d0, d1, d2, d3, d4, d5, d6, d7, d8, d9, d10⟩ := fns_cell (H.out.on HBr.out) hlt
     have HU := Lib.hid (Fl.upto_step hkl hf)
     have HLl := Lib.hid (HLn.out k (by omega))
     have hwf := H.out.wf HW.out hlt hf
     have hcan := H.out.canF HCa.out.2.2.1 hlt hf
     have HPt := Lib.hid (rfnput_any v f wr hok hlen hwf (by rw [← hv]; exact HS.out k hlt))
     have HLe := Lib.hid (Fn.laid_len hcan hwf)
     have HBy : Hid (f.bytes = f.laid) := Lib.hid (if_pos hcan)
     have HB := Lib.hid (Fn.laid_byte (f := f))
     rw [HBy.out] at HPt
     clear hok hlen hkl hf hv hwf hcan
     go_wp2_with (first
       | (go_at_call 23; refine HPt.out.mono ?_; rintro _ w5 ⟨v5, rfl, ho5, hb5⟩; obtain ⟨u6, w6, hr, hl6⟩ := HL.out.app hb5 ho5 HB.out (by have := HLl.out; have := HLe.out; omega); have HR2 := Lib.hid (hr 27 rfl); have HL3 := Lib.hid hl6; clear ho5 hb5 hc0 hr hl6 HPt d0 d1 d2 d3 d4 d5 d6 d7 d8 d9 d10)
       | (at_builtin; refine Lib.wpList_append_run _ rfl (.tmp 27) (.tmp 33) _ _ rfl _ _ rfl rfl _ _ HR2.out ?_))
     go_roundw
     case rel => exact ⟨k + 1, by omega, by go_num, by rw [HU.out]; exact HL3.out⟩
     case measure => simp [intOf]; omega
   · have HA := Lib.hid (Fl.upto_all fs (k := k) (by rw [HLf.out]; omega))
     go_wp2
     go_ret2
     have hl := HL.out
     rw [HA.out] at hl
     have hsz := HB3.out.size
     exact ⟨_, by rw [hz]; rfl, ownsRow_base hl.1 (by have := B0.out.size; omega), B0.out.trans ((HB3.out.trans (hl.2.mono HB3.out.size)).mono B0.out.size)⟩
end Go.Proofs.YtdopheoedpldiaaGreatDoor
namespace Go.Proofs.YtdopheoedpldiaaGreatDoor
open Go.RowKit
set_option maxHeartbeats 8000000 in
theorem fileEncodes_walk (s : Sl3) (vs : List FnV) (fs : List Fn.F) (w : World) (h : FnsAt w w.heap.size s.a s.n vs fs) (hw : ∀ f ∈ fs, f.Wf) (hn : s.n ≤ 9223372036854775807) (hT : Tab w) (hgT : 0 < w.heap.size) :
   Calls Tryz.prog 3 #[.agg #[s.val]] w (BoolP true w) := by
 obtain ⟨a, n, c⟩ := s
 simp only [Sl3.val] at h hn ⊢
 have b0 := (Below.refl w.heap.size w).alloc (Nat.le_refl _) (.cells #[.slice a n c] 24)
 have H := Lib.hid (h.on b0)
 have B0 := Lib.hid b0
 have HT := Lib.hid (And.intro (tab_below hT b0 hgT) (Nat.lt_of_lt_of_le hgT b0.size))
 have hc0 := (prog_cell (heap_alloc_new w (.cells #[.slice a n c] 24))).1
 have HC := Lib.hid hc0
 have HZ := Lib.hid (show w.heap.size < (w.alloc (.cells #[.slice a n c] 24)).heap.size by simp)
 have HSm := Lib.hid (small16_any a n c vs fs _ H.out hn)
 unfold SmallsP at HSm
 have HW := Lib.hid hw
 clear h b0 hT hgT hw
 go_enter Tryz.func3, Tryz.ntmps3
 go_wp2_with (go_at_call 7; refine HSm.out.mono ?_; rintro _ w2 ⟨bs, rfl, hbs, hb2⟩; clear HSm hc0; refine Hid.out ?_)
 generalize w.alloc (.cells #[.slice a n c] 24) = w1 at *
 cases bs with
 | false =>
   have HLv := Lib.hid (lives16_any w2 (tab_below HT.out.1 hb2 HT.out.2) (Nat.lt_of_lt_of_le HT.out.2 hb2.size))
   unfold BoolP at HLv
   have HB := Lib.hid (B0.out.trans (hb2.mono B0.out.size))
   clear hb2 hbs
   refine Lib.hid ?_
   go_wp2_with (go_at_call 8; refine HLv.out.mono ?_; rintro _ w3 ⟨rfl, hb3⟩; have HB3 := Lib.hid (HB.out.trans (hb3.mono HB.out.size)); clear hb3 HLv)
   go_ret
   exact ⟨rfl, HB3.out⟩
 | true =>
   obtain ⟨hn50, hfew⟩ := hbs rfl
   have HEn := Lib.hid (flencode_any a n c vs fs w2 (H.out.on hb2) HW.out (tab_below HT.out.1 hb2 HT.out.2) (Nat.lt_of_lt_of_le HT.out.2 hb2.size))
   have hc2 := (hb2.cell (p := ⟨w.heap.size, 0, none⟩) HZ.out).trans HC.out
   have HRE := Lib.hid (fun (W : World) (hb : Below w1.heap.size w1 W) => rflencode_any a n c vs fs W (H.out.on hb) HW.out hfew)
   have HCn := Lib.hid (fun (W : World) (hb : Below w1.heap.size w1 W) => flcan_any a n c vs fs W (H.out.on hb) HW.out (tab_below HT.out.1 hb HT.out.2) (Nat.lt_of_lt_of_le HT.out.2 hb.size))
   have HLv := Lib.hid (fun (W : World) (hb : Below w1.heap.size w1 W) => lives16_any W (tab_below HT.out.1 hb HT.out.2) (Nat.lt_of_lt_of_le HT.out.2 hb.size))
   have HB2 := Lib.hid hb2
   unfold EncP at HEn HRE
   unfold ErrP at HCn
   unfold BoolP at HLv
   clear hb2 hbs hfew
   generalize Fl.can fs = cf at *
   generalize Fl.bytes fs = l at *
   have hce : ((cf : Int) == (cf : Int)) = true := beq_self_eq_true _
   have hst : ((str l).toList == (str l).toList) = true := beq_self_eq_true _
   refine Lib.hid ?_
   go_wp2_with (go_at_call 9; refine HEn.out.mono ?_; rintro _ w3 ⟨v3, rfl, ho3, hb3⟩; have HB3 := Lib.hid (HB2.out.trans (hb3.mono HB2.out.size)); have HO3 := Lib.hid ho3; clear HEn hc2 hb3 ho3; have hc3 := (HB3.out.cell (p := ⟨w.heap.size, 0, none⟩) HZ.out).trans HC.out)
   go_wp2_with (go_at_call 10; refine (HRE.out w3 HB3.out).mono ?_; rintro _ w4 ⟨v4, rfl, ho4, hb4⟩; have HB4 := Lib.hid (HB3.out.trans (hb4.mono HB3.out.size)); have k4 := own_conv ho4; have k3 := own_conv (ownsRow_below HO3.out hb4); clear HRE hc3 hb4 ho4 HO3; have hc4 := (HB4.out.cell (p := ⟨w.heap.size, 0, none⟩) HZ.out).trans HC.out)
   go_wp2_with (first
     | (go_at_call 11; refine (HCn.out w4 HB4.out).mono ?_; rintro _ w5 ⟨rfl, hb5⟩; have HB5 := Lib.hid (HB4.out.trans (hb5.mono HB4.out.size)); clear HCn hb5 k3 k4 hc4)
     | (go_at_call 8; refine (HLv.out w5 HB5.out).mono ?_; rintro _ w6 ⟨rfl, hb6⟩; have HB6 := Lib.hid (HB5.out.trans (hb6.mono HB5.out.size)); clear hb6 HLv))
   go_ret
   exact ⟨rfl, B0.out.trans (HB6.out.mono B0.out.size)⟩
end Go.Proofs.YtdopheoedpldiaaGreatDoor
