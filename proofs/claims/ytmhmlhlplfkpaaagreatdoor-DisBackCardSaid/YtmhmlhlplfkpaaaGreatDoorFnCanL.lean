/-
 What lines.other, Right, At and the document's Right, At tell. Conditions: the table can be read.
-/
import Derived.Test.YtmhmlhlplfkpaaaGreatDoorFnCanX
set_option maxRecDepth 100000
namespace Go.Proofs.YtmhmlhlplfkpaaaGreatDoor
open Go.RowKit
theorem li_kinds (x : Int) : (x < 0 ∧ Li.may x = false) ∨ (¬ x < 0 ∧ 65535 < x ∧ Li.may x = false) ∨ (¬ x < 0 ∧ ¬ 65535 < x ∧ Li.may x = true) := by
 unfold Li.may
 by_cases h1 : x < 0
 · exact .inl ⟨h1, by rw [decide_eq_false (by omega)]; rfl⟩
 by_cases h2 : 65535 < x
 · exact .inr (.inl ⟨h1, h2, by rw [decide_eq_false (p := x ≤ 65535) (by omega), Bool.and_false]⟩)
 · exact .inr (.inr ⟨h1, h2, by rw [decide_eq_true (p := 0 ≤ x) (by omega), decide_eq_true (p := x ≤ 65535) (by omega)]; rfl⟩)
theorem liother_any (x : Int) (w : World) : Calls Tryz.prog 159 #[.int .i64 x] w (SameP (.bool (!Li.may x)) w) := by
 rcases li_kinds x with ⟨h1, h3⟩ | ⟨h1, h2, h3⟩ | ⟨h1, h2, h3⟩
 all_goals
   rw [h3]
   clear h3
   go_enter Tryz.func159, Tryz.ntmps159
   go_wp2
   go_ret
   exact ⟨rfl, rfl⟩
set_option maxHeartbeats 1000000 in
theorem liindex_any (a : Option Addr) (n c B : Nat) (l : List Int) (w : World) (h : IntsAt w B a n l) (hn : n ≤ 9223372036854775807) :
   Calls Tryz.prog 178 #[.slice a n c, .func (.func 159) #[] #[]] w fun e w' => (∃ i : Int, e = .returned (.int .i64 i) ∧ decide (0 ≤ i) = !l.all Li.may) ∧ w' = w := by
 have H := Lib.hid h
 clear h
 go_enter Tryz.func178, Tryz.ntmps178
 go_wp2
 go_loopw [5, 8] (fun _ i wr => ∃ k : Nat, k ≤ n ∧ i = .int .i64 (k : Int) ∧ wr = w ∧ (l.take k).all Li.may = true) (fun _ i _ => n - (intOf i).toNat)
 case atStart => exact ⟨0, Nat.zero_le _, rfl, rfl, rfl⟩
 case round =>
   obtain ⟨k, hk, rfl, rfl, hW⟩ := hrel
   by_cases hlt : k < n
   · obtain ⟨b, off, x, rfl, _, hc, hx, hkl⟩ := ints_cell H.out hlt
     have HS := Lib.hid (Li.all_take_succ hkl)
     have HB := Lib.hid (fun hb => Li.all_bad hkl hb)
     rw [hx, hW] at HS
     rw [hx] at HB
     have HO := liother_any x
     clear hW hx hkl
     cases hm : Li.may x with
     | false =>
       rw [hm] at HO
       have HE := Lib.hid (HB.out hm)
       clear HS HB hm
       go_wp2_with (go_at_call 159; refine (HO _).mono ?_; rintro _ w1 ⟨rfl, he⟩; obtain rfl := he.symm)
       go_ret
       exact ⟨⟨_, rfl, by rw [HE.out]; simp⟩, rfl⟩
     | true =>
       rw [hm] at HO HS
       clear HB hm
       go_wp2_with (go_at_call 159; refine (HO _).mono ?_; rintro _ w1 ⟨rfl, he⟩; obtain rfl := he.symm)
       go_roundw
       case rel => exact ⟨k + 1, hlt, by go_num, by trivial, HS.out⟩
       case measure => simp [intOf]; omega
   · have HE : Hid (l.all Li.may = true) := Lib.hid (by rw [← hW, List.take_of_length_le (by rw [H.out.1]; omega)])
     clear hW
     go_wp2
     go_ret
     exact ⟨⟨_, rfl, by rw [HE.out]; rfl⟩, rfl⟩
theorem licontains_any (a : Option Addr) (n c B : Nat) (l : List Int) (w : World) (h : IntsAt w B a n l) (hn : n ≤ 9223372036854775807) :
   Calls Tryz.prog 158 #[.slice a n c, .func (.func 159) #[] #[]] w (SameP (.bool (!l.all Li.may)) w) := by
 have H := liindex_any a n c B l w h hn
 clear h
 generalize (!l.all Li.may) = r at *
 go_enter Tryz.func158, Tryz.ntmps158
 go_wp2_with (go_at_call 178; refine H.mono ?_; rintro _ w1 ⟨⟨i, rfl, hi⟩, he⟩; obtain rfl := he.symm)
 go_ret
 exact ⟨rfl, rfl⟩
theorem liright_any (a : Option Addr) (n c B : Nat) (l : List Int) (w : World) (h : IntsAt w B a n l) (hn : n ≤ 9223372036854775807) :
   Calls Tryz.prog 132 #[.slice a n c] w (SameP (.bool (Li.right l)) w) := by
 have H := licontains_any a n c B l w h hn
 have hl : l.length = n := h.1
 unfold Li.right
 rw [hl]
 clear h hl
 generalize l.all Li.may = r at *
 by_cases hd : n ≤ 2000
 · rw [decide_eq_true hd]
   go_enter Tryz.func132, Tryz.ntmps132
   go_wp2_with (go_at_call 158; refine H.mono ?_; rintro _ w1 ⟨rfl, he⟩; obtain rfl := he.symm)
   go_ret
   exact ⟨by cases r <;> rfl, rfl⟩
 · rw [decide_eq_false hd]
   have hd2 : decide ((n : Int) ≤ 2000) = false := decide_eq_false (by omega)
   go_enter Tryz.func132, Tryz.ntmps132
   go_wp2
   go_ret
   exact ⟨rfl, rfl⟩
set_option maxHeartbeats 1000000 in
theorem rliright_any (a : Option Addr) (n c B : Nat) (l : List Int) (w : World) (h : IntsAt w B a n l) (hn : n ≤ 9223372036854775807) :
   Calls Tryz.prog 23 #[.slice a n c] w (SameP (.bool (Li.right l)) w) := by
 have H := Lib.hid h
 have hl : l.length = n := h.1
 unfold Li.right
 rw [hl]
 clear h hl
 go_enter Tryz.func23, Tryz.ntmps23
 go_wp2
 go_loopw [3] (fun i wr => ∃ k : Nat, k ≤ n ∧ i = .int .i64 (k : Int) ∧ wr = w ∧ (l.take k).all Li.may = true) (fun i _ => n - (intOf i).toNat)
 case atStart => exact ⟨0, Nat.zero_le _, rfl, rfl, rfl⟩
 case round =>
   obtain ⟨k, hk, rfl, rfl, hW⟩ := hrel
   by_cases hlt : k < n
   · obtain ⟨b, off, x, rfl, _, hc, hx, hkl⟩ := ints_cell H.out hlt
     have HS := Lib.hid (Li.all_take_succ hkl)
     have HB := Lib.hid (fun hb => Li.all_bad hkl hb)
     rw [hx, hW] at HS
     rw [hx] at HB
     clear hW hx hkl
     rcases li_kinds x with ⟨h1, h3⟩ | ⟨h1, h2, h3⟩ | ⟨h1, h2, h3⟩
     · have HE := Lib.hid (HB.out h3)
       clear HS HB h3
       go_wp2
       go_ret
       exact ⟨by rw [HE.out, Bool.and_false]; rfl, rfl⟩
     · have HE := Lib.hid (HB.out h3)
       clear HS HB h3
       go_wp2
       go_ret
       exact ⟨by rw [HE.out, Bool.and_false]; rfl, rfl⟩
     · rw [h3] at HS
       clear HB h3
       go_wp2
       go_roundw
       case rel => exact ⟨k + 1, hlt, by go_num, by trivial, HS.out⟩
       case measure => simp [intOf]; omega
   · have HE : Hid (l.all Li.may = true) := Lib.hid (by rw [← hW, List.take_of_length_le (by rw [H.out.1]; omega)])
     clear hW
     by_cases hd : n ≤ 2000
     · have hd2 : decide ((n : Int) ≤ 2000) = true := decide_eq_true (by omega)
       go_wp2
       go_ret
       exact ⟨by rw [decide_eq_true hd, HE.out]; rfl, rfl⟩
     · have hd2 : decide ((n : Int) ≤ 2000) = false := decide_eq_false (by omega)
       go_wp2
       go_ret
       exact ⟨by rw [decide_eq_false hd]; rfl, rfl⟩
theorem at_out {l : List Int} {pc : Int} (h : pc < 0 ∨ (l.length : Int) ≤ pc) : Li.at_ l pc = 0 := if_pos h
theorem at_in {l : List Int} {k : Nat} (h : k < l.length) : Li.at_ l (k : Int) = l.getD k 0 := by
 unfold Li.at_
 rw [if_neg (by omega)]
 simp
theorem liat_any (a : Option Addr) (n c B : Nat) (l : List Int) (pc : Int) (w : World) (h : IntsAt w B a n l) (_ : n ≤ 9223372036854775807) :
   Calls Tryz.prog 67 #[.slice a n c, .int .i64 pc] w (SameP (.int .i64 (Li.at_ l pc)) w) := by
 have hl : l.length = n := h.1
 by_cases h1 : pc < 0
 · rw [at_out (.inl h1)]
   clear h hl
   go_enter Tryz.func67, Tryz.ntmps67
   go_wp2
   go_ret
   exact ⟨rfl, rfl⟩
 by_cases h2 : (n : Int) ≤ pc
 · rw [at_out (.inr (by rw [hl]; exact h2))]
   clear h hl
   go_enter Tryz.func67, Tryz.ntmps67
   go_wp2
   go_ret
   exact ⟨rfl, rfl⟩
 obtain ⟨k, rfl⟩ : ∃ k : Nat, pc = (k : Int) := ⟨pc.toNat, by omega⟩
 obtain ⟨b, off, x, rfl, _, hc, hx, hkl⟩ := ints_cell h (k := k) (by omega)
 rw [at_in hkl, hx]
 clear h hl hx hkl
 have hkn : k < n := by omega
 go_enter Tryz.func67, Tryz.ntmps67
 go_wp2
 go_ret
 exact ⟨rfl, rfl⟩
theorem rliat_any (a : Option Addr) (n c B : Nat) (l : List Int) (pc : Int) (w : World) (h : IntsAt w B a n l) (_ : n ≤ 9223372036854775807) :
   Calls Tryz.prog 40 #[.slice a n c, .int .i64 pc] w (SameP (.int .i64 (Li.at_ l pc)) w) := by
 have hl : l.length = n := h.1
 by_cases h1 : pc < 0
 · rw [at_out (.inl h1)]
   clear h hl
   go_enter Tryz.func40, Tryz.ntmps40
   go_wp2
   go_ret
   exact ⟨rfl, rfl⟩
 by_cases h2 : (n : Int) ≤ pc
 · rw [at_out (.inr (by rw [hl]; exact h2))]
   clear h hl
   go_enter Tryz.func40, Tryz.ntmps40
   go_wp2
   go_ret
   exact ⟨rfl, rfl⟩
 obtain ⟨k, rfl⟩ : ∃ k : Nat, pc = (k : Int) := ⟨pc.toNat, by omega⟩
 obtain ⟨b, off, x, rfl, _, hc, hx, hkl⟩ := ints_cell h (k := k) (by omega)
 rw [at_in hkl, hx]
 clear h hl hx hkl
 have hkn : k < n := by omega
 go_enter Tryz.func40, Tryz.ntmps40
 go_wp2
 go_ret
 exact ⟨rfl, rfl⟩
end Go.Proofs.YtmhmlhlplfkpaaaGreatDoor
namespace Go.Proofs.YtmhmlhlplfkpaaaGreatDoor
open Go.RowKit
def ErrP (n : Nat) (w : World) (e : Ending) (w' : World) : Prop := e = .returned (.int .i64 (n : Int)) ∧ Below w.heap.size w w'
theorem fnbare_ok {w0 : World} {B : Nat} {v : FnV} {f : Fn.F} (h : FnOk w0 B v f) (w : World) : Calls Tryz.prog 26 #[.agg v.cells] w (BoolP f.bare w) := by
 have := fnbare_any v w
 rwa [h.bare] at this
set_option maxHeartbeats 8000000 in
theorem fncan_any (v : FnV) (f : Fn.F) (w : World) (h : FnOk w w.heap.size v f) (hl : v.Len) (hw : f.Wf) (hT : Tab w) (hg : 0 < w.heap.size) :
   Calls Tryz.prog 104 #[.agg v.cells] w (ErrP f.can w) := by
 have hb0 := (Below.refl w.heap.size w).alloc (Nat.le_refl _) (.cells v.cells 28)
 have A1 := Lib.hid (FnAt.new w v)
 have O1 := Lib.hid (h.on hb0)
 have B1 := Lib.hid hb0
 have T1 := Lib.hid (tab_below hT hb0 hg)
 have G1 := Lib.hid (show 0 < (w.alloc (.cells v.cells 28)).heap.size from Nat.lt_of_lt_of_le hg hb0.size)
 have HMay := may_any v.name (w.alloc (.cells v.cells 28)) hl.name
 have HTy := Lib.hid (fntyped_any v f _ (h.on hb0) hl)
 have HCo := Lib.hid (fun (W : World) (o : FnOk W W.heap.size v f) => fncontains_any _ _ v.code.c f.code W o.code.1 hl.code)
 have HLi := Lib.hid (fun (W : World) (o : FnOk W W.heap.size v f) => liright_any _ _ v.lines.c _ f.lines W o.lines.1 hl.lines)
 have HBa := Lib.hid (fun (W : World) => fnbare_ok h W)
 rw [show Nm.may v.name = Nm.may f.name by rw [h.name]] at HMay
 obtain ⟨c0, c1, c2, c3, c4, c5, c6, c7, c8, c9, c10⟩ := A1.out.all
 have hcl := h.n_code
 have hll := h.n_lines
 have hlc := hl.code
 have hlli := hl.lines
 clear hb0 h
 cases hmay : Nm.may f.name with
 | false =>
   rw [hmay] at HMay
   have HE : Hid (f.can = 7) := Lib.hid (by unfold Fn.F.can; rw [if_pos hmay])
   clear hmay hw hT hg hl hcl hll hlc hlli HTy HCo HLi HBa
   obtain ⟨nm, inn, ⟨oa, on, oc⟩, ⟨pa, pn, pc⟩, ⟨ra, rn, rc⟩, ⟨la, ln, lc⟩, ⟨ca, cn, cc⟩, ⟨ia, i_n, ic⟩, ⟨na, nn, nc⟩, ⟨ta, tn, tc⟩, ⟨va, vn, vc⟩⟩ := v
   go_enter Tryz.func104, Tryz.ntmps104
   go_wp2_with (first | (go_at_call 123; go_must (refine HMay.mono ?_; rintro _ wa ⟨rfl, he⟩; obtain rfl := he.symm)))
   go_ret
   exact ⟨ret_int (by rw [HE.out]; rfl), B1.out⟩
 | true =>
 rw [hmay] at HMay
 have n1 : ¬ Nm.may f.name = false := by rw [hmay]; decide
 cases hty : f.typed with
 | false =>
   rw [hty] at HTy
   have HE : Hid (f.can = 9) := Lib.hid (by unfold Fn.F.can; rw [if_neg n1, if_pos hty])
   clear n1 hmay hty hw hT hg hl hcl hll hlc hlli HCo HLi HBa
   obtain ⟨nm, inn, ⟨oa, on, oc⟩, ⟨pa, pn, pc⟩, ⟨ra, rn, rc⟩, ⟨la, ln, lc⟩, ⟨ca, cn, cc⟩, ⟨ia, i_n, ic⟩, ⟨na, nn, nc⟩, ⟨ta, tn, tc⟩, ⟨va, vn, vc⟩⟩ := v
   go_enter Tryz.func104, Tryz.ntmps104
   go_wp2_with (first | (go_at_call 123; go_must (refine HMay.mono ?_; rintro _ wa ⟨rfl, he⟩; obtain rfl := he.symm)) | (go_at_call 128; go_must (refine HTy.out.mono ?_; rintro _ w2 ⟨rfl, hb2⟩; have A2 := Lib.hid (A1.out.on hb2); have O2 := Lib.hid (O1.out.on hb2); have B2 := Lib.hid (below_self B1.out hb2); have T2 := Lib.hid (tab_below T1.out hb2 G1.out); have G2 := Lib.hid (Nat.lt_of_lt_of_le G1.out hb2.size); clear hb2; obtain ⟨c0, c1, c2, c3, c4, c5, c6, c7, c8, c9, c10⟩ := A2.out.all)))
   go_ret
   exact ⟨ret_int (by rw [HE.out]; rfl), B2.out⟩
 | true =>
 rw [hty] at HTy
 have n2 : ¬ f.typed = false := by rw [hty]; decide
 have hs : f.slots ≤ 1048576 := by have := Fn.typed_slots hty; omega
 have HFi := Lib.hid (fun (W : World) (o : FnOk W W.heap.size v f) => fnfits_any v f W o hs)
 have HMa := Lib.hid (fun (W : World) (o : FnOk W W.heap.size v f) (t : Tab W) g => fnmapped_any v f W o hl hw hs t g)
 clear hw hT hg hl hmay hty
 cases hsl : decide (f.slots ≤ 256) with
 | false =>
   rw [hsl] at HFi
   have n3 : f.fits = false := by unfold Fn.F.fits; rw [hsl]; rfl
   have HE : Hid (f.can = 6) := Lib.hid (by unfold Fn.F.can; rw [if_neg n1, if_neg n2, if_pos n3])
   clear n1 n2 n3 hsl hs hcl hll hlc hlli HCo HLi HBa HMa
   obtain ⟨nm, inn, ⟨oa, on, oc⟩, ⟨pa, pn, pc⟩, ⟨ra, rn, rc⟩, ⟨la, ln, lc⟩, ⟨ca, cn, cc⟩, ⟨ia, i_n, ic⟩, ⟨na, nn, nc⟩, ⟨ta, tn, tc⟩, ⟨va, vn, vc⟩⟩ := v
   go_enter Tryz.func104, Tryz.ntmps104
   go_wp2_with (first | (go_at_call 123; go_must (refine HMay.mono ?_; rintro _ wa ⟨rfl, he⟩; obtain rfl := he.symm)) | (go_at_call 128; go_must (refine HTy.out.mono ?_; rintro _ w2 ⟨rfl, hb2⟩; have A2 := Lib.hid (A1.out.on hb2); have O2 := Lib.hid (O1.out.on hb2); have B2 := Lib.hid (below_self B1.out hb2); have T2 := Lib.hid (tab_below T1.out hb2 G1.out); have G2 := Lib.hid (Nat.lt_of_lt_of_le G1.out hb2.size); clear hb2; obtain ⟨c0, c1, c2, c3, c4, c5, c6, c7, c8, c9, c10⟩ := A2.out.all)) | (go_at_call 129; go_must (refine (HFi.out w2 O2.out).mono ?_; rintro _ w3 ⟨rfl, hb3⟩; have A3 := Lib.hid (A2.out.on hb3); have O3 := Lib.hid (O2.out.on hb3); have B3 := Lib.hid (below_self B2.out hb3); have T3 := Lib.hid (tab_below T2.out hb3 G2.out); have G3 := Lib.hid (Nat.lt_of_lt_of_le G2.out hb3.size); clear hb3; obtain ⟨c0, c1, c2, c3, c4, c5, c6, c7, c8, c9, c10⟩ := A3.out.all)))
   go_ret
   exact ⟨ret_int (by rw [HE.out]; rfl), B3.out⟩
 | true =>
 rw [hsl] at HFi
 by_cases hc1 : v.code.n < 1
 · have n3 : f.fits = false := by unfold Fn.F.fits; rw [hsl, show decide (1 ≤ f.code.length) = false from decide_eq_false (by omega)]; rfl
   have HE : Hid (f.can = 6) := Lib.hid (by unfold Fn.F.can; rw [if_neg n1, if_neg n2, if_pos n3])
   have d1 : decide ((v.code.n : Int) < 1) = true := decide_eq_true (by omega)
   clear n1 n2 n3 hsl hs hcl hll hlc hlli HCo HLi HBa HMa hc1
   obtain ⟨nm, inn, ⟨oa, on, oc⟩, ⟨pa, pn, pc⟩, ⟨ra, rn, rc⟩, ⟨la, ln, lc⟩, ⟨ca, cn, cc⟩, ⟨ia, i_n, ic⟩, ⟨na, nn, nc⟩, ⟨ta, tn, tc⟩, ⟨va, vn, vc⟩⟩ := v
   simp only at d1
   go_enter Tryz.func104, Tryz.ntmps104
   go_wp2_with (first | (go_at_call 123; go_must (refine HMay.mono ?_; rintro _ wa ⟨rfl, he⟩; obtain rfl := he.symm)) | (go_at_call 128; go_must (refine HTy.out.mono ?_; rintro _ w2 ⟨rfl, hb2⟩; have A2 := Lib.hid (A1.out.on hb2); have O2 := Lib.hid (O1.out.on hb2); have B2 := Lib.hid (below_self B1.out hb2); have T2 := Lib.hid (tab_below T1.out hb2 G1.out); have G2 := Lib.hid (Nat.lt_of_lt_of_le G1.out hb2.size); clear hb2; obtain ⟨c0, c1, c2, c3, c4, c5, c6, c7, c8, c9, c10⟩ := A2.out.all)) | (go_at_call 129; go_must (refine (HFi.out w2 O2.out).mono ?_; rintro _ w3 ⟨rfl, hb3⟩; have A3 := Lib.hid (A2.out.on hb3); have O3 := Lib.hid (O2.out.on hb3); have B3 := Lib.hid (below_self B2.out hb3); have T3 := Lib.hid (tab_below T2.out hb3 G2.out); have G3 := Lib.hid (Nat.lt_of_lt_of_le G2.out hb3.size); clear hb3; obtain ⟨c0, c1, c2, c3, c4, c5, c6, c7, c8, c9, c10⟩ := A3.out.all)))
   go_ret
   exact ⟨ret_int (by rw [HE.out]; rfl), B3.out⟩
 have d1 : decide ((v.code.n : Int) < 1) = false := decide_eq_false (by omega)
 by_cases hc2 : 2000 < v.code.n
 · have n3 : f.fits = false := by unfold Fn.F.fits; rw [hsl, show decide (f.code.length ≤ 2000) = false from decide_eq_false (by omega), Bool.and_false]; rfl
   have HE : Hid (f.can = 6) := Lib.hid (by unfold Fn.F.can; rw [if_neg n1, if_neg n2, if_pos n3])
   have d2 : decide ((2000 : Int) < (v.code.n : Int)) = true := decide_eq_true (by omega)
   clear n1 n2 n3 hsl hs hcl hll hlc hlli HCo HLi HBa HMa hc1 hc2
   obtain ⟨nm, inn, ⟨oa, on, oc⟩, ⟨pa, pn, pc⟩, ⟨ra, rn, rc⟩, ⟨la, ln, lc⟩, ⟨ca, cn, cc⟩, ⟨ia, i_n, ic⟩, ⟨na, nn, nc⟩, ⟨ta, tn, tc⟩, ⟨va, vn, vc⟩⟩ := v
   simp only at d1 d2
   go_enter Tryz.func104, Tryz.ntmps104
   go_wp2_with (first | (go_at_call 123; go_must (refine HMay.mono ?_; rintro _ wa ⟨rfl, he⟩; obtain rfl := he.symm)) | (go_at_call 128; go_must (refine HTy.out.mono ?_; rintro _ w2 ⟨rfl, hb2⟩; have A2 := Lib.hid (A1.out.on hb2); have O2 := Lib.hid (O1.out.on hb2); have B2 := Lib.hid (below_self B1.out hb2); have T2 := Lib.hid (tab_below T1.out hb2 G1.out); have G2 := Lib.hid (Nat.lt_of_lt_of_le G1.out hb2.size); clear hb2; obtain ⟨c0, c1, c2, c3, c4, c5, c6, c7, c8, c9, c10⟩ := A2.out.all)) | (go_at_call 129; go_must (refine (HFi.out w2 O2.out).mono ?_; rintro _ w3 ⟨rfl, hb3⟩; have A3 := Lib.hid (A2.out.on hb3); have O3 := Lib.hid (O2.out.on hb3); have B3 := Lib.hid (below_self B2.out hb3); have T3 := Lib.hid (tab_below T2.out hb3 G2.out); have G3 := Lib.hid (Nat.lt_of_lt_of_le G2.out hb3.size); clear hb3; obtain ⟨c0, c1, c2, c3, c4, c5, c6, c7, c8, c9, c10⟩ := A3.out.all)))
   go_ret
   exact ⟨ret_int (by rw [HE.out]; rfl), B3.out⟩
 have d2 : decide ((2000 : Int) < (v.code.n : Int)) = false := decide_eq_false (by omega)
 have n3 : ¬ f.fits = false := by unfold Fn.F.fits; rw [hsl, show decide (f.code.length ≤ 2000) = true from decide_eq_true (by omega), show decide (1 ≤ f.code.length) = true from decide_eq_true (by omega)]; decide
 cases hop : f.ops with
 | false =>
   rw [show f.code.all (fun p => In.right p.1 p.2) = false from hop] at HCo
   have HE : Hid (f.can = 8) := Lib.hid (by unfold Fn.F.can; rw [if_neg n1, if_neg n2, if_neg n3, if_pos hop])
   clear n1 n2 n3 hop hsl hs hcl hll hlc hlli HLi HBa HMa hc1 hc2
   obtain ⟨nm, inn, ⟨oa, on, oc⟩, ⟨pa, pn, pc⟩, ⟨ra, rn, rc⟩, ⟨la, ln, lc⟩, ⟨ca, cn, cc⟩, ⟨ia, i_n, ic⟩, ⟨na, nn, nc⟩, ⟨ta, tn, tc⟩, ⟨va, vn, vc⟩⟩ := v
   simp only at d1 d2
   go_enter Tryz.func104, Tryz.ntmps104
   go_wp2_with (first | (go_at_call 123; go_must (refine HMay.mono ?_; rintro _ wa ⟨rfl, he⟩; obtain rfl := he.symm)) | (go_at_call 128; go_must (refine HTy.out.mono ?_; rintro _ w2 ⟨rfl, hb2⟩; have A2 := Lib.hid (A1.out.on hb2); have O2 := Lib.hid (O1.out.on hb2); have B2 := Lib.hid (below_self B1.out hb2); have T2 := Lib.hid (tab_below T1.out hb2 G1.out); have G2 := Lib.hid (Nat.lt_of_lt_of_le G1.out hb2.size); clear hb2; obtain ⟨c0, c1, c2, c3, c4, c5, c6, c7, c8, c9, c10⟩ := A2.out.all)) | (go_at_call 129; go_must (refine (HFi.out w2 O2.out).mono ?_; rintro _ w3 ⟨rfl, hb3⟩; have A3 := Lib.hid (A2.out.on hb3); have O3 := Lib.hid (O2.out.on hb3); have B3 := Lib.hid (below_self B2.out hb3); have T3 := Lib.hid (tab_below T2.out hb3 G2.out); have G3 := Lib.hid (Nat.lt_of_lt_of_le G2.out hb3.size); clear hb3; obtain ⟨c0, c1, c2, c3, c4, c5, c6, c7, c8, c9, c10⟩ := A3.out.all)) | (go_at_call 130; go_must (refine (HCo.out w3 O3.out).mono ?_; rintro _ w4 ⟨rfl, hb4⟩; have A4 := Lib.hid (A3.out.on hb4); have O4 := Lib.hid (O3.out.on hb4); have B4 := Lib.hid (below_self B3.out hb4); have T4 := Lib.hid (tab_below T3.out hb4 G3.out); have G4 := Lib.hid (Nat.lt_of_lt_of_le G3.out hb4.size); clear hb4; obtain ⟨c0, c1, c2, c3, c4, c5, c6, c7, c8, c9, c10⟩ := A4.out.all)))
   go_ret
   exact ⟨ret_int (by rw [HE.out]; rfl), B4.out⟩
 | true =>
 rw [show f.code.all (fun p => In.right p.1 p.2) = true from hop] at HCo
 have n4 : ¬ f.ops = false := by rw [hop]; decide
 by_cases hlk : v.lines.n = v.code.n
 rotate_left
 · have n5 : f.lined = false := by unfold Fn.F.lined; rw [show decide (f.lines.length = f.code.length) = false from decide_eq_false (by omega)]; rfl
   have HE : Hid (f.can = 19) := Lib.hid (by unfold Fn.F.can; rw [if_neg n1, if_neg n2, if_neg n3, if_neg n4, if_pos n5])
   have d3 : ((v.lines.n : Int) != (v.code.n : Int)) = true := bne_iff_ne.2 (by omega)
   clear n1 n2 n3 n4 n5 hop hsl hs hcl hll hlc hlli HLi HBa HMa hc1 hc2 hlk
   obtain ⟨nm, inn, ⟨oa, on, oc⟩, ⟨pa, pn, pc⟩, ⟨ra, rn, rc⟩, ⟨la, ln, lc⟩, ⟨ca, cn, cc⟩, ⟨ia, i_n, ic⟩, ⟨na, nn, nc⟩, ⟨ta, tn, tc⟩, ⟨va, vn, vc⟩⟩ := v
   simp only at d1 d2 d3
   go_enter Tryz.func104, Tryz.ntmps104
   go_wp2_with (first | (go_at_call 123; go_must (refine HMay.mono ?_; rintro _ wa ⟨rfl, he⟩; obtain rfl := he.symm)) | (go_at_call 128; go_must (refine HTy.out.mono ?_; rintro _ w2 ⟨rfl, hb2⟩; have A2 := Lib.hid (A1.out.on hb2); have O2 := Lib.hid (O1.out.on hb2); have B2 := Lib.hid (below_self B1.out hb2); have T2 := Lib.hid (tab_below T1.out hb2 G1.out); have G2 := Lib.hid (Nat.lt_of_lt_of_le G1.out hb2.size); clear hb2; obtain ⟨c0, c1, c2, c3, c4, c5, c6, c7, c8, c9, c10⟩ := A2.out.all)) | (go_at_call 129; go_must (refine (HFi.out w2 O2.out).mono ?_; rintro _ w3 ⟨rfl, hb3⟩; have A3 := Lib.hid (A2.out.on hb3); have O3 := Lib.hid (O2.out.on hb3); have B3 := Lib.hid (below_self B2.out hb3); have T3 := Lib.hid (tab_below T2.out hb3 G2.out); have G3 := Lib.hid (Nat.lt_of_lt_of_le G2.out hb3.size); clear hb3; obtain ⟨c0, c1, c2, c3, c4, c5, c6, c7, c8, c9, c10⟩ := A3.out.all)) | (go_at_call 130; go_must (refine (HCo.out w3 O3.out).mono ?_; rintro _ w4 ⟨rfl, hb4⟩; have A4 := Lib.hid (A3.out.on hb4); have O4 := Lib.hid (O3.out.on hb4); have B4 := Lib.hid (below_self B3.out hb4); have T4 := Lib.hid (tab_below T3.out hb4 G3.out); have G4 := Lib.hid (Nat.lt_of_lt_of_le G3.out hb4.size); clear hb4; obtain ⟨c0, c1, c2, c3, c4, c5, c6, c7, c8, c9, c10⟩ := A4.out.all)))
   go_ret
   exact ⟨ret_int (by rw [HE.out]; rfl), B4.out⟩
 have d3 : ((v.lines.n : Int) != (v.code.n : Int)) = false := bne_eq_false_iff_eq.2 (by omega)
 have d3e : decide (f.lines.length = f.code.length) = true := decide_eq_true (by omega)
 cases hli : Li.right f.lines with
 | false =>
   rw [hli] at HLi
   have n5 : f.lined = false := by unfold Fn.F.lined; rw [hli, Bool.and_false]
   have HE : Hid (f.can = 19) := Lib.hid (by unfold Fn.F.can; rw [if_neg n1, if_neg n2, if_neg n3, if_neg n4, if_pos n5])
   clear n1 n2 n3 n4 n5 hop hli d3e hsl hs hcl hll hlc hlli HBa HMa hc1 hc2 hlk
   obtain ⟨nm, inn, ⟨oa, on, oc⟩, ⟨pa, pn, pc⟩, ⟨ra, rn, rc⟩, ⟨la, ln, lc⟩, ⟨ca, cn, cc⟩, ⟨ia, i_n, ic⟩, ⟨na, nn, nc⟩, ⟨ta, tn, tc⟩, ⟨va, vn, vc⟩⟩ := v
   simp only at d1 d2 d3
   go_enter Tryz.func104, Tryz.ntmps104
   go_wp2_with (first | (go_at_call 123; go_must (refine HMay.mono ?_; rintro _ wa ⟨rfl, he⟩; obtain rfl := he.symm)) | (go_at_call 128; go_must (refine HTy.out.mono ?_; rintro _ w2 ⟨rfl, hb2⟩; have A2 := Lib.hid (A1.out.on hb2); have O2 := Lib.hid (O1.out.on hb2); have B2 := Lib.hid (below_self B1.out hb2); have T2 := Lib.hid (tab_below T1.out hb2 G1.out); have G2 := Lib.hid (Nat.lt_of_lt_of_le G1.out hb2.size); clear hb2; obtain ⟨c0, c1, c2, c3, c4, c5, c6, c7, c8, c9, c10⟩ := A2.out.all)) | (go_at_call 129; go_must (refine (HFi.out w2 O2.out).mono ?_; rintro _ w3 ⟨rfl, hb3⟩; have A3 := Lib.hid (A2.out.on hb3); have O3 := Lib.hid (O2.out.on hb3); have B3 := Lib.hid (below_self B2.out hb3); have T3 := Lib.hid (tab_below T2.out hb3 G2.out); have G3 := Lib.hid (Nat.lt_of_lt_of_le G2.out hb3.size); clear hb3; obtain ⟨c0, c1, c2, c3, c4, c5, c6, c7, c8, c9, c10⟩ := A3.out.all)) | (go_at_call 130; go_must (refine (HCo.out w3 O3.out).mono ?_; rintro _ w4 ⟨rfl, hb4⟩; have A4 := Lib.hid (A3.out.on hb4); have O4 := Lib.hid (O3.out.on hb4); have B4 := Lib.hid (below_self B3.out hb4); have T4 := Lib.hid (tab_below T3.out hb4 G3.out); have G4 := Lib.hid (Nat.lt_of_lt_of_le G3.out hb4.size); clear hb4; obtain ⟨c0, c1, c2, c3, c4, c5, c6, c7, c8, c9, c10⟩ := A4.out.all)) | (go_at_call 132; go_must (refine (HLi.out w4 O4.out).mono ?_; rintro _ wb ⟨rfl, he⟩; obtain rfl := he.symm)))
   go_ret
   exact ⟨ret_int (by rw [HE.out]; rfl), B4.out⟩
 | true =>
 rw [hli] at HLi
 have n5 : ¬ f.lined = false := by unfold Fn.F.lined; rw [hli, d3e]; decide
 clear hli d3e hop hsl hcl hll hlc hlli hc1 hc2 hlk
 cases hba : f.bare with
 | true =>
   rw [hba] at HBa
   have HE : Hid (f.can = 0) := Lib.hid (by unfold Fn.F.can; rw [if_neg n1, if_neg n2, if_neg n3, if_neg n4, if_neg n5, if_neg (by rw [hba]; simp)])
   clear n1 n2 n3 n4 n5 hba hs HMa
   obtain ⟨nm, inn, ⟨oa, on, oc⟩, ⟨pa, pn, pc⟩, ⟨ra, rn, rc⟩, ⟨la, ln, lc⟩, ⟨ca, cn, cc⟩, ⟨ia, i_n, ic⟩, ⟨na, nn, nc⟩, ⟨ta, tn, tc⟩, ⟨va, vn, vc⟩⟩ := v
   simp only at d1 d2 d3
   go_enter Tryz.func104, Tryz.ntmps104
   go_wp2_with (first | (go_at_call 123; go_must (refine HMay.mono ?_; rintro _ wa ⟨rfl, he⟩; obtain rfl := he.symm)) | (go_at_call 128; go_must (refine HTy.out.mono ?_; rintro _ w2 ⟨rfl, hb2⟩; have A2 := Lib.hid (A1.out.on hb2); have O2 := Lib.hid (O1.out.on hb2); have B2 := Lib.hid (below_self B1.out hb2); have T2 := Lib.hid (tab_below T1.out hb2 G1.out); have G2 := Lib.hid (Nat.lt_of_lt_of_le G1.out hb2.size); clear hb2; obtain ⟨c0, c1, c2, c3, c4, c5, c6, c7, c8, c9, c10⟩ := A2.out.all)) | (go_at_call 129; go_must (refine (HFi.out w2 O2.out).mono ?_; rintro _ w3 ⟨rfl, hb3⟩; have A3 := Lib.hid (A2.out.on hb3); have O3 := Lib.hid (O2.out.on hb3); have B3 := Lib.hid (below_self B2.out hb3); have T3 := Lib.hid (tab_below T2.out hb3 G2.out); have G3 := Lib.hid (Nat.lt_of_lt_of_le G2.out hb3.size); clear hb3; obtain ⟨c0, c1, c2, c3, c4, c5, c6, c7, c8, c9, c10⟩ := A3.out.all)) | (go_at_call 130; go_must (refine (HCo.out w3 O3.out).mono ?_; rintro _ w4 ⟨rfl, hb4⟩; have A4 := Lib.hid (A3.out.on hb4); have O4 := Lib.hid (O3.out.on hb4); have B4 := Lib.hid (below_self B3.out hb4); have T4 := Lib.hid (tab_below T3.out hb4 G3.out); have G4 := Lib.hid (Nat.lt_of_lt_of_le G3.out hb4.size); clear hb4; obtain ⟨c0, c1, c2, c3, c4, c5, c6, c7, c8, c9, c10⟩ := A4.out.all)) | (go_at_call 132; go_must (refine (HLi.out w4 O4.out).mono ?_; rintro _ wb ⟨rfl, he⟩; obtain rfl := he.symm)) | (go_at_call 26; go_must (refine (HBa.out w4).mono ?_; rintro _ w5 ⟨rfl, hb5⟩; have A5 := Lib.hid (A4.out.on hb5); have O5 := Lib.hid (O4.out.on hb5); have B5 := Lib.hid (below_self B4.out hb5); have T5 := Lib.hid (tab_below T4.out hb5 G4.out); have G5 := Lib.hid (Nat.lt_of_lt_of_le G4.out hb5.size); clear hb5; obtain ⟨c0, c1, c2, c3, c4, c5, c6, c7, c8, c9, c10⟩ := A5.out.all)))
   go_ret
   exact ⟨ret_int (by rw [HE.out]; rfl), B5.out⟩
 | false =>
 rw [hba] at HBa
 cases hma : f.mapped with
 | false =>
   rw [hma] at HMa
   have HE : Hid (f.can = 14) := Lib.hid (by unfold Fn.F.can; rw [if_neg n1, if_neg n2, if_neg n3, if_neg n4, if_neg n5, if_pos ⟨hba, hma⟩])
   clear n1 n2 n3 n4 n5 hba hma hs
   obtain ⟨nm, inn, ⟨oa, on, oc⟩, ⟨pa, pn, pc⟩, ⟨ra, rn, rc⟩, ⟨la, ln, lc⟩, ⟨ca, cn, cc⟩, ⟨ia, i_n, ic⟩, ⟨na, nn, nc⟩, ⟨ta, tn, tc⟩, ⟨va, vn, vc⟩⟩ := v
   simp only at d1 d2 d3
   go_enter Tryz.func104, Tryz.ntmps104
   go_wp2_with (first | (go_at_call 123; go_must (refine HMay.mono ?_; rintro _ wa ⟨rfl, he⟩; obtain rfl := he.symm)) | (go_at_call 128; go_must (refine HTy.out.mono ?_; rintro _ w2 ⟨rfl, hb2⟩; have A2 := Lib.hid (A1.out.on hb2); have O2 := Lib.hid (O1.out.on hb2); have B2 := Lib.hid (below_self B1.out hb2); have T2 := Lib.hid (tab_below T1.out hb2 G1.out); have G2 := Lib.hid (Nat.lt_of_lt_of_le G1.out hb2.size); clear hb2; obtain ⟨c0, c1, c2, c3, c4, c5, c6, c7, c8, c9, c10⟩ := A2.out.all)) | (go_at_call 129; go_must (refine (HFi.out w2 O2.out).mono ?_; rintro _ w3 ⟨rfl, hb3⟩; have A3 := Lib.hid (A2.out.on hb3); have O3 := Lib.hid (O2.out.on hb3); have B3 := Lib.hid (below_self B2.out hb3); have T3 := Lib.hid (tab_below T2.out hb3 G2.out); have G3 := Lib.hid (Nat.lt_of_lt_of_le G2.out hb3.size); clear hb3; obtain ⟨c0, c1, c2, c3, c4, c5, c6, c7, c8, c9, c10⟩ := A3.out.all)) | (go_at_call 130; go_must (refine (HCo.out w3 O3.out).mono ?_; rintro _ w4 ⟨rfl, hb4⟩; have A4 := Lib.hid (A3.out.on hb4); have O4 := Lib.hid (O3.out.on hb4); have B4 := Lib.hid (below_self B3.out hb4); have T4 := Lib.hid (tab_below T3.out hb4 G3.out); have G4 := Lib.hid (Nat.lt_of_lt_of_le G3.out hb4.size); clear hb4; obtain ⟨c0, c1, c2, c3, c4, c5, c6, c7, c8, c9, c10⟩ := A4.out.all)) | (go_at_call 132; go_must (refine (HLi.out w4 O4.out).mono ?_; rintro _ wb ⟨rfl, he⟩; obtain rfl := he.symm)) | (go_at_call 26; go_must (refine (HBa.out w4).mono ?_; rintro _ w5 ⟨rfl, hb5⟩; have A5 := Lib.hid (A4.out.on hb5); have O5 := Lib.hid (O4.out.on hb5); have B5 := Lib.hid (below_self B4.out hb5); have T5 := Lib.hid (tab_below T4.out hb5 G4.out); have G5 := Lib.hid (Nat.lt_of_lt_of_le G4.out hb5.size); clear hb5; obtain ⟨c0, c1, c2, c3, c4, c5, c6, c7, c8, c9, c10⟩ := A5.out.all)) | (go_at_call 133; go_must (refine (HMa.out w5 O5.out T5.out G5.out).mono ?_; rintro _ w6 ⟨rfl, hb6⟩; have B6 := Lib.hid (below_self B5.out hb6); clear hb6)))
   go_ret
   exact ⟨ret_int (by rw [HE.out]; rfl), B6.out⟩
 | true =>
   rw [hma] at HMa
   have HE : Hid (f.can = 0) := Lib.hid (by unfold Fn.F.can; rw [if_neg n1, if_neg n2, if_neg n3, if_neg n4, if_neg n5, if_neg (by rw [hma]; simp)])
   clear n1 n2 n3 n4 n5 hba hma hs
   obtain ⟨nm, inn, ⟨oa, on, oc⟩, ⟨pa, pn, pc⟩, ⟨ra, rn, rc⟩, ⟨la, ln, lc⟩, ⟨ca, cn, cc⟩, ⟨ia, i_n, ic⟩, ⟨na, nn, nc⟩, ⟨ta, tn, tc⟩, ⟨va, vn, vc⟩⟩ := v
   simp only at d1 d2 d3
   go_enter Tryz.func104, Tryz.ntmps104
   go_wp2_with (first | (go_at_call 123; go_must (refine HMay.mono ?_; rintro _ wa ⟨rfl, he⟩; obtain rfl := he.symm)) | (go_at_call 128; go_must (refine HTy.out.mono ?_; rintro _ w2 ⟨rfl, hb2⟩; have A2 := Lib.hid (A1.out.on hb2); have O2 := Lib.hid (O1.out.on hb2); have B2 := Lib.hid (below_self B1.out hb2); have T2 := Lib.hid (tab_below T1.out hb2 G1.out); have G2 := Lib.hid (Nat.lt_of_lt_of_le G1.out hb2.size); clear hb2; obtain ⟨c0, c1, c2, c3, c4, c5, c6, c7, c8, c9, c10⟩ := A2.out.all)) | (go_at_call 129; go_must (refine (HFi.out w2 O2.out).mono ?_; rintro _ w3 ⟨rfl, hb3⟩; have A3 := Lib.hid (A2.out.on hb3); have O3 := Lib.hid (O2.out.on hb3); have B3 := Lib.hid (below_self B2.out hb3); have T3 := Lib.hid (tab_below T2.out hb3 G2.out); have G3 := Lib.hid (Nat.lt_of_lt_of_le G2.out hb3.size); clear hb3; obtain ⟨c0, c1, c2, c3, c4, c5, c6, c7, c8, c9, c10⟩ := A3.out.all)) | (go_at_call 130; go_must (refine (HCo.out w3 O3.out).mono ?_; rintro _ w4 ⟨rfl, hb4⟩; have A4 := Lib.hid (A3.out.on hb4); have O4 := Lib.hid (O3.out.on hb4); have B4 := Lib.hid (below_self B3.out hb4); have T4 := Lib.hid (tab_below T3.out hb4 G3.out); have G4 := Lib.hid (Nat.lt_of_lt_of_le G3.out hb4.size); clear hb4; obtain ⟨c0, c1, c2, c3, c4, c5, c6, c7, c8, c9, c10⟩ := A4.out.all)) | (go_at_call 132; go_must (refine (HLi.out w4 O4.out).mono ?_; rintro _ wb ⟨rfl, he⟩; obtain rfl := he.symm)) | (go_at_call 26; go_must (refine (HBa.out w4).mono ?_; rintro _ w5 ⟨rfl, hb5⟩; have A5 := Lib.hid (A4.out.on hb5); have O5 := Lib.hid (O4.out.on hb5); have B5 := Lib.hid (below_self B4.out hb5); have T5 := Lib.hid (tab_below T4.out hb5 G4.out); have G5 := Lib.hid (Nat.lt_of_lt_of_le G4.out hb5.size); clear hb5; obtain ⟨c0, c1, c2, c3, c4, c5, c6, c7, c8, c9, c10⟩ := A5.out.all)) | (go_at_call 133; go_must (refine (HMa.out w5 O5.out T5.out G5.out).mono ?_; rintro _ w6 ⟨rfl, hb6⟩; have B6 := Lib.hid (below_self B5.out hb6); clear hb6)))
   go_ret
   exact ⟨ret_int (by rw [HE.out]; rfl), B6.out⟩
end Go.Proofs.YtmhmlhlplfkpaaaGreatDoor
