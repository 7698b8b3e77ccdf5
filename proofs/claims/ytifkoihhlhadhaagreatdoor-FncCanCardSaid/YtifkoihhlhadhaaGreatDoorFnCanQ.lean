/-
  What the document's Can tells. Conditions: the function can be read; few of everything but the types; words of 64 bits.
-/
import Derived.Test.YtifkoihhlhadhaaGreatDoorFnCanR
import Derived.Test.YtifkoihhlhadhaaGreatDoorFnCan
import Derived.Test.YtifkoihhlhadhaaGreatDoorNmRefMay
import Derived.Test.YtifkoihhlhadhaaGreatDoorInBB
namespace Go.Proofs.YtifkoihhlhadhaaGreatDoor
open Go.RowKit

set_option maxRecDepth 100000 in
set_option maxHeartbeats 8000000 in
theorem rfncan_any (v : FnV) (f : Fn.F) (w : World) (h : FnOk w w.heap.size v f) (hl : v.Len) (hw : f.Wf) (hf : v.Few) :
    Calls Tryz.prog 8 #[.agg v.cells] w (ErrP f.can w) := by
  have hb0 := (Below.refl w.heap.size w).alloc (Nat.le_refl _) (.cells v.cells 28)
  have h0 := h.on hb0
  have A1 := Lib.hid (FnAt.new w v)
  have O1 := Lib.hid h0
  have B1 := Lib.hid hb0
  have HMay := rmay_any v.name (w.alloc (.cells v.cells 28)) hl.name
  rw [show Nm.may v.name = Nm.may f.name by rw [h.name]] at HMay
  have H1 := rsiright_any v.outer.a v.outer.n v.outer.c _ f.outer 4 _ h0.outer.1 hl.outer
  have H2 := rsiright_any v.params.a v.params.n v.params.c _ f.params 8 _ h0.params.1 hl.params
  have H3 := rsiright_any v.results.a v.results.n v.results.c _ f.results 4 _ h0.results.1 hl.results
  have H4 := rsiright_any v.locals.a v.locals.n v.locals.c _ f.locals 256 _ h0.locals.1 hl.locals
  have hpe := h.n_params
  have hre := h.n_results
  have hle := h.n_locals
  have hoe := h.n_outer
  have hce := h.n_code
  have hlie := h.n_lines
  have hinn := h.inner
  have hlo := hl.outer; have hlp := hl.params; have hlr := hl.results; have hll := hl.locals; have hlc := hl.code; have hli := hl.lines
  have HLi := Lib.hid (fun (W : World) (o : FnOk W W.heap.size v f) => rliright_any _ _ v.lines.c _ f.lines W o.lines.1 hl.lines)
  have HTb := Lib.hid (fun (W : World) (o : FnOk W W.heap.size v f) => rfntables_any v f W o hl hw hf)
  have c0 := A1.out.c0; have c1 := A1.out.c1; have c2 := A1.out.c2; have c3 := A1.out.c3; have c4 := A1.out.c4; have c5 := A1.out.c5; have c6 := A1.out.c6; have c7 := A1.out.c7; have c8 := A1.out.c8; have c9 := A1.out.c9; have c10 := A1.out.c10
  have hT : f.typed = (Si.right f.outer 4 && (Si.right f.params 8 && (Si.right f.results 4 && (Si.right f.locals 256 && (v.inner || decide (v.outer.n = 0)))))) := by rw [hinn, ← hoe]; rfl
  have hfc : v.code.n ≤ 150 := hf.1
  clear hb0 h h0 hl hw hf
  cases hmay : Nm.may f.name with
  | false =>
    rw [hmay] at HMay
    have HE : Hid (f.can = 7) := Lib.hid (by unfold Fn.F.can; rw [if_pos hmay])
    clear hmay hT H1 H2 H3 H4 HLi HTb O1 hpe hre hle hoe hce hlie hinn
    obtain ⟨nm, inn, ⟨oa, on, oc⟩, ⟨pa, pn, pc⟩, ⟨ra, rn, rc⟩, ⟨la, ln, lc⟩, ⟨ca, cn, cc⟩, ⟨ia, i_n, ic⟩, ⟨na, nn, nc⟩, ⟨ta, tn, tc⟩, ⟨va, vn, vc⟩⟩ := v
    simp only at hlo hlp hlr hll hlc hli
    go_enter Tryz.func8, Tryz.ntmps8
    go_wp2_with (first | (go_at_call 27; go_must (refine HMay.mono ?_; rintro _ wa ⟨rfl, he⟩; obtain rfl := he.symm)))
    go_ret
    exact ⟨ret_int (by rw [HE.out]; rfl), B1.out⟩
  | true =>
  rw [hmay] at HMay
  have n1 : ¬ Nm.may f.name = false := by rw [hmay]; decide
  cases hb1 : Si.right f.outer 4 with
  | false =>
    rw [hb1] at H1
    have n2 : f.typed = false := by rw [hT, hb1]; rfl
    have HE : Hid (f.can = 9) := Lib.hid (by unfold Fn.F.can; rw [if_neg n1, if_pos n2])
    clear n1 n2 hmay hT HLi HTb O1 hpe hre hle hoe hce hlie hinn hb1 H2 H3 H4
    obtain ⟨nm, inn, ⟨oa, on, oc⟩, ⟨pa, pn, pc⟩, ⟨ra, rn, rc⟩, ⟨la, ln, lc⟩, ⟨ca, cn, cc⟩, ⟨ia, i_n, ic⟩, ⟨na, nn, nc⟩, ⟨ta, tn, tc⟩, ⟨va, vn, vc⟩⟩ := v
    simp only at hlo hlp hlr hll hlc hli
    go_enter Tryz.func8, Tryz.ntmps8
    go_wp2_with (first | (go_at_call 27; go_must (refine HMay.mono ?_; rintro _ wa ⟨rfl, he⟩; obtain rfl := he.symm)) | (go_at_call 28; refine H1.mono ?_; rintro _ wr1 ⟨rfl, he⟩; obtain rfl := he.symm; clear H1))
    go_ret
    exact ⟨ret_int (by rw [HE.out]; rfl), B1.out⟩
  | true =>
  rw [hb1] at H1
  cases hb2 : Si.right f.params 8 with
  | false =>
    rw [hb2] at H2
    have n2 : f.typed = false := by rw [hT, hb1, hb2]; rfl
    have HE : Hid (f.can = 9) := Lib.hid (by unfold Fn.F.can; rw [if_neg n1, if_pos n2])
    clear n1 n2 hmay hT HLi HTb O1 hpe hre hle hoe hce hlie hinn hb1 hb2 H3 H4
    obtain ⟨nm, inn, ⟨oa, on, oc⟩, ⟨pa, pn, pc⟩, ⟨ra, rn, rc⟩, ⟨la, ln, lc⟩, ⟨ca, cn, cc⟩, ⟨ia, i_n, ic⟩, ⟨na, nn, nc⟩, ⟨ta, tn, tc⟩, ⟨va, vn, vc⟩⟩ := v
    simp only at hlo hlp hlr hll hlc hli
    go_enter Tryz.func8, Tryz.ntmps8
    go_wp2_with (first | (go_at_call 27; go_must (refine HMay.mono ?_; rintro _ wa ⟨rfl, he⟩; obtain rfl := he.symm)) | (go_at_call 28; refine H1.mono ?_; rintro _ wr1 ⟨rfl, he⟩; obtain rfl := he.symm; clear H1) | (go_at_call 28; refine H2.mono ?_; rintro _ wr2 ⟨rfl, he⟩; obtain rfl := he.symm; clear H2))
    go_ret
    exact ⟨ret_int (by rw [HE.out]; rfl), B1.out⟩
  | true =>
  rw [hb2] at H2
  cases hb3 : Si.right f.results 4 with
  | false =>
    rw [hb3] at H3
    have n2 : f.typed = false := by rw [hT, hb1, hb2, hb3]; rfl
    have HE : Hid (f.can = 9) := Lib.hid (by unfold Fn.F.can; rw [if_neg n1, if_pos n2])
    clear n1 n2 hmay hT HLi HTb O1 hpe hre hle hoe hce hlie hinn hb1 hb2 hb3 H4
    obtain ⟨nm, inn, ⟨oa, on, oc⟩, ⟨pa, pn, pc⟩, ⟨ra, rn, rc⟩, ⟨la, ln, lc⟩, ⟨ca, cn, cc⟩, ⟨ia, i_n, ic⟩, ⟨na, nn, nc⟩, ⟨ta, tn, tc⟩, ⟨va, vn, vc⟩⟩ := v
    simp only at hlo hlp hlr hll hlc hli
    go_enter Tryz.func8, Tryz.ntmps8
    go_wp2_with (first | (go_at_call 27; go_must (refine HMay.mono ?_; rintro _ wa ⟨rfl, he⟩; obtain rfl := he.symm)) | (go_at_call 28; refine H1.mono ?_; rintro _ wr1 ⟨rfl, he⟩; obtain rfl := he.symm; clear H1) | (go_at_call 28; refine H2.mono ?_; rintro _ wr2 ⟨rfl, he⟩; obtain rfl := he.symm; clear H2) | (go_at_call 28; refine H3.mono ?_; rintro _ wr3 ⟨rfl, he⟩; obtain rfl := he.symm; clear H3))
    go_ret
    exact ⟨ret_int (by rw [HE.out]; rfl), B1.out⟩
  | true =>
  rw [hb3] at H3
  cases hb4 : Si.right f.locals 256 with
  | false =>
    rw [hb4] at H4
    have n2 : f.typed = false := by rw [hT, hb1, hb2, hb3, hb4]; rfl
    have HE : Hid (f.can = 9) := Lib.hid (by unfold Fn.F.can; rw [if_neg n1, if_pos n2])
    clear n1 n2 hmay hT HLi HTb O1 hpe hre hle hoe hce hlie hinn hb1 hb2 hb3 hb4
    obtain ⟨nm, inn, ⟨oa, on, oc⟩, ⟨pa, pn, pc⟩, ⟨ra, rn, rc⟩, ⟨la, ln, lc⟩, ⟨ca, cn, cc⟩, ⟨ia, i_n, ic⟩, ⟨na, nn, nc⟩, ⟨ta, tn, tc⟩, ⟨va, vn, vc⟩⟩ := v
    simp only at hlo hlp hlr hll hlc hli
    go_enter Tryz.func8, Tryz.ntmps8
    go_wp2_with (first | (go_at_call 27; go_must (refine HMay.mono ?_; rintro _ wa ⟨rfl, he⟩; obtain rfl := he.symm)) | (go_at_call 28; refine H1.mono ?_; rintro _ wr1 ⟨rfl, he⟩; obtain rfl := he.symm; clear H1) | (go_at_call 28; refine H2.mono ?_; rintro _ wr2 ⟨rfl, he⟩; obtain rfl := he.symm; clear H2) | (go_at_call 28; refine H3.mono ?_; rintro _ wr3 ⟨rfl, he⟩; obtain rfl := he.symm; clear H3) | (go_at_call 28; refine H4.mono ?_; rintro _ wr4 ⟨rfl, he⟩; obtain rfl := he.symm; clear H4))
    go_ret
    exact ⟨ret_int (by rw [HE.out]; rfl), B1.out⟩
  | true =>
  rw [hb4] at H4
  have hb0' : Si.right f.outer 4 = true ∧ Si.right f.params 8 = true ∧ Si.right f.results 4 = true ∧ Si.right f.locals 256 = true := ⟨hb1, hb2, hb3, hb4⟩
  have hsm : v.outer.n ≤ 4 ∧ v.params.n ≤ 8 ∧ v.results.n ≤ 4 ∧ v.locals.n ≤ 256 := by
    simp only [Si.right, Bool.and_eq_true, decide_eq_true_eq] at hb0'
    omega
  rw [hb1, hb2, hb3, hb4] at hT
  simp only [Bool.true_and] at hT
  clear hb1 hb2 hb3 hb4 hb0'
  obtain ⟨hs1, hs2, hs3, hs4⟩ := hsm
  by_cases hti : v.outer.n ≠ 0 ∧ v.inner = false
  · have n2 : f.typed = false := by rw [hT, hti.2, decide_eq_false hti.1]; rfl
    have HE : Hid (f.can = 9) := Lib.hid (by unfold Fn.F.can; rw [if_neg n1, if_pos n2])
    have di : v.inner = false := hti.2
    have dn : decide (0 < v.outer.n) = true := decide_eq_true (by have := hti.1; omega)
    clear hti
    clear n1 n2 hmay hT HLi HTb O1 hpe hre hle hoe hce hlie hinn
    obtain ⟨nm, inn, ⟨oa, on, oc⟩, ⟨pa, pn, pc⟩, ⟨ra, rn, rc⟩, ⟨la, ln, lc⟩, ⟨ca, cn, cc⟩, ⟨ia, i_n, ic⟩, ⟨na, nn, nc⟩, ⟨ta, tn, tc⟩, ⟨va, vn, vc⟩⟩ := v
    simp only at hlo hlp hlr hll hlc hli di dn hs1 hs2 hs3 hs4
    subst di
    go_enter Tryz.func8, Tryz.ntmps8
    go_wp2_with (first | (go_at_call 27; go_must (refine HMay.mono ?_; rintro _ wa ⟨rfl, he⟩; obtain rfl := he.symm)) | (go_at_call 28; refine H1.mono ?_; rintro _ wr1 ⟨rfl, he⟩; obtain rfl := he.symm; clear H1) | (go_at_call 28; refine H2.mono ?_; rintro _ wr2 ⟨rfl, he⟩; obtain rfl := he.symm; clear H2) | (go_at_call 28; refine H3.mono ?_; rintro _ wr3 ⟨rfl, he⟩; obtain rfl := he.symm; clear H3) | (go_at_call 28; refine H4.mono ?_; rintro _ wr4 ⟨rfl, he⟩; obtain rfl := he.symm; clear H4))
    go_ret
    exact ⟨ret_int (by rw [HE.out]; rfl), B1.out⟩

  have n2 : f.typed = true := by
    rw [hT]
    by_cases ho : v.outer.n = 0
    · rw [decide_eq_true ho, Bool.or_true]
    · rcases Bool.eq_false_or_eq_true v.inner with e | e
      · rw [e]; rfl
      · exact absurd ⟨ho, e⟩ hti
  have n2' : ¬ f.typed = false := by rw [n2]; decide
  obtain ⟨x1, hx1⟩ : ∃ x1 : Nat, v.params.n + v.results.n = x1 := ⟨_, rfl⟩
  have hx2 : x1 + v.locals.n = f.slots := by unfold Fn.F.slots; omega
  have ha1 : (v.params.n : Int) + (v.results.n : Int) = (x1 : Int) := by omega
  have ha2 : (x1 : Int) + (v.locals.n : Int) = (f.slots : Int) := by omega
  have hxs : x1 ≤ 12 := by omega
  have hss : f.slots ≤ 268 := by omega
  clear hx1 hx2 hT n2 hpe hre hle
  by_cases ho : v.outer.n = 0
  · have do_ : decide (0 < v.outer.n) = false := decide_eq_false (by omega)
    clear ho hti
    by_cases hsl : 256 < f.slots
    · have n3 : f.fits = false := by unfold Fn.F.fits; rw [show decide (f.slots ≤ 256) = false from decide_eq_false (by omega)]; rfl
      have HE : Hid (f.can = 6) := Lib.hid (by unfold Fn.F.can; rw [if_neg n1, if_neg n2', if_pos n3])
      have d1 : decide ((256 : Int) < (f.slots : Int)) = true := decide_eq_true (by omega)
      have d1' : decide (256 < f.slots) = true := decide_eq_true hsl
      clear n1 n2' n3 hsl hmay HLi HTb O1 hoe hce hlie hinn
      obtain ⟨nm, inn, ⟨oa, on, oc⟩, ⟨pa, pn, pc⟩, ⟨ra, rn, rc⟩, ⟨la, ln, lc⟩, ⟨ca, cn, cc⟩, ⟨ia, i_n, ic⟩, ⟨na, nn, nc⟩, ⟨ta, tn, tc⟩, ⟨va, vn, vc⟩⟩ := v
      simp only at hlo hlp hlr hll hlc hli ha1 ha2 do_ hs1 hs2 hs3 hs4 d1 d1'
      skip
      go_enter Tryz.func8, Tryz.ntmps8
      go_wp2_with (first | (go_at_call 27; go_must (refine HMay.mono ?_; rintro _ wa ⟨rfl, he⟩; obtain rfl := he.symm)) | (go_at_call 28; refine H1.mono ?_; rintro _ wr1 ⟨rfl, he⟩; obtain rfl := he.symm; clear H1) | (go_at_call 28; refine H2.mono ?_; rintro _ wr2 ⟨rfl, he⟩; obtain rfl := he.symm; clear H2) | (go_at_call 28; refine H3.mono ?_; rintro _ wr3 ⟨rfl, he⟩; obtain rfl := he.symm; clear H3) | (go_at_call 28; refine H4.mono ?_; rintro _ wr4 ⟨rfl, he⟩; obtain rfl := he.symm; clear H4))
      go_ret
      exact ⟨ret_int (by rw [HE.out]; rfl), B1.out⟩
    have d1 : decide ((256 : Int) < (f.slots : Int)) = false := decide_eq_false (by omega)
    have d1' : decide (256 < f.slots) = false := decide_eq_false hsl
    have e1 : decide (f.slots ≤ 256) = true := decide_eq_true (by omega)
    by_cases hc1 : v.code.n < 1
    · have n3 : f.fits = false := by unfold Fn.F.fits; rw [e1, show decide (1 ≤ f.code.length) = false from decide_eq_false (by omega)]; rfl
      have HE : Hid (f.can = 6) := Lib.hid (by unfold Fn.F.can; rw [if_neg n1, if_neg n2', if_pos n3])
      have d2 : decide ((v.code.n : Int) < 1) = true := decide_eq_true (by omega)
      clear n1 n2' n3 hsl e1 hmay HLi HTb O1 hoe hce hlie hinn hc1
      obtain ⟨nm, inn, ⟨oa, on, oc⟩, ⟨pa, pn, pc⟩, ⟨ra, rn, rc⟩, ⟨la, ln, lc⟩, ⟨ca, cn, cc⟩, ⟨ia, i_n, ic⟩, ⟨na, nn, nc⟩, ⟨ta, tn, tc⟩, ⟨va, vn, vc⟩⟩ := v
      simp only at hlo hlp hlr hll hlc hli ha1 ha2 do_ hs1 hs2 hs3 hs4 d1 d1' d2
      skip
      go_enter Tryz.func8, Tryz.ntmps8
      go_wp2_with (first | (go_at_call 27; go_must (refine HMay.mono ?_; rintro _ wa ⟨rfl, he⟩; obtain rfl := he.symm)) | (go_at_call 28; refine H1.mono ?_; rintro _ wr1 ⟨rfl, he⟩; obtain rfl := he.symm; clear H1) | (go_at_call 28; refine H2.mono ?_; rintro _ wr2 ⟨rfl, he⟩; obtain rfl := he.symm; clear H2) | (go_at_call 28; refine H3.mono ?_; rintro _ wr3 ⟨rfl, he⟩; obtain rfl := he.symm; clear H3) | (go_at_call 28; refine H4.mono ?_; rintro _ wr4 ⟨rfl, he⟩; obtain rfl := he.symm; clear H4))
      go_ret
      exact ⟨ret_int (by rw [HE.out]; rfl), B1.out⟩
    have d2 : decide ((v.code.n : Int) < 1) = false := decide_eq_false (by omega)
    have d3 : decide ((2000 : Int) < (v.code.n : Int)) = false := decide_eq_false (by omega)
    have n3 : ¬ f.fits = false := by unfold Fn.F.fits; rw [e1, show decide (1 ≤ f.code.length) = true from decide_eq_true (by omega), show decide (f.code.length ≤ 2000) = true from decide_eq_true (by omega)]; decide
    have HOp : Hid (f.ops = false → f.can = 8) := Lib.hid (fun h => by unfold Fn.F.can; rw [if_neg n1, if_neg n2', if_neg n3, if_pos h])
    have HLn : Hid (f.ops = true → f.lined = false → f.can = 19) := Lib.hid (fun h h2 => by unfold Fn.F.can; rw [if_neg n1, if_neg n2', if_neg n3, if_neg (by rw [h]; decide), if_pos h2])
    have HOk : Hid (f.ops = true → f.lined = true → (f.bare || f.mapped) = true → f.can = 0) := Lib.hid (fun h h2 h3 => by unfold Fn.F.can; rw [if_neg n1, if_neg n2', if_neg n3, if_neg (by rw [h]; decide), if_neg (by rw [h2]; decide), if_neg (by rintro ⟨a, b⟩; rw [a, b] at h3; cases h3)])
    have HTa : Hid (f.ops = true → f.lined = true → (f.bare || f.mapped) = false → f.can = 14) := Lib.hid (fun h h2 h3 => by unfold Fn.F.can; rw [if_neg n1, if_neg n2', if_neg n3, if_neg (by rw [h]; decide), if_neg (by rw [h2]; decide), if_pos (by rw [Bool.or_eq_false_iff] at h3; exact h3)])
    have HCe := Lib.hid (And.intro hce hlie)
    obtain ⟨WB, hWB⟩ : ∃ WB, w.alloc (.cells v.cells 28) = WB := ⟨_, rfl⟩
    rw [hWB] at A1 O1 B1
    have HWB := Lib.hid hWB
    clear hWB
    clear n1 n2' n3 hsl e1 hmay hoe hce hlie hinn hc1
    obtain ⟨nm, inn, ⟨oa, on, oc⟩, ⟨pa, pn, pc⟩, ⟨ra, rn, rc⟩, ⟨la, ln, lc⟩, ⟨ca, cn, cc⟩, ⟨ia, i_n, ic⟩, ⟨na, nn, nc⟩, ⟨ta, tn, tc⟩, ⟨va, vn, vc⟩⟩ := v
    simp only at hlo hlp hlr hll hlc hli ha1 ha2 do_ hs1 hs2 hs3 hs4 d2 d3 HCe HTb HLi
    skip
    go_enter Tryz.func8, Tryz.ntmps8
    go_wp2_with (first | (go_at_call 27; go_must (refine HMay.mono ?_; rintro _ wa ⟨rfl, he⟩; obtain rfl := he.symm)) | (go_at_call 28; refine H1.mono ?_; rintro _ wr1 ⟨rfl, he⟩; obtain rfl := he.symm; clear H1) | (go_at_call 28; refine H2.mono ?_; rintro _ wr2 ⟨rfl, he⟩; obtain rfl := he.symm; clear H2) | (go_at_call 28; refine H3.mono ?_; rintro _ wr3 ⟨rfl, he⟩; obtain rfl := he.symm; clear H3) | (go_at_call 28; refine H4.mono ?_; rintro _ wr4 ⟨rfl, he⟩; obtain rfl := he.symm; clear H4))
    go_loopw [4] (fun i wr => ∃ k : Nat, k ≤ cn ∧ i = .int .i64 (k : Int) ∧ Below WB.heap.size WB wr ∧ (f.code.take k).all (fun p => In.right p.1 p.2) = true) (fun i _ => cn - (intOf i).toNat)
    case atStart => exact ⟨0, Nat.zero_le _, rfl, by rw [← HWB.out]; exact Below.refl _ _, rfl⟩
    case round =>
      obtain ⟨k, hk, rfl, hB, hW⟩ := hrel
      have A2 := Lib.hid (A1.out.on hB)
      have O2 := Lib.hid (O1.out.on hB)
      have B2 := Lib.hid (B1.out.trans (hB.mono B1.out.size))
      have HB := Lib.hid hB
      clear hB
      have c0 := A2.out.c0; have c1 := A2.out.c1; have c2 := A2.out.c2; have c3 := A2.out.c3; have c4 := A2.out.c4; have c5 := A2.out.c5; have c6 := A2.out.c6; have c7 := A2.out.c7; have c8 := A2.out.c8; have c9 := A2.out.c9; have c10 := A2.out.c10
      by_cases hlt : k < cn
      · obtain ⟨b, off, x, ec, _, hx, hkl, q0, q1⟩ := pairs_cell O2.out.code.1 hlt
        simp only at ec
        subst ec
        have hki : (k : Int) < (cn : Int) := by omega
        have HS := Lib.hid (Fn.ops_succ hkl)
        have HBd := Lib.hid (fun hb => Fn.ops_bad hkl hb)
        rw [hx, hW] at HS
        rw [hx] at HBd
        have HRi := rinright_any x.1 x.2
        clear hW hx hkl
        cases hm : In.right x.1 x.2 with
        | false =>
          rw [hm] at HRi
          have HE := Lib.hid (HOp.out (HBd.out hm))
          clear HS HBd hm HOp HLn HOk HTa
          go_wp2_with (go_at_call 29; go_must (refine (HRi _).mono ?_; rintro _ w3 ⟨rfl, hb3⟩; have B3 := Lib.hid (B2.out.trans (hb3.mono B2.out.size)); clear hb3))
          go_ret
          exact ⟨ret_int (by rw [HE.out]; rfl), B3.out⟩
        | true =>
          rw [hm] at HRi HS
          clear HBd hm HOp HLn HOk HTa
          go_wp2_with (go_at_call 29; go_must (refine (HRi _).mono ?_; rintro _ w3 ⟨rfl, hb3⟩; have HB3 := Lib.hid (below_self HB.out hb3); clear hb3))
          go_roundw
          case rel => exact ⟨k + 1, hlt, by go_num, HB3.out, HS.out⟩
          case measure => simp [intOf]; omega
      · have hop : f.ops = true := by
          have hall : f.code.all (fun p => In.right p.1 p.2) = true := by rw [← hW, List.take_of_length_le (by have := HCe.out.1; omega)]
          exact hall
        have hki : decide ((k : Int) < (cn : Int)) = false := decide_eq_false (by omega)
        clear hW
        by_cases hlk : i_n = cn
        rotate_left
        · have d4 : ((i_n : Int) != (cn : Int)) = true := bne_iff_ne.2 (by omega)
          have HE := Lib.hid (HLn.out hop (by unfold Fn.F.lined; rw [show decide (f.lines.length = f.code.length) = false from decide_eq_false (by have := HCe.out; omega)]; rfl))
          clear hlk HOp HLn HOk HTa hop
          go_wp2
          go_ret
          exact ⟨ret_int (by rw [HE.out]; rfl), B2.out⟩
        have d4 : ((i_n : Int) != (cn : Int)) = false := bne_eq_false_iff_eq.2 (by omega)
        have d4e : decide (f.lines.length = f.code.length) = true := decide_eq_true (by have := HCe.out; omega)
        have HLw := HLi.out wr O2.out
        cases hli2 : Li.right f.lines with
        | false =>
          rw [hli2] at HLw
          have HE := Lib.hid (HLn.out hop (by unfold Fn.F.lined; rw [hli2, Bool.and_false]))
          clear hlk HOp HLn HOk HTa hop d4e hli2
          go_wp2_with (go_at_call 30; go_must (refine HLw.mono ?_; rintro _ w3 ⟨rfl, he⟩; obtain rfl := he.symm))
          go_ret
          exact ⟨ret_int (by rw [HE.out]; rfl), B2.out⟩
        | true =>
        rw [hli2] at HLw
        have hln2 : f.lined = true := by unfold Fn.F.lined; rw [hli2, d4e]; rfl
        have HTw := HTb.out wr O2.out
        obtain ⟨tb, htb⟩ : ∃ tb, (f.bare || f.mapped) = tb := ⟨_, rfl⟩
        rw [htb] at HTw
        cases tb with
        | false =>
          have HE := Lib.hid (HTa.out hop hln2 htb)
          clear hlk HOp HLn HOk HTa hop d4e hli2 hln2 htb
          go_wp2_with (first
            | (go_at_call 30; go_must (refine HLw.mono ?_; rintro _ w3 ⟨rfl, he⟩; obtain rfl := he.symm))
            | (go_at_call 31; go_must (refine HTw.mono ?_; rintro _ w3 ⟨rfl, hb3⟩; have B3 := Lib.hid (B2.out.trans (hb3.mono B2.out.size)); clear hb3)))
          go_ret
          exact ⟨ret_int (by rw [HE.out]; rfl), B3.out⟩
        | true =>
          have HE := Lib.hid (HOk.out hop hln2 htb)
          clear hlk HOp HLn HOk HTa hop d4e hli2 hln2 htb
          go_wp2_with (first
            | (go_at_call 30; go_must (refine HLw.mono ?_; rintro _ w3 ⟨rfl, he⟩; obtain rfl := he.symm))
            | (go_at_call 31; go_must (refine HTw.mono ?_; rintro _ w3 ⟨rfl, hb3⟩; have B3 := Lib.hid (B2.out.trans (hb3.mono B2.out.size)); clear hb3)))
          go_ret
          exact ⟨ret_int (by rw [HE.out]; rfl), B3.out⟩
  · have di : v.inner = true := by
      rcases Bool.eq_false_or_eq_true v.inner with e | e
      · exact e
      · exact absurd ⟨ho, e⟩ hti
    have do_ : decide (0 < v.outer.n) = true := decide_eq_true (by omega)
    clear ho hti
    by_cases hsl : 256 < f.slots
    · have n3 : f.fits = false := by unfold Fn.F.fits; rw [show decide (f.slots ≤ 256) = false from decide_eq_false (by omega)]; rfl
      have HE : Hid (f.can = 6) := Lib.hid (by unfold Fn.F.can; rw [if_neg n1, if_neg n2', if_pos n3])
      have d1 : decide ((256 : Int) < (f.slots : Int)) = true := decide_eq_true (by omega)
      have d1' : decide (256 < f.slots) = true := decide_eq_true hsl
      clear n1 n2' n3 hsl hmay HLi HTb O1 hoe hce hlie hinn
      obtain ⟨nm, inn, ⟨oa, on, oc⟩, ⟨pa, pn, pc⟩, ⟨ra, rn, rc⟩, ⟨la, ln, lc⟩, ⟨ca, cn, cc⟩, ⟨ia, i_n, ic⟩, ⟨na, nn, nc⟩, ⟨ta, tn, tc⟩, ⟨va, vn, vc⟩⟩ := v
      simp only at hlo hlp hlr hll hlc hli ha1 ha2 do_ di hs1 hs2 hs3 hs4 d1 d1'
      subst di
      go_enter Tryz.func8, Tryz.ntmps8
      go_wp2_with (first | (go_at_call 27; go_must (refine HMay.mono ?_; rintro _ wa ⟨rfl, he⟩; obtain rfl := he.symm)) | (go_at_call 28; refine H1.mono ?_; rintro _ wr1 ⟨rfl, he⟩; obtain rfl := he.symm; clear H1) | (go_at_call 28; refine H2.mono ?_; rintro _ wr2 ⟨rfl, he⟩; obtain rfl := he.symm; clear H2) | (go_at_call 28; refine H3.mono ?_; rintro _ wr3 ⟨rfl, he⟩; obtain rfl := he.symm; clear H3) | (go_at_call 28; refine H4.mono ?_; rintro _ wr4 ⟨rfl, he⟩; obtain rfl := he.symm; clear H4))
      go_ret
      exact ⟨ret_int (by rw [HE.out]; rfl), B1.out⟩
    have d1 : decide ((256 : Int) < (f.slots : Int)) = false := decide_eq_false (by omega)
    have d1' : decide (256 < f.slots) = false := decide_eq_false hsl
    have e1 : decide (f.slots ≤ 256) = true := decide_eq_true (by omega)
    by_cases hc1 : v.code.n < 1
    · have n3 : f.fits = false := by unfold Fn.F.fits; rw [e1, show decide (1 ≤ f.code.length) = false from decide_eq_false (by omega)]; rfl
      have HE : Hid (f.can = 6) := Lib.hid (by unfold Fn.F.can; rw [if_neg n1, if_neg n2', if_pos n3])
      have d2 : decide ((v.code.n : Int) < 1) = true := decide_eq_true (by omega)
      clear n1 n2' n3 hsl e1 hmay HLi HTb O1 hoe hce hlie hinn hc1
      obtain ⟨nm, inn, ⟨oa, on, oc⟩, ⟨pa, pn, pc⟩, ⟨ra, rn, rc⟩, ⟨la, ln, lc⟩, ⟨ca, cn, cc⟩, ⟨ia, i_n, ic⟩, ⟨na, nn, nc⟩, ⟨ta, tn, tc⟩, ⟨va, vn, vc⟩⟩ := v
      simp only at hlo hlp hlr hll hlc hli ha1 ha2 do_ di hs1 hs2 hs3 hs4 d1 d1' d2
      subst di
      go_enter Tryz.func8, Tryz.ntmps8
      go_wp2_with (first | (go_at_call 27; go_must (refine HMay.mono ?_; rintro _ wa ⟨rfl, he⟩; obtain rfl := he.symm)) | (go_at_call 28; refine H1.mono ?_; rintro _ wr1 ⟨rfl, he⟩; obtain rfl := he.symm; clear H1) | (go_at_call 28; refine H2.mono ?_; rintro _ wr2 ⟨rfl, he⟩; obtain rfl := he.symm; clear H2) | (go_at_call 28; refine H3.mono ?_; rintro _ wr3 ⟨rfl, he⟩; obtain rfl := he.symm; clear H3) | (go_at_call 28; refine H4.mono ?_; rintro _ wr4 ⟨rfl, he⟩; obtain rfl := he.symm; clear H4))
      go_ret
      exact ⟨ret_int (by rw [HE.out]; rfl), B1.out⟩
    have d2 : decide ((v.code.n : Int) < 1) = false := decide_eq_false (by omega)
    have d3 : decide ((2000 : Int) < (v.code.n : Int)) = false := decide_eq_false (by omega)
    have n3 : ¬ f.fits = false := by unfold Fn.F.fits; rw [e1, show decide (1 ≤ f.code.length) = true from decide_eq_true (by omega), show decide (f.code.length ≤ 2000) = true from decide_eq_true (by omega)]; decide
    have HOp : Hid (f.ops = false → f.can = 8) := Lib.hid (fun h => by unfold Fn.F.can; rw [if_neg n1, if_neg n2', if_neg n3, if_pos h])
    have HLn : Hid (f.ops = true → f.lined = false → f.can = 19) := Lib.hid (fun h h2 => by unfold Fn.F.can; rw [if_neg n1, if_neg n2', if_neg n3, if_neg (by rw [h]; decide), if_pos h2])
    have HOk : Hid (f.ops = true → f.lined = true → (f.bare || f.mapped) = true → f.can = 0) := Lib.hid (fun h h2 h3 => by unfold Fn.F.can; rw [if_neg n1, if_neg n2', if_neg n3, if_neg (by rw [h]; decide), if_neg (by rw [h2]; decide), if_neg (by rintro ⟨a, b⟩; rw [a, b] at h3; cases h3)])
    have HTa : Hid (f.ops = true → f.lined = true → (f.bare || f.mapped) = false → f.can = 14) := Lib.hid (fun h h2 h3 => by unfold Fn.F.can; rw [if_neg n1, if_neg n2', if_neg n3, if_neg (by rw [h]; decide), if_neg (by rw [h2]; decide), if_pos (by rw [Bool.or_eq_false_iff] at h3; exact h3)])
    have HCe := Lib.hid (And.intro hce hlie)
    obtain ⟨WB, hWB⟩ : ∃ WB, w.alloc (.cells v.cells 28) = WB := ⟨_, rfl⟩
    rw [hWB] at A1 O1 B1
    have HWB := Lib.hid hWB
    clear hWB
    clear n1 n2' n3 hsl e1 hmay hoe hce hlie hinn hc1
    obtain ⟨nm, inn, ⟨oa, on, oc⟩, ⟨pa, pn, pc⟩, ⟨ra, rn, rc⟩, ⟨la, ln, lc⟩, ⟨ca, cn, cc⟩, ⟨ia, i_n, ic⟩, ⟨na, nn, nc⟩, ⟨ta, tn, tc⟩, ⟨va, vn, vc⟩⟩ := v
    simp only at hlo hlp hlr hll hlc hli ha1 ha2 do_ di hs1 hs2 hs3 hs4 d2 d3 HCe HTb HLi
    subst di
    go_enter Tryz.func8, Tryz.ntmps8
    go_wp2_with (first | (go_at_call 27; go_must (refine HMay.mono ?_; rintro _ wa ⟨rfl, he⟩; obtain rfl := he.symm)) | (go_at_call 28; refine H1.mono ?_; rintro _ wr1 ⟨rfl, he⟩; obtain rfl := he.symm; clear H1) | (go_at_call 28; refine H2.mono ?_; rintro _ wr2 ⟨rfl, he⟩; obtain rfl := he.symm; clear H2) | (go_at_call 28; refine H3.mono ?_; rintro _ wr3 ⟨rfl, he⟩; obtain rfl := he.symm; clear H3) | (go_at_call 28; refine H4.mono ?_; rintro _ wr4 ⟨rfl, he⟩; obtain rfl := he.symm; clear H4))
    go_loopw [4] (fun i wr => ∃ k : Nat, k ≤ cn ∧ i = .int .i64 (k : Int) ∧ Below WB.heap.size WB wr ∧ (f.code.take k).all (fun p => In.right p.1 p.2) = true) (fun i _ => cn - (intOf i).toNat)
    case atStart => exact ⟨0, Nat.zero_le _, rfl, by rw [← HWB.out]; exact Below.refl _ _, rfl⟩
    case round =>
      obtain ⟨k, hk, rfl, hB, hW⟩ := hrel
      have A2 := Lib.hid (A1.out.on hB)
      have O2 := Lib.hid (O1.out.on hB)
      have B2 := Lib.hid (B1.out.trans (hB.mono B1.out.size))
      have HB := Lib.hid hB
      clear hB
      have c0 := A2.out.c0; have c1 := A2.out.c1; have c2 := A2.out.c2; have c3 := A2.out.c3; have c4 := A2.out.c4; have c5 := A2.out.c5; have c6 := A2.out.c6; have c7 := A2.out.c7; have c8 := A2.out.c8; have c9 := A2.out.c9; have c10 := A2.out.c10
      by_cases hlt : k < cn
      · obtain ⟨b, off, x, ec, _, hx, hkl, q0, q1⟩ := pairs_cell O2.out.code.1 hlt
        simp only at ec
        subst ec
        have hki : (k : Int) < (cn : Int) := by omega
        have HS := Lib.hid (Fn.ops_succ hkl)
        have HBd := Lib.hid (fun hb => Fn.ops_bad hkl hb)
        rw [hx, hW] at HS
        rw [hx] at HBd
        have HRi := rinright_any x.1 x.2
        clear hW hx hkl
        cases hm : In.right x.1 x.2 with
        | false =>
          rw [hm] at HRi
          have HE := Lib.hid (HOp.out (HBd.out hm))
          clear HS HBd hm HOp HLn HOk HTa
          go_wp2_with (go_at_call 29; go_must (refine (HRi _).mono ?_; rintro _ w3 ⟨rfl, hb3⟩; have B3 := Lib.hid (B2.out.trans (hb3.mono B2.out.size)); clear hb3))
          go_ret
          exact ⟨ret_int (by rw [HE.out]; rfl), B3.out⟩
        | true =>
          rw [hm] at HRi HS
          clear HBd hm HOp HLn HOk HTa
          go_wp2_with (go_at_call 29; go_must (refine (HRi _).mono ?_; rintro _ w3 ⟨rfl, hb3⟩; have HB3 := Lib.hid (below_self HB.out hb3); clear hb3))
          go_roundw
          case rel => exact ⟨k + 1, hlt, by go_num, HB3.out, HS.out⟩
          case measure => simp [intOf]; omega
      · have hop : f.ops = true := by
          have hall : f.code.all (fun p => In.right p.1 p.2) = true := by rw [← hW, List.take_of_length_le (by have := HCe.out.1; omega)]
          exact hall
        have hki : decide ((k : Int) < (cn : Int)) = false := decide_eq_false (by omega)
        clear hW
        by_cases hlk : i_n = cn
        rotate_left
        · have d4 : ((i_n : Int) != (cn : Int)) = true := bne_iff_ne.2 (by omega)
          have HE := Lib.hid (HLn.out hop (by unfold Fn.F.lined; rw [show decide (f.lines.length = f.code.length) = false from decide_eq_false (by have := HCe.out; omega)]; rfl))
          clear hlk HOp HLn HOk HTa hop
          go_wp2
          go_ret
          exact ⟨ret_int (by rw [HE.out]; rfl), B2.out⟩
        have d4 : ((i_n : Int) != (cn : Int)) = false := bne_eq_false_iff_eq.2 (by omega)
        have d4e : decide (f.lines.length = f.code.length) = true := decide_eq_true (by have := HCe.out; omega)
        have HLw := HLi.out wr O2.out
        cases hli2 : Li.right f.lines with
        | false =>
          rw [hli2] at HLw
          have HE := Lib.hid (HLn.out hop (by unfold Fn.F.lined; rw [hli2, Bool.and_false]))
          clear hlk HOp HLn HOk HTa hop d4e hli2
          go_wp2_with (go_at_call 30; go_must (refine HLw.mono ?_; rintro _ w3 ⟨rfl, he⟩; obtain rfl := he.symm))
          go_ret
          exact ⟨ret_int (by rw [HE.out]; rfl), B2.out⟩
        | true =>
        rw [hli2] at HLw
        have hln2 : f.lined = true := by unfold Fn.F.lined; rw [hli2, d4e]; rfl
        have HTw := HTb.out wr O2.out
        obtain ⟨tb, htb⟩ : ∃ tb, (f.bare || f.mapped) = tb := ⟨_, rfl⟩
        rw [htb] at HTw
        cases tb with
        | false =>
          have HE := Lib.hid (HTa.out hop hln2 htb)
          clear hlk HOp HLn HOk HTa hop d4e hli2 hln2 htb
          go_wp2_with (first
            | (go_at_call 30; go_must (refine HLw.mono ?_; rintro _ w3 ⟨rfl, he⟩; obtain rfl := he.symm))
            | (go_at_call 31; go_must (refine HTw.mono ?_; rintro _ w3 ⟨rfl, hb3⟩; have B3 := Lib.hid (B2.out.trans (hb3.mono B2.out.size)); clear hb3)))
          go_ret
          exact ⟨ret_int (by rw [HE.out]; rfl), B3.out⟩
        | true =>
          have HE := Lib.hid (HOk.out hop hln2 htb)
          clear hlk HOp HLn HOk HTa hop d4e hli2 hln2 htb
          go_wp2_with (first
            | (go_at_call 30; go_must (refine HLw.mono ?_; rintro _ w3 ⟨rfl, he⟩; obtain rfl := he.symm))
            | (go_at_call 31; go_must (refine HTw.mono ?_; rintro _ w3 ⟨rfl, hb3⟩; have B3 := Lib.hid (B2.out.trans (hb3.mono B2.out.size)); clear hb3)))
          go_ret
          exact ⟨ret_int (by rw [HE.out]; rfl), B3.out⟩
end Go.Proofs.YtifkoihhlhadhaaGreatDoor
