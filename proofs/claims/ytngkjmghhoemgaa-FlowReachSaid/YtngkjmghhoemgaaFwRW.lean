/-
  Whether each instruction that is told is there: the document's answer. Conditions: the function can be read, and laid; few of everything but the types.
-/
import Derived.Test.YtngkjmghhoemgaaFwRC
import Derived.Test.YtngkjmghhoemgaaFwTwo
import Derived.Test.YtngkjmghhoemgaaFwWithin
namespace Go.Proofs.Ytngkjmghhoemgaa
open Go.RowKit

set_option maxRecDepth 100000 in
set_option maxHeartbeats 16000000 in
theorem rfwwithin_any (v : FnV) (f : Fn.F) (w0 : World) (h : FnOk w0 w0.heap.size v f) (hf : v.Few) (hcan : f.can = 0) (hk2 : v.code.n ≤ 1000) (hnn : v.nodes.n ≤ 1000) :
    Calls Try.prog 12 #[.agg v.cells] w0 (BoolP (Fw.within f) w0) := by
  have hb := (Below.refl w0.heap.size w0).alloc (Nat.le_refl _) (.cells v.cells 28)
  have HB := Lib.hid hb
  have HA := Lib.hid (FnAt.new w0 v)
  have c6 := (FnAt.new w0 v).c6
  have HNx := Lib.hid (fun (k : Nat) (hk : k < v.code.n) (W : World) (hx : Below w0.heap.size w0 W) => rfwnext_any v f k W (h.on hx) hk (by omega))
  have HCt := Lib.hid (fun (k : Nat) (hk : k < v.code.n) (W : World) (hx : Below w0.heap.size w0 W) => rfwcatch_any v f k W (h.on hx) hf hcan hk (by omega))
  have HN : Hid (f.code.length = v.code.n ∧ v.code.n ≤ 1000 ∧ f.nodes.length ≤ 1000) := Lib.hid ⟨h.n_code, hk2, by have := h.n_nodes; omega⟩
  clear h hf hcan hnn hb hk2
  obtain ⟨nm, inn, ⟨oa, on, oc⟩, ⟨pa, pn, pc⟩, ⟨ra, rn, rc⟩, ⟨la, ln, lc⟩, ⟨ca, cn, cc⟩, ⟨ia, i_n, ic⟩, ⟨na, nn, nc⟩, ⟨ta, tn, tc⟩, ⟨va, vn, vc⟩⟩ := v
  have HN : Hid (f.code.length = cn ∧ cn ≤ 1000 ∧ f.nodes.length ≤ 1000) := HN
  have HC6 := Lib.hid c6
  clear c6
  have c6 := HC6.out
  go_enter Try.func12, Try.ntmps12
  go_wp2
  obtain ⟨w1, hw1⟩ : ∃ W, W = w0.alloc (.cells (FnV.cells ⟨nm, inn, ⟨oa, on, oc⟩, ⟨pa, pn, pc⟩, ⟨ra, rn, rc⟩, ⟨la, ln, lc⟩, ⟨ca, cn, cc⟩, ⟨ia, i_n, ic⟩, ⟨na, nn, nc⟩, ⟨ta, tn, tc⟩, ⟨va, vn, vc⟩⟩) 28) := ⟨_, rfl⟩
  have hs1 : w1.heap.size = w0.heap.size + 1 := by rw [hw1, World.size_alloc]
  rw [← hw1] at HB HA HC6 c6 ⊢
  have HS1 := Lib.hid hs1
  clear hw1 hs1 c6
  go_loopw [3] (fun i wr => ∃ k : Nat, i = .int .i64 (k : Int) ∧ k ≤ cn ∧ Below w1.heap.size w1 wr ∧ ∀ t, t < k → Fw.good f t = true) (fun i _ => cn - (intOf i).toNat)
  case atStart => exact ⟨0, rfl, Nat.zero_le _, Below.refl _ _, fun t ht => absurd ht (Nat.not_lt_zero _)⟩
  case round =>
    rename World => wo
    obtain ⟨k, rfl, hk, hbo, hgd⟩ := hrel
    have HBo := Lib.hid hbo
    have HGd := Lib.hid hgd
    have c6 := (hbo.cell (p := ⟨w0.heap.size, 6, none⟩) (by have := HS1.out; simp only; omega)).trans HC6.out
    clear hbo hgd
    by_cases hkl : k < cn
    · have HK := Lib.hid hkl
      have hkb : k ≤ 1000 := by have := HN.out; omega
      have hki : (k : Int) < (cn : Int) := by omega
      have HBz := Lib.hid (HB.out.trans (HBo.out.mono (by have := HS1.out; omega)))
      have HAo : Hid (FnAt wo w0.heap.size ⟨nm, inn, ⟨oa, on, oc⟩, ⟨pa, pn, pc⟩, ⟨ra, rn, rc⟩, ⟨la, ln, lc⟩, ⟨ca, cn, cc⟩, ⟨ia, i_n, ic⟩, ⟨na, nn, nc⟩, ⟨ta, tn, tc⟩, ⟨va, vn, vc⟩⟩) := Lib.hid (HA.out.below HBo.out (by have := HS1.out; omega))
      have HNx1 := Lib.hid (fun (W : World) (hx : Below wo.heap.size wo W) => HNx.out k hkl W (HBz.out.trans (hx.mono HBz.out.size)))
      have HCt1 := Lib.hid (fun (W : World) (hx : Below wo.heap.size wo W) => HCt.out k hkl W (HBz.out.trans (hx.mono HBz.out.size)))
      have HGk : Hid (Fw.good f k = (Fw.next f k ++ Fw.catch_ f k).all (Fw.has f)) := Lib.hid rfl
      have HLl : Hid ((Fw.next f k).length + (Fw.catch_ f k).length ≤ 1099511627776) := Lib.hid (by have := Fw.next_len (f := f) k; have := Fw.catch_len (f := f) k; have := HN.out; omega)
      have HLs : Hid ((Fw.next f k ++ Fw.catch_ f k).length ≤ 10000) := Lib.hid (by rw [List.length_append]; have := Fw.next_len (f := f) k; have := Fw.catch_len (f := f) k; have := HN.out; omega)
      clear hk hkl
      generalize Fw.next f k = L1 at *
      generalize Fw.catch_ f k = L2 at *
      go_wp2
      have hC : TwC wo L1 L2 ⟨undef, undef, undef⟩ (fun _ => false) wo.drew := ⟨(Below.refl _ _).drew, fun e => (by cases e), fun e => (by cases e), fun e => (by cases e)⟩
      refine region_k ⟨undef, undef, undef⟩ 41 (fun x D W => TwC wo L1 L2 x D W) (fun x => TwG ⟨nm, inn, ⟨oa, on, oc⟩, ⟨pa, pn, pc⟩, ⟨ra, rn, rc⟩, ⟨la, ln, lc⟩, ⟨ca, cn, cc⟩, ⟨ia, i_n, ic⟩, ⟨na, nn, nc⟩, ⟨ta, tn, tc⟩, ⟨va, vn, vc⟩⟩ k x) (by kernel_rfl) (by kernel_rfl) (by kernel_rfl) rfl rfl hC ?_ ?_
      · refine ⟨?_, ?_, ?_, ?_, ?_, ?_, ?_, ?_, trivial⟩
        · intro x D a w hI hdep hD0 K hK
          have e1 : a.eval (.tmp 1) = .pointer (some ⟨w0.heap.size, 0, none⟩) := hI.read 1 rfl
          have hA := HAo.out.on hI.world.below
          have k0 := hA.c0
          have k1 := hA.c1
          have k2 := hA.c2
          have k3 := hA.c3
          have k4 := hA.c4
          have k5 := hA.c5
          have k6 := hA.c6
          have k7 := hA.c7
          have k8 := hA.c8
          have k9 := hA.c9
          have k10 := hA.c10
          clear hA
          refine ok_value (wanted_none rfl) (v := .agg #[.string nm, .bool inn, .slice oa on oc, .slice pa pn pc, .slice ra rn rc, .slice la ln lc, .slice ca cn cc, .slice ia i_n ic, .slice na nn nc, .slice ta tn tc, .slice va vn vc]) ?_ (hK x _ _ (hI.world.up rfl rfl rfl) (fun _ _ _ h => h) rfl)
          have ec : ∀ c, a.eval (.const c) = c := fun _ => rfl
          have ef : ∀ f, a.eval (.func f) = .func (.func f) #[] #[] := fun _ => rfl
          clear hI hdep hK
          generalize a.eval = ρ at e1 ec ef ⊢
          go_simp
        · intro x D a w hI hdep hD0 K hK
          have e3 : a.eval (.tmp 3) = .int .i64 (k : Int) := hI.read 3 rfl
          refine ok_value (wanted_none rfl) (v := .int .i64 (k : Int)) ?_ (hK x _ _ (hI.world.up rfl rfl rfl) (fun _ _ _ h => h) rfl)
          have ec : ∀ c, a.eval (.const c) = c := fun _ => rfl
          have ef : ∀ f, a.eval (.func f) = .func (.func f) #[] #[] := fun _ => rfl
          clear hI hdep hK
          generalize a.eval = ρ at e3 ec ef ⊢
          go_simp
        · intro x D a w hI hdep hD0 K hK
          have e13 : a.eval (.tmp 13) = .agg #[.string nm, .bool inn, .slice oa on oc, .slice pa pn pc, .slice ra rn rc, .slice la ln lc, .slice ca cn cc, .slice ia i_n ic, .slice na nn nc, .slice ta tn tc, .slice va vn vc] := hI.good 0 13 (dep_of hdep 0 rfl) rfl
          have e14 : a.eval (.tmp 14) = .int .i64 (k : Int) := hI.good 1 14 (dep_of hdep 1 rfl) rfl
          refine ok_call (wanted_none rfl) (f := 18) (args := #[.agg #[.string nm, .bool inn, .slice oa on oc, .slice pa pn pc, .slice ra rn rc, .slice la ln lc, .slice ca cn cc, .slice ia i_n ic, .slice na nn nc, .slice ta tn tc, .slice va vn vc], .int .i64 (k : Int)]) ?_ (show Calls _ _ #[.agg #[.string nm, .bool inn, .slice oa on oc, .slice pa pn pc, .slice ra rn rc, .slice la ln lc, .slice ca cn cc, .slice ia i_n ic, .slice na nn nc, .slice ta tn tc, .slice va vn vc], _] _ _ from HNx1.out w hI.world.below) ?_
          · have ec : ∀ c, a.eval (.const c) = c := fun _ => rfl
            have ef : ∀ f, a.eval (.func f) = .func (.func f) #[] #[] := fun _ => rfl
            clear hI hdep hK
            generalize a.eval = ρ at e13 e14 ec ef ⊢
            go_simp
          · rintro e w2 ⟨u, rfl, hu, hb2⟩
            exact ⟨_, rfl, hK {x with a := u} _ _ (hI.world.new_a hu hb2) (tw_a hD0) rfl⟩
        · intro x D a w hI hdep hD0 K hK
          have e1 : a.eval (.tmp 1) = .pointer (some ⟨w0.heap.size, 0, none⟩) := hI.read 1 rfl
          have hA := HAo.out.on hI.world.below
          have k0 := hA.c0
          have k1 := hA.c1
          have k2 := hA.c2
          have k3 := hA.c3
          have k4 := hA.c4
          have k5 := hA.c5
          have k6 := hA.c6
          have k7 := hA.c7
          have k8 := hA.c8
          have k9 := hA.c9
          have k10 := hA.c10
          clear hA
          refine ok_value (wanted_none rfl) (v := .agg #[.string nm, .bool inn, .slice oa on oc, .slice pa pn pc, .slice ra rn rc, .slice la ln lc, .slice ca cn cc, .slice ia i_n ic, .slice na nn nc, .slice ta tn tc, .slice va vn vc]) ?_ (hK x _ _ (hI.world.up rfl rfl rfl) (fun _ _ _ h => h) rfl)
          have ec : ∀ c, a.eval (.const c) = c := fun _ => rfl
          have ef : ∀ f, a.eval (.func f) = .func (.func f) #[] #[] := fun _ => rfl
          clear hI hdep hK
          generalize a.eval = ρ at e1 ec ef ⊢
          go_simp
        · intro x D a w hI hdep hD0 K hK
          have e3 : a.eval (.tmp 3) = .int .i64 (k : Int) := hI.read 3 rfl
          refine ok_value (wanted_none rfl) (v := .int .i64 (k : Int)) ?_ (hK x _ _ (hI.world.up rfl rfl rfl) (fun _ _ _ h => h) rfl)
          have ec : ∀ c, a.eval (.const c) = c := fun _ => rfl
          have ef : ∀ f, a.eval (.func f) = .func (.func f) #[] #[] := fun _ => rfl
          clear hI hdep hK
          generalize a.eval = ρ at e3 ec ef ⊢
          go_simp
        · intro x D a w hI hdep hD0 K hK
          have e16 : a.eval (.tmp 16) = .agg #[.string nm, .bool inn, .slice oa on oc, .slice pa pn pc, .slice ra rn rc, .slice la ln lc, .slice ca cn cc, .slice ia i_n ic, .slice na nn nc, .slice ta tn tc, .slice va vn vc] := hI.good 3 16 (dep_of hdep 3 rfl) rfl
          have e17 : a.eval (.tmp 17) = .int .i64 (k : Int) := hI.good 4 17 (dep_of hdep 4 rfl) rfl
          refine ok_call (wanted_none rfl) (f := 19) (args := #[.agg #[.string nm, .bool inn, .slice oa on oc, .slice pa pn pc, .slice ra rn rc, .slice la ln lc, .slice ca cn cc, .slice ia i_n ic, .slice na nn nc, .slice ta tn tc, .slice va vn vc], .int .i64 (k : Int)]) ?_ (show Calls _ _ #[.agg #[.string nm, .bool inn, .slice oa on oc, .slice pa pn pc, .slice ra rn rc, .slice la ln lc, .slice ca cn cc, .slice ia i_n ic, .slice na nn nc, .slice ta tn tc, .slice va vn vc], _] _ _ from HCt1.out w hI.world.below) ?_
          · have ec : ∀ c, a.eval (.const c) = c := fun _ => rfl
            have ef : ∀ f, a.eval (.func f) = .func (.func f) #[] #[] := fun _ => rfl
            clear hI hdep hK
            generalize a.eval = ρ at e16 e17 ec ef ⊢
            go_simp
          · rintro e w2 ⟨u, rfl, hu, hb2⟩
            exact ⟨_, rfl, hK {x with b := u} _ _ (hI.world.new_b hu hb2) (tw_b hD0) rfl⟩
        · intro x D a w hI hdep hD0 K hK
          have e15 : a.eval (.tmp 15) = x.a := hI.good 2 15 (dep_of hdep 2 rfl) rfl
          have e18 : a.eval (.tmp 18) = x.b := hI.good 5 18 (dep_of hdep 5 rfl) rfl
          obtain ⟨r, W', hr, hC⟩ := hI.world.app (dep_of hdep 2 rfl) (dep_of hdep 5 rfl) hD0 HLl.out
          exact ok_append (wanted_none rfl) (.tmp 15) (.tmp 18) 24 24 rfl (by rw [e15, e18]; exact hr _) (hK {x with r := r} _ _ hC (tw_r hD0 (hI.not_up hD0 7 rfl)) rfl)
        · intro x D a w hI hdep hD0 K hK
          have e19 : a.eval (.tmp 19) = x.r := hI.good 6 19 (dep_of hdep 6 rfl) rfl
          refine ok_value (wanted_none rfl) (v := x.r) ?_ (hK x _ _ (hI.world.up rfl rfl rfl) (fun _ _ _ h => h) rfl)
          have ec : ∀ c, a.eval (.const c) = c := fun _ => rfl
          have ef : ∀ f, a.eval (.func f) = .func (.func f) #[] #[] := fun _ => rfl
          clear hI hdep hK
          generalize a.eval = ρ at e19 ec ef ⊢
          go_simp
      · intro x D a w2 hI hD
        have hfr := hI.frame [(13, .agg #[.string nm, .bool inn, .slice oa on oc, .slice pa pn pc, .slice ra rn rc, .slice la ln lc, .slice ca cn cc, .slice ia i_n ic, .slice na nn nc, .slice ta tn tc, .slice va vn vc]), (14, .int .i64 (k : Int)), (15, x.a), (16, .agg #[.string nm, .bool inn, .slice oa on oc, .slice pa pn pc, .slice ra rn rc, .slice la ln lc, .slice ca cn cc, .slice ia i_n ic, .slice na nn nc, .slice ta tn tc, .slice va vn vc]), (17, .int .i64 (k : Int)), (18, x.b), (19, x.r), (4, x.r)] (all_cons (hI.good 0 13 (hD 0 (by decide)) rfl) (all_cons (hI.good 1 14 (hD 1 (by decide)) rfl) (all_cons (hI.good 2 15 (hD 2 (by decide)) rfl) (all_cons (hI.good 3 16 (hD 3 (by decide)) rfl) (all_cons (hI.good 4 17 (hD 4 (by decide)) rfl) (all_cons (hI.good 5 18 (hD 5 (by decide)) rfl) (all_cons (hI.good 6 19 (hD 6 (by decide)) rfl) (all_cons (hI.good 7 4 (hD 7 (by decide)) rfl) all_nil)))))))) rfl
        have hW := hI.world
        clear hI
        subst hfr
        simp only [List.foldl_cons, List.foldl_nil, List.setIfInBounds_toArray, List.set_cons_succ, List.set_cons_zero]
        have hr := hW.rr (hD 6 (by decide))
        have HB2 := Lib.hid (HBo.out.trans (hW.below.mono HBo.out.size))
        have c6 := (HB2.out.cell (p := ⟨w0.heap.size, 6, none⟩) (by have := HS1.out; simp only; omega)).trans HC6.out
        obtain ⟨A, cA, hxr, hir, _⟩ := hr.ints
        rw [hxr]
        have HI2 := Lib.hid hir
        clear hW hD hr hir hxr HNx1 HCt1 HNx HCt HLl
        have hls : (L1 ++ L2).length ≤ 10000 := HLs.out
        clear HLs
        generalize L1 ++ L2 = L at *
        have HLs := Lib.hid hls
        clear hls
        go_wp2
        go_loopw [5] (fun i wr => ∃ j : Nat, i = .int .i64 (j : Int) ∧ j ≤ L.length ∧ Below w2.heap.size w2 wr ∧ (L.take j).all (Fw.has f) = true) (fun i _ => L.length - (intOf i).toNat)
        case atStart => exact ⟨0, rfl, Nat.zero_le _, Below.refl _ _, rfl⟩
        case round =>
          obtain ⟨j, rfl, hj, hbi, hall⟩ := hrel
          have HBi := Lib.hid hbi
          have HAl := Lib.hid hall
          have c6' := (hbi.cell (p := ⟨w0.heap.size, 6, none⟩) (by have := HS1.out; have := HB2.out.size; simp only; omega)).trans c6
          clear hbi hall c6
          by_cases hjl : j < L.length
          · obtain ⟨b2, off2, x, rfl, hlt2, x0, hx, _⟩ := ints_cell HI2.out hjl
            have x0' := (HBi.out.cell (p := ⟨b2, off2 + j, none⟩) hlt2).trans x0
            have hji : (j : Int) < (L.length : Int) := by omega
            have HJ := Lib.hid hjl
            have hjb : j ≤ 10000 := by have := HLs.out; omega
            have HSn : Hid ((L.take (j + 1)).all (Fw.has f) = ((L.take j).all (Fw.has f) && Fw.has f x)) := Lib.hid (by rw [all_snoc hjl, hx])
            have HBd : Hid (Fw.has f x = false → Fw.within f = false) := Lib.hid (fun e => Fw.within_bad (k := k) (by have := HN.out; have := HK.out; omega) (by rw [HGk.out]; exact all_not hjl (by rw [hx]; exact e)))
            have HHx : Hid (Fw.has f x = decide (0 ≤ x ∧ x < (cn : Int))) := Lib.hid (by unfold Fw.has; rw [HN.out.1])
            clear hx hlt2 x0 hj hjl
            by_cases h0 : x < 0
            · have d0 : decide (x < 0) = true := decide_eq_true h0
              have HE := Lib.hid (HBd.out (by rw [HHx.out]; exact decide_eq_false (by omega)))
              clear h0
              go_wp2
              go_quiet (fail)
              go_wp2
              go_ret
              rw [HE.out]
              exact ⟨rfl, below_drewN (HB.out.trans ((HB2.out.trans (HBi.out.mono HB2.out.size)).mono (by have := HS1.out; omega))) _⟩
            · have d0 : decide (x < 0) = false := decide_eq_false h0
              by_cases h1 : (cn : Int) ≤ x
              · have d1 : decide ((cn : Int) ≤ x) = true := decide_eq_true h1
                have HE := Lib.hid (HBd.out (by rw [HHx.out]; exact decide_eq_false (by omega)))
                clear h0 h1
                go_wp2
                go_quiet (fail)
                go_wp2
                go_ret
                rw [HE.out]
                exact ⟨rfl, below_drewN (HB.out.trans ((HB2.out.trans (HBi.out.mono HB2.out.size)).mono (by have := HS1.out; omega))) _⟩
              · have d1 : decide ((cn : Int) ≤ x) = false := decide_eq_false h1
                have HOk : Hid ((L.take (j + 1)).all (Fw.has f) = true) := Lib.hid (by rw [HSn.out, HAl.out, HHx.out, decide_eq_true (show 0 ≤ x ∧ x < (cn : Int) by omega)]; rfl)
                clear h0 h1
                go_wp2
                go_quiet (fail)
                go_wp2
                go_roundw
                case rel => exact ⟨j + 1, by go_num, HJ.out, below_drewN HBi.out _, HOk.out⟩
                case measure => have := HJ.out; simp [intOf]; omega
          · obtain rfl : j = L.length := by omega
            have HOk : Hid (Fw.good f k = true) := Lib.hid (by have := HAl.out; rw [List.take_length] at this; rw [HGk.out]; exact this)
            clear hj hjl
            go_wp2
            go_roundw
            case rel =>
              refine ⟨k + 1, by go_num, HK.out, HB2.out.trans (HBi.out.mono HB2.out.size), fun t ht => ?_⟩
              rcases Nat.lt_succ_iff_lt_or_eq.1 ht with h | rfl
              · exact HGd.out t h
              · exact HOk.out
            case measure => have := HK.out; simp [intOf]; omega
    · have HE : Hid (Fw.within f = true) := Lib.hid (Fw.within_true (fun t ht => HGd.out t (by have := HN.out; omega)))
      obtain rfl : k = cn := by omega
      clear hk hkl
      go_wp2
      go_ret
      rw [HE.out]
      exact ⟨rfl, HB.out.trans (HBo.out.mono (by have := HS1.out; omega))⟩
end Go.Proofs.Ytngkjmghhoemgaa
