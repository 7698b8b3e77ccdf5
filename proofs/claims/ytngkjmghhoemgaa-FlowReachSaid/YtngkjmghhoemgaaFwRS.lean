/-
  Where pieces begin: the document's answer. Conditions: the function can be read, and laid; few of everything but the types.
-/
import Derived.Test.YtngkjmghhoemgaaFwRC
import Derived.Test.YtngkjmghhoemgaaFwTwo
import Derived.Test.YtngkjmghhoemgaaFwBegin
namespace Go.Proofs.Ytngkjmghhoemgaa
open Go.RowKit

theorem Rq.named {w : World} {base : Nat} {v : Value} {l : List Int} (h : Rq w base v l) : ∃ A n c, v = .slice A n c ∧ n = l.length ∧ IntsAt w w.heap.size A n l := by
  obtain ⟨A, c, e, hi, _⟩ := h.ints
  exact ⟨A, _, c, e, rfl, hi⟩
theorem len_snoc {l : List Int} {x : Int} {n : Nat} (h : l.length ≤ n) : (l ++ [x]).length ≤ n + 1 := by
  rw [List.length_append]
  exact Nat.add_le_add_right h 1

set_option maxRecDepth 100000 in
set_option maxHeartbeats 32000000 in
theorem rfwstarts_any (v : FnV) (f : Fn.F) (w0 : World) (h : FnOk w0 w0.heap.size v f) (hf : v.Few) (hcan : f.can = 0) (hn1 : 1 ≤ v.code.n) (hk2 : v.code.n ≤ 1000) (hnn : v.nodes.n ≤ 1000) :
    Calls Try.prog 10 #[.agg v.cells] w0 (RowP (Fw.starts f) w0) := by
  obtain ⟨ib, hib, hbz0, hbz1, hbz2⟩ := info_parts info_bool
  have hb := (Below.refl w0.heap.size w0).alloc (Nat.le_refl _) (.cells v.cells 28)
  have HB := Lib.hid hb
  have HA := Lib.hid (FnAt.new w0 v)
  have c6 := (FnAt.new w0 v).c6
  have HCt := Lib.hid (fun (k : Nat) (hk : k < v.code.n) (W : World) (hx : Below w0.heap.size w0 W) => rfwcatch_any v f k W (h.on hx) hf hcan hk (by omega))
  have HOp := Lib.hid (fun (k : Nat) (hk : k < v.code.n) (W : World) (hx : Below w0.heap.size w0 W) => rfwopens_any v f k W (h.on hx) hk)
  have HPc := Lib.hid (h.on hb).code.1
  have HN : Hid (f.code.length = v.code.n ∧ v.code.n ≤ 1000 ∧ f.nodes.length ≤ 1000) := Lib.hid ⟨h.n_code, hk2, by have := h.n_nodes; omega⟩
  have HCan := Lib.hid hcan
  clear h hf hcan hnn hb hk2
  obtain ⟨nm, inn, ⟨oa, on, oc⟩, ⟨pa, pn, pc⟩, ⟨ra, rn, rc⟩, ⟨la, ln, lc⟩, ⟨ca, cn, cc⟩, ⟨ia, i_n, ic⟩, ⟨na, nn, nc⟩, ⟨ta, tn, tc⟩, ⟨va, vn, vc⟩⟩ := v
  have HN : Hid (f.code.length = cn ∧ cn ≤ 1000 ∧ f.nodes.length ≤ 1000) := HN
  simp only at hn1
  have HC6 := Lib.hid c6
  have hwn : wrap64 ((cn : Int) + 2000) = (cn : Int) + 2000 := by have := HN.out; unfold wrap64; omega
  have hn1i : (0 : Int) < (cn : Int) := by omega
  have hn1n : 0 < cn := by omega
  have HCn : Hid (cn ≤ 1000) := Lib.hid HN.out.2.1
  go_enter Try.func10, Try.ntmps10
  go_wp2_with (at_make; refine wpList_make_full _ rfl _ _ 31 rfl (w0.heap.size + 1) 4 ib (.bool false) 1 Try.underlying31 hib hbz0 hbz1 .i64 .i64 _ _ (cn + 2000) rfl rfl (hwn.trans (Int.natCast_add cn 2000).symm) (hwn.trans (Int.natCast_add cn 2000).symm) (by have := HCn.out; rw [hbz2]; omega) (by have := HCn.out; unfold maxLen; omega) (by simp) ?_; intro w2 hown2 hgrow2; have HO2 := Lib.hid hown2; have HG2 := Lib.hid hgrow2; have HQ2 := Lib.hid (Bq.made hown2); have z2 := (Bq.made hown2).cell (k := 0) (by simp); have z3 := (Bq.made hown2).frozen 0; rw [World.size_alloc] at z2 z3; have c6' := hgrow2.cell (a := ⟨w0.heap.size, 6, none⟩) c6 (fun e => (by cases e)); clear hown2 hgrow2)
  have hq2 := HQ2.out
  rw [World.size_alloc] at hq2
  have hb2 : Below (w0.heap.size + 1) (w0.alloc (.cells (FnV.cells ⟨nm, inn, ⟨oa, on, oc⟩, ⟨pa, pn, pc⟩, ⟨ra, rn, rc⟩, ⟨la, ln, lc⟩, ⟨ca, cn, cc⟩, ⟨ia, i_n, ic⟩, ⟨na, nn, nc⟩, ⟨ta, tn, tc⟩, ⟨va, vn, vc⟩⟩) 28)) w2 := (Below.refl _ _).grown HG2.out (by simp) (fun k hk => by cases hk)
  obtain ⟨w1, hw1⟩ : ∃ W, W = w0.alloc (.cells (FnV.cells ⟨nm, inn, ⟨oa, on, oc⟩, ⟨pa, pn, pc⟩, ⟨ra, rn, rc⟩, ⟨la, ln, lc⟩, ⟨ca, cn, cc⟩, ⟨ia, i_n, ic⟩, ⟨na, nn, nc⟩, ⟨ta, tn, tc⟩, ⟨va, vn, vc⟩⟩) 28) := ⟨_, rfl⟩
  have hs1 : w1.heap.size = w0.heap.size + 1 := by rw [hw1, World.size_alloc]
  rw [← hw1] at hb2 HA HPc HB HC6
  obtain ⟨w3, hw3⟩ : ∃ W, W = w2.setCell ⟨w0.heap.size + 1, 0, none⟩ (.bool true) := ⟨_, rfl⟩
  have hq3 : Bq w3 (w0.heap.size + 1) (Fw.mk (cn + 2000) (Fw.marks f 0)) := by
    have h := hq2.set 0 true
    rw [← Fw.mk_none, Fw.mk_set, ← hw3] at h
    exact h
  have hg3 : w2.grownBy w3 (some (w0.heap.size + 1)) := by rw [hw3]; exact grown_setCell w2 _ _ _
  rw [← hw3]
  have hg2s : w0.heap.size + 1 < w2.heap.size := hq2.lt
  have HCell := Lib.hid (fun (W : World) (hx : w2.grownBy W (some (w0.heap.size + 1))) (b i : Nat) (z : Value) (hb : b < w0.heap.size + 1) (hz : w1.cell? ⟨b, i, none⟩ = some z) => hx.cell (a := ⟨b, i, none⟩) ((hb2.cell (p := ⟨b, i, none⟩) hb).trans hz) (fun e => by injection e with e; simp only at e; omega))
  have HFn := Lib.hid (fun (W : World) (hx : w2.grownBy W (some (w0.heap.size + 1))) => show FnAt W w0.heap.size ⟨nm, inn, ⟨oa, on, oc⟩, ⟨pa, pn, pc⟩, ⟨ra, rn, rc⟩, ⟨la, ln, lc⟩, ⟨ca, cn, cc⟩, ⟨ia, i_n, ic⟩, ⟨na, nn, nc⟩, ⟨ta, tn, tc⟩, ⟨va, vn, vc⟩⟩ from (hx.block w0.heap.size (by omega) (fun e => by injection e with e; omega)).trans (HA.out.below hb2 (Nat.lt_succ_self _)))
  have HSz := Lib.hid (fun (W : World) (hx : w2.grownBy W (some (w0.heap.size + 1))) => show w0.heap.size + 1 + 1 ≤ W.heap.size by have := hx.size; omega)
  have HBW := Lib.hid (fun (W : World) (hx : w2.grownBy W (some (w0.heap.size + 1))) => show Below w0.heap.size w0 W from (HB.out.trans (hb2.mono (Nat.le_succ _))).grown hx (by omega) (fun k hk => by injection hk with hk; omega))
  have HPcell := Lib.hid (fun (k : Nat) (hk : k < cn) => pairs_cell HPc.out hk)
  have HQ3 := Lib.hid hq3
  have HG3 := Lib.hid hg3
  have HS3 := Lib.hid (And.intro hg2s hs1)
  clear hq3 hg3 hw3 hw1 hs1 hg2s hb2 hq2 HA HPc HO2 HG2 HQ2 z2 z3 c6' c6 hwn hn1 hn1i hn1n
  go_loopw [4] (fun i wr => ∃ k : Nat, i = .int .i64 (k : Int) ∧ k ≤ cn ∧ Bq wr (w0.heap.size + 1) (Fw.mk (cn + 2000) (Fw.marks f k)) ∧ w2.grownBy wr (some (w0.heap.size + 1))) (fun i _ => cn - (intOf i).toNat)
  case atStart => exact ⟨0, rfl, Nat.zero_le _, HQ3.out, HG3.out⟩
  case round =>
    rename World => wo
    obtain ⟨k, rfl, hk, hqo, hgo⟩ := hrel
    have HQb := Lib.hid hqo
    have HGo := Lib.hid hgo
    have c6 := HCell.out wo hgo w0.heap.size 6 _ (Nat.lt_succ_self _) HC6.out
    clear hqo hgo
    by_cases hkl : k < cn
    · obtain ⟨b, off, y, rfl, hlt, hy, _, e0, e1⟩ := HPcell.out k hkl
      have hlt1 : b < w0.heap.size + 1 := by have := HS3.out; omega
      have d0 := HCell.out _ HGo.out b _ _ hlt1 e0
      have d1 := HCell.out _ HGo.out b _ _ hlt1 e1
      have HOp2 : Hid (Fw.op f k = y.1 ∧ Fw.arg f k = y.2) := Lib.hid ⟨by unfold Fw.op; rw [hy], by unfold Fw.arg; rw [hy]⟩
      obtain ⟨o, ar⟩ := y
      simp only at d0 d1 HOp2
      have HK := Lib.hid hkl
      have hkb : k ≤ 1000 := by have := HCn.out; omega
      have hki : (k : Int) < (cn : Int) := by omega
      have hz0 := HSz.out _ HGo.out
      have HLt : Hid (b < wo.heap.size) := Lib.hid (by omega)
      have HQo : Hid (w0.heap.size < wo.heap.size) := Lib.hid (by omega)
      have HGl : Hid (w0.heap.size + 1 < wo.heap.size) := Lib.hid (by omega)
      have HAo := Lib.hid (HFn.out _ HGo.out)
      have HBz := Lib.hid (HBW.out _ HGo.out)
      have HEn := Lib.hid (fun W => rends_any o W)
      have HCt1 := Lib.hid (fun (W : World) (hx : Below wo.heap.size wo W) => HCt.out k hkl W (HBz.out.trans (hx.mono HBz.out.size)))
      have HOp1 := Lib.hid (fun (W : World) (hx : Below wo.heap.size wo W) => HOp.out k hkl W (HBz.out.trans (hx.mono HBz.out.size)))
      have HTu : Hid (Fw.begun f k = Fw.catch_ f k ++ Fw.opens f k ++ ((if o = 21 ∨ o = 22 then [ar] else []) ++ (if o = 22 ∨ (Op.row o).ends = true then [(k : Int) + 1] else []))) := Lib.hid (by unfold Fw.begun Fw.turns; rw [HOp2.out.1, HOp2.out.2])
      have HLl : Hid ((Fw.catch_ f k).length + (Fw.opens f k).length ≤ 1099511627776) := Lib.hid (by have := Fw.opens_len (f := f) k; have := Fw.catch_len (f := f) k; have := HN.out; omega)
      have HLs : Hid ((Fw.catch_ f k ++ Fw.opens f k).length ≤ 9000) := Lib.hid (by rw [List.length_append]; have := Fw.opens_len (f := f) k; have := Fw.catch_len (f := f) k; have := HN.out; omega)
      have hw : wrap64 ((k : Int) + 1) = (k : Int) + 1 := by unfold wrap64; omega
      clear hk hkl hy hlt hlt1 e0 e1 hz0
      go_wp2
      have hC : TwC wo (Fw.catch_ f k) (Fw.opens f k) ⟨undef, undef, undef⟩ (fun _ => false) wo.drew := ⟨(Below.refl _ _).drew, fun e => (by cases e), fun e => (by cases e), fun e => (by cases e)⟩
      refine region_k ⟨undef, undef, undef⟩ 95 (fun x D W => TwC wo (Fw.catch_ f k) (Fw.opens f k) x D W) (fun x => TwG ⟨nm, inn, ⟨oa, on, oc⟩, ⟨pa, pn, pc⟩, ⟨ra, rn, rc⟩, ⟨la, ln, lc⟩, ⟨some ⟨b, off, none⟩, cn, cc⟩, ⟨ia, i_n, ic⟩, ⟨na, nn, nc⟩, ⟨ta, tn, tc⟩, ⟨va, vn, vc⟩⟩ k x) (by kernel_rfl) (by kernel_rfl) (by kernel_rfl) rfl rfl hC ?_ ?_
      · refine ⟨?_, ?_, ?_, ?_, ?_, ?_, ?_, ?_, trivial⟩
        · intro x D a w hI hdep hD0 K hK
          have e1 : a.eval (.tmp 1) = .pointer (some ⟨w0.heap.size, 0, none⟩) := hI.read 1 rfl
          have hA := HAo.out.on hI.world.below
          have k0 := hA.c0
          have k1 := hA.c1
          have k2 := hA.c2
          have k3 := hA.c3
          have k4 := hA.c4
          have k5 := hA.c5
          have k6 := hA.c6
          have k7 := hA.c7
          have k8 := hA.c8
          have k9 := hA.c9
          have k10 := hA.c10
          clear hA
          refine ok_value (wanted_none rfl) (v := .agg #[.string nm, .bool inn, .slice oa on oc, .slice pa pn pc, .slice ra rn rc, .slice la ln lc, .slice (some ⟨b, off, none⟩) cn cc, .slice ia i_n ic, .slice na nn nc, .slice ta tn tc, .slice va vn vc]) ?_ (hK x _ _ (hI.world.up rfl rfl rfl) (fun _ _ _ h => h) rfl)
          have ec : ∀ c, a.eval (.const c) = c := fun _ => rfl
          have ef : ∀ f, a.eval (.func f) = .func (.func f) #[] #[] := fun _ => rfl
          clear hI hdep hK
          generalize a.eval = ρ at e1 ec ef ⊢
          go_simp
        · intro x D a w hI hdep hD0 K hK
          have e4 : a.eval (.tmp 4) = .int .i64 (k : Int) := hI.read 4 rfl
          refine ok_value (wanted_none rfl) (v := .int .i64 (k : Int)) ?_ (hK x _ _ (hI.world.up rfl rfl rfl) (fun _ _ _ h => h) rfl)
          have ec : ∀ c, a.eval (.const c) = c := fun _ => rfl
          have ef : ∀ f, a.eval (.func f) = .func (.func f) #[] #[] := fun _ => rfl
          clear hI hdep hK
          generalize a.eval = ρ at e4 ec ef ⊢
          go_simp
        · intro x D a w hI hdep hD0 K hK
          have e34 : a.eval (.tmp 34) = .agg #[.string nm, .bool inn, .slice oa on oc, .slice pa pn pc, .slice ra rn rc, .slice la ln lc, .slice (some ⟨b, off, none⟩) cn cc, .slice ia i_n ic, .slice na nn nc, .slice ta tn tc, .slice va vn vc] := hI.good 0 34 (dep_of hdep 0 rfl) rfl
          have e35 : a.eval (.tmp 35) = .int .i64 (k : Int) := hI.good 1 35 (dep_of hdep 1 rfl) rfl
          refine ok_call (wanted_none rfl) (f := 19) (args := #[.agg #[.string nm, .bool inn, .slice oa on oc, .slice pa pn pc, .slice ra rn rc, .slice la ln lc, .slice (some ⟨b, off, none⟩) cn cc, .slice ia i_n ic, .slice na nn nc, .slice ta tn tc, .slice va vn vc], .int .i64 (k : Int)]) ?_ (show Calls _ _ #[.agg #[.string nm, .bool inn, .slice oa on oc, .slice pa pn pc, .slice ra rn rc, .slice la ln lc, .slice (some ⟨b, off, none⟩) cn cc, .slice ia i_n ic, .slice na nn nc, .slice ta tn tc, .slice va vn vc], _] _ _ from HCt1.out w hI.world.below) ?_
          · have ec : ∀ c, a.eval (.const c) = c := fun _ => rfl
            have ef : ∀ f, a.eval (.func f) = .func (.func f) #[] #[] := fun _ => rfl
            clear hI hdep hK
            generalize a.eval = ρ at e34 e35 ec ef ⊢
            go_simp
          · rintro e w2 ⟨u, rfl, hu, hb2⟩
            exact ⟨_, rfl, hK {x with a := u} _ _ (hI.world.new_a hu hb2) (tw_a hD0) rfl⟩
        · intro x D a w hI hdep hD0 K hK
          have e1 : a.eval (.tmp 1) = .pointer (some ⟨w0.heap.size, 0, none⟩) := hI.read 1 rfl
          have hA := HAo.out.on hI.world.below
          have k0 := hA.c0
          have k1 := hA.c1
          have k2 := hA.c2
          have k3 := hA.c3
          have k4 := hA.c4
          have k5 := hA.c5
          have k6 := hA.c6
          have k7 := hA.c7
          have k8 := hA.c8
          have k9 := hA.c9
          have k10 := hA.c10
          clear hA
          refine ok_value (wanted_none rfl) (v := .agg #[.string nm, .bool inn, .slice oa on oc, .slice pa pn pc, .slice ra rn rc, .slice la ln lc, .slice (some ⟨b, off, none⟩) cn cc, .slice ia i_n ic, .slice na nn nc, .slice ta tn tc, .slice va vn vc]) ?_ (hK x _ _ (hI.world.up rfl rfl rfl) (fun _ _ _ h => h) rfl)
          have ec : ∀ c, a.eval (.const c) = c := fun _ => rfl
          have ef : ∀ f, a.eval (.func f) = .func (.func f) #[] #[] := fun _ => rfl
          clear hI hdep hK
          generalize a.eval = ρ at e1 ec ef ⊢
          go_simp
        · intro x D a w hI hdep hD0 K hK
          have e4 : a.eval (.tmp 4) = .int .i64 (k : Int) := hI.read 4 rfl
          refine ok_value (wanted_none rfl) (v := .int .i64 (k : Int)) ?_ (hK x _ _ (hI.world.up rfl rfl rfl) (fun _ _ _ h => h) rfl)
          have ec : ∀ c, a.eval (.const c) = c := fun _ => rfl
          have ef : ∀ f, a.eval (.func f) = .func (.func f) #[] #[] := fun _ => rfl
          clear hI hdep hK
          generalize a.eval = ρ at e4 ec ef ⊢
          go_simp
        · intro x D a w hI hdep hD0 K hK
          have e37 : a.eval (.tmp 37) = .agg #[.string nm, .bool inn, .slice oa on oc, .slice pa pn pc, .slice ra rn rc, .slice la ln lc, .slice (some ⟨b, off, none⟩) cn cc, .slice ia i_n ic, .slice na nn nc, .slice ta tn tc, .slice va vn vc] := hI.good 3 37 (dep_of hdep 3 rfl) rfl
          have e38 : a.eval (.tmp 38) = .int .i64 (k : Int) := hI.good 4 38 (dep_of hdep 4 rfl) rfl
          refine ok_call (wanted_none rfl) (f := 20) (args := #[.agg #[.string nm, .bool inn, .slice oa on oc, .slice pa pn pc, .slice ra rn rc, .slice la ln lc, .slice (some ⟨b, off, none⟩) cn cc, .slice ia i_n ic, .slice na nn nc, .slice ta tn tc, .slice va vn vc], .int .i64 (k : Int)]) ?_ (show Calls _ _ #[.agg #[.string nm, .bool inn, .slice oa on oc, .slice pa pn pc, .slice ra rn rc, .slice la ln lc, .slice (some ⟨b, off, none⟩) cn cc, .slice ia i_n ic, .slice na nn nc, .slice ta tn tc, .slice va vn vc], _] _ _ from HOp1.out w hI.world.below) ?_
          · have ec : ∀ c, a.eval (.const c) = c := fun _ => rfl
            have ef : ∀ f, a.eval (.func f) = .func (.func f) #[] #[] := fun _ => rfl
            clear hI hdep hK
            generalize a.eval = ρ at e37 e38 ec ef ⊢
            go_simp
          · rintro e w2 ⟨u, rfl, hu, hb2⟩
            exact ⟨_, rfl, hK {x with b := u} _ _ (hI.world.new_b hu hb2) (tw_b hD0) rfl⟩
        · intro x D a w hI hdep hD0 K hK
          have e36 : a.eval (.tmp 36) = x.a := hI.good 2 36 (dep_of hdep 2 rfl) rfl
          have e39 : a.eval (.tmp 39) = x.b := hI.good 5 39 (dep_of hdep 5 rfl) rfl
          obtain ⟨r, W', hr, hC⟩ := hI.world.app (dep_of hdep 2 rfl) (dep_of hdep 5 rfl) hD0 HLl.out
          exact ok_append (wanted_none rfl) (.tmp 36) (.tmp 39) 24 24 rfl (by rw [e36, e39]; exact hr _) (hK {x with r := r} _ _ hC (tw_r hD0 (hI.not_up hD0 7 rfl)) rfl)
        · intro x D a w hI hdep hD0 K hK
          have e40 : a.eval (.tmp 40) = x.r := hI.good 6 40 (dep_of hdep 6 rfl) rfl
          refine ok_value (wanted_none rfl) (v := x.r) ?_ (hK x _ _ (hI.world.up rfl rfl rfl) (fun _ _ _ h => h) rfl)
          have ec : ∀ c, a.eval (.const c) = c := fun _ => rfl
          have ef : ∀ f, a.eval (.func f) = .func (.func f) #[] #[] := fun _ => rfl
          clear hI hdep hK
          generalize a.eval = ρ at e40 ec ef ⊢
          go_simp
      · intro x D a w4 hI hD
        have hfr := hI.frame [(34, .agg #[.string nm, .bool inn, .slice oa on oc, .slice pa pn pc, .slice ra rn rc, .slice la ln lc, .slice (some ⟨b, off, none⟩) cn cc, .slice ia i_n ic, .slice na nn nc, .slice ta tn tc, .slice va vn vc]), (35, .int .i64 (k : Int)), (36, x.a), (37, .agg #[.string nm, .bool inn, .slice oa on oc, .slice pa pn pc, .slice ra rn rc, .slice la ln lc, .slice (some ⟨b, off, none⟩) cn cc, .slice ia i_n ic, .slice na nn nc, .slice ta tn tc, .slice va vn vc]), (38, .int .i64 (k : Int)), (39, x.b), (40, x.r), (6, x.r)] (all_cons (hI.good 0 34 (hD 0 (by decide)) rfl) (all_cons (hI.good 1 35 (hD 1 (by decide)) rfl) (all_cons (hI.good 2 36 (hD 2 (by decide)) rfl) (all_cons (hI.good 3 37 (hD 3 (by decide)) rfl) (all_cons (hI.good 4 38 (hD 4 (by decide)) rfl) (all_cons (hI.good 5 39 (hD 5 (by decide)) rfl) (all_cons (hI.good 6 40 (hD 6 (by decide)) rfl) (all_cons (hI.good 7 6 (hD 7 (by decide)) rfl) all_nil)))))))) rfl
        have hW := hI.world
        clear hI
        subst hfr
        simp only [List.foldl_cons, List.foldl_nil, List.setIfInBounds_toArray, List.set_cons_succ, List.set_cons_zero]
        have hr := hW.rr (hD 6 (by decide))
        have HZ4 := Lib.hid hW.below
        obtain ⟨A4, n4, cA4, hxr, hn4, hir⟩ := hr.named
        rw [hxr] at hr ⊢
        have HV4 := Lib.hid hr
        have HNn4 := Lib.hid hn4
        have HI4 := Lib.hid hir
        have HLv4 := HLs
        have x4 := (HZ4.out.cell (p := ⟨b, off + k * 2 + 1, none⟩) HLt.out).trans d1
        have y4 := (HZ4.out.cell (p := ⟨w0.heap.size, 6, none⟩) HQo.out).trans c6
        clear hW hD hr hir hxr hn4 HCt1 HOp1 HCt HOp HLl HPcell
        by_cases h21 : o = 21
        · subst h21
          have hE : (Op.row 21).ends = true := by decide
          rw [hE] at HEn
          have HBe : Hid (Fw.begun f k = Fw.catch_ f k ++ Fw.opens f k ++ [ar] ++ [(k : Int) + 1]) := Lib.hid (by rw [HTu.out]; rw [if_pos (.inl rfl), if_pos (.inr hE)]; simp)
          clear HTu
          go_wp2_with (first
            | (at_builtin; refine wpList_append_q rfl rfl (.tmp 47) (.tmp 54) rfl (base := wo.heap.size) rfl (HV4.out.alloc _) rfl (ints_lit rfl _) (by have := HZ4.out.size; simp; omega) (by have := HLv4.out; omega) ?_; intro v5 w5 hq7 hg7 _; obtain ⟨A5, n5, cA5, rfl, hn5, hi7⟩ := hq7.named; have HNn5 := Lib.hid hn5; have HV5 := Lib.hid hq7; have HZ5 := Lib.hid (below_append (HZ4.out.alloc HZ4.out.size _) (HV4.out.alloc _) hg7); have HLv5 := Lib.hid (len_snoc (x := ar) HLv4.out); have HI5 := Lib.hid hi7; have y5 := (HZ5.out.cell (p := ⟨w0.heap.size, 6, none⟩) HQo.out).trans c6; clear hq7 hg7 hi7 hn5)
            | (go_at_call 24; refine (HEn.out _).mono ?_; rintro _ w9 ⟨rfl, he⟩; obtain rfl := he.symm)
            | (at_builtin; refine wpList_append_q rfl rfl (.tmp 62) (.tmp 65) rfl (base := wo.heap.size) rfl (HV5.out.alloc _) rfl (ints_lit rfl _) (by have := HZ5.out.size; simp; omega) (by have := HLv5.out; omega) ?_; intro v6 w6 hq7 hg7 _; obtain ⟨A6, n6, cA6, rfl, hn6, hi7⟩ := hq7.named; have HNn6 := Lib.hid hn6; have HV6 := Lib.hid hq7; have HZ6 := Lib.hid (below_append (HZ5.out.alloc HZ5.out.size _) (HV5.out.alloc _) hg7); have HLv6 := Lib.hid (len_snoc (x := (k : Int) + 1) HLv5.out); have HI6 := Lib.hid hi7; have y6 := (HZ6.out.cell (p := ⟨w0.heap.size, 6, none⟩) HQo.out).trans c6; clear hq7 hg7 hi7 hn6))
          have hqn := HV6.out
          rw [← HBe.out] at hqn
          have HQn := Lib.hid hqn
          have hin := HI6.out
          rw [← HBe.out] at hin
          have HIn := Lib.hid hin
          have HLn : Hid (n6 ≤ 10000) := Lib.hid (by have := HLv6.out; have := HNn6.out; omega)
          have HGn := Lib.hid (HGo.out.trans (grown_of_below (row := some (w0.heap.size + 1)) HZ6.out))
          have HBn := Lib.hid (HQb.out.below HZ6.out)
          have HBb := Lib.hid (Fw.begun_bound HCan.out (k := k) (by have := HN.out; have := HK.out; omega))
          clear hqn hin HBe y6
          go_loopw [7] (fun i wr => ∃ j : Nat, i = .int .i64 (j : Int) ∧ j ≤ n6 ∧ Bq wr (w0.heap.size + 1) (Fw.mk (cn + 2000) (Fw.marks f k ++ (Fw.begun f k).take j)) ∧ w6.grownBy wr (some (w0.heap.size + 1))) (fun i _ => n6 - (intOf i).toNat)
          case atStart => exact ⟨0, rfl, Nat.zero_le _, by rw [List.take_zero, List.append_nil]; exact HBn.out, World.grownBy.refl _ _⟩
          case round =>
            obtain ⟨j, rfl, hj, hbj, hgj⟩ := hrel
            have HBj := Lib.hid hbj
            have HGj := Lib.hid hgj
            clear hbj hgj
            by_cases hjl : j < n6
            · obtain ⟨b2, off2, x, rfl, hlt2, x0, hx, hxl⟩ := ints_cell HIn.out hjl
              have hb2 := (HQn.out.lt b2 rfl).1
              have x0' := HGj.out.cell (a := ⟨b2, off2 + j, none⟩) x0 (fun e => by injection e with e; have := HGl.out; simp only at e; omega)
              have hxb := HBb.out x (by rw [← hx]; simp only [List.getD, List.getElem?_eq_getElem hxl, Option.getD_some]; exact List.getElem_mem hxl)
              rw [HN.out.1] at hxb
              obtain ⟨i, rfl⟩ : ∃ i : Nat, x = (i : Int) := ⟨x.toNat, by omega⟩
              have hi1 : i < cn + 2000 := by omega
              have hi2 : (i : Int) < ((cn + 2000 : Nat) : Int) := by omega
              have hi3 : (i : Int) < (cn : Int) + 2000 := by omega
              have HJ := Lib.hid hjl
              have hjb : j ≤ 10000 := by have := HLn.out; omega
              have hji : (j : Int) < (n6 : Int) := by omega
              have HO : Hid ((Fw.mk (cn + 2000) (Fw.marks f k ++ (Fw.begun f k).take j)).set i true = Fw.mk (cn + 2000) (Fw.marks f k ++ (Fw.begun f k).take (j + 1))) := Lib.hid (by rw [take_snoc _ j hxl, hx, ← List.append_assoc]; exact Fw.mk_set _)
              have z1 := HBj.out.cell (k := i) (by rw [Fw.mk_len]; exact hi1)
              have z2 := HBj.out.frozen i
              clear hx hxl hlt2 hb2 x0 hxb hj hjl
              go_wp2
              go_roundw
              case rel => exact ⟨j + 1, by go_num, HJ.out, by rw [← HO.out]; exact HBj.out.set i true, HGj.out.trans (grown_setCell _ _ i _)⟩
              case measure => have := HJ.out; simp [intOf]; omega
            · obtain rfl : j = n6 := by omega
              have HBm : Hid (Bq wr (w0.heap.size + 1) (Fw.mk (cn + 2000) (Fw.marks f (k + 1)))) := Lib.hid (by
                have h := HBj.out
                rw [List.take_of_length_le (by rw [HIn.out.1]; exact Nat.le_refl _)] at h
                exact h)
              clear hj hjl
              go_wp2
              go_roundw
              case rel => exact ⟨k + 1, by go_num, HK.out, HBm.out, HGn.out.trans HGj.out⟩
              case measure => have := HK.out; simp [intOf]; omega
        by_cases h22 : o = 22
        · subst h22
          clear HEn
          have HBe : Hid (Fw.begun f k = Fw.catch_ f k ++ Fw.opens f k ++ [ar] ++ [(k : Int) + 1]) := Lib.hid (by rw [HTu.out]; rw [if_pos (.inr rfl), if_pos (.inl rfl)]; simp)
          clear HTu
          go_wp2_with (first
            | (at_builtin; refine wpList_append_q rfl rfl (.tmp 47) (.tmp 54) rfl (base := wo.heap.size) rfl (HV4.out.alloc _) rfl (ints_lit rfl _) (by have := HZ4.out.size; simp; omega) (by have := HLv4.out; omega) ?_; intro v5 w5 hq7 hg7 _; obtain ⟨A5, n5, cA5, rfl, hn5, hi7⟩ := hq7.named; have HNn5 := Lib.hid hn5; have HV5 := Lib.hid hq7; have HZ5 := Lib.hid (below_append (HZ4.out.alloc HZ4.out.size _) (HV4.out.alloc _) hg7); have HLv5 := Lib.hid (len_snoc (x := ar) HLv4.out); have HI5 := Lib.hid hi7; have y5 := (HZ5.out.cell (p := ⟨w0.heap.size, 6, none⟩) HQo.out).trans c6; clear hq7 hg7 hi7 hn5)
            | (at_builtin; refine wpList_append_q rfl rfl (.tmp 62) (.tmp 65) rfl (base := wo.heap.size) rfl (HV5.out.alloc _) rfl (ints_lit rfl _) (by have := HZ5.out.size; simp; omega) (by have := HLv5.out; omega) ?_; intro v6 w6 hq7 hg7 _; obtain ⟨A6, n6, cA6, rfl, hn6, hi7⟩ := hq7.named; have HNn6 := Lib.hid hn6; have HV6 := Lib.hid hq7; have HZ6 := Lib.hid (below_append (HZ5.out.alloc HZ5.out.size _) (HV5.out.alloc _) hg7); have HLv6 := Lib.hid (len_snoc (x := (k : Int) + 1) HLv5.out); have HI6 := Lib.hid hi7; have y6 := (HZ6.out.cell (p := ⟨w0.heap.size, 6, none⟩) HQo.out).trans c6; clear hq7 hg7 hi7 hn6))
          have hqn := HV6.out
          rw [← HBe.out] at hqn
          have HQn := Lib.hid hqn
          have hin := HI6.out
          rw [← HBe.out] at hin
          have HIn := Lib.hid hin
          have HLn : Hid (n6 ≤ 10000) := Lib.hid (by have := HLv6.out; have := HNn6.out; omega)
          have HGn := Lib.hid (HGo.out.trans (grown_of_below (row := some (w0.heap.size + 1)) HZ6.out))
          have HBn := Lib.hid (HQb.out.below HZ6.out)
          have HBb := Lib.hid (Fw.begun_bound HCan.out (k := k) (by have := HN.out; have := HK.out; omega))
          clear hqn hin HBe y6
          go_loopw [7] (fun i wr => ∃ j : Nat, i = .int .i64 (j : Int) ∧ j ≤ n6 ∧ Bq wr (w0.heap.size + 1) (Fw.mk (cn + 2000) (Fw.marks f k ++ (Fw.begun f k).take j)) ∧ w6.grownBy wr (some (w0.heap.size + 1))) (fun i _ => n6 - (intOf i).toNat)
          case atStart => exact ⟨0, rfl, Nat.zero_le _, by rw [List.take_zero, List.append_nil]; exact HBn.out, World.grownBy.refl _ _⟩
          case round =>
            obtain ⟨j, rfl, hj, hbj, hgj⟩ := hrel
            have HBj := Lib.hid hbj
            have HGj := Lib.hid hgj
            clear hbj hgj
            by_cases hjl : j < n6
            · obtain ⟨b2, off2, x, rfl, hlt2, x0, hx, hxl⟩ := ints_cell HIn.out hjl
              have hb2 := (HQn.out.lt b2 rfl).1
              have x0' := HGj.out.cell (a := ⟨b2, off2 + j, none⟩) x0 (fun e => by injection e with e; have := HGl.out; simp only at e; omega)
              have hxb := HBb.out x (by rw [← hx]; simp only [List.getD, List.getElem?_eq_getElem hxl, Option.getD_some]; exact List.getElem_mem hxl)
              rw [HN.out.1] at hxb
              obtain ⟨i, rfl⟩ : ∃ i : Nat, x = (i : Int) := ⟨x.toNat, by omega⟩
              have hi1 : i < cn + 2000 := by omega
              have hi2 : (i : Int) < ((cn + 2000 : Nat) : Int) := by omega
              have hi3 : (i : Int) < (cn : Int) + 2000 := by omega
              have HJ := Lib.hid hjl
              have hjb : j ≤ 10000 := by have := HLn.out; omega
              have hji : (j : Int) < (n6 : Int) := by omega
              have HO : Hid ((Fw.mk (cn + 2000) (Fw.marks f k ++ (Fw.begun f k).take j)).set i true = Fw.mk (cn + 2000) (Fw.marks f k ++ (Fw.begun f k).take (j + 1))) := Lib.hid (by rw [take_snoc _ j hxl, hx, ← List.append_assoc]; exact Fw.mk_set _)
              have z1 := HBj.out.cell (k := i) (by rw [Fw.mk_len]; exact hi1)
              have z2 := HBj.out.frozen i
              clear hx hxl hlt2 hb2 x0 hxb hj hjl
              go_wp2
              go_roundw
              case rel => exact ⟨j + 1, by go_num, HJ.out, by rw [← HO.out]; exact HBj.out.set i true, HGj.out.trans (grown_setCell _ _ i _)⟩
              case measure => have := HJ.out; simp [intOf]; omega
            · obtain rfl : j = n6 := by omega
              have HBm : Hid (Bq wr (w0.heap.size + 1) (Fw.mk (cn + 2000) (Fw.marks f (k + 1)))) := Lib.hid (by
                have h := HBj.out
                rw [List.take_of_length_le (by rw [HIn.out.1]; exact Nat.le_refl _)] at h
                exact h)
              clear hj hjl
              go_wp2
              go_roundw
              case rel => exact ⟨k + 1, by go_num, HK.out, HBm.out, HGn.out.trans HGj.out⟩
              case measure => have := HK.out; simp [intOf]; omega
        have e21 : (o == 21) = false := beq_eq_false_iff_ne.2 h21
        have e22 : (o == 22) = false := beq_eq_false_iff_ne.2 h22
        cases hE : (Op.row o).ends with
        | true =>
          rw [hE] at HEn
          have HBe : Hid (Fw.begun f k = Fw.catch_ f k ++ Fw.opens f k ++ [(k : Int) + 1]) := Lib.hid (by rw [HTu.out]; rw [if_neg (by omega), if_pos (.inr hE)]; simp)
          clear HTu
          go_wp2_with (first
            | (go_at_call 24; refine (HEn.out _).mono ?_; rintro _ w9 ⟨rfl, he⟩; obtain rfl := he.symm)
            | (at_builtin; refine wpList_append_q rfl rfl (.tmp 62) (.tmp 65) rfl (base := wo.heap.size) rfl (HV4.out.alloc _) rfl (ints_lit rfl _) (by have := HZ4.out.size; simp; omega) (by have := HLv4.out; omega) ?_; intro v5 w5 hq7 hg7 _; obtain ⟨A5, n5, cA5, rfl, hn5, hi7⟩ := hq7.named; have HNn5 := Lib.hid hn5; have HV5 := Lib.hid hq7; have HZ5 := Lib.hid (below_append (HZ4.out.alloc HZ4.out.size _) (HV4.out.alloc _) hg7); have HLv5 := Lib.hid (len_snoc (x := (k : Int) + 1) HLv4.out); have HI5 := Lib.hid hi7; have y5 := (HZ5.out.cell (p := ⟨w0.heap.size, 6, none⟩) HQo.out).trans c6; clear hq7 hg7 hi7 hn5))
          have hqn := HV5.out
          rw [← HBe.out] at hqn
          have HQn := Lib.hid hqn
          have hin := HI5.out
          rw [← HBe.out] at hin
          have HIn := Lib.hid hin
          have HLn : Hid (n5 ≤ 10000) := Lib.hid (by have := HLv5.out; have := HNn5.out; omega)
          have HGn := Lib.hid (HGo.out.trans (grown_of_below (row := some (w0.heap.size + 1)) HZ5.out))
          have HBn := Lib.hid (HQb.out.below HZ5.out)
          have HBb := Lib.hid (Fw.begun_bound HCan.out (k := k) (by have := HN.out; have := HK.out; omega))
          clear hqn hin HBe y5
          go_loopw [7] (fun i wr => ∃ j : Nat, i = .int .i64 (j : Int) ∧ j ≤ n5 ∧ Bq wr (w0.heap.size + 1) (Fw.mk (cn + 2000) (Fw.marks f k ++ (Fw.begun f k).take j)) ∧ w5.grownBy wr (some (w0.heap.size + 1))) (fun i _ => n5 - (intOf i).toNat)
          case atStart => exact ⟨0, rfl, Nat.zero_le _, by rw [List.take_zero, List.append_nil]; exact HBn.out, World.grownBy.refl _ _⟩
          case round =>
            obtain ⟨j, rfl, hj, hbj, hgj⟩ := hrel
            have HBj := Lib.hid hbj
            have HGj := Lib.hid hgj
            clear hbj hgj
            by_cases hjl : j < n5
            · obtain ⟨b2, off2, x, rfl, hlt2, x0, hx, hxl⟩ := ints_cell HIn.out hjl
              have hb2 := (HQn.out.lt b2 rfl).1
              have x0' := HGj.out.cell (a := ⟨b2, off2 + j, none⟩) x0 (fun e => by injection e with e; have := HGl.out; simp only at e; omega)
              have hxb := HBb.out x (by rw [← hx]; simp only [List.getD, List.getElem?_eq_getElem hxl, Option.getD_some]; exact List.getElem_mem hxl)
              rw [HN.out.1] at hxb
              obtain ⟨i, rfl⟩ : ∃ i : Nat, x = (i : Int) := ⟨x.toNat, by omega⟩
              have hi1 : i < cn + 2000 := by omega
              have hi2 : (i : Int) < ((cn + 2000 : Nat) : Int) := by omega
              have hi3 : (i : Int) < (cn : Int) + 2000 := by omega
              have HJ := Lib.hid hjl
              have hjb : j ≤ 10000 := by have := HLn.out; omega
              have hji : (j : Int) < (n5 : Int) := by omega
              have HO : Hid ((Fw.mk (cn + 2000) (Fw.marks f k ++ (Fw.begun f k).take j)).set i true = Fw.mk (cn + 2000) (Fw.marks f k ++ (Fw.begun f k).take (j + 1))) := Lib.hid (by rw [take_snoc _ j hxl, hx, ← List.append_assoc]; exact Fw.mk_set _)
              have z1 := HBj.out.cell (k := i) (by rw [Fw.mk_len]; exact hi1)
              have z2 := HBj.out.frozen i
              clear hx hxl hlt2 hb2 x0 hxb hj hjl
              go_wp2
              go_roundw
              case rel => exact ⟨j + 1, by go_num, HJ.out, by rw [← HO.out]; exact HBj.out.set i true, HGj.out.trans (grown_setCell _ _ i _)⟩
              case measure => have := HJ.out; simp [intOf]; omega
            · obtain rfl : j = n5 := by omega
              have HBm : Hid (Bq wr (w0.heap.size + 1) (Fw.mk (cn + 2000) (Fw.marks f (k + 1)))) := Lib.hid (by
                have h := HBj.out
                rw [List.take_of_length_le (by rw [HIn.out.1]; exact Nat.le_refl _)] at h
                exact h)
              clear hj hjl
              go_wp2
              go_roundw
              case rel => exact ⟨k + 1, by go_num, HK.out, HBm.out, HGn.out.trans HGj.out⟩
              case measure => have := HK.out; simp [intOf]; omega
        | false =>
          rw [hE] at HEn
          have HBe : Hid (Fw.begun f k = Fw.catch_ f k ++ Fw.opens f k) := Lib.hid (by rw [HTu.out]; rw [if_neg (by omega), if_neg (fun e => e.elim h22 (fun e => by rw [hE] at e; cases e))]; simp)
          clear HTu
          go_wp2_with (first
            | (go_at_call 24; refine (HEn.out _).mono ?_; rintro _ w9 ⟨rfl, he⟩; obtain rfl := he.symm))
          have hqn := HV4.out
          rw [← HBe.out] at hqn
          have HQn := Lib.hid hqn
          have hin := HI4.out
          rw [← HBe.out] at hin
          have HIn := Lib.hid hin
          have HLn : Hid (n4 ≤ 10000) := Lib.hid (by have := HLv4.out; have := HNn4.out; omega)
          have HGn := Lib.hid (HGo.out.trans (grown_of_below (row := some (w0.heap.size + 1)) HZ4.out))
          have HBn := Lib.hid (HQb.out.below HZ4.out)
          have HBb := Lib.hid (Fw.begun_bound HCan.out (k := k) (by have := HN.out; have := HK.out; omega))
          clear hqn hin HBe y4
          go_loopw [7] (fun i wr => ∃ j : Nat, i = .int .i64 (j : Int) ∧ j ≤ n4 ∧ Bq wr (w0.heap.size + 1) (Fw.mk (cn + 2000) (Fw.marks f k ++ (Fw.begun f k).take j)) ∧ w4.grownBy wr (some (w0.heap.size + 1))) (fun i _ => n4 - (intOf i).toNat)
          case atStart => exact ⟨0, rfl, Nat.zero_le _, by rw [List.take_zero, List.append_nil]; exact HBn.out, World.grownBy.refl _ _⟩
          case round =>
            obtain ⟨j, rfl, hj, hbj, hgj⟩ := hrel
            have HBj := Lib.hid hbj
            have HGj := Lib.hid hgj
            clear hbj hgj
            by_cases hjl : j < n4
            · obtain ⟨b2, off2, x, rfl, hlt2, x0, hx, hxl⟩ := ints_cell HIn.out hjl
              have hb2 := (HQn.out.lt b2 rfl).1
              have x0' := HGj.out.cell (a := ⟨b2, off2 + j, none⟩) x0 (fun e => by injection e with e; have := HGl.out; simp only at e; omega)
              have hxb := HBb.out x (by rw [← hx]; simp only [List.getD, List.getElem?_eq_getElem hxl, Option.getD_some]; exact List.getElem_mem hxl)
              rw [HN.out.1] at hxb
              obtain ⟨i, rfl⟩ : ∃ i : Nat, x = (i : Int) := ⟨x.toNat, by omega⟩
              have hi1 : i < cn + 2000 := by omega
              have hi2 : (i : Int) < ((cn + 2000 : Nat) : Int) := by omega
              have hi3 : (i : Int) < (cn : Int) + 2000 := by omega
              have HJ := Lib.hid hjl
              have hjb : j ≤ 10000 := by have := HLn.out; omega
              have hji : (j : Int) < (n4 : Int) := by omega
              have HO : Hid ((Fw.mk (cn + 2000) (Fw.marks f k ++ (Fw.begun f k).take j)).set i true = Fw.mk (cn + 2000) (Fw.marks f k ++ (Fw.begun f k).take (j + 1))) := Lib.hid (by rw [take_snoc _ j hxl, hx, ← List.append_assoc]; exact Fw.mk_set _)
              have z1 := HBj.out.cell (k := i) (by rw [Fw.mk_len]; exact hi1)
              have z2 := HBj.out.frozen i
              clear hx hxl hlt2 hb2 x0 hxb hj hjl
              go_wp2
              go_roundw
              case rel => exact ⟨j + 1, by go_num, HJ.out, by rw [← HO.out]; exact HBj.out.set i true, HGj.out.trans (grown_setCell _ _ i _)⟩
              case measure => have := HJ.out; simp [intOf]; omega
            · obtain rfl : j = n4 := by omega
              have HBm : Hid (Bq wr (w0.heap.size + 1) (Fw.mk (cn + 2000) (Fw.marks f (k + 1)))) := Lib.hid (by
                have h := HBj.out
                rw [List.take_of_length_le (by rw [HIn.out.1]; exact Nat.le_refl _)] at h
                exact h)
              clear hj hjl
              go_wp2
              go_roundw
              case rel => exact ⟨k + 1, by go_num, HK.out, HBm.out, HGn.out.trans HGj.out⟩
              case measure => have := HK.out; simp [intOf]; omega
    · obtain rfl : k = cn := by omega
      have HE : Hid (Fw.starts f = Fw.picks (Fw.mk (k + 2000) (Fw.marks f k)) k) := Lib.hid (by unfold Fw.starts; rw [HN.out.1]; exact (Fw.picks_mk (Nat.le_add_right _ _) _ k (Nat.le_refl _)).symm)
      have HBl : Hid ((Fw.mk (k + 2000) (Fw.marks f k)).length = k + 2000 ∧ k ≤ 1000) := Lib.hid ⟨Fw.mk_len _ _, HN.out.2.1⟩
      have HBz := Lib.hid (HBW.out _ HGo.out)
      have HQo : Hid (w0.heap.size < wo.heap.size) := Lib.hid (by have := HSz.out _ HGo.out; omega)
      generalize Fw.mk (k + 2000) (Fw.marks f k) = bl at *
      have HC6o := Lib.hid c6
      clear hk hkl HPcell HFn HCell HSz HCt HOp
      go_wp2
      clear c6
      go_loopw [8, 9] (fun sv i wr => ∃ j : Nat, i = .int .i64 (j : Int) ∧ j ≤ k ∧ Rq wr wo.heap.size sv (Fw.picks bl j) ∧ Below wo.heap.size wo wr) (fun _ i _ => k - (intOf i).toNat)
      case atStart => exact ⟨0, rfl, Nat.zero_le _, Rq.nil _ _, Below.refl _ _⟩
      case round =>
        obtain ⟨j, rfl, hj, hsv, hbz⟩ := hrel
        have HSv := Lib.hid hsv
        have HZ := Lib.hid hbz
        have c6 := (hbz.cell (p := ⟨w0.heap.size, 6, none⟩) HQo.out).trans HC6o.out
        clear hsv hbz
        by_cases hjl : j < k
        · have z1 := (HQb.out.below HZ.out).cell (k := j) (by rw [HBl.out.1]; omega)
          have HJ := Lib.hid hjl
          have hjb : j ≤ 1000 := by have := HBl.out; omega
          have hji : (j : Int) < (k : Int) := by omega
          have hj2 : j < k + 2000 := by omega
          have hj3 : (j : Int) < ((k + 2000 : Nat) : Int) := by omega
          have hj4 : (j : Int) < (k : Int) + 2000 := by omega
          have HPl : Hid ((Fw.picks bl j).length ≤ 1000) := Lib.hid (by have := Fw.picks_len bl j; omega)
          clear hj
          cases hbj : bl.getD j false with
          | false =>
            rw [hbj] at z1
            have HS : Hid (Fw.picks bl (j + 1) = Fw.picks bl j) := Lib.hid (by rw [Fw.picks, hbj]; simp)
            clear hbj
            go_wp2
            go_roundw
            case rel => exact ⟨j + 1, by go_num, HJ.out, by rw [HS.out]; exact HSv.out, HZ.out⟩
            case measure => have := HJ.out; simp [intOf]; omega
          | true =>
            rw [hbj] at z1
            have HS : Hid (Fw.picks bl (j + 1) = Fw.picks bl j ++ [(j : Int)]) := Lib.hid (by rw [Fw.picks, hbj]; simp)
            clear hbj
            go_wp2_with (at_builtin; refine wpList_append_q rfl rfl (.tmp 90) (.tmp 92) rfl (base := wo.heap.size) rfl (HSv.out.alloc _) rfl (ints_lit rfl _) (by have := HZ.out.size; simp; omega) (by have := HPl.out; omega) ?_; intro v7 w7 hq7 hg7 _; have HQ7 := Lib.hid hq7; have HB7 := Lib.hid (below_append (HZ.out.alloc HZ.out.size _) (HSv.out.alloc _) hg7); clear hq7 hg7)
            go_roundw
            case rel => exact ⟨j + 1, by go_num, HJ.out, by rw [HS.out]; exact HQ7.out, HB7.out⟩
            case measure => have := HJ.out; simp [intOf]; omega
        · obtain rfl : j = k := by omega
          clear hj hjl
          go_wp2
          go_ret
          rw [HE.out]
          exact RowP.on ⟨_, rfl, HSv.out, HZ.out⟩ HBz.out
end Go.Proofs.Ytngkjmghhoemgaa
