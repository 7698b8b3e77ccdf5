/-
  The walk of FlowReach. Conditions: the function can be read; words of 64 bits.
-/
import Derived.Test.YtngkjmghhoemgaaFwLives
import Derived.Test.YtngkjmghhoemgaaFwStarts
import Derived.Test.YtngkjmghhoemgaaFwRR
import Derived.Test.YtngkjmghhoemgaaFwRS
import Derived.Test.YtngkjmghhoemgaaFwRW
import Derived.Test.YtngkjmghhoemgaaRuInts
namespace Go.Proofs.Ytngkjmghhoemgaa
open Go.RowKit

def RgG3 (v : FnV) (x : GwX) : Nat → Value → Prop
  | 0, vv => vv = .agg #[.string v.name, .bool v.inner, .slice v.outer.a v.outer.n v.outer.c, .slice v.params.a v.params.n v.params.c, .slice v.results.a v.results.n v.results.c, .slice v.locals.a v.locals.n v.locals.c, .slice v.code.a v.code.n v.code.c, .slice v.lines.a v.lines.n v.lines.c, .slice v.nodes.a v.nodes.n v.nodes.c, .slice v.at_.a v.at_.n v.at_.c, .slice v.live.a v.live.n v.live.c]
  | 1, vv => vv = x.a
  | 2, vv => vv = .agg #[.string v.name, .bool v.inner, .slice v.outer.a v.outer.n v.outer.c, .slice v.params.a v.params.n v.params.c, .slice v.results.a v.results.n v.results.c, .slice v.locals.a v.locals.n v.locals.c, .slice v.code.a v.code.n v.code.c, .slice v.lines.a v.lines.n v.lines.c, .slice v.nodes.a v.nodes.n v.nodes.c, .slice v.at_.a v.at_.n v.at_.c, .slice v.live.a v.live.n v.live.c]
  | 3, vv => vv = x.b
  | 4, vv => vv = x.a
  | 5, vv => vv = x.b
  | _, _ => True

theorem rg_a {v : FnV} {x : GwX} {z : Value} {D : Nat → Bool} (h1 : D 1 = false) (h4 : D 4 = false) : ∀ (i : Nat) (u : Value), D i = true → RgG3 v x i u → RgG3 v {x with a := z} i u := by
  intro i u hj h
  have e1 : i ≠ 1 := fun e => by rw [e, h1] at hj; cases hj
  have e4 : i ≠ 4 := fun e => by rw [e, h4] at hj; cases hj
  unfold RgG3 at h ⊢
  split at h <;> first | exact h | exact absurd rfl e1 | exact absurd rfl e4
theorem rg_b {v : FnV} {x : GwX} {z : Value} {D : Nat → Bool} (h3 : D 3 = false) (h5 : D 5 = false) : ∀ (i : Nat) (u : Value), D i = true → RgG3 v x i u → RgG3 v {x with b := z} i u := by
  intro i u hj h
  have e3 : i ≠ 3 := fun e => by rw [e, h3] at hj; cases hj
  have e5 : i ≠ 5 := fun e => by rw [e, h5] at hj; cases hj
  unfold RgG3 at h ⊢
  split at h <;> first | exact h | exact absurd rfl e3 | exact absurd rfl e5

def SgG (v : FnV) (bw : Bool) (x : GwX) : Nat → Value → Prop
  | 0, vv => vv = .agg #[.string v.name, .bool v.inner, .slice v.outer.a v.outer.n v.outer.c, .slice v.params.a v.params.n v.params.c, .slice v.results.a v.results.n v.results.c, .slice v.locals.a v.locals.n v.locals.c, .slice v.code.a v.code.n v.code.c, .slice v.lines.a v.lines.n v.lines.c, .slice v.nodes.a v.nodes.n v.nodes.c, .slice v.at_.a v.at_.n v.at_.c, .slice v.live.a v.live.n v.live.c]
  | 1, vv => vv = x.a
  | 2, vv => vv = .agg #[.string v.name, .bool v.inner, .slice v.outer.a v.outer.n v.outer.c, .slice v.params.a v.params.n v.params.c, .slice v.results.a v.results.n v.results.c, .slice v.locals.a v.locals.n v.locals.c, .slice v.code.a v.code.n v.code.c, .slice v.lines.a v.lines.n v.lines.c, .slice v.nodes.a v.nodes.n v.nodes.c, .slice v.at_.a v.at_.n v.at_.c, .slice v.live.a v.live.n v.live.c]
  | 3, vv => vv = x.b
  | 4, vv => vv = .bool true
  | 5, vv => vv = .bool true
  | 6, vv => vv = .agg #[.string v.name, .bool v.inner, .slice v.outer.a v.outer.n v.outer.c, .slice v.params.a v.params.n v.params.c, .slice v.results.a v.results.n v.results.c, .slice v.locals.a v.locals.n v.locals.c, .slice v.code.a v.code.n v.code.c, .slice v.lines.a v.lines.n v.lines.c, .slice v.nodes.a v.nodes.n v.nodes.c, .slice v.at_.a v.at_.n v.at_.c, .slice v.live.a v.live.n v.live.c]
  | 7, vv => vv = .bool bw
  | 8, vv => vv = .agg #[.string v.name, .bool v.inner, .slice v.outer.a v.outer.n v.outer.c, .slice v.params.a v.params.n v.params.c, .slice v.results.a v.results.n v.results.c, .slice v.locals.a v.locals.n v.locals.c, .slice v.code.a v.code.n v.code.c, .slice v.lines.a v.lines.n v.lines.c, .slice v.nodes.a v.nodes.n v.nodes.c, .slice v.at_.a v.at_.n v.at_.c, .slice v.live.a v.live.n v.live.c]
  | 9, vv => vv = .bool bw
  | 10, vv => vv = .bool true
  | 11, vv => vv = .bool true
  | 12, vv => vv = .bool true
  | 13, vv => vv = .bool true
  | 14, vv => vv = .bool true
  | 15, vv => vv = .bool true
  | _, _ => True

theorem sg_a {v : FnV} {bw : Bool} {x : GwX} {z : Value} {D : Nat → Bool} (h1 : D 1 = false) : ∀ (i : Nat) (u : Value), D i = true → SgG v bw x i u → SgG v bw {x with a := z} i u := by
  intro i u hj h
  have e1 : i ≠ 1 := fun e => by rw [e, h1] at hj; cases hj
  unfold SgG at h ⊢
  split at h <;> first | exact h | exact absurd rfl e1
theorem sg_b {v : FnV} {bw : Bool} {x : GwX} {z : Value} {D : Nat → Bool} (h3 : D 3 = false) : ∀ (i : Nat) (u : Value), D i = true → SgG v bw x i u → SgG v bw {x with b := z} i u := by
  intro i u hj h
  have e3 : i ≠ 3 := fun e => by rw [e, h3] at hj; cases hj
  unfold SgG at h ⊢
  split at h <;> first | exact h | exact absurd rfl e3

set_option maxRecDepth 100000 in
set_option maxHeartbeats 16000000 in
theorem flowReach_walk (v : FnV) (f : Fn.F) (w0 : World) (h : FnOk w0 w0.heap.size v f) (hl : v.Len) (hw : f.Wf) : Calls Try.prog 3 #[.agg v.cells] w0 (BoolP true w0) := by
  have hb := (Below.refl w0.heap.size w0).alloc (Nat.le_refl _) (.cells v.cells 28)
  have HB := Lib.hid hb
  have HA0 := Lib.hid (FnAt.new w0 v)
  have hA := FnAt.new w0 v
  have c0 := hA.c0; have c1 := hA.c1; have c2 := hA.c2; have c3 := hA.c3; have c4 := hA.c4; have c5 := hA.c5; have c6 := hA.c6; have c7 := hA.c7; have c8 := hA.c8; have c9 := hA.c9; have c10 := hA.c10
  have HO := Lib.hid h
  have HW := Lib.hid hw
  have HM := Lib.hid (may19_any v f (w0.alloc (.cells v.cells 28)) (h.on hb) hl hw)
  unfold FwMayP at HM
  clear h hw hl hA hb
  go_enter Try.func3, Try.ntmps3
  go_wp2_with (go_at_call 4; refine HM.out.mono ?_; rintro _ w2 ⟨bm, rfl, hm, hb2⟩; have HMm := Lib.hid hm; have HB2 := Lib.hid hb2; clear hm hb2 HM c0 c1 c2 c3 c4 c5 c6 c7 c8 c9 c10; refine Hid.out ?_)
  cases bm with
  | false =>
    refine Lib.hid ?_
    go_wp2_with (go_at_call 5; refine (lives19_any _).mono ?_; rintro _ w3 ⟨rfl, hb3⟩; have HB3 := Lib.hid hb3; clear hb3)
    go_ret
    exact ⟨rfl, HB.out.trans ((below_self HB2.out HB3.out).mono (by simp))⟩
  | true =>
    obtain ⟨hfew, hcan⟩ := HMm.out rfl
    obtain ⟨_, _, hfits, _⟩ := Fn.can_ok.1 hcan
    have hn1 : 1 ≤ v.code.n := by
      have := HO.out.n_code
      unfold Fn.F.fits at hfits
      simp only [Bool.and_eq_true, decide_eq_true_eq] at hfits
      omega
    have hn2 : v.code.n ≤ 150 := hfew.1
    have hn3 : v.nodes.n ≤ 20 := hfew.2.2.1
    have HA := Lib.hid (HA0.out.on HB2.out)
    have HBz := Lib.hid (HB.out.trans (HB2.out.mono (by simp)))
    obtain ⟨Rr, hRr, hRl⟩ := Fw.runs_ends f _ (List.replicate v.code.n false) [0] (by rw [List.length_replicate]; exact HO.out.n_code.symm) (Nat.le_refl _)
    have HRe := Lib.hid (fun (W : World) (hx : Below w2.heap.size w2 W) => (fwreach_any v f W Rr (HO.out.on (HBz.out.trans (hx.mono HBz.out.size))) HW.out hcan (by omega) (by omega) hRr).mono (fun e w' h => h.v (base := w0.heap.size) (Nat.le_trans HBz.out.size hx.size)))
    have HRr := Lib.hid (fun (W : World) (hx : Below w2.heap.size w2 W) => (rfwreach_any v f W Rr (HO.out.on (HBz.out.trans (hx.mono HBz.out.size))) hfew hcan (by omega) (by omega) hRr).mono (fun e w' h => h.v (base := w0.heap.size) (Nat.le_trans HBz.out.size hx.size)))
    have HSt0 := Lib.hid (fun (W : World) (hx : Below w2.heap.size w2 W) => (fwstarts_any v f W (HO.out.on (HBz.out.trans (hx.mono HBz.out.size))) HW.out hcan (by omega) (by omega)).mono (fun e w' h => h.v (base := w0.heap.size) (Nat.le_trans HBz.out.size hx.size)))
    have HSr0 := Lib.hid (fun (W : World) (hx : Below w2.heap.size w2 W) => (rfwstarts_any v f W (HO.out.on (HBz.out.trans (hx.mono HBz.out.size))) hfew hcan hn1 (by omega) (by omega)).mono (fun e w' h => h.v (base := w0.heap.size) (Nat.le_trans HBz.out.size hx.size)))
    have HWi0 := Lib.hid (fun (W : World) (hx : Below w2.heap.size w2 W) => fwwithin_any v f W (HO.out.on (HBz.out.trans (hx.mono HBz.out.size))) HW.out hcan (by omega) (by omega))
    have HWr0 := Lib.hid (fun (W : World) (hx : Below w2.heap.size w2 W) => rfwwithin_any v f W (HO.out.on (HBz.out.trans (hx.mono HBz.out.size))) hfew hcan (by omega) (by omega))
    have HSl : Hid ((Fw.starts f).length ≤ 9223372036854775807) := Lib.hid (by have := Fw.picks_len (Fw.mk f.code.length (Fw.marks f f.code.length)) f.code.length; have := HO.out.n_code; unfold Fw.starts; omega)
    have HRl : Hid (Rr.length ≤ 150) := Lib.hid (by have := HO.out.n_code; omega)
    clear hRr hRl hn1 hn2 hn3 hfew hcan hfits HMm HW HO HA0
    generalize Fw.starts f = S at *
    generalize Fw.within f = bw at *
    have hC : GwC w2 (BoolsV w0.heap.size Rr) (BoolsV w0.heap.size Rr) ⟨undef, undef⟩ (fun _ => false) w2.drew := ⟨(Below.refl _ _).drew, fun e => (by cases e), fun e => (by cases e), boolsV_kept, boolsV_kept⟩
    refine Lib.hid ?_
    go_wp2
    refine region_k ⟨undef, undef⟩ 49 (fun x D W => GwC w2 (BoolsV w0.heap.size Rr) (BoolsV w0.heap.size Rr) x D W) (fun x => RgG3 v x) (by kernel_rfl) (by kernel_rfl) (by kernel_rfl) rfl rfl hC ?_ ?_
    · refine ⟨?_, ?_, ?_, ?_, ?_, ?_, trivial⟩
      · intro x D a w hI hdep hD0 K hK
        have e1 : a.eval (.tmp 1) = .pointer (some ⟨w0.heap.size, 0, none⟩) := hI.read 1 rfl
        have hA := HA.out.on hI.world.below
        have k0 := hA.c0
        have k1 := hA.c1
        have k2 := hA.c2
        have k3 := hA.c3
        have k4 := hA.c4
        have k5 := hA.c5
        have k6 := hA.c6
        have k7 := hA.c7
        have k8 := hA.c8
        have k9 := hA.c9
        have k10 := hA.c10
        clear hA
        refine ok_value (wanted_none rfl) (v := .agg #[.string v.name, .bool v.inner, .slice v.outer.a v.outer.n v.outer.c, .slice v.params.a v.params.n v.params.c, .slice v.results.a v.results.n v.results.c, .slice v.locals.a v.locals.n v.locals.c, .slice v.code.a v.code.n v.code.c, .slice v.lines.a v.lines.n v.lines.c, .slice v.nodes.a v.nodes.n v.nodes.c, .slice v.at_.a v.at_.n v.at_.c, .slice v.live.a v.live.n v.live.c]) ?_ (hK x _ _ (hI.world.up rfl rfl) (fun _ _ _ h => h) rfl)
        have ec : ∀ c, a.eval (.const c) = c := fun _ => rfl
        have ef : ∀ f, a.eval (.func f) = .func (.func f) #[] #[] := fun _ => rfl
        clear hI hdep hK
        generalize a.eval = ρ at e1 ec ef ⊢
        go_simp
      · intro x D a w hI hdep hD0 K hK
        have e10 : a.eval (.tmp 10) = .agg #[.string v.name, .bool v.inner, .slice v.outer.a v.outer.n v.outer.c, .slice v.params.a v.params.n v.params.c, .slice v.results.a v.results.n v.results.c, .slice v.locals.a v.locals.n v.locals.c, .slice v.code.a v.code.n v.code.c, .slice v.lines.a v.lines.n v.lines.c, .slice v.nodes.a v.nodes.n v.nodes.c, .slice v.at_.a v.at_.n v.at_.c, .slice v.live.a v.live.n v.live.c] := hI.good 0 10 (dep_of hdep 0 rfl) rfl
        refine ok_call (wanted_none rfl) (f := 6) (args := #[.agg #[.string v.name, .bool v.inner, .slice v.outer.a v.outer.n v.outer.c, .slice v.params.a v.params.n v.params.c, .slice v.results.a v.results.n v.results.c, .slice v.locals.a v.locals.n v.locals.c, .slice v.code.a v.code.n v.code.c, .slice v.lines.a v.lines.n v.lines.c, .slice v.nodes.a v.nodes.n v.nodes.c, .slice v.at_.a v.at_.n v.at_.c, .slice v.live.a v.live.n v.live.c]]) ?_ (show Calls _ _ #[.agg #[.string v.name, .bool v.inner, .slice v.outer.a v.outer.n v.outer.c, .slice v.params.a v.params.n v.params.c, .slice v.results.a v.results.n v.results.c, .slice v.locals.a v.locals.n v.locals.c, .slice v.code.a v.code.n v.code.c, .slice v.lines.a v.lines.n v.lines.c, .slice v.nodes.a v.nodes.n v.nodes.c, .slice v.at_.a v.at_.n v.at_.c, .slice v.live.a v.live.n v.live.c]] _ _ from HRe.out w hI.world.below) ?_
        · have ec : ∀ c, a.eval (.const c) = c := fun _ => rfl
          have ef : ∀ f, a.eval (.func f) = .func (.func f) #[] #[] := fun _ => rfl
          clear hI hdep hK
          generalize a.eval = ρ at e10 ec ef ⊢
          go_simp
        · rintro e w2 ⟨u, rfl, hu, hb2⟩
          exact ⟨_, rfl, hK {x with a := u} _ _ (hI.world.new_a hu hb2) (rg_a hD0 (hI.not_up hD0 4 rfl)) rfl⟩
      · intro x D a w hI hdep hD0 K hK
        have e1 : a.eval (.tmp 1) = .pointer (some ⟨w0.heap.size, 0, none⟩) := hI.read 1 rfl
        have hA := HA.out.on hI.world.below
        have k0 := hA.c0
        have k1 := hA.c1
        have k2 := hA.c2
        have k3 := hA.c3
        have k4 := hA.c4
        have k5 := hA.c5
        have k6 := hA.c6
        have k7 := hA.c7
        have k8 := hA.c8
        have k9 := hA.c9
        have k10 := hA.c10
        clear hA
        refine ok_value (wanted_none rfl) (v := .agg #[.string v.name, .bool v.inner, .slice v.outer.a v.outer.n v.outer.c, .slice v.params.a v.params.n v.params.c, .slice v.results.a v.results.n v.results.c, .slice v.locals.a v.locals.n v.locals.c, .slice v.code.a v.code.n v.code.c, .slice v.lines.a v.lines.n v.lines.c, .slice v.nodes.a v.nodes.n v.nodes.c, .slice v.at_.a v.at_.n v.at_.c, .slice v.live.a v.live.n v.live.c]) ?_ (hK x _ _ (hI.world.up rfl rfl) (fun _ _ _ h => h) rfl)
        have ec : ∀ c, a.eval (.const c) = c := fun _ => rfl
        have ef : ∀ f, a.eval (.func f) = .func (.func f) #[] #[] := fun _ => rfl
        clear hI hdep hK
        generalize a.eval = ρ at e1 ec ef ⊢
        go_simp
      · intro x D a w hI hdep hD0 K hK
        have e12 : a.eval (.tmp 12) = .agg #[.string v.name, .bool v.inner, .slice v.outer.a v.outer.n v.outer.c, .slice v.params.a v.params.n v.params.c, .slice v.results.a v.results.n v.results.c, .slice v.locals.a v.locals.n v.locals.c, .slice v.code.a v.code.n v.code.c, .slice v.lines.a v.lines.n v.lines.c, .slice v.nodes.a v.nodes.n v.nodes.c, .slice v.at_.a v.at_.n v.at_.c, .slice v.live.a v.live.n v.live.c] := hI.good 2 12 (dep_of hdep 2 rfl) rfl
        refine ok_call (wanted_none rfl) (f := 7) (args := #[.agg #[.string v.name, .bool v.inner, .slice v.outer.a v.outer.n v.outer.c, .slice v.params.a v.params.n v.params.c, .slice v.results.a v.results.n v.results.c, .slice v.locals.a v.locals.n v.locals.c, .slice v.code.a v.code.n v.code.c, .slice v.lines.a v.lines.n v.lines.c, .slice v.nodes.a v.nodes.n v.nodes.c, .slice v.at_.a v.at_.n v.at_.c, .slice v.live.a v.live.n v.live.c]]) ?_ (show Calls _ _ #[.agg #[.string v.name, .bool v.inner, .slice v.outer.a v.outer.n v.outer.c, .slice v.params.a v.params.n v.params.c, .slice v.results.a v.results.n v.results.c, .slice v.locals.a v.locals.n v.locals.c, .slice v.code.a v.code.n v.code.c, .slice v.lines.a v.lines.n v.lines.c, .slice v.nodes.a v.nodes.n v.nodes.c, .slice v.at_.a v.at_.n v.at_.c, .slice v.live.a v.live.n v.live.c]] _ _ from HRr.out w hI.world.below) ?_
        · have ec : ∀ c, a.eval (.const c) = c := fun _ => rfl
          have ef : ∀ f, a.eval (.func f) = .func (.func f) #[] #[] := fun _ => rfl
          clear hI hdep hK
          generalize a.eval = ρ at e12 ec ef ⊢
          go_simp
        · rintro e w2 ⟨u, rfl, hu, hb2⟩
          exact ⟨_, rfl, hK {x with b := u} _ _ (hI.world.new_b hu hb2) (rg_b hD0 (hI.not_up hD0 5 rfl)) rfl⟩
      · intro x D a w hI hdep hD0 K hK
        have e11 : a.eval (.tmp 11) = x.a := hI.good 1 11 (dep_of hdep 1 rfl) rfl
        refine ok_value (wanted_none rfl) (v := x.a) ?_ (hK x _ _ (hI.world.up rfl rfl) (fun _ _ _ h => h) rfl)
        have ec : ∀ c, a.eval (.const c) = c := fun _ => rfl
        have ef : ∀ f, a.eval (.func f) = .func (.func f) #[] #[] := fun _ => rfl
        clear hI hdep hK
        generalize a.eval = ρ at e11 ec ef ⊢
        go_simp
      · intro x D a w hI hdep hD0 K hK
        have e13 : a.eval (.tmp 13) = x.b := hI.good 3 13 (dep_of hdep 3 rfl) rfl
        refine ok_value (wanted_none rfl) (v := x.b) ?_ (hK x _ _ (hI.world.up rfl rfl) (fun _ _ _ h => h) rfl)
        have ec : ∀ c, a.eval (.const c) = c := fun _ => rfl
        have ef : ∀ f, a.eval (.func f) = .func (.func f) #[] #[] := fun _ => rfl
        clear hI hdep hK
        generalize a.eval = ρ at e13 ec ef ⊢
        go_simp
    · intro x D a w5 hI hD
      have hfr := hI.frame [(10, .agg #[.string v.name, .bool v.inner, .slice v.outer.a v.outer.n v.outer.c, .slice v.params.a v.params.n v.params.c, .slice v.results.a v.results.n v.results.c, .slice v.locals.a v.locals.n v.locals.c, .slice v.code.a v.code.n v.code.c, .slice v.lines.a v.lines.n v.lines.c, .slice v.nodes.a v.nodes.n v.nodes.c, .slice v.at_.a v.at_.n v.at_.c, .slice v.live.a v.live.n v.live.c]), (11, x.a), (12, .agg #[.string v.name, .bool v.inner, .slice v.outer.a v.outer.n v.outer.c, .slice v.params.a v.params.n v.params.c, .slice v.results.a v.results.n v.results.c, .slice v.locals.a v.locals.n v.locals.c, .slice v.code.a v.code.n v.code.c, .slice v.lines.a v.lines.n v.lines.c, .slice v.nodes.a v.nodes.n v.nodes.c, .slice v.at_.a v.at_.n v.at_.c, .slice v.live.a v.live.n v.live.c]), (13, x.b), (3, x.a), (4, x.b)] (all_cons (hI.good 0 10 (hD 0 (by decide)) rfl) (all_cons (hI.good 1 11 (hD 1 (by decide)) rfl) (all_cons (hI.good 2 12 (hD 2 (by decide)) rfl) (all_cons (hI.good 3 13 (hD 3 (by decide)) rfl) (all_cons (hI.good 4 3 (hD 4 (by decide)) rfl) (all_cons (hI.good 5 4 (hD 5 (by decide)) rfl) all_nil)))))) rfl
      have hW := hI.world
      clear hI
      subst hfr
      simp only [List.foldl_cons, List.foldl_nil, List.setIfInBounds_toArray, List.set_cons_succ, List.set_cons_zero]
      have ha := hW.ra (hD 1 (by decide))
      have hb := hW.rb (hD 3 (by decide))
      have HB5 := Lib.hid hW.below
      obtain ⟨xa, xb⟩ := x
      simp only at ha hb
      obtain ⟨g, rfl, _, hq⟩ := ha
      obtain ⟨g', rfl, _, hq'⟩ := hb
      obtain ⟨nR, hnR⟩ : ∃ n, n = Rr.length := ⟨_, rfl⟩
      rw [← hnR]
      have HQ := Lib.hid hq
      have HQ' := Lib.hid hq'
      have HNR := Lib.hid hnR
      clear hW hD hq hq' hC hnR HRe HRr
      go_wp2
      go_loopw [5] (fun i wr => ∃ j : Nat, i = .int .i64 (j : Int) ∧ j ≤ nR ∧ Below w5.heap.size w5 wr) (fun i _ => nR - (intOf i).toNat)
      case atStart => exact ⟨0, rfl, Nat.zero_le _, Below.refl _ _⟩
      case round =>
        rename World => wo
        obtain ⟨j, rfl, hj, hbo⟩ := hrel
        have HBo := Lib.hid hbo
        clear hbo
        by_cases hjl : j < nR
        · have z1 := (HQ.out.below HBo.out).cell (k := j) (by have := HNR.out; omega)
          have z2 := (HQ'.out.below HBo.out).cell (k := j) (by have := HNR.out; omega)
          have HJ := Lib.hid hjl
          have hjb : j ≤ 150 := by have := HRl.out; have := HNR.out; omega
          have hji : (j : Int) < (nR : Int) := by omega
          generalize Rr.getD j false = rb at z1 z2
          clear hj
          go_wp2
          go_quiet (fail)
          go_wp2
          go_roundw
          case rel => exact ⟨j + 1, by go_num, HJ.out, below_drewN HBo.out _⟩
          case measure => have := HJ.out; simp [intOf]; omega
        · obtain rfl : j = nR := by omega
          have HBw := Lib.hid (HB5.out.trans (HBo.out.mono HB5.out.size))
          have HAo := Lib.hid (HA.out.on HBw.out)
          have HSt := Lib.hid (fun (W : World) (hx : Below wo.heap.size wo W) => HSt0.out W (HBw.out.trans (hx.mono HBw.out.size)))
          have HSr := Lib.hid (fun (W : World) (hx : Below wo.heap.size wo W) => HSr0.out W (HBw.out.trans (hx.mono HBw.out.size)))
          have HWi := Lib.hid (fun (W : World) (hx : Below wo.heap.size wo W) => HWi0.out W (HBw.out.trans (hx.mono HBw.out.size)))
          have HWr := Lib.hid (fun (W : World) (hx : Below wo.heap.size wo W) => HWr0.out W (HBw.out.trans (hx.mono HBw.out.size)))
          have hC : GwC wo (fun W v => Rq W w0.heap.size v S) (fun W v => Rq W w0.heap.size v S) ⟨undef, undef⟩ (fun _ => false) wo.drew := ⟨(Below.refl _ _).drew, fun e => (by cases e), fun e => (by cases e), rowV_kept, rowV_kept⟩
          clear hj hjl HSt0 HSr0 HWi0 HWr0
          go_wp2
          refine region_k ⟨undef, undef⟩ 49 (fun x D W => GwC wo (fun W v => Rq W w0.heap.size v S) (fun W v => Rq W w0.heap.size v S) x D W) (fun x => SgG v bw x) (by kernel_rfl) (by kernel_rfl) (by kernel_rfl) rfl rfl hC ?_ ?_
          · refine ⟨?_, ?_, ?_, ?_, ?_, ?_, ?_, ?_, ?_, ?_, ?_, ?_, ?_, ?_, ?_, ?_, trivial⟩
            · intro x D a w hI hdep hD0 K hK
              have e1 : a.eval (.tmp 1) = .pointer (some ⟨w0.heap.size, 0, none⟩) := hI.read 1 rfl
              have hA := HAo.out.on hI.world.below
              have k0 := hA.c0
              have k1 := hA.c1
              have k2 := hA.c2
              have k3 := hA.c3
              have k4 := hA.c4
              have k5 := hA.c5
              have k6 := hA.c6
              have k7 := hA.c7
              have k8 := hA.c8
              have k9 := hA.c9
              have k10 := hA.c10
              clear hA
              refine ok_value (wanted_none rfl) (v := .agg #[.string v.name, .bool v.inner, .slice v.outer.a v.outer.n v.outer.c, .slice v.params.a v.params.n v.params.c, .slice v.results.a v.results.n v.results.c, .slice v.locals.a v.locals.n v.locals.c, .slice v.code.a v.code.n v.code.c, .slice v.lines.a v.lines.n v.lines.c, .slice v.nodes.a v.nodes.n v.nodes.c, .slice v.at_.a v.at_.n v.at_.c, .slice v.live.a v.live.n v.live.c]) ?_ (hK x _ _ (hI.world.up rfl rfl) (fun _ _ _ h => h) rfl)
              have ec : ∀ c, a.eval (.const c) = c := fun _ => rfl
              have ef : ∀ f, a.eval (.func f) = .func (.func f) #[] #[] := fun _ => rfl
              clear hI hdep hK
              generalize a.eval = ρ at e1 ec ef ⊢
              go_simp
            · intro x D a w hI hdep hD0 K hK
              have e34 : a.eval (.tmp 34) = .agg #[.string v.name, .bool v.inner, .slice v.outer.a v.outer.n v.outer.c, .slice v.params.a v.params.n v.params.c, .slice v.results.a v.results.n v.results.c, .slice v.locals.a v.locals.n v.locals.c, .slice v.code.a v.code.n v.code.c, .slice v.lines.a v.lines.n v.lines.c, .slice v.nodes.a v.nodes.n v.nodes.c, .slice v.at_.a v.at_.n v.at_.c, .slice v.live.a v.live.n v.live.c] := hI.good 0 34 (dep_of hdep 0 rfl) rfl
              refine ok_call (wanted_none rfl) (f := 9) (args := #[.agg #[.string v.name, .bool v.inner, .slice v.outer.a v.outer.n v.outer.c, .slice v.params.a v.params.n v.params.c, .slice v.results.a v.results.n v.results.c, .slice v.locals.a v.locals.n v.locals.c, .slice v.code.a v.code.n v.code.c, .slice v.lines.a v.lines.n v.lines.c, .slice v.nodes.a v.nodes.n v.nodes.c, .slice v.at_.a v.at_.n v.at_.c, .slice v.live.a v.live.n v.live.c]]) ?_ (show Calls _ _ #[.agg #[.string v.name, .bool v.inner, .slice v.outer.a v.outer.n v.outer.c, .slice v.params.a v.params.n v.params.c, .slice v.results.a v.results.n v.results.c, .slice v.locals.a v.locals.n v.locals.c, .slice v.code.a v.code.n v.code.c, .slice v.lines.a v.lines.n v.lines.c, .slice v.nodes.a v.nodes.n v.nodes.c, .slice v.at_.a v.at_.n v.at_.c, .slice v.live.a v.live.n v.live.c]] _ _ from HSt.out w hI.world.below) ?_
              · have ec : ∀ c, a.eval (.const c) = c := fun _ => rfl
                have ef : ∀ f, a.eval (.func f) = .func (.func f) #[] #[] := fun _ => rfl
                clear hI hdep hK
                generalize a.eval = ρ at e34 ec ef ⊢
                go_simp
              · rintro e w2 ⟨u, rfl, hu, hb2⟩
                exact ⟨_, rfl, hK {x with a := u} _ _ (hI.world.new_a hu hb2) (sg_a hD0) rfl⟩
            · intro x D a w hI hdep hD0 K hK
              have e1 : a.eval (.tmp 1) = .pointer (some ⟨w0.heap.size, 0, none⟩) := hI.read 1 rfl
              have hA := HAo.out.on hI.world.below
              have k0 := hA.c0
              have k1 := hA.c1
              have k2 := hA.c2
              have k3 := hA.c3
              have k4 := hA.c4
              have k5 := hA.c5
              have k6 := hA.c6
              have k7 := hA.c7
              have k8 := hA.c8
              have k9 := hA.c9
              have k10 := hA.c10
              clear hA
              refine ok_value (wanted_none rfl) (v := .agg #[.string v.name, .bool v.inner, .slice v.outer.a v.outer.n v.outer.c, .slice v.params.a v.params.n v.params.c, .slice v.results.a v.results.n v.results.c, .slice v.locals.a v.locals.n v.locals.c, .slice v.code.a v.code.n v.code.c, .slice v.lines.a v.lines.n v.lines.c, .slice v.nodes.a v.nodes.n v.nodes.c, .slice v.at_.a v.at_.n v.at_.c, .slice v.live.a v.live.n v.live.c]) ?_ (hK x _ _ (hI.world.up rfl rfl) (fun _ _ _ h => h) rfl)
              have ec : ∀ c, a.eval (.const c) = c := fun _ => rfl
              have ef : ∀ f, a.eval (.func f) = .func (.func f) #[] #[] := fun _ => rfl
              clear hI hdep hK
              generalize a.eval = ρ at e1 ec ef ⊢
              go_simp
            · intro x D a w hI hdep hD0 K hK
              have e36 : a.eval (.tmp 36) = .agg #[.string v.name, .bool v.inner, .slice v.outer.a v.outer.n v.outer.c, .slice v.params.a v.params.n v.params.c, .slice v.results.a v.results.n v.results.c, .slice v.locals.a v.locals.n v.locals.c, .slice v.code.a v.code.n v.code.c, .slice v.lines.a v.lines.n v.lines.c, .slice v.nodes.a v.nodes.n v.nodes.c, .slice v.at_.a v.at_.n v.at_.c, .slice v.live.a v.live.n v.live.c] := hI.good 2 36 (dep_of hdep 2 rfl) rfl
              refine ok_call (wanted_none rfl) (f := 10) (args := #[.agg #[.string v.name, .bool v.inner, .slice v.outer.a v.outer.n v.outer.c, .slice v.params.a v.params.n v.params.c, .slice v.results.a v.results.n v.results.c, .slice v.locals.a v.locals.n v.locals.c, .slice v.code.a v.code.n v.code.c, .slice v.lines.a v.lines.n v.lines.c, .slice v.nodes.a v.nodes.n v.nodes.c, .slice v.at_.a v.at_.n v.at_.c, .slice v.live.a v.live.n v.live.c]]) ?_ (show Calls _ _ #[.agg #[.string v.name, .bool v.inner, .slice v.outer.a v.outer.n v.outer.c, .slice v.params.a v.params.n v.params.c, .slice v.results.a v.results.n v.results.c, .slice v.locals.a v.locals.n v.locals.c, .slice v.code.a v.code.n v.code.c, .slice v.lines.a v.lines.n v.lines.c, .slice v.nodes.a v.nodes.n v.nodes.c, .slice v.at_.a v.at_.n v.at_.c, .slice v.live.a v.live.n v.live.c]] _ _ from HSr.out w hI.world.below) ?_
              · have ec : ∀ c, a.eval (.const c) = c := fun _ => rfl
                have ef : ∀ f, a.eval (.func f) = .func (.func f) #[] #[] := fun _ => rfl
                clear hI hdep hK
                generalize a.eval = ρ at e36 ec ef ⊢
                go_simp
              · rintro e w2 ⟨u, rfl, hu, hb2⟩
                exact ⟨_, rfl, hK {x with b := u} _ _ (hI.world.new_b hu hb2) (sg_b hD0) rfl⟩
            · intro x D a w hI hdep hD0 K hK
              have e35 : a.eval (.tmp 35) = x.a := hI.good 1 35 (dep_of hdep 1 rfl) rfl
              have e37 : a.eval (.tmp 37) = x.b := hI.good 3 37 (dep_of hdep 3 rfl) rfl
              obtain ⟨A1, c1, ea, ia, _⟩ := (hI.world.ra (dep_of hdep 1 rfl)).ints
              obtain ⟨A2, c2, eb, ib, _⟩ := (hI.world.rb (dep_of hdep 3 rfl)).ints
              have hin := ints_any A1 _ c1 S A2 _ c2 S w ia ib HSl.out
              rw [← ea, ← eb, decide_eq_true rfl] at hin
              refine ok_call (wanted_none rfl) (f := 8) (args := #[x.a, x.b]) ?_ hin ?_
              · have ec : ∀ c, a.eval (.const c) = c := fun _ => rfl
                have ef : ∀ f, a.eval (.func f) = .func (.func f) #[] #[] := fun _ => rfl
                clear hI hdep hK
                generalize a.eval = ρ at e35 e37 ec ef ⊢
                go_simp
              · rintro e w2 ⟨rfl, hb2⟩
                exact ⟨_, rfl, hK x _ _ ((hI.world.up rfl rfl).kept hb2) (fun _ _ _ h => h) rfl⟩
            · intro x D a w hI hdep hD0 K hK
              have e38 : a.eval (.tmp 38) = .bool true := hI.good 4 38 (dep_of hdep 4 rfl) rfl
              refine ok_value (wanted_none rfl) (v := .bool true) ?_ (hK x _ _ (hI.world.up rfl rfl) (fun _ _ _ h => h) rfl)
              have ec : ∀ c, a.eval (.const c) = c := fun _ => rfl
              have ef : ∀ f, a.eval (.func f) = .func (.func f) #[] #[] := fun _ => rfl
              clear hI hdep hK
              generalize a.eval = ρ at e38 ec ef ⊢
              go_simp
            · intro x D a w hI hdep hD0 K hK
              have eg : a.eval (.tmp 39) = .bool true := hI.good 5 39 (dep_of hdep 5 rfl) rfl
              have e1 : a.eval (.tmp 1) = .pointer (some ⟨w0.heap.size, 0, none⟩) := hI.read 1 rfl
              have hA := HAo.out.on hI.world.below
              have k0 := hA.c0
              have k1 := hA.c1
              have k2 := hA.c2
              have k3 := hA.c3
              have k4 := hA.c4
              have k5 := hA.c5
              have k6 := hA.c6
              have k7 := hA.c7
              have k8 := hA.c8
              have k9 := hA.c9
              have k10 := hA.c10
              clear hA
              refine ok_value (wanted_is rfl rfl hI.size (by simp) eg) (v := .agg #[.string v.name, .bool v.inner, .slice v.outer.a v.outer.n v.outer.c, .slice v.params.a v.params.n v.params.c, .slice v.results.a v.results.n v.results.c, .slice v.locals.a v.locals.n v.locals.c, .slice v.code.a v.code.n v.code.c, .slice v.lines.a v.lines.n v.lines.c, .slice v.nodes.a v.nodes.n v.nodes.c, .slice v.at_.a v.at_.n v.at_.c, .slice v.live.a v.live.n v.live.c]) ?_ (hK x _ _ (hI.world.up rfl rfl) (fun _ _ _ h => h) rfl)
              have ec : ∀ c, a.eval (.const c) = c := fun _ => rfl
              have ef : ∀ f, a.eval (.func f) = .func (.func f) #[] #[] := fun _ => rfl
              clear hI hdep hK
              generalize a.eval = ρ at eg e1 ec ef ⊢
              go_simp
            · intro x D a w hI hdep hD0 K hK
              have eg : a.eval (.tmp 39) = .bool true := hI.good 5 39 (dep_of hdep 5 rfl) rfl
              have e40 : a.eval (.tmp 40) = .agg #[.string v.name, .bool v.inner, .slice v.outer.a v.outer.n v.outer.c, .slice v.params.a v.params.n v.params.c, .slice v.results.a v.results.n v.results.c, .slice v.locals.a v.locals.n v.locals.c, .slice v.code.a v.code.n v.code.c, .slice v.lines.a v.lines.n v.lines.c, .slice v.nodes.a v.nodes.n v.nodes.c, .slice v.at_.a v.at_.n v.at_.c, .slice v.live.a v.live.n v.live.c] := hI.good 6 40 (dep_of hdep 6 rfl) rfl
              refine ok_call (wanted_is rfl rfl hI.size (by simp) eg) (f := 11) (args := #[.agg #[.string v.name, .bool v.inner, .slice v.outer.a v.outer.n v.outer.c, .slice v.params.a v.params.n v.params.c, .slice v.results.a v.results.n v.results.c, .slice v.locals.a v.locals.n v.locals.c, .slice v.code.a v.code.n v.code.c, .slice v.lines.a v.lines.n v.lines.c, .slice v.nodes.a v.nodes.n v.nodes.c, .slice v.at_.a v.at_.n v.at_.c, .slice v.live.a v.live.n v.live.c]]) ?_ (show Calls _ _ #[.agg #[.string v.name, .bool v.inner, .slice v.outer.a v.outer.n v.outer.c, .slice v.params.a v.params.n v.params.c, .slice v.results.a v.results.n v.results.c, .slice v.locals.a v.locals.n v.locals.c, .slice v.code.a v.code.n v.code.c, .slice v.lines.a v.lines.n v.lines.c, .slice v.nodes.a v.nodes.n v.nodes.c, .slice v.at_.a v.at_.n v.at_.c, .slice v.live.a v.live.n v.live.c]] _ _ from HWi.out w hI.world.below) ?_
              · have ec : ∀ c, a.eval (.const c) = c := fun _ => rfl
                have ef : ∀ f, a.eval (.func f) = .func (.func f) #[] #[] := fun _ => rfl
                clear hI hdep hK
                generalize a.eval = ρ at eg e40 ec ef ⊢
                go_simp
              · rintro e w2 ⟨rfl, hb2⟩
                exact ⟨_, rfl, hK x _ _ ((hI.world.up rfl rfl).kept hb2) (fun _ _ _ h => h) rfl⟩
            · intro x D a w hI hdep hD0 K hK
              have eg : a.eval (.tmp 39) = .bool true := hI.good 5 39 (dep_of hdep 5 rfl) rfl
              have e1 : a.eval (.tmp 1) = .pointer (some ⟨w0.heap.size, 0, none⟩) := hI.read 1 rfl
              have hA := HAo.out.on hI.world.below
              have k0 := hA.c0
              have k1 := hA.c1
              have k2 := hA.c2
              have k3 := hA.c3
              have k4 := hA.c4
              have k5 := hA.c5
              have k6 := hA.c6
              have k7 := hA.c7
              have k8 := hA.c8
              have k9 := hA.c9
              have k10 := hA.c10
              clear hA
              refine ok_value (wanted_is rfl rfl hI.size (by simp) eg) (v := .agg #[.string v.name, .bool v.inner, .slice v.outer.a v.outer.n v.outer.c, .slice v.params.a v.params.n v.params.c, .slice v.results.a v.results.n v.results.c, .slice v.locals.a v.locals.n v.locals.c, .slice v.code.a v.code.n v.code.c, .slice v.lines.a v.lines.n v.lines.c, .slice v.nodes.a v.nodes.n v.nodes.c, .slice v.at_.a v.at_.n v.at_.c, .slice v.live.a v.live.n v.live.c]) ?_ (hK x _ _ (hI.world.up rfl rfl) (fun _ _ _ h => h) rfl)
              have ec : ∀ c, a.eval (.const c) = c := fun _ => rfl
              have ef : ∀ f, a.eval (.func f) = .func (.func f) #[] #[] := fun _ => rfl
              clear hI hdep hK
              generalize a.eval = ρ at eg e1 ec ef ⊢
              go_simp
            · intro x D a w hI hdep hD0 K hK
              have eg : a.eval (.tmp 39) = .bool true := hI.good 5 39 (dep_of hdep 5 rfl) rfl
              have e42 : a.eval (.tmp 42) = .agg #[.string v.name, .bool v.inner, .slice v.outer.a v.outer.n v.outer.c, .slice v.params.a v.params.n v.params.c, .slice v.results.a v.results.n v.results.c, .slice v.locals.a v.locals.n v.locals.c, .slice v.code.a v.code.n v.code.c, .slice v.lines.a v.lines.n v.lines.c, .slice v.nodes.a v.nodes.n v.nodes.c, .slice v.at_.a v.at_.n v.at_.c, .slice v.live.a v.live.n v.live.c] := hI.good 8 42 (dep_of hdep 8 rfl) rfl
              refine ok_call (wanted_is rfl rfl hI.size (by simp) eg) (f := 12) (args := #[.agg #[.string v.name, .bool v.inner, .slice v.outer.a v.outer.n v.outer.c, .slice v.params.a v.params.n v.params.c, .slice v.results.a v.results.n v.results.c, .slice v.locals.a v.locals.n v.locals.c, .slice v.code.a v.code.n v.code.c, .slice v.lines.a v.lines.n v.lines.c, .slice v.nodes.a v.nodes.n v.nodes.c, .slice v.at_.a v.at_.n v.at_.c, .slice v.live.a v.live.n v.live.c]]) ?_ (show Calls _ _ #[.agg #[.string v.name, .bool v.inner, .slice v.outer.a v.outer.n v.outer.c, .slice v.params.a v.params.n v.params.c, .slice v.results.a v.results.n v.results.c, .slice v.locals.a v.locals.n v.locals.c, .slice v.code.a v.code.n v.code.c, .slice v.lines.a v.lines.n v.lines.c, .slice v.nodes.a v.nodes.n v.nodes.c, .slice v.at_.a v.at_.n v.at_.c, .slice v.live.a v.live.n v.live.c]] _ _ from HWr.out w hI.world.below) ?_
              · have ec : ∀ c, a.eval (.const c) = c := fun _ => rfl
                have ef : ∀ f, a.eval (.func f) = .func (.func f) #[] #[] := fun _ => rfl
                clear hI hdep hK
                generalize a.eval = ρ at eg e42 ec ef ⊢
                go_simp
              · rintro e w2 ⟨rfl, hb2⟩
                exact ⟨_, rfl, hK x _ _ ((hI.world.up rfl rfl).kept hb2) (fun _ _ _ h => h) rfl⟩
            · intro x D a w hI hdep hD0 K hK
              have eg : a.eval (.tmp 39) = .bool true := hI.good 5 39 (dep_of hdep 5 rfl) rfl
              have e41 : a.eval (.tmp 41) = .bool bw := hI.good 7 41 (dep_of hdep 7 rfl) rfl
              have e43 : a.eval (.tmp 43) = .bool bw := hI.good 9 43 (dep_of hdep 9 rfl) rfl
              refine ok_value (wanted_is rfl rfl hI.size (by simp) eg) (v := .bool true) ?_ (hK x _ _ (hI.world.up rfl rfl) (fun _ _ _ h => h) rfl)
              have ec : ∀ c, a.eval (.const c) = c := fun _ => rfl
              have ef : ∀ f, a.eval (.func f) = .func (.func f) #[] #[] := fun _ => rfl
              clear hI hdep hK
              generalize a.eval = ρ at eg e41 e43 ec ef ⊢
              go_simp
            · intro x D a w hI hdep hD0 K hK
              have e39 : a.eval (.tmp 39) = .bool true := hI.good 5 39 (dep_of hdep 5 rfl) rfl
              have e44 : a.eval (.tmp 44) = .bool true := hI.good 10 44 (dep_of hdep 10 rfl) rfl
              refine ok_value (wanted_none rfl) (v := .bool true) ?_ (hK x _ _ (hI.world.up rfl rfl) (fun _ _ _ h => h) rfl)
              have ec : ∀ c, a.eval (.const c) = c := fun _ => rfl
              have ef : ∀ f, a.eval (.func f) = .func (.func f) #[] #[] := fun _ => rfl
              clear hI hdep hK
              generalize a.eval = ρ at e39 e44 ec ef ⊢
              go_simp
            · intro x D a w hI hdep hD0 K hK
              have e45 : a.eval (.tmp 45) = .bool true := hI.good 11 45 (dep_of hdep 11 rfl) rfl
              refine ok_value (wanted_none rfl) (v := .bool true) ?_ (hK x _ _ (hI.world.up rfl rfl) (fun _ _ _ h => h) rfl)
              have ec : ∀ c, a.eval (.const c) = c := fun _ => rfl
              have ef : ∀ f, a.eval (.func f) = .func (.func f) #[] #[] := fun _ => rfl
              clear hI hdep hK
              generalize a.eval = ρ at e45 ec ef ⊢
              go_simp
            · intro x D a w hI hdep hD0 K hK
              have eg : a.eval (.tmp 46) = .bool true := hI.good 12 46 (dep_of hdep 12 rfl) rfl
              refine ok_call (wanted_is rfl rfl hI.size (by simp) eg) (f := 5) (args := #[]) ?_ (lives19_any w) ?_
              · have ec : ∀ c, a.eval (.const c) = c := fun _ => rfl
                have ef : ∀ f, a.eval (.func f) = .func (.func f) #[] #[] := fun _ => rfl
                clear hI hdep hK
                generalize a.eval = ρ at eg ec ef ⊢
                go_simp
              · rintro e w2 ⟨rfl, hb2⟩
                exact ⟨_, rfl, hK x _ _ ((hI.world.up rfl rfl).kept hb2) (fun _ _ _ h => h) rfl⟩
            · intro x D a w hI hdep hD0 K hK
              have e46 : a.eval (.tmp 46) = .bool true := hI.good 12 46 (dep_of hdep 12 rfl) rfl
              have e47 : a.eval (.tmp 47) = .bool true := hI.good 13 47 (dep_of hdep 13 rfl) rfl
              refine ok_value (wanted_none rfl) (v := .bool true) ?_ (hK x _ _ (hI.world.up rfl rfl) (fun _ _ _ h => h) rfl)
              have ec : ∀ c, a.eval (.const c) = c := fun _ => rfl
              have ef : ∀ f, a.eval (.func f) = .func (.func f) #[] #[] := fun _ => rfl
              clear hI hdep hK
              generalize a.eval = ρ at e46 e47 ec ef ⊢
              go_simp
            · intro x D a w hI hdep hD0 K hK
              have e48 : a.eval (.tmp 48) = .bool true := hI.good 14 48 (dep_of hdep 14 rfl) rfl
              refine ok_value (wanted_none rfl) (v := .bool true) ?_ (hK x _ _ (hI.world.up rfl rfl) (fun _ _ _ h => h) rfl)
              have ec : ∀ c, a.eval (.const c) = c := fun _ => rfl
              have ef : ∀ f, a.eval (.func f) = .func (.func f) #[] #[] := fun _ => rfl
              clear hI hdep hK
              generalize a.eval = ρ at e48 ec ef ⊢
              go_simp
          · intro x D a w7 hI hD
            have hfr := hI.frame [(34, .agg #[.string v.name, .bool v.inner, .slice v.outer.a v.outer.n v.outer.c, .slice v.params.a v.params.n v.params.c, .slice v.results.a v.results.n v.results.c, .slice v.locals.a v.locals.n v.locals.c, .slice v.code.a v.code.n v.code.c, .slice v.lines.a v.lines.n v.lines.c, .slice v.nodes.a v.nodes.n v.nodes.c, .slice v.at_.a v.at_.n v.at_.c, .slice v.live.a v.live.n v.live.c]), (35, x.a), (36, .agg #[.string v.name, .bool v.inner, .slice v.outer.a v.outer.n v.outer.c, .slice v.params.a v.params.n v.params.c, .slice v.results.a v.results.n v.results.c, .slice v.locals.a v.locals.n v.locals.c, .slice v.code.a v.code.n v.code.c, .slice v.lines.a v.lines.n v.lines.c, .slice v.nodes.a v.nodes.n v.nodes.c, .slice v.at_.a v.at_.n v.at_.c, .slice v.live.a v.live.n v.live.c]), (37, x.b), (38, .bool true), (39, .bool true), (40, .agg #[.string v.name, .bool v.inner, .slice v.outer.a v.outer.n v.outer.c, .slice v.params.a v.params.n v.params.c, .slice v.results.a v.results.n v.results.c, .slice v.locals.a v.locals.n v.locals.c, .slice v.code.a v.code.n v.code.c, .slice v.lines.a v.lines.n v.lines.c, .slice v.nodes.a v.nodes.n v.nodes.c, .slice v.at_.a v.at_.n v.at_.c, .slice v.live.a v.live.n v.live.c]), (41, .bool bw), (42, .agg #[.string v.name, .bool v.inner, .slice v.outer.a v.outer.n v.outer.c, .slice v.params.a v.params.n v.params.c, .slice v.results.a v.results.n v.results.c, .slice v.locals.a v.locals.n v.locals.c, .slice v.code.a v.code.n v.code.c, .slice v.lines.a v.lines.n v.lines.c, .slice v.nodes.a v.nodes.n v.nodes.c, .slice v.at_.a v.at_.n v.at_.c, .slice v.live.a v.live.n v.live.c]), (43, .bool bw), (44, .bool true), (45, .bool true), (46, .bool true), (47, .bool true), (48, .bool true), (2, .bool true)] (all_cons (hI.good 0 34 (hD 0 (by decide)) rfl) (all_cons (hI.good 1 35 (hD 1 (by decide)) rfl) (all_cons (hI.good 2 36 (hD 2 (by decide)) rfl) (all_cons (hI.good 3 37 (hD 3 (by decide)) rfl) (all_cons (hI.good 4 38 (hD 4 (by decide)) rfl) (all_cons (hI.good 5 39 (hD 5 (by decide)) rfl) (all_cons (hI.good 6 40 (hD 6 (by decide)) rfl) (all_cons (hI.good 7 41 (hD 7 (by decide)) rfl) (all_cons (hI.good 8 42 (hD 8 (by decide)) rfl) (all_cons (hI.good 9 43 (hD 9 (by decide)) rfl) (all_cons (hI.good 10 44 (hD 10 (by decide)) rfl) (all_cons (hI.good 11 45 (hD 11 (by decide)) rfl) (all_cons (hI.good 12 46 (hD 12 (by decide)) rfl) (all_cons (hI.good 13 47 (hD 13 (by decide)) rfl) (all_cons (hI.good 14 48 (hD 14 (by decide)) rfl) (all_cons (hI.good 15 2 (hD 15 (by decide)) rfl) all_nil)))))))))))))))) rfl
            have hW := hI.world
            clear hI
            subst hfr
            simp only [List.foldl_cons, List.foldl_nil, List.setIfInBounds_toArray, List.set_cons_succ, List.set_cons_zero]
            have hbl := hW.below
            clear hW hD hC
            go_wp2
            go_ret
            exact ⟨rfl, HBz.out.trans ((HBw.out.trans (hbl.mono HBw.out.size)).mono HBz.out.size)⟩
end Go.Proofs.Ytngkjmghhoemgaa
