/-
  What a statement's V is as a value. Conditions: none.
-/
import Derived.Test.YtdenboakcbipdaaDoorCeA
import Derived.Test.YtdenboakcbipdaaDoorRegionK
namespace Go.Proofs.YtdenboakcbipdaaDoor
open Go.RowKit
attribute [local go_sem] Ce.run_store_complex

def VvG (w0 : World) (kk nn re im : Int) (_ : Unit) : Nat → Value → Prop
  | 0, v => v = .pointer (some ⟨w0.heap.size, 0, none⟩)
  | 1, v => v = .int .i64 kk
  | 2, v => v = .pointer (some ⟨w0.heap.size, 1, none⟩)
  | 3, v => v = .int .i64 nn
  | 4, v => v = .pointer (some ⟨w0.heap.size, 2, none⟩)
  | 5, v => v = .int .i64 re
  | 6, v => v = .pointer (some ⟨w0.heap.size, 3, none⟩)
  | 7, v => v = .int .i64 im
  | 8, v => v = .complex .f64 (floatOfInt .f64 re) (floatOfInt .f64 im)
  | 9, v => v = .agg #[.int .i64 kk, .int .i64 nn, .complex .f64 (floatOfInt .f64 re) (floatOfInt .f64 im)]
  | _, _ => True

/-- The world while the value is put together: o is what lies where the answer is put. -/
abbrev VvW (w0 : World) (kk nn re im : Int) (o : Obj) : World := ((w0.alloc (.cells #[.int .i64 kk, .int .i64 nn, .int .i64 re, .int .i64 im] 31)).alloc o).drew
structure VvC (w0 : World) (kk nn re im : Int) (D : Nat → Bool) (W : World) : Prop where
  eq0 : D 10 = false → W = VvW w0 kk nn re im (.cells #[.int .i64 0, .int .i64 0, .complex .f64 0 0] 29)
  eq1 : D 10 = true → W = VvW w0 kk nn re im (.cells #[.int .i64 kk, .int .i64 nn, .complex .f64 (floatOfInt .f64 re) (floatOfInt .f64 im)] 29)
theorem vv_other {D : Nat → Bool} {i j : Nat} (h : (j == i) = false) : add D i j = D j := by unfold add; rw [h]; simp
section
variable {w0 W : World} {kk nn re im : Int} {D : Nat → Bool}
theorem VvC.up (h : VvC w0 kk nn re im D W) {i : Nat} (hi : ((10 : Nat) == i) = false) : VvC w0 kk nn re im (add D i) W :=
  ⟨by rw [vv_other hi]; exact h.eq0, by rw [vv_other hi]; exact h.eq1⟩
theorem VvC.stored {i : Nat} (hi : 10 = i) : VvC w0 kk nn re im (add D i) (VvW w0 kk nn re im (.cells #[.int .i64 kk, .int .i64 nn, .complex .f64 (floatOfInt .f64 re) (floatOfInt .f64 im)] 29)) :=
  ⟨fun h => (by subst hi; unfold add at h; simp at h), fun _ => rfl⟩
end

set_option maxHeartbeats 4000000 in
set_option maxRecDepth 100000 in
theorem vvalue_any (kk nn re im : Int) (w0 : World) : Calls Tryd.prog 6 #[.agg #[.int .i64 kk, .int .i64 nn, .int .i64 re, .int .i64 im]] w0 (CvP ⟨kk, nn, floatOfInt .f64 re, floatOfInt .f64 im⟩ w0) := by
  go_enter Tryd.func6, Tryd.ntmps6
  go_wp2
  refine region_k () 13 (fun _ => VvC w0 kk nn re im) (VvG w0 kk nn re im) (by kernel_rfl) (by kernel_rfl) (by kernel_rfl) rfl rfl ⟨(fun _ => rfl), (fun h => by cases h)⟩ ?_ ?_
  · refine ⟨?_, ?_, ?_, ?_, ?_, ?_, ?_, ?_, ?_, ?_, ?_, trivial⟩
    · intro x D a w hI hdep hD0 K hK
      have e1 : a.eval (.tmp 1) = .pointer (some ⟨w0.heap.size, 0, none⟩) := hI.read 1 rfl
      refine ok_value (wanted_none rfl) (v := .pointer (some ⟨w0.heap.size, 0, none⟩)) ?_ (hK x _ _ (hI.world.up rfl) (fun _ _ _ h => h) rfl)
      have ec : ∀ c, a.eval (.const c) = c := fun _ => rfl
      have ef : ∀ f, a.eval (.func f) = .func (.func f) #[] #[] := fun _ => rfl
      clear hI hdep hK
      generalize a.eval = ρ at e1 ec ef ⊢
      go_simp
    · intro x D a w hI hdep hD0 K hK
      have e3 : a.eval (.tmp 3) = .pointer (some ⟨w0.heap.size, 0, none⟩) := hI.good 0 3 (dep_of hdep 0 rfl) rfl
      obtain rfl := hI.world.eq0 (hI.not_up (hI.not_up hD0 9 rfl) 10 rfl)
      refine ok_value (wanted_none rfl) (v := .int .i64 kk) ?_ (hK x _ _ (hI.world.up rfl) (fun _ _ _ h => h) rfl)
      have ec : ∀ c, a.eval (.const c) = c := fun _ => rfl
      have ef : ∀ f, a.eval (.func f) = .func (.func f) #[] #[] := fun _ => rfl
      clear hI hdep hK
      generalize a.eval = ρ at e3 ec ef ⊢
      go_simp
    · intro x D a w hI hdep hD0 K hK
      have e1 : a.eval (.tmp 1) = .pointer (some ⟨w0.heap.size, 0, none⟩) := hI.read 1 rfl
      refine ok_value (wanted_none rfl) (v := .pointer (some ⟨w0.heap.size, 1, none⟩)) ?_ (hK x _ _ (hI.world.up rfl) (fun _ _ _ h => h) rfl)
      have ec : ∀ c, a.eval (.const c) = c := fun _ => rfl
      have ef : ∀ f, a.eval (.func f) = .func (.func f) #[] #[] := fun _ => rfl
      clear hI hdep hK
      generalize a.eval = ρ at e1 ec ef ⊢
      go_simp
    · intro x D a w hI hdep hD0 K hK
      have e5 : a.eval (.tmp 5) = .pointer (some ⟨w0.heap.size, 1, none⟩) := hI.good 2 5 (dep_of hdep 2 rfl) rfl
      obtain rfl := hI.world.eq0 (hI.not_up (hI.not_up hD0 9 rfl) 10 rfl)
      refine ok_value (wanted_none rfl) (v := .int .i64 nn) ?_ (hK x _ _ (hI.world.up rfl) (fun _ _ _ h => h) rfl)
      have ec : ∀ c, a.eval (.const c) = c := fun _ => rfl
      have ef : ∀ f, a.eval (.func f) = .func (.func f) #[] #[] := fun _ => rfl
      clear hI hdep hK
      generalize a.eval = ρ at e5 ec ef ⊢
      go_simp
    · intro x D a w hI hdep hD0 K hK
      have e1 : a.eval (.tmp 1) = .pointer (some ⟨w0.heap.size, 0, none⟩) := hI.read 1 rfl
      refine ok_value (wanted_none rfl) (v := .pointer (some ⟨w0.heap.size, 2, none⟩)) ?_ (hK x _ _ (hI.world.up rfl) (fun _ _ _ h => h) rfl)
      have ec : ∀ c, a.eval (.const c) = c := fun _ => rfl
      have ef : ∀ f, a.eval (.func f) = .func (.func f) #[] #[] := fun _ => rfl
      clear hI hdep hK
      generalize a.eval = ρ at e1 ec ef ⊢
      go_simp
    · intro x D a w hI hdep hD0 K hK
      have e7 : a.eval (.tmp 7) = .pointer (some ⟨w0.heap.size, 2, none⟩) := hI.good 4 7 (dep_of hdep 4 rfl) rfl
      obtain rfl := hI.world.eq0 (hI.not_up (hI.not_up (hI.not_up hD0 8 rfl) 9 rfl) 10 rfl)
      refine ok_value (wanted_none rfl) (v := .int .i64 re) ?_ (hK x _ _ (hI.world.up rfl) (fun _ _ _ h => h) rfl)
      have ec : ∀ c, a.eval (.const c) = c := fun _ => rfl
      have ef : ∀ f, a.eval (.func f) = .func (.func f) #[] #[] := fun _ => rfl
      clear hI hdep hK
      generalize a.eval = ρ at e7 ec ef ⊢
      go_simp
    · intro x D a w hI hdep hD0 K hK
      have e1 : a.eval (.tmp 1) = .pointer (some ⟨w0.heap.size, 0, none⟩) := hI.read 1 rfl
      refine ok_value (wanted_none rfl) (v := .pointer (some ⟨w0.heap.size, 3, none⟩)) ?_ (hK x _ _ (hI.world.up rfl) (fun _ _ _ h => h) rfl)
      have ec : ∀ c, a.eval (.const c) = c := fun _ => rfl
      have ef : ∀ f, a.eval (.func f) = .func (.func f) #[] #[] := fun _ => rfl
      clear hI hdep hK
      generalize a.eval = ρ at e1 ec ef ⊢
      go_simp
    · intro x D a w hI hdep hD0 K hK
      have e9 : a.eval (.tmp 9) = .pointer (some ⟨w0.heap.size, 3, none⟩) := hI.good 6 9 (dep_of hdep 6 rfl) rfl
      obtain rfl := hI.world.eq0 (hI.not_up (hI.not_up (hI.not_up hD0 8 rfl) 9 rfl) 10 rfl)
      refine ok_value (wanted_none rfl) (v := .int .i64 im) ?_ (hK x _ _ (hI.world.up rfl) (fun _ _ _ h => h) rfl)
      have ec : ∀ c, a.eval (.const c) = c := fun _ => rfl
      have ef : ∀ f, a.eval (.func f) = .func (.func f) #[] #[] := fun _ => rfl
      clear hI hdep hK
      generalize a.eval = ρ at e9 ec ef ⊢
      go_simp
    · intro x D a w hI hdep hD0 K hK
      have e8 : a.eval (.tmp 8) = .int .i64 re := hI.good 5 8 (dep_of hdep 5 rfl) rfl
      have e10 : a.eval (.tmp 10) = .int .i64 im := hI.good 7 10 (dep_of hdep 7 rfl) rfl
      refine ok_call (wanted_none rfl) (f := 17) (args := #[.int .i64 re, .int .i64 im]) ?_ (rpair_any re im w) ?_
      · have ec : ∀ c, a.eval (.const c) = c := fun _ => rfl
        have ef : ∀ f, a.eval (.func f) = .func (.func f) #[] #[] := fun _ => rfl
        clear hI hdep hK
        generalize a.eval = ρ at e8 e10 ec ef ⊢
        go_simp
      · rintro e w2 ⟨rfl, rfl⟩
        exact ⟨_, rfl, hK x _ _ (hI.world.up rfl) (fun _ _ _ h => h) rfl⟩
    · intro x D a w hI hdep hD0 K hK
      have e4 : a.eval (.tmp 4) = .int .i64 kk := hI.good 1 4 (dep_of hdep 1 rfl) rfl
      have e6 : a.eval (.tmp 6) = .int .i64 nn := hI.good 3 6 (dep_of hdep 3 rfl) rfl
      have e11 : a.eval (.tmp 11) = .complex .f64 (floatOfInt .f64 re) (floatOfInt .f64 im) := hI.good 8 11 (dep_of hdep 8 rfl) rfl
      refine ok_value (wanted_none rfl) (v := .agg #[.int .i64 kk, .int .i64 nn, .complex .f64 (floatOfInt .f64 re) (floatOfInt .f64 im)]) ?_ (hK x _ _ (hI.world.up rfl) (fun _ _ _ h => h) rfl)
      have ec : ∀ c, a.eval (.const c) = c := fun _ => rfl
      have ef : ∀ f, a.eval (.func f) = .func (.func f) #[] #[] := fun _ => rfl
      clear hI hdep hK
      generalize a.eval = ρ at e4 e6 e11 ec ef ⊢
      go_simp
    · intro x D a w hI hdep hD0 K hK
      have e12 : a.eval (.tmp 12) = .agg #[.int .i64 kk, .int .i64 nn, .complex .f64 (floatOfInt .f64 re) (floatOfInt .f64 im)] := hI.good 9 12 (dep_of hdep 9 rfl) rfl
      have e2 : a.eval (.tmp 2) = .pointer (some ⟨w0.heap.size + 1, 0, none⟩) := hI.read 2 rfl
      obtain rfl := hI.world.eq0 hD0
      refine ok_store (wanted_none rfl) (w' := VvW w0 kk nn re im (.cells #[.int .i64 kk, .int .i64 nn, .complex .f64 (floatOfInt .f64 re) (floatOfInt .f64 im)] 29)) ?_ (hK x undef _ (VvC.stored rfl) (fun _ _ _ h => h) trivial)
      unfold VvW
      have ec : ∀ c, a.eval (.const c) = c := fun _ => rfl
      have ef : ∀ f, a.eval (.func f) = .func (.func f) #[] #[] := fun _ => rfl
      clear hI hdep hK
      generalize a.eval = ρ at e12 e2 ec ef ⊢
      go_simp
  · intro x D a w hI hD
    have hfr := hI.frame [(3, .pointer (some ⟨w0.heap.size, 0, none⟩)), (4, .int .i64 kk), (5, .pointer (some ⟨w0.heap.size, 1, none⟩)), (6, .int .i64 nn), (7, .pointer (some ⟨w0.heap.size, 2, none⟩)), (8, .int .i64 re), (9, .pointer (some ⟨w0.heap.size, 3, none⟩)), (10, .int .i64 im), (11, .complex .f64 (floatOfInt .f64 re) (floatOfInt .f64 im)), (12, .agg #[.int .i64 kk, .int .i64 nn, .complex .f64 (floatOfInt .f64 re) (floatOfInt .f64 im)])] (all_cons (hI.good 0 3 (hD 0 (by decide)) rfl) (all_cons (hI.good 1 4 (hD 1 (by decide)) rfl) (all_cons (hI.good 2 5 (hD 2 (by decide)) rfl) (all_cons (hI.good 3 6 (hD 3 (by decide)) rfl) (all_cons (hI.good 4 7 (hD 4 (by decide)) rfl) (all_cons (hI.good 5 8 (hD 5 (by decide)) rfl) (all_cons (hI.good 6 9 (hD 6 (by decide)) rfl) (all_cons (hI.good 7 10 (hD 7 (by decide)) rfl) (all_cons (hI.good 8 11 (hD 8 (by decide)) rfl) (all_cons (hI.good 9 12 (hD 9 (by decide)) rfl) all_nil)))))))))) rfl
    have hW := hI.world
    clear hI
    subst hfr
    simp only [List.foldl_cons, List.foldl_nil, List.setIfInBounds_toArray, List.set_cons_succ, List.set_cons_zero]
    obtain rfl := hW.eq1 (hD 10 (by decide))
    clear hW hD
    go_wp2
    exact bodyPost_ret (v := .agg #[.int .i64 kk, .int .i64 nn, .complex .f64 (floatOfInt .f64 re) (floatOfInt .f64 im)]) (by simp [results, Tryd.results6, go_sem]) rfl ⟨rfl, (below_alloc2 _ _ _).drew⟩
end Go.Proofs.YtdenboakcbipdaaDoor
