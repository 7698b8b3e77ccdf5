/-
  The document's example of cell. Conditions: the library's table of powers of ten is laid.
-/
import Derived.Test.YtdenboakcbipdaaDoorCeD
import Derived.Test.YtdenboakcbipdaaDoorCeT
namespace Go.Proofs.YtdenboakcbipdaaDoor
open Go.RowKit
attribute [local go_sem] Ce.run_store_complex

/-- One and two together. -/
theorem three {r : Option Ce.Cv} (h : Ce.DoR 6 [⟨1, 1, 0, 0⟩, ⟨1, 2, 0, 0⟩] r) : r = some ⟨1, 3, 0, 0⟩ := by
  rcases h with ⟨h, _⟩ | ⟨_, h⟩
  · exact absurd ⟨by decide, rfl, rfl⟩ h
  · rcases h with ⟨h, _⟩ | ⟨h, _⟩ | ⟨h, _⟩ | ⟨h, _⟩ | ⟨_, h⟩
    · exact absurd h (by decide)
    · exact absurd h (by decide)
    · exact absurd h (by decide)
    · exact absurd h (by decide)
    · have e : Wh.two 6 1 2 = (3, true) := by
        have : wrap64 3 = 3 := by unfold wrap64; decide
        simp [Wh.two, this]
      rw [h]
      show (if (Wh.two 6 1 2).2 then some (⟨1, (Wh.two 6 1 2).1, 0, 0⟩ : Ce.Cv) else none) = _
      rw [e]
      rfl

/-- The text of (1,-2). -/
theorem text12 : Ce.text ⟨2, 0, floatOfInt .f64 1, floatOfInt .f64 (-2)⟩ = ⟨#[40, 49, 44, 45, 50, 41]⟩ := by
  have h1 : Pl.part 19 (floatOfInt .f64 1) (floatOfInt .f64 (-2)) = 1 := (Pl.D.int 1 (by decide)).near (by decide)
  have h2 : Pl.part 20 (floatOfInt .f64 1) (floatOfInt .f64 (-2)) = -2 := by
    unfold Pl.part
    rw [if_neg (by decide), if_pos rfl]
    exact (Pl.D.int (-2) (by decide)).near (by decide)
  unfold Ce.text
  rw [if_neg (by decide), if_pos rfl, h1, h2]
  decide +kernel

theorem vals_two (w : World) (u v : Ce.Cv) {b : Nat} (hb : b = w.heap.size) : ValsAt (w.alloc (.cells #[.int .i64 u.k, .int .i64 u.n, .complex .f64 u.re u.im, .int .i64 v.k, .int .i64 v.n, .complex .f64 v.re v.im] 29)) (w.heap.size + 1) (some ⟨b, 0, none⟩) 2 [u, v] := by
  subst hb
  have h := heap_alloc_new w (.cells #[.int .i64 u.k, .int .i64 u.n, .complex .f64 u.re u.im, .int .i64 v.k, .int .i64 v.n, .complex .f64 v.re v.im] 29)
  refine ⟨rfl, fun _ => ⟨w.heap.size, 0, rfl, by omega, fun i hi => ?_⟩⟩
  obtain rfl | rfl : i = 0 ∨ i = 1 := by omega
  · exact ⟨cell_of_row _ _ 0 _ _ _ h, cell_of_row _ _ 1 _ _ _ h, cell_of_row _ _ 2 _ _ _ h⟩
  · exact ⟨cell_of_row _ _ 3 _ _ _ h, cell_of_row _ _ 4 _ _ _ h, cell_of_row _ _ 5 _ _ _ h⟩

def LvG (b off re im : Nat) (_ : Unit) : Nat → Value → Prop
  | 0, v => v = .bool true
  | 1, v => v = .bool true
  | 2, v => v = .slice (some ⟨b, off, none⟩) 1 1
  | 3, v => v = .int .i64 1
  | 4, v => v = .bool true
  | 5, v => v = .bool true
  | 6, v => v = .bool true
  | 7, v => v = .slice (some ⟨b, off, none⟩) 1 1
  | 8, v => v = .pointer (some ⟨b, off, none⟩)
  | 9, v => v = .agg #[.int .i64 1, .int .i64 3, .complex .f64 0 0]
  | 10, v => v = .agg #[.int .i64 1, .int .i64 3, .complex .f64 0 0]
  | 11, v => v = .bool true
  | 12, v => v = .bool true
  | 13, v => v = .bool true
  | 14, v => v = .complex .f64 re im
  | 15, v => v = .agg #[.int .i64 2, .int .i64 0, .complex .f64 re im]
  | 16, v => v = .string ⟨#[40, 49, 44, 45, 50, 41]⟩
  | 17, v => v = .bool true
  | 18, v => v = .bool true
  | 19, v => v = .bool true
  | _, _ => True

set_option maxHeartbeats 4000000 in
set_option maxRecDepth 100000 in
theorem lives8_any (w0 : World) (hp : Pow w0) : Calls Tryd.prog 5 #[] w0 (BoolP true w0) := by
  have HP0 := Lib.hid hp
  clear hp
  go_enter Tryd.func5, Tryd.ntmps5
  go_wp2_with (first
    | (go_at_call 13; refine (num_ex _ _).mono ?_; rintro _ w1 ⟨rfl, rfl⟩))
  refine (do_any 6 _ 2 2 [⟨1, 1, 0, 0⟩, ⟨1, 2, 0, 0⟩] _ ((vals_two _ ⟨1, 1, 0, 0⟩ ⟨1, 2, 0, 0⟩ (by simp)).more (by simp)) (by omega)).mono ?_
  rintro e w1 ⟨r, hr, hb, ho⟩
  obtain rfl := three hr
  obtain ⟨A, rfl, hv⟩ := ho
  obtain ⟨b, off, rfl, hlb, hc⟩ := hv.2 (by omega)
  obtain ⟨q0, q1, q2⟩ := hc 0 (by omega)
  simp only [Nat.zero_mul, Nat.add_zero, List.getD_cons_zero] at q0 q1 q2
  have HB := Lib.hid ((below_alloc5 _ _ _ _ _ _).trans (hb.mono (by simp only [World.size_alloc]; omega)))
  clear hr hb hv hc
  have HP := Lib.hid (HP0.out.below HB.out)
  have HP1 := fun w => rpair_any 1 (-2) w
  have HT := fun w hp => ctext_any ⟨2, 0, floatOfInt .f64 1, floatOfInt .f64 (-2)⟩ (by decide) w hp
  rw [text12] at HT
  generalize floatOfInt .f64 1 = re at *
  generalize floatOfInt .f64 (-2) = im at *
  go_wp2
  refine region_k () 29 (fun _ _ W => Below w1.heap.size w1 W) (LvG b off re im) (by kernel_rfl) (by kernel_rfl) (by kernel_rfl) rfl rfl (Below.refl _ _).drew ?_ ?_
  · refine ⟨?_, ?_, ?_, ?_, ?_, ?_, ?_, ?_, ?_, ?_, ?_, ?_, ?_, ?_, ?_, ?_, ?_, ?_, ?_, ?_, trivial⟩
    · intro x D a w hI hdep hD0 K hK
      have e2 : a.eval (.tmp 2) = .bool true := hI.read 2 rfl
      refine ok_value (wanted_none rfl) (v := .bool true) ?_ (hK x _ _ (hI.world) (fun _ _ _ h => h) rfl)
      have ec : ∀ c, a.eval (.const c) = c := fun _ => rfl
      have ef : ∀ f, a.eval (.func f) = .func (.func f) #[] #[] := fun _ => rfl
      clear hI hdep hK
      generalize a.eval = ρ at e2 ec ef ⊢
      go_simp
    · intro x D a w hI hdep hD0 K hK
      have e10 : a.eval (.tmp 10) = .bool true := hI.good 0 10 (dep_of hdep 0 rfl) rfl
      refine ok_value (wanted_none rfl) (v := .bool true) ?_ (hK x _ _ (hI.world) (fun _ _ _ h => h) rfl)
      have ec : ∀ c, a.eval (.const c) = c := fun _ => rfl
      have ef : ∀ f, a.eval (.func f) = .func (.func f) #[] #[] := fun _ => rfl
      clear hI hdep hK
      generalize a.eval = ρ at e10 ec ef ⊢
      go_simp
    · intro x D a w hI hdep hD0 K hK
      have eg : a.eval (.tmp 11) = .bool true := hI.good 1 11 (dep_of hdep 1 rfl) rfl
      have e1 : a.eval (.tmp 1) = .slice (some ⟨b, off, none⟩) 1 1 := hI.read 1 rfl
      refine ok_value (wanted_is rfl rfl hI.size (by simp) eg) (v := .slice (some ⟨b, off, none⟩) 1 1) ?_ (hK x _ _ (hI.world) (fun _ _ _ h => h) rfl)
      have ec : ∀ c, a.eval (.const c) = c := fun _ => rfl
      have ef : ∀ f, a.eval (.func f) = .func (.func f) #[] #[] := fun _ => rfl
      clear hI hdep hK
      generalize a.eval = ρ at eg e1 ec ef ⊢
      go_simp
    · intro x D a w hI hdep hD0 K hK
      have eg : a.eval (.tmp 11) = .bool true := hI.good 1 11 (dep_of hdep 1 rfl) rfl
      have e12 : a.eval (.tmp 12) = .slice (some ⟨b, off, none⟩) 1 1 := hI.good 2 12 (dep_of hdep 2 rfl) rfl
      refine ok_value (wanted_is rfl rfl hI.size (by simp) eg) (v := .int .i64 1) ?_ (hK x _ _ (hI.world) (fun _ _ _ h => h) rfl)
      have ec : ∀ c, a.eval (.const c) = c := fun _ => rfl
      have ef : ∀ f, a.eval (.func f) = .func (.func f) #[] #[] := fun _ => rfl
      clear hI hdep hK
      generalize a.eval = ρ at eg e12 ec ef ⊢
      go_simp
    · intro x D a w hI hdep hD0 K hK
      have eg : a.eval (.tmp 11) = .bool true := hI.good 1 11 (dep_of hdep 1 rfl) rfl
      have e13 : a.eval (.tmp 13) = .int .i64 1 := hI.good 3 13 (dep_of hdep 3 rfl) rfl
      refine ok_value (wanted_is rfl rfl hI.size (by simp) eg) (v := .bool true) ?_ (hK x _ _ (hI.world) (fun _ _ _ h => h) rfl)
      have ec : ∀ c, a.eval (.const c) = c := fun _ => rfl
      have ef : ∀ f, a.eval (.func f) = .func (.func f) #[] #[] := fun _ => rfl
      clear hI hdep hK
      generalize a.eval = ρ at eg e13 ec ef ⊢
      go_simp
    · intro x D a w hI hdep hD0 K hK
      have e11 : a.eval (.tmp 11) = .bool true := hI.good 1 11 (dep_of hdep 1 rfl) rfl
      have e14 : a.eval (.tmp 14) = .bool true := hI.good 4 14 (dep_of hdep 4 rfl) rfl
      refine ok_value (wanted_none rfl) (v := .bool true) ?_ (hK x _ _ (hI.world) (fun _ _ _ h => h) rfl)
      have ec : ∀ c, a.eval (.const c) = c := fun _ => rfl
      have ef : ∀ f, a.eval (.func f) = .func (.func f) #[] #[] := fun _ => rfl
      clear hI hdep hK
      generalize a.eval = ρ at e11 e14 ec ef ⊢
      go_simp
    · intro x D a w hI hdep hD0 K hK
      have e15 : a.eval (.tmp 15) = .bool true := hI.good 5 15 (dep_of hdep 5 rfl) rfl
      refine ok_value (wanted_none rfl) (v := .bool true) ?_ (hK x _ _ (hI.world) (fun _ _ _ h => h) rfl)
      have ec : ∀ c, a.eval (.const c) = c := fun _ => rfl
      have ef : ∀ f, a.eval (.func f) = .func (.func f) #[] #[] := fun _ => rfl
      clear hI hdep hK
      generalize a.eval = ρ at e15 ec ef ⊢
      go_simp
    · intro x D a w hI hdep hD0 K hK
      have eg : a.eval (.tmp 16) = .bool true := hI.good 6 16 (dep_of hdep 6 rfl) rfl
      have e1 : a.eval (.tmp 1) = .slice (some ⟨b, off, none⟩) 1 1 := hI.read 1 rfl
      refine ok_value (wanted_is rfl rfl hI.size (by simp) eg) (v := .slice (some ⟨b, off, none⟩) 1 1) ?_ (hK x _ _ (hI.world) (fun _ _ _ h => h) rfl)
      have ec : ∀ c, a.eval (.const c) = c := fun _ => rfl
      have ef : ∀ f, a.eval (.func f) = .func (.func f) #[] #[] := fun _ => rfl
      clear hI hdep hK
      generalize a.eval = ρ at eg e1 ec ef ⊢
      go_simp
    · intro x D a w hI hdep hD0 K hK
      have eg : a.eval (.tmp 16) = .bool true := hI.good 6 16 (dep_of hdep 6 rfl) rfl
      have e17 : a.eval (.tmp 17) = .slice (some ⟨b, off, none⟩) 1 1 := hI.good 7 17 (dep_of hdep 7 rfl) rfl
      refine ok_value (wanted_is rfl rfl hI.size (by simp) eg) (v := .pointer (some ⟨b, off, none⟩)) ?_ (hK x _ _ (hI.world) (fun _ _ _ h => h) rfl)
      have ec : ∀ c, a.eval (.const c) = c := fun _ => rfl
      have ef : ∀ f, a.eval (.func f) = .func (.func f) #[] #[] := fun _ => rfl
      clear hI hdep hK
      generalize a.eval = ρ at eg e17 ec ef ⊢
      go_simp
    · intro x D a w hI hdep hD0 K hK
      have eg : a.eval (.tmp 16) = .bool true := hI.good 6 16 (dep_of hdep 6 rfl) rfl
      have e18 : a.eval (.tmp 18) = .pointer (some ⟨b, off, none⟩) := hI.good 8 18 (dep_of hdep 8 rfl) rfl
      have x0 := (hI.world.cell (p := ⟨b, off, none⟩) hlb).trans q0
      have x1 := (hI.world.cell (p := ⟨b, off + 1, none⟩) hlb).trans q1
      have x2 := (hI.world.cell (p := ⟨b, off + 2, none⟩) hlb).trans q2
      refine ok_value (wanted_is rfl rfl hI.size (by simp) eg) (v := .agg #[.int .i64 1, .int .i64 3, .complex .f64 0 0]) ?_ (hK x _ _ (hI.world) (fun _ _ _ h => h) rfl)
      have ec : ∀ c, a.eval (.const c) = c := fun _ => rfl
      have ef : ∀ f, a.eval (.func f) = .func (.func f) #[] #[] := fun _ => rfl
      clear hI hdep hK
      generalize a.eval = ρ at eg e18 ec ef ⊢
      go_simp
    · intro x D a w hI hdep hD0 K hK
      have eg : a.eval (.tmp 16) = .bool true := hI.good 6 16 (dep_of hdep 6 rfl) rfl
      refine ok_call (wanted_is rfl rfl hI.size (by simp) eg) (f := 13) (args := #[.int .i64 3]) ?_ (num_any 3 w) ?_
      · have ec : ∀ c, a.eval (.const c) = c := fun _ => rfl
        have ef : ∀ f, a.eval (.func f) = .func (.func f) #[] #[] := fun _ => rfl
        clear hI hdep hK
        generalize a.eval = ρ at eg ec ef ⊢
        go_simp
      · rintro e w2 ⟨rfl, hb2⟩
        exact ⟨_, rfl, hK x _ _ (hI.world.trans (hb2.mono hI.world.size)) (fun _ _ _ h => h) rfl⟩
    · intro x D a w hI hdep hD0 K hK
      have eg : a.eval (.tmp 16) = .bool true := hI.good 6 16 (dep_of hdep 6 rfl) rfl
      have e19 : a.eval (.tmp 19) = .agg #[.int .i64 1, .int .i64 3, .complex .f64 0 0] := hI.good 9 19 (dep_of hdep 9 rfl) rfl
      have e20 : a.eval (.tmp 20) = .agg #[.int .i64 1, .int .i64 3, .complex .f64 0 0] := hI.good 10 20 (dep_of hdep 10 rfl) rfl
      refine ok_call (wanted_is rfl rfl hI.size (by simp) eg) (f := 14) (args := #[.agg #[.int .i64 1, .int .i64 3, .complex .f64 0 0], .agg #[.int .i64 1, .int .i64 3, .complex .f64 0 0]]) ?_ (csame_any ⟨1, 3, 0, 0⟩ ⟨1, 3, 0, 0⟩ w) ?_
      · have ec : ∀ c, a.eval (.const c) = c := fun _ => rfl
        have ef : ∀ f, a.eval (.func f) = .func (.func f) #[] #[] := fun _ => rfl
        clear hI hdep hK
        generalize a.eval = ρ at eg e19 e20 ec ef ⊢
        go_simp
      · rintro e w2 ⟨rfl, hb2⟩
        exact ⟨_, rfl, hK x _ _ (hI.world.trans (hb2.mono hI.world.size)) (fun _ _ _ h => h) rfl⟩
    · intro x D a w hI hdep hD0 K hK
      have e16 : a.eval (.tmp 16) = .bool true := hI.good 6 16 (dep_of hdep 6 rfl) rfl
      have e21 : a.eval (.tmp 21) = .bool true := hI.good 11 21 (dep_of hdep 11 rfl) rfl
      refine ok_value (wanted_none rfl) (v := .bool true) ?_ (hK x _ _ (hI.world) (fun _ _ _ h => h) rfl)
      have ec : ∀ c, a.eval (.const c) = c := fun _ => rfl
      have ef : ∀ f, a.eval (.func f) = .func (.func f) #[] #[] := fun _ => rfl
      clear hI hdep hK
      generalize a.eval = ρ at e16 e21 ec ef ⊢
      go_simp
    · intro x D a w hI hdep hD0 K hK
      have e22 : a.eval (.tmp 22) = .bool true := hI.good 12 22 (dep_of hdep 12 rfl) rfl
      refine ok_value (wanted_none rfl) (v := .bool true) ?_ (hK x _ _ (hI.world) (fun _ _ _ h => h) rfl)
      have ec : ∀ c, a.eval (.const c) = c := fun _ => rfl
      have ef : ∀ f, a.eval (.func f) = .func (.func f) #[] #[] := fun _ => rfl
      clear hI hdep hK
      generalize a.eval = ρ at e22 ec ef ⊢
      go_simp
    · intro x D a w hI hdep hD0 K hK
      have eg : a.eval (.tmp 23) = .bool true := hI.good 13 23 (dep_of hdep 13 rfl) rfl
      refine ok_call (wanted_is rfl rfl hI.size (by simp) eg) (f := 17) (args := #[.int .i64 1, .int .i64 (-2)]) ?_ (HP1 w) ?_
      · have ec : ∀ c, a.eval (.const c) = c := fun _ => rfl
        have ef : ∀ f, a.eval (.func f) = .func (.func f) #[] #[] := fun _ => rfl
        clear hI hdep hK
        generalize a.eval = ρ at eg ec ef ⊢
        go_simp
      · rintro e w2 ⟨rfl, rfl⟩
        exact ⟨_, rfl, hK x _ _ hI.world (fun _ _ _ h => h) rfl⟩
    · intro x D a w hI hdep hD0 K hK
      have eg : a.eval (.tmp 23) = .bool true := hI.good 13 23 (dep_of hdep 13 rfl) rfl
      have e24 : a.eval (.tmp 24) = .complex .f64 re im := hI.good 14 24 (dep_of hdep 14 rfl) rfl
      refine ok_call (wanted_is rfl rfl hI.size (by simp) eg) (f := 16) (args := #[.complex .f64 re im]) ?_ (point_any re im w) ?_
      · have ec : ∀ c, a.eval (.const c) = c := fun _ => rfl
        have ef : ∀ f, a.eval (.func f) = .func (.func f) #[] #[] := fun _ => rfl
        clear hI hdep hK
        generalize a.eval = ρ at eg e24 ec ef ⊢
        go_simp
      · rintro e w2 ⟨rfl, hb2⟩
        exact ⟨_, rfl, hK x _ _ (hI.world.trans (hb2.mono hI.world.size)) (fun _ _ _ h => h) rfl⟩
    · intro x D a w hI hdep hD0 K hK
      have eg : a.eval (.tmp 23) = .bool true := hI.good 13 23 (dep_of hdep 13 rfl) rfl
      have e25 : a.eval (.tmp 25) = .agg #[.int .i64 2, .int .i64 0, .complex .f64 re im] := hI.good 15 25 (dep_of hdep 15 rfl) rfl
      refine ok_call (wanted_is rfl rfl hI.size (by simp) eg) (f := 15) (args := #[.agg #[.int .i64 2, .int .i64 0, .complex .f64 re im]]) ?_ (HT w (HP.out.below hI.world)) ?_
      · have ec : ∀ c, a.eval (.const c) = c := fun _ => rfl
        have ef : ∀ f, a.eval (.func f) = .func (.func f) #[] #[] := fun _ => rfl
        clear hI hdep hK
        generalize a.eval = ρ at eg e25 ec ef ⊢
        go_simp
      · rintro e w2 ⟨rfl, hb2⟩
        exact ⟨_, rfl, hK x _ _ (hI.world.trans (hb2.mono hI.world.size)) (fun _ _ _ h => h) rfl⟩
    · intro x D a w hI hdep hD0 K hK
      have eg : a.eval (.tmp 23) = .bool true := hI.good 13 23 (dep_of hdep 13 rfl) rfl
      have e26 : a.eval (.tmp 26) = .string ⟨#[40, 49, 44, 45, 50, 41]⟩ := hI.good 16 26 (dep_of hdep 16 rfl) rfl
      refine ok_value (wanted_is rfl rfl hI.size (by simp) eg) (v := .bool true) ?_ (hK x _ _ (hI.world) (fun _ _ _ h => h) rfl)
      have ec : ∀ c, a.eval (.const c) = c := fun _ => rfl
      have ef : ∀ f, a.eval (.func f) = .func (.func f) #[] #[] := fun _ => rfl
      clear hI hdep hK
      generalize a.eval = ρ at eg e26 ec ef ⊢
      go_simp
    · intro x D a w hI hdep hD0 K hK
      have e23 : a.eval (.tmp 23) = .bool true := hI.good 13 23 (dep_of hdep 13 rfl) rfl
      have e27 : a.eval (.tmp 27) = .bool true := hI.good 17 27 (dep_of hdep 17 rfl) rfl
      refine ok_value (wanted_none rfl) (v := .bool true) ?_ (hK x _ _ (hI.world) (fun _ _ _ h => h) rfl)
      have ec : ∀ c, a.eval (.const c) = c := fun _ => rfl
      have ef : ∀ f, a.eval (.func f) = .func (.func f) #[] #[] := fun _ => rfl
      clear hI hdep hK
      generalize a.eval = ρ at e23 e27 ec ef ⊢
      go_simp
    · intro x D a w hI hdep hD0 K hK
      have e28 : a.eval (.tmp 28) = .bool true := hI.good 18 28 (dep_of hdep 18 rfl) rfl
      refine ok_value (wanted_none rfl) (v := .bool true) ?_ (hK x _ _ (hI.world) (fun _ _ _ h => h) rfl)
      have ec : ∀ c, a.eval (.const c) = c := fun _ => rfl
      have ef : ∀ f, a.eval (.func f) = .func (.func f) #[] #[] := fun _ => rfl
      clear hI hdep hK
      generalize a.eval = ρ at e28 ec ef ⊢
      go_simp
  · intro x D a w hI hD
    have hfr := hI.frame [(10, .bool true), (11, .bool true), (12, .slice (some ⟨b, off, none⟩) 1 1), (13, .int .i64 1), (14, .bool true), (15, .bool true), (16, .bool true), (17, .slice (some ⟨b, off, none⟩) 1 1), (18, .pointer (some ⟨b, off, none⟩)), (19, .agg #[.int .i64 1, .int .i64 3, .complex .f64 0 0]), (20, .agg #[.int .i64 1, .int .i64 3, .complex .f64 0 0]), (21, .bool true), (22, .bool true), (23, .bool true), (24, .complex .f64 re im), (25, .agg #[.int .i64 2, .int .i64 0, .complex .f64 re im]), (26, .string ⟨#[40, 49, 44, 45, 50, 41]⟩), (27, .bool true), (28, .bool true), (0, .bool true)] (all_cons (hI.good 0 10 (hD 0 (by decide)) rfl) (all_cons (hI.good 1 11 (hD 1 (by decide)) rfl) (all_cons (hI.good 2 12 (hD 2 (by decide)) rfl) (all_cons (hI.good 3 13 (hD 3 (by decide)) rfl) (all_cons (hI.good 4 14 (hD 4 (by decide)) rfl) (all_cons (hI.good 5 15 (hD 5 (by decide)) rfl) (all_cons (hI.good 6 16 (hD 6 (by decide)) rfl) (all_cons (hI.good 7 17 (hD 7 (by decide)) rfl) (all_cons (hI.good 8 18 (hD 8 (by decide)) rfl) (all_cons (hI.good 9 19 (hD 9 (by decide)) rfl) (all_cons (hI.good 10 20 (hD 10 (by decide)) rfl) (all_cons (hI.good 11 21 (hD 11 (by decide)) rfl) (all_cons (hI.good 12 22 (hD 12 (by decide)) rfl) (all_cons (hI.good 13 23 (hD 13 (by decide)) rfl) (all_cons (hI.good 14 24 (hD 14 (by decide)) rfl) (all_cons (hI.good 15 25 (hD 15 (by decide)) rfl) (all_cons (hI.good 16 26 (hD 16 (by decide)) rfl) (all_cons (hI.good 17 27 (hD 17 (by decide)) rfl) (all_cons (hI.good 18 28 (hD 18 (by decide)) rfl) (all_cons (hI.good 19 0 (hD 19 (by decide)) rfl) all_nil)))))))))))))))))))) rfl
    have hW := hI.world
    clear hI
    subst hfr
    simp only [List.foldl_cons, List.foldl_nil, List.setIfInBounds_toArray, List.set_cons_succ, List.set_cons_zero]
    have HB2 := Lib.hid (HB.out.trans (hW.mono HB.out.size))
    clear hW hD q0 q1 q2
    go_wp2
    go_ret
    exact ⟨rfl, HB2.out⟩
end Go.Proofs.YtdenboakcbipdaaDoor
