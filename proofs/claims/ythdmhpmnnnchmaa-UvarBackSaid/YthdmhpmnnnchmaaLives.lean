/-
  The statements' own example: lives answers true, and turns nothing that was there. Conditions: none.
-/
import Derived.Test.YthdmhpmnnnchmaaStr
import Derived.Test.YthdmhpmnnnchmaaRegion
namespace Go.Proofs.Ythdmhpmnnnchmaa
open Go.RowKit

theorem get_128_0 : Uv.get [128, 0] = (0, 0, 4) := by decide
theorem put_13 : Uv.put 13 = [13] := Uv.put_small (by decide)
theorem put_300 : Uv.put 300 = [172, 2] := by rw [Uv.put_large (by decide), Uv.put_small (by decide)]
theorem getInt_13 : getInt [13] = (-7, 1, 0) := by decide

theorem bytes_small : ∀ c ∈ [128, 0], c < 256 := by decide

/-- Put(nil, 300), as the region wants it. -/
def P300 (B : Nat) (W : World) (e : Ending) (w' : World) : Prop :=
  ∃ g cap cur, e = .returned (.slice (some ⟨g, 0, none⟩) 2 cap) ∧ Has w' g cur ∧
    (∀ V, Has V g cur → (convert 23 9 (.slice (some ⟨g, 0, none⟩) 2 cap)).run Try.prog V = .ok (.string (str [172, 2])) V) ∧
    (∀ g' cur', Has W g' cur' → Has w' g' cur') ∧ Below B W w'
theorem put300 (B : Nat) (W : World) (hB : B ≤ W.heap.size) : Calls Try.prog 9 #[.slice none 0 0, .int .u64 300] W (P300 B W) := by
  refine (put_own B (.slice none 0 0) 0 [] 300 W (by omega) (World.ownsRow_nil _ _ _ _) hB (by omega)).mono ?_
  rintro e w2 ⟨v2, rfl, hinv2⟩
  have hb2 := hinv2.below (World.ownsRow_nil _ _ _ _) hB
  have hown2 := hinv2.1
  rw [put_300] at hown2
  obtain ⟨g2, cap2, cur2, rfl, _, _, hhas2, hl2, ht2⟩ := own_str (l := [172, 2]) (n := 2) hown2 (by decide)
  exact ⟨g2, cap2, cur2, rfl, hhas2, fun V h => conv_own h hl2 ht2, fun g' cur' h => h.grown hinv2.2.1, hb2⟩

/-- What each operation of the last statement yields. -/
def LG : Nat → Value → World → Prop
  | 0, v, w => ∃ g cap cur, v = .slice (some ⟨g, 0, none⟩) 2 cap ∧ Has w g cur ∧ (∀ V, Has V g cur → (convert 23 9 (.slice (some ⟨g, 0, none⟩) 2 cap)).run Try.prog V = .ok (.string (str [172, 2])) V)
  | 1, v, _ => v = .string (str [172, 2])
  | 2, v, w => ∃ g, v = .slice (some ⟨g, 0, none⟩) 2 2 ∧ Has w g #[.int .u8 172, .int .u8 2]
  | 3, v, _ => v = .string (str [172, 2])
  | 6, v, _ => v = .int .i64 4
  | 10, v, _ => v = .int .i64 (-7)
  | 14, v, _ => v = .int .i64 1
  | 18, v, _ => v = .int .i64 0
  | 22, v, _ => v = .int .u64 1
  | _, v, _ => v = .bool true

theorem LG_mono {w w' : World} (h : ∀ g cur, Has w g cur → Has w' g cur) {j : Nat} {x : Value} (hx : LG j x w) : LG j x w' := by
  unfold LG at hx ⊢
  split at hx <;> first
    | exact hx
    | (obtain ⟨g, cap, cur, e, hh, hc⟩ := hx; exact ⟨g, cap, cur, e, h _ _ hh, hc⟩)
    | (obtain ⟨g, e, hh⟩ := hx; exact ⟨g, e, h _ _ hh⟩)

def LC (w0 : World) (W : World) : Prop := Below w0.heap.size w0 W ∧ w0.heap.size ≤ W.heap.size
theorem LC_below {w0 W W' : World} (h : LC w0 W) (hb : Below w0.heap.size W W') : LC w0 W' := ⟨h.1.trans hb, Nat.le_trans h.2 hb.size⟩
theorem LC_alloc {w0 W : World} (h : LC w0 W) (o : Obj) : LC w0 (W.alloc o) := ⟨h.1.alloc h.2 o, by have := h.2; simp; omega⟩

set_option maxHeartbeats 1000000 in
set_option maxRecDepth 100000 in
theorem lives_any (w : World) : Calls Try.prog 7 #[] w fun e w' => e = .returned (.bool true) ∧ Below w.heap.size w w' := by
  go_enter Try.func7, Try.ntmps7
  go_wp2_with (first
    | (go_at_call 11; refine (get_any _ 2 2 _ [128, 0] _ (bytesAt_own (Has.new w #[.int .u8 128, .int .u8 0]) rfl rfl bytes_small) (by omega)).mono ?_; rw [get_128_0]; unfold Triple; rintro e w' ⟨rfl, rfl⟩))
  refine (putInt_own w.heap.size (.slice none 0 0) 0 [] (-7) _ (by omega) (by omega) (World.ownsRow_nil _ _ _ _) (by simp) (by omega)).mono ?_
  rintro e w1 ⟨v1, rfl, hinv⟩
  have hb1 : Below w.heap.size w w1 := ((Below.refl _ _).alloc (Nat.le_refl _) _).trans (hinv.below (World.ownsRow_nil _ _ _ _) (by simp))
  have hown := hinv.1
  rw [show Uv.fold (-7) = 13 from by decide, put_13] at hown
  clear hinv
  obtain ⟨g, cap, cur, rfl, hg, _, hhas, hl, ht⟩ := own_str (l := [13]) (n := 1) hown (by decide)
  have HC := Lib.hid (getInt_any (some ⟨g, 0, none⟩) 1 cap _ [13] w1 (bytesAt_own hhas hl ht (by decide)) (by omega))
  rw [getInt_13] at HC
  have HB := Lib.hid hb1
  clear hl ht hown hhas hb1
  go_wp2_with (go_at_call 13; refine HC.out.mono ?_; unfold Triple; rintro e w' ⟨rfl, rfl⟩)
  have hw1 : w.heap.size ≤ w1.heap.size := HB.out.size
  have HW := Lib.hid HB.out
  generalize hw0 : w = w0 at *
  refine region_slots 46 [(3, .int .i64 4), (4, .int .i64 (-7)), (5, .int .i64 1), (6, .int .i64 0)] (LC w0) (fun _ => LG) (by kernel_rfl) (by kernel_rfl) (by kernel_rfl) rfl rfl (by intro p hp; simp only [List.mem_cons, List.not_mem_nil, or_false] at hp; rcases hp with rfl | rfl | rfl | rfl <;> rfl) ⟨HB.out.drew, hw1⟩ ?_ ?_
  · refine ⟨?_, ?_, ?_, ?_, ?_, ?_, ?_, ?_, ?_, ?_, ?_, ?_, ?_, ?_, ?_, ?_, ?_, ?_, ?_, ?_, ?_, ?_, ?_, ?_, ?_, ?_, ?_, ?_, trivial⟩
    · intro D a w hI hdep hD0 K hK
      refine ok_call (wanted_none rfl) (f := 9) (args := #[.slice none 0 0, .int .u64 300]) (by go_simp) (put300 w0.heap.size w hI.world.2) ?_
      rintro e w2 ⟨g2, cap2, cur2, rfl, hhas2, hc2, hk2, hb2⟩
      exact ⟨_, rfl, hK _ _ (LC_below hI.world hb2) (fun j x _ h => LG_mono hk2 h) ⟨g2, cap2, cur2, rfl, hhas2, hc2⟩⟩
    · intro D a w hI hdep hD0 K hK
      have e19 := hI.good 0 19 (dep_of hdep 0 rfl) rfl
      obtain ⟨g, cap, cur, e19, hh, hc⟩ := e19
      have hc' := hc w hh
      refine ok_value (wanted_none rfl) (v := .string (str [172, 2])) ?_ (hK _ _ hI.world (fun _ _ _ h => h) rfl)
      have ec : ∀ c, a.eval (.const c) = c := fun _ => rfl
      have ef : ∀ f, a.eval (.func f) = .func (.func f) #[] #[] := fun _ => rfl
      generalize a.eval = ρ at e19 ec ef ⊢
      go_simp
    · intro D a w hI hdep hD0 K hK
      refine ok_new (wanted_none rfl) (v := .slice (some ⟨w.heap.size, 0, none⟩) 2 2) (w' := w.alloc (.cells #[.int .u8 172, .int .u8 2] 5)) (by go_simp) ?_
      exact hK _ _ (LC_alloc hI.world _) (fun j x _ h => LG_mono (fun _ _ h => h.alloc _) h) ⟨_, rfl, Has.new _ _⟩
    · intro D a w hI hdep hD0 K hK
      have e21 := hI.good 2 21 (dep_of hdep 2 rfl) rfl
      obtain ⟨g, e21, hh⟩ := e21
      have hc' := conv_own (n := 2) (cap := 2) (l := [172, 2]) hh rfl rfl
      refine ok_value (wanted_none rfl) (v := .string (str [172, 2])) ?_ (hK _ _ hI.world (fun _ _ _ h => h) rfl)
      have ec : ∀ c, a.eval (.const c) = c := fun _ => rfl
      have ef : ∀ f, a.eval (.func f) = .func (.func f) #[] #[] := fun _ => rfl
      generalize a.eval = ρ at e21 ec ef ⊢
      go_simp
    · intro D a w hI hdep hD0 K hK
      have e20 : a.eval (.tmp 20) = .string (str [172, 2]) := hI.good 1 20 (dep_of hdep 1 rfl) rfl
      have e22 : a.eval (.tmp 22) = .string (str [172, 2]) := hI.good 3 22 (dep_of hdep 3 rfl) rfl
      refine ok_value (wanted_none rfl) (v := .bool true) ?_ (hK _ _ hI.world (fun _ _ _ h => h) rfl)
      have ec : ∀ c, a.eval (.const c) = c := fun _ => rfl
      have ef : ∀ f, a.eval (.func f) = .func (.func f) #[] #[] := fun _ => rfl
      generalize a.eval = ρ at e20 e22 ec ef ⊢
      go_simp
    · intro D a w hI hdep hD0 K hK
      have e23 : a.eval (.tmp 23) = .bool true := hI.good 4 23 (dep_of hdep 4 rfl) rfl
      refine ok_value (wanted_none rfl) (v := .bool true) ?_ (hK _ _ hI.world (fun _ _ _ h => h) rfl)
      have ec : ∀ c, a.eval (.const c) = c := fun _ => rfl
      have ef : ∀ f, a.eval (.func f) = .func (.func f) #[] #[] := fun _ => rfl
      generalize a.eval = ρ at e23 ec ef ⊢
      go_simp
    · intro D a w hI hdep hD0 K hK
      have eg : a.eval (.tmp 24) = .bool true := hI.good 5 24 (dep_of hdep 5 rfl) rfl
      have e3 : a.eval (.tmp 3) = .int .i64 4 := hI.fast (3, .int .i64 4) (by simp)
      refine ok_value (wanted_yes rfl rfl hI.size (by decide) eg) (v := .int .i64 4) ?_ (hK _ _ hI.world (fun _ _ _ h => h) rfl)
      have ec : ∀ c, a.eval (.const c) = c := fun _ => rfl
      have ef : ∀ f, a.eval (.func f) = .func (.func f) #[] #[] := fun _ => rfl
      generalize a.eval = ρ at eg e3 ec ef ⊢
      go_simp
    · intro D a w hI hdep hD0 K hK
      have eg : a.eval (.tmp 24) = .bool true := hI.good 5 24 (dep_of hdep 5 rfl) rfl
      have e25 : a.eval (.tmp 25) = .int .i64 4 := hI.good 6 25 (dep_of hdep 6 rfl) rfl
      refine ok_value (wanted_yes rfl rfl hI.size (by decide) eg) (v := .bool true) ?_ (hK _ _ hI.world (fun _ _ _ h => h) rfl)
      have ec : ∀ c, a.eval (.const c) = c := fun _ => rfl
      have ef : ∀ f, a.eval (.func f) = .func (.func f) #[] #[] := fun _ => rfl
      generalize a.eval = ρ at eg e25 ec ef ⊢
      go_simp
    · intro D a w hI hdep hD0 K hK
      have e24 : a.eval (.tmp 24) = .bool true := hI.good 5 24 (dep_of hdep 5 rfl) rfl
      have e26 : a.eval (.tmp 26) = .bool true := hI.good 7 26 (dep_of hdep 7 rfl) rfl
      refine ok_value (wanted_none rfl) (v := .bool true) ?_ (hK _ _ hI.world (fun _ _ _ h => h) rfl)
      have ec : ∀ c, a.eval (.const c) = c := fun _ => rfl
      have ef : ∀ f, a.eval (.func f) = .func (.func f) #[] #[] := fun _ => rfl
      generalize a.eval = ρ at e24 e26 ec ef ⊢
      go_simp
    · intro D a w hI hdep hD0 K hK
      have e27 : a.eval (.tmp 27) = .bool true := hI.good 8 27 (dep_of hdep 8 rfl) rfl
      refine ok_value (wanted_none rfl) (v := .bool true) ?_ (hK _ _ hI.world (fun _ _ _ h => h) rfl)
      have ec : ∀ c, a.eval (.const c) = c := fun _ => rfl
      have ef : ∀ f, a.eval (.func f) = .func (.func f) #[] #[] := fun _ => rfl
      generalize a.eval = ρ at e27 ec ef ⊢
      go_simp
    · intro D a w hI hdep hD0 K hK
      have eg : a.eval (.tmp 28) = .bool true := hI.good 9 28 (dep_of hdep 9 rfl) rfl
      have e4 : a.eval (.tmp 4) = .int .i64 (-7) := hI.fast (4, .int .i64 (-7)) (by simp)
      refine ok_value (wanted_yes rfl rfl hI.size (by decide) eg) (v := .int .i64 (-7)) ?_ (hK _ _ hI.world (fun _ _ _ h => h) rfl)
      have ec : ∀ c, a.eval (.const c) = c := fun _ => rfl
      have ef : ∀ f, a.eval (.func f) = .func (.func f) #[] #[] := fun _ => rfl
      generalize a.eval = ρ at eg e4 ec ef ⊢
      go_simp
    · intro D a w hI hdep hD0 K hK
      have eg : a.eval (.tmp 28) = .bool true := hI.good 9 28 (dep_of hdep 9 rfl) rfl
      have e29 : a.eval (.tmp 29) = .int .i64 (-7) := hI.good 10 29 (dep_of hdep 10 rfl) rfl
      refine ok_value (wanted_yes rfl rfl hI.size (by decide) eg) (v := .bool true) ?_ (hK _ _ hI.world (fun _ _ _ h => h) rfl)
      have ec : ∀ c, a.eval (.const c) = c := fun _ => rfl
      have ef : ∀ f, a.eval (.func f) = .func (.func f) #[] #[] := fun _ => rfl
      generalize a.eval = ρ at eg e29 ec ef ⊢
      go_simp
    · intro D a w hI hdep hD0 K hK
      have e28 : a.eval (.tmp 28) = .bool true := hI.good 9 28 (dep_of hdep 9 rfl) rfl
      have e30 : a.eval (.tmp 30) = .bool true := hI.good 11 30 (dep_of hdep 11 rfl) rfl
      refine ok_value (wanted_none rfl) (v := .bool true) ?_ (hK _ _ hI.world (fun _ _ _ h => h) rfl)
      have ec : ∀ c, a.eval (.const c) = c := fun _ => rfl
      have ef : ∀ f, a.eval (.func f) = .func (.func f) #[] #[] := fun _ => rfl
      generalize a.eval = ρ at e28 e30 ec ef ⊢
      go_simp
    · intro D a w hI hdep hD0 K hK
      have e31 : a.eval (.tmp 31) = .bool true := hI.good 12 31 (dep_of hdep 12 rfl) rfl
      refine ok_value (wanted_none rfl) (v := .bool true) ?_ (hK _ _ hI.world (fun _ _ _ h => h) rfl)
      have ec : ∀ c, a.eval (.const c) = c := fun _ => rfl
      have ef : ∀ f, a.eval (.func f) = .func (.func f) #[] #[] := fun _ => rfl
      generalize a.eval = ρ at e31 ec ef ⊢
      go_simp
    · intro D a w hI hdep hD0 K hK
      have eg : a.eval (.tmp 32) = .bool true := hI.good 13 32 (dep_of hdep 13 rfl) rfl
      have e5 : a.eval (.tmp 5) = .int .i64 1 := hI.fast (5, .int .i64 1) (by simp)
      refine ok_value (wanted_yes rfl rfl hI.size (by decide) eg) (v := .int .i64 1) ?_ (hK _ _ hI.world (fun _ _ _ h => h) rfl)
      have ec : ∀ c, a.eval (.const c) = c := fun _ => rfl
      have ef : ∀ f, a.eval (.func f) = .func (.func f) #[] #[] := fun _ => rfl
      generalize a.eval = ρ at eg e5 ec ef ⊢
      go_simp
    · intro D a w hI hdep hD0 K hK
      have eg : a.eval (.tmp 32) = .bool true := hI.good 13 32 (dep_of hdep 13 rfl) rfl
      have e33 : a.eval (.tmp 33) = .int .i64 1 := hI.good 14 33 (dep_of hdep 14 rfl) rfl
      refine ok_value (wanted_yes rfl rfl hI.size (by decide) eg) (v := .bool true) ?_ (hK _ _ hI.world (fun _ _ _ h => h) rfl)
      have ec : ∀ c, a.eval (.const c) = c := fun _ => rfl
      have ef : ∀ f, a.eval (.func f) = .func (.func f) #[] #[] := fun _ => rfl
      generalize a.eval = ρ at eg e33 ec ef ⊢
      go_simp
    · intro D a w hI hdep hD0 K hK
      have e32 : a.eval (.tmp 32) = .bool true := hI.good 13 32 (dep_of hdep 13 rfl) rfl
      have e34 : a.eval (.tmp 34) = .bool true := hI.good 15 34 (dep_of hdep 15 rfl) rfl
      refine ok_value (wanted_none rfl) (v := .bool true) ?_ (hK _ _ hI.world (fun _ _ _ h => h) rfl)
      have ec : ∀ c, a.eval (.const c) = c := fun _ => rfl
      have ef : ∀ f, a.eval (.func f) = .func (.func f) #[] #[] := fun _ => rfl
      generalize a.eval = ρ at e32 e34 ec ef ⊢
      go_simp
    · intro D a w hI hdep hD0 K hK
      have e35 : a.eval (.tmp 35) = .bool true := hI.good 16 35 (dep_of hdep 16 rfl) rfl
      refine ok_value (wanted_none rfl) (v := .bool true) ?_ (hK _ _ hI.world (fun _ _ _ h => h) rfl)
      have ec : ∀ c, a.eval (.const c) = c := fun _ => rfl
      have ef : ∀ f, a.eval (.func f) = .func (.func f) #[] #[] := fun _ => rfl
      generalize a.eval = ρ at e35 ec ef ⊢
      go_simp
    · intro D a w hI hdep hD0 K hK
      have eg : a.eval (.tmp 36) = .bool true := hI.good 17 36 (dep_of hdep 17 rfl) rfl
      have e6 : a.eval (.tmp 6) = .int .i64 0 := hI.fast (6, .int .i64 0) (by simp)
      refine ok_value (wanted_yes rfl rfl hI.size (by decide) eg) (v := .int .i64 0) ?_ (hK _ _ hI.world (fun _ _ _ h => h) rfl)
      have ec : ∀ c, a.eval (.const c) = c := fun _ => rfl
      have ef : ∀ f, a.eval (.func f) = .func (.func f) #[] #[] := fun _ => rfl
      generalize a.eval = ρ at eg e6 ec ef ⊢
      go_simp
    · intro D a w hI hdep hD0 K hK
      have eg : a.eval (.tmp 36) = .bool true := hI.good 17 36 (dep_of hdep 17 rfl) rfl
      have e37 : a.eval (.tmp 37) = .int .i64 0 := hI.good 18 37 (dep_of hdep 18 rfl) rfl
      refine ok_value (wanted_yes rfl rfl hI.size (by decide) eg) (v := .bool true) ?_ (hK _ _ hI.world (fun _ _ _ h => h) rfl)
      have ec : ∀ c, a.eval (.const c) = c := fun _ => rfl
      have ef : ∀ f, a.eval (.func f) = .func (.func f) #[] #[] := fun _ => rfl
      generalize a.eval = ρ at eg e37 ec ef ⊢
      go_simp
    · intro D a w hI hdep hD0 K hK
      have e36 : a.eval (.tmp 36) = .bool true := hI.good 17 36 (dep_of hdep 17 rfl) rfl
      have e38 : a.eval (.tmp 38) = .bool true := hI.good 19 38 (dep_of hdep 19 rfl) rfl
      refine ok_value (wanted_none rfl) (v := .bool true) ?_ (hK _ _ hI.world (fun _ _ _ h => h) rfl)
      have ec : ∀ c, a.eval (.const c) = c := fun _ => rfl
      have ef : ∀ f, a.eval (.func f) = .func (.func f) #[] #[] := fun _ => rfl
      generalize a.eval = ρ at e36 e38 ec ef ⊢
      go_simp
    · intro D a w hI hdep hD0 K hK
      have e39 : a.eval (.tmp 39) = .bool true := hI.good 20 39 (dep_of hdep 20 rfl) rfl
      refine ok_value (wanted_none rfl) (v := .bool true) ?_ (hK _ _ hI.world (fun _ _ _ h => h) rfl)
      have ec : ∀ c, a.eval (.const c) = c := fun _ => rfl
      have ef : ∀ f, a.eval (.func f) = .func (.func f) #[] #[] := fun _ => rfl
      generalize a.eval = ρ at e39 ec ef ⊢
      go_simp
    · intro D a w hI hdep hD0 K hK
      have eg : a.eval (.tmp 40) = .bool true := hI.good 21 40 (dep_of hdep 21 rfl) rfl
      refine ok_call (wanted_yes rfl rfl hI.size (by decide) eg) (f := 17) (args := #[.int .i64 (-1)]) (by go_simp) (fold_any (-1) w (by omega) (by omega)) ?_
      rintro e w2 ⟨rfl, rfl⟩
      exact ⟨_, rfl, hK _ _ hI.world (fun _ _ _ h => h) rfl⟩
    · intro D a w hI hdep hD0 K hK
      have eg : a.eval (.tmp 40) = .bool true := hI.good 21 40 (dep_of hdep 21 rfl) rfl
      have e41 : a.eval (.tmp 41) = .int .u64 1 := hI.good 22 41 (dep_of hdep 22 rfl) rfl
      refine ok_value (wanted_yes rfl rfl hI.size (by decide) eg) (v := .bool true) ?_ (hK _ _ hI.world (fun _ _ _ h => h) rfl)
      have ec : ∀ c, a.eval (.const c) = c := fun _ => rfl
      have ef : ∀ f, a.eval (.func f) = .func (.func f) #[] #[] := fun _ => rfl
      generalize a.eval = ρ at eg e41 ec ef ⊢
      go_simp
    · intro D a w hI hdep hD0 K hK
      have e40 : a.eval (.tmp 40) = .bool true := hI.good 21 40 (dep_of hdep 21 rfl) rfl
      have e42 : a.eval (.tmp 42) = .bool true := hI.good 23 42 (dep_of hdep 23 rfl) rfl
      refine ok_value (wanted_none rfl) (v := .bool true) ?_ (hK _ _ hI.world (fun _ _ _ h => h) rfl)
      have ec : ∀ c, a.eval (.const c) = c := fun _ => rfl
      have ef : ∀ f, a.eval (.func f) = .func (.func f) #[] #[] := fun _ => rfl
      generalize a.eval = ρ at e40 e42 ec ef ⊢
      go_simp
    · intro D a w hI hdep hD0 K hK
      have e43 : a.eval (.tmp 43) = .bool true := hI.good 24 43 (dep_of hdep 24 rfl) rfl
      refine ok_value (wanted_none rfl) (v := .bool true) ?_ (hK _ _ hI.world (fun _ _ _ h => h) rfl)
      have ec : ∀ c, a.eval (.const c) = c := fun _ => rfl
      have ef : ∀ f, a.eval (.func f) = .func (.func f) #[] #[] := fun _ => rfl
      generalize a.eval = ρ at e43 ec ef ⊢
      go_simp
    · intro D a w hI hdep hD0 K hK
      have e44 : a.eval (.tmp 44) = .bool true := hI.good 25 44 (dep_of hdep 25 rfl) rfl
      refine ok_value (wanted_none rfl) (v := .bool true) ?_ (hK _ _ hI.world (fun _ _ _ h => h) rfl)
      have ec : ∀ c, a.eval (.const c) = c := fun _ => rfl
      have ef : ∀ f, a.eval (.func f) = .func (.func f) #[] #[] := fun _ => rfl
      generalize a.eval = ρ at e44 ec ef ⊢
      go_simp
    · intro D a w hI hdep hD0 K hK
      have e45 : a.eval (.tmp 45) = .bool true := hI.good 26 45 (dep_of hdep 26 rfl) rfl
      refine ok_value (wanted_none rfl) (v := .bool true) ?_ (hK _ _ hI.world (fun _ _ _ h => h) rfl)
      have ec : ∀ c, a.eval (.const c) = c := fun _ => rfl
      have ef : ∀ f, a.eval (.func f) = .func (.func f) #[] #[] := fun _ => rfl
      generalize a.eval = ρ at e45 ec ef ⊢
      go_simp
  · intro D a w hI hD
    have e0 : a.eval (.tmp 0) = .bool true := hI.good 27 0 (hD 27 (by decide)) rfl
    have hd := hI.defers
    have hB := hI.world.1
    obtain ⟨tmps, defers⟩ := a
    simp only at hd
    subst hd
    clear hI hD
    go_wp2
    go_ret
    exact ⟨congrArg Ending.returned e0, hw0 ▸ hB⟩
end Go.Proofs.Ythdmhpmnnnchmaa
