/-
  SlotsRanges answers true. Conditions: the table of math/bits is laid.
-/
import Derived.Test.YtmeajdlgaipfiaaDoorSlL
import Derived.Test.YtmeajdlgaipfiaaDoorRegion
namespace Go.Proofs.YtmeajdlgaipfiaaDoor
open Go.RowKit

def RgG (s u d : Sl.Four) (f t : Int) (ib : Bool) : Nat → Value → Prop
  | 0, v => v = .int .i64 f
  | 1, v => v = .int .i64 t
  | 2, v => v = setV u
  | 3, v => v = .int .i64 f
  | 4, v => v = .int .i64 t
  | 5, v => v = setV u
  | 8, v => v = setV s
  | 9, v => v = .int .i64 t
  | 10, v => v = .bool ib
  | 11, v => v = setV s
  | 12, v => v = .int .i64 t
  | 13, v => v = setV d
  | 14, v => v = .bool ib
  | _, v => v = .bool true

set_option maxHeartbeats 1000000 in
set_option maxRecDepth 100000 in
theorem ranges_walk (s : Sl.Four) (hs : s.ok) (f t : Int) (w0 : World) (hT : Tab w0) (hw : 1 ≤ w0.heap.size) :
    Calls Tryd.prog 5 #[setV s, .int .i64 f, .int .i64 t] w0 (BoolP true w0) := by
  have HT0 := Lib.hid hT
  have HW := Lib.hid hw
  have HRg := Lib.hid (fun w => range_any f t w)
  have HRRg := Lib.hid (fun w => rrange_any f t w)
  have HR0 := Lib.hid (fun w => rrange_any 0 t w)
  have HBel := Lib.hid (fun w hT hw => below_any s hs t w hT hw)
  rw [Sl.below_eq hs] at HBel
  have HIn := Lib.hid (fun w => rinside_any s (Sl.range 0 t) hs (Sl.ok_range _ _) w)
  clear hT hw hs
  generalize s.inside (Sl.range 0 t) = ib at *
  generalize Sl.range 0 t = d at *
  generalize Sl.range f t = u at *
  go_enter Tryd.func5, Tryd.ntmps5
  go_wp2
  have HS := Lib.hid (SetAt.new w0 s)
  have HB := Lib.hid ((Below.refl _ w0).alloc (Nat.le_refl _) (.cells #[.int .u64 (s.a : Int), .int .u64 (s.b : Int), .int .u64 (s.c : Int), .int .u64 (s.d : Int)] 24))
  generalize w0.alloc (.cells #[.int .u64 (s.a : Int), .int .u64 (s.b : Int), .int .u64 (s.c : Int), .int .u64 (s.d : Int)] 24) = w3 at *
  have HT := Lib.hid (tab_below HT0.out HB.out HW.out)
  have HZ := Lib.hid (Nat.le_trans HW.out HB.out.size)
  refine region_slots 27 [(1, .int .i64 f), (2, .int .i64 t), (3, .pointer (some ⟨w0.heap.size, 0, none⟩))] (fun W => Below w3.heap.size w3 W) (fun _ i v _ => RgG s u d f t ib i v) (by kernel_rfl) (by kernel_rfl) (by kernel_rfl) rfl rfl (by intro p hp; simp only [List.mem_cons, List.not_mem_nil, or_false] at hp; rcases hp with rfl | rfl | rfl <;> rfl) ((Below.refl _ _).drew) ?_ ?_
  · refine ⟨?_, ?_, ?_, ?_, ?_, ?_, ?_, ?_, ?_, ?_, ?_, ?_, ?_, ?_, ?_, ?_, ?_, ?_, ?_, ?_, ?_, trivial⟩
    · intro D a w hI hdep hD0 K hK
      have e1 : a.eval (.tmp 1) = .int .i64 f := hI.fast (1, .int .i64 f) (by simp)
      refine ok_value (wanted_none rfl) (v := .int .i64 f) ?_ (hK _ _ hI.world (fun _ _ _ h => h) rfl)
      have ec : ∀ c, a.eval (.const c) = c := fun _ => rfl
      have ef : ∀ f, a.eval (.func f) = .func (.func f) #[] #[] := fun _ => rfl
      generalize a.eval = ρ at e1 ec ef ⊢
      go_simp
    · intro D a w hI hdep hD0 K hK
      have e2 : a.eval (.tmp 2) = .int .i64 t := hI.fast (2, .int .i64 t) (by simp)
      refine ok_value (wanted_none rfl) (v := .int .i64 t) ?_ (hK _ _ hI.world (fun _ _ _ h => h) rfl)
      have ec : ∀ c, a.eval (.const c) = c := fun _ => rfl
      have ef : ∀ f, a.eval (.func f) = .func (.func f) #[] #[] := fun _ => rfl
      generalize a.eval = ρ at e2 ec ef ⊢
      go_simp
    · intro D a w hI hdep hD0 K hK
      have e7 : a.eval (.tmp 7) = .int .i64 f := hI.good 0 7 (dep_of hdep 0 rfl) rfl
      have e8 : a.eval (.tmp 8) = .int .i64 t := hI.good 1 8 (dep_of hdep 1 rfl) rfl
      refine ok_call (wanted_none rfl) (f := 22) (args := #[.int .i64 f, .int .i64 t]) ?_ (HRg.out w) ?_
      · have ec : ∀ c, a.eval (.const c) = c := fun _ => rfl
        have ef : ∀ f, a.eval (.func f) = .func (.func f) #[] #[] := fun _ => rfl
        generalize a.eval = ρ at e7 e8 ec ef ⊢
        go_simp
      rintro e w2 ⟨rfl, hb2⟩
      exact ⟨_, rfl, hK _ _ (hI.world.trans (hb2.mono hI.world.size)) (fun _ _ _ h => h) rfl⟩
    · intro D a w hI hdep hD0 K hK
      have e1 : a.eval (.tmp 1) = .int .i64 f := hI.fast (1, .int .i64 f) (by simp)
      refine ok_value (wanted_none rfl) (v := .int .i64 f) ?_ (hK _ _ hI.world (fun _ _ _ h => h) rfl)
      have ec : ∀ c, a.eval (.const c) = c := fun _ => rfl
      have ef : ∀ f, a.eval (.func f) = .func (.func f) #[] #[] := fun _ => rfl
      generalize a.eval = ρ at e1 ec ef ⊢
      go_simp
    · intro D a w hI hdep hD0 K hK
      have e2 : a.eval (.tmp 2) = .int .i64 t := hI.fast (2, .int .i64 t) (by simp)
      refine ok_value (wanted_none rfl) (v := .int .i64 t) ?_ (hK _ _ hI.world (fun _ _ _ h => h) rfl)
      have ec : ∀ c, a.eval (.const c) = c := fun _ => rfl
      have ef : ∀ f, a.eval (.func f) = .func (.func f) #[] #[] := fun _ => rfl
      generalize a.eval = ρ at e2 ec ef ⊢
      go_simp
    · intro D a w hI hdep hD0 K hK
      have e10 : a.eval (.tmp 10) = .int .i64 f := hI.good 3 10 (dep_of hdep 3 rfl) rfl
      have e11 : a.eval (.tmp 11) = .int .i64 t := hI.good 4 11 (dep_of hdep 4 rfl) rfl
      refine ok_call (wanted_none rfl) (f := 23) (args := #[.int .i64 f, .int .i64 t]) ?_ (HRRg.out w) ?_
      · have ec : ∀ c, a.eval (.const c) = c := fun _ => rfl
        have ef : ∀ f, a.eval (.func f) = .func (.func f) #[] #[] := fun _ => rfl
        generalize a.eval = ρ at e10 e11 ec ef ⊢
        go_simp
      rintro e w2 ⟨rfl, hb2⟩
      exact ⟨_, rfl, hK _ _ (hI.world.trans (hb2.mono hI.world.size)) (fun _ _ _ h => h) rfl⟩
    · intro D a w hI hdep hD0 K hK
      have e9 : a.eval (.tmp 9) = setV u := hI.good 2 9 (dep_of hdep 2 rfl) rfl
      have e12 : a.eval (.tmp 12) = setV u := hI.good 5 12 (dep_of hdep 5 rfl) rfl
      have eq := eq_same u
      refine ok_value (wanted_none rfl) (v := .bool true) ?_ (hK _ _ hI.world (fun _ _ _ h => h) rfl)
      have ec : ∀ c, a.eval (.const c) = c := fun _ => rfl
      have ef : ∀ f, a.eval (.func f) = .func (.func f) #[] #[] := fun _ => rfl
      generalize a.eval = ρ at e9 e12 eq ec ef ⊢
      go_simp
    · intro D a w hI hdep hD0 K hK
      have e13 : a.eval (.tmp 13) = .bool true := hI.good 6 13 (dep_of hdep 6 rfl) rfl
      refine ok_value (wanted_none rfl) (v := .bool true) ?_ (hK _ _ hI.world (fun _ _ _ h => h) rfl)
      have ec : ∀ c, a.eval (.const c) = c := fun _ => rfl
      have ef : ∀ f, a.eval (.func f) = .func (.func f) #[] #[] := fun _ => rfl
      generalize a.eval = ρ at e13 ec ef ⊢
      go_simp
    · intro D a w hI hdep hD0 K hK
      have eg : a.eval (.tmp 14) = .bool true := hI.good 7 14 (dep_of hdep 7 rfl) rfl
      have e3 : a.eval (.tmp 3) = .pointer (some ⟨w0.heap.size, 0, none⟩) := hI.fast (3, .pointer (some ⟨w0.heap.size, 0, none⟩)) (by simp)
      obtain ⟨⟨c0, c1, c2, c3⟩, _⟩ := (HS.out.below hI.world HS.out.lt).reads
      refine ok_value (wanted_yes rfl rfl hI.size (by decide) eg) (v := setV s) ?_ (hK _ _ hI.world (fun _ _ _ h => h) rfl)
      have ec : ∀ c, a.eval (.const c) = c := fun _ => rfl
      have ef : ∀ f, a.eval (.func f) = .func (.func f) #[] #[] := fun _ => rfl
      generalize a.eval = ρ at eg e3 ec ef ⊢
      go_simp
    · intro D a w hI hdep hD0 K hK
      have eg : a.eval (.tmp 14) = .bool true := hI.good 7 14 (dep_of hdep 7 rfl) rfl
      have e2 : a.eval (.tmp 2) = .int .i64 t := hI.fast (2, .int .i64 t) (by simp)
      refine ok_value (wanted_yes rfl rfl hI.size (by decide) eg) (v := .int .i64 t) ?_ (hK _ _ hI.world (fun _ _ _ h => h) rfl)
      have ec : ∀ c, a.eval (.const c) = c := fun _ => rfl
      have ef : ∀ f, a.eval (.func f) = .func (.func f) #[] #[] := fun _ => rfl
      generalize a.eval = ρ at eg e2 ec ef ⊢
      go_simp
    · intro D a w hI hdep hD0 K hK
      have eg : a.eval (.tmp 14) = .bool true := hI.good 7 14 (dep_of hdep 7 rfl) rfl
      have e15 : a.eval (.tmp 15) = setV s := hI.good 8 15 (dep_of hdep 8 rfl) rfl
      have e16 : a.eval (.tmp 16) = .int .i64 t := hI.good 9 16 (dep_of hdep 9 rfl) rfl
      refine ok_call (wanted_yes rfl rfl hI.size (by decide) eg) (f := 24) (args := #[setV s, .int .i64 t]) ?_ (HBel.out w (tab_below HT.out hI.world HZ.out) (Nat.le_trans HZ.out hI.world.size)) ?_
      · have ec : ∀ c, a.eval (.const c) = c := fun _ => rfl
        have ef : ∀ f, a.eval (.func f) = .func (.func f) #[] #[] := fun _ => rfl
        generalize a.eval = ρ at eg e15 e16 ec ef ⊢
        go_simp
      rintro e w2 ⟨rfl, hb2⟩
      exact ⟨_, rfl, hK _ _ (hI.world.trans (hb2.mono hI.world.size)) (fun _ _ _ h => h) rfl⟩
    · intro D a w hI hdep hD0 K hK
      have eg : a.eval (.tmp 14) = .bool true := hI.good 7 14 (dep_of hdep 7 rfl) rfl
      have e3 : a.eval (.tmp 3) = .pointer (some ⟨w0.heap.size, 0, none⟩) := hI.fast (3, .pointer (some ⟨w0.heap.size, 0, none⟩)) (by simp)
      obtain ⟨⟨c0, c1, c2, c3⟩, _⟩ := (HS.out.below hI.world HS.out.lt).reads
      refine ok_value (wanted_yes rfl rfl hI.size (by decide) eg) (v := setV s) ?_ (hK _ _ hI.world (fun _ _ _ h => h) rfl)
      have ec : ∀ c, a.eval (.const c) = c := fun _ => rfl
      have ef : ∀ f, a.eval (.func f) = .func (.func f) #[] #[] := fun _ => rfl
      generalize a.eval = ρ at eg e3 ec ef ⊢
      go_simp
    · intro D a w hI hdep hD0 K hK
      have eg : a.eval (.tmp 14) = .bool true := hI.good 7 14 (dep_of hdep 7 rfl) rfl
      have e2 : a.eval (.tmp 2) = .int .i64 t := hI.fast (2, .int .i64 t) (by simp)
      refine ok_value (wanted_yes rfl rfl hI.size (by decide) eg) (v := .int .i64 t) ?_ (hK _ _ hI.world (fun _ _ _ h => h) rfl)
      have ec : ∀ c, a.eval (.const c) = c := fun _ => rfl
      have ef : ∀ f, a.eval (.func f) = .func (.func f) #[] #[] := fun _ => rfl
      generalize a.eval = ρ at eg e2 ec ef ⊢
      go_simp
    · intro D a w hI hdep hD0 K hK
      have eg : a.eval (.tmp 14) = .bool true := hI.good 7 14 (dep_of hdep 7 rfl) rfl
      have e19 : a.eval (.tmp 19) = .int .i64 t := hI.good 12 19 (dep_of hdep 12 rfl) rfl
      refine ok_call (wanted_yes rfl rfl hI.size (by decide) eg) (f := 23) (args := #[.int .i64 0, .int .i64 t]) ?_ (HR0.out w) ?_
      · have ec : ∀ c, a.eval (.const c) = c := fun _ => rfl
        have ef : ∀ f, a.eval (.func f) = .func (.func f) #[] #[] := fun _ => rfl
        generalize a.eval = ρ at eg e19 ec ef ⊢
        go_simp
      rintro e w2 ⟨rfl, hb2⟩
      exact ⟨_, rfl, hK _ _ (hI.world.trans (hb2.mono hI.world.size)) (fun _ _ _ h => h) rfl⟩
    · intro D a w hI hdep hD0 K hK
      have eg : a.eval (.tmp 14) = .bool true := hI.good 7 14 (dep_of hdep 7 rfl) rfl
      have e18 : a.eval (.tmp 18) = setV s := hI.good 11 18 (dep_of hdep 11 rfl) rfl
      have e20 : a.eval (.tmp 20) = setV d := hI.good 13 20 (dep_of hdep 13 rfl) rfl
      refine ok_call (wanted_yes rfl rfl hI.size (by decide) eg) (f := 19) (args := #[setV s, setV d]) ?_ (HIn.out w) ?_
      · have ec : ∀ c, a.eval (.const c) = c := fun _ => rfl
        have ef : ∀ f, a.eval (.func f) = .func (.func f) #[] #[] := fun _ => rfl
        generalize a.eval = ρ at eg e18 e20 ec ef ⊢
        go_simp
      rintro e w2 ⟨rfl, hb2⟩
      exact ⟨_, rfl, hK _ _ (hI.world.trans (hb2.mono hI.world.size)) (fun _ _ _ h => h) rfl⟩
    · intro D a w hI hdep hD0 K hK
      have eg : a.eval (.tmp 14) = .bool true := hI.good 7 14 (dep_of hdep 7 rfl) rfl
      have e17 : a.eval (.tmp 17) = .bool ib := hI.good 10 17 (dep_of hdep 10 rfl) rfl
      have e21 : a.eval (.tmp 21) = .bool ib := hI.good 14 21 (dep_of hdep 14 rfl) rfl
      refine ok_value (wanted_yes rfl rfl hI.size (by decide) eg) (v := .bool true) ?_ (hK _ _ hI.world (fun _ _ _ h => h) rfl)
      have ec : ∀ c, a.eval (.const c) = c := fun _ => rfl
      have ef : ∀ f, a.eval (.func f) = .func (.func f) #[] #[] := fun _ => rfl
      generalize a.eval = ρ at eg e17 e21 ec ef ⊢
      go_simp
    · intro D a w hI hdep hD0 K hK
      have e14 : a.eval (.tmp 14) = .bool true := hI.good 7 14 (dep_of hdep 7 rfl) rfl
      have e22 : a.eval (.tmp 22) = .bool true := hI.good 15 22 (dep_of hdep 15 rfl) rfl
      refine ok_value (wanted_none rfl) (v := .bool true) ?_ (hK _ _ hI.world (fun _ _ _ h => h) rfl)
      have ec : ∀ c, a.eval (.const c) = c := fun _ => rfl
      have ef : ∀ f, a.eval (.func f) = .func (.func f) #[] #[] := fun _ => rfl
      generalize a.eval = ρ at e14 e22 ec ef ⊢
      go_simp
    · intro D a w hI hdep hD0 K hK
      have e23 : a.eval (.tmp 23) = .bool true := hI.good 16 23 (dep_of hdep 16 rfl) rfl
      refine ok_value (wanted_none rfl) (v := .bool true) ?_ (hK _ _ hI.world (fun _ _ _ h => h) rfl)
      have ec : ∀ c, a.eval (.const c) = c := fun _ => rfl
      have ef : ∀ f, a.eval (.func f) = .func (.func f) #[] #[] := fun _ => rfl
      generalize a.eval = ρ at e23 ec ef ⊢
      go_simp
    · intro D a w hI hdep hD0 K hK
      have eg : a.eval (.tmp 24) = .bool true := hI.good 17 24 (dep_of hdep 17 rfl) rfl
      refine ok_call (wanted_yes rfl rfl hI.size (by decide) eg) (f := 7) (args := #[]) ?_ (lives_any w (tab_below HT.out hI.world HZ.out) (Nat.le_trans HZ.out hI.world.size)) ?_
      · have ec : ∀ c, a.eval (.const c) = c := fun _ => rfl
        have ef : ∀ f, a.eval (.func f) = .func (.func f) #[] #[] := fun _ => rfl
        generalize a.eval = ρ at eg ec ef ⊢
        go_simp
      rintro e w2 ⟨rfl, hb2⟩
      exact ⟨_, rfl, hK _ _ (hI.world.trans (hb2.mono hI.world.size)) (fun _ _ _ h => h) rfl⟩
    · intro D a w hI hdep hD0 K hK
      have e24 : a.eval (.tmp 24) = .bool true := hI.good 17 24 (dep_of hdep 17 rfl) rfl
      have e25 : a.eval (.tmp 25) = .bool true := hI.good 18 25 (dep_of hdep 18 rfl) rfl
      refine ok_value (wanted_none rfl) (v := .bool true) ?_ (hK _ _ hI.world (fun _ _ _ h => h) rfl)
      have ec : ∀ c, a.eval (.const c) = c := fun _ => rfl
      have ef : ∀ f, a.eval (.func f) = .func (.func f) #[] #[] := fun _ => rfl
      generalize a.eval = ρ at e24 e25 ec ef ⊢
      go_simp
    · intro D a w hI hdep hD0 K hK
      have e26 : a.eval (.tmp 26) = .bool true := hI.good 19 26 (dep_of hdep 19 rfl) rfl
      refine ok_value (wanted_none rfl) (v := .bool true) ?_ (hK _ _ hI.world (fun _ _ _ h => h) rfl)
      have ec : ∀ c, a.eval (.const c) = c := fun _ => rfl
      have ef : ∀ f, a.eval (.func f) = .func (.func f) #[] #[] := fun _ => rfl
      generalize a.eval = ρ at e26 ec ef ⊢
      go_simp
  · intro D a w2 hI hD
    have e0 : a.eval (.tmp 6) = .bool true := hI.good 20 6 (hD 20 (by decide)) rfl
    have hd := hI.defers
    have hB := hI.world
    obtain ⟨tmps, defers⟩ := a
    simp only at hd
    subst hd
    clear hI hD
    go_wp2
    go_ret
    exact ⟨congrArg Ending.returned e0, HB.out.trans (hB.mono HB.out.size)⟩
end Go.Proofs.YtmeajdlgaipfiaaDoor
