/-
  SlotsHas answers true. Conditions: the table of math/bits is laid.
-/
import Derived.Test.YtmeajdlgaipfiaaDoorSlL
import Derived.Test.YtmeajdlgaipfiaaDoorRegion
namespace Go.Proofs.YtmeajdlgaipfiaaDoor
open Go.RowKit

theorem ints_le {w w' : World} {B : Nat} {a : Option Addr} {n : Nat} {l : List Int} (h : IntsAt w B a n l) (hb : Below B w w') (hB : B ≤ w'.heap.size) : IntsAt w' w'.heap.size a n l := (h.below hb).more hB

def HasG (s t u d o : Sl.Four) (n : Int) (hb : Bool) (A : Option Addr) (k c : Nat) : Nat → Value → Prop
  | 0, v => v = setV s
  | 1, v => v = .int .i64 n
  | 2, v => v = .bool hb
  | 3, v => v = setV s
  | 4, v => v = .int .i64 n
  | 5, v => v = .bool hb
  | 8, v => v = setV s
  | 9, v => v = .int .i64 n
  | 10, v => v = setV u
  | 11, v => v = setV s
  | 12, v => v = setV t
  | 13, v => v = setV u
  | 17, v => v = setV s
  | 18, v => v = .int .i64 n
  | 19, v => v = setV d
  | 20, v => v = setV s
  | 21, v => v = setV t
  | 22, v => v = setV d
  | 26, v => v = .slice A k c
  | 27, v => v = setV o
  | 28, v => v = .slice A k c
  | 29, v => v = setV o
  | _, v => v = .bool true

set_option maxHeartbeats 1000000 in
set_option maxRecDepth 100000 in
theorem has_walk (s : Sl.Four) (hs : s.ok) (n : Int) (A : Option Addr) (k c : Nat) (l : List Int) (w0 : World) (hI : IntsAt w0 w0.heap.size A k l) (hk : k ≤ 9223372036854775807) (hT : Tab w0) (hw : 1 ≤ w0.heap.size) :
    Calls Tryd.prog 3 #[setV s, .int .i64 n, .slice A k c] w0 (BoolP true w0) := by
  have HT0 := Lib.hid hT
  have HW := Lib.hid hw
  have HI0 := Lib.hid hI
  have HSok := Lib.hid hs
  clear hT hw hI hs
  by_cases h100 : 100 < k
  · go_enter Tryd.func3, Tryd.ntmps3
    go_wp2_with (go_at_call 7; refine (lives_any _ (tab_below HT0.out ((Below.refl _ _).alloc (Nat.le_refl _) _) HW.out) (by have := HW.out; simp)).mono ?_; rintro e w' ⟨rfl, hb⟩; have HB := Lib.hid hb; clear hb)
    go_ret
    exact ⟨rfl, ((Below.refl _ _).alloc (Nat.le_refl _) _).trans (HB.out.mono (by simp))⟩
  · have h100' : k ≤ 100 := by omega
    have HHas := Lib.hid (fun w => has_any s HSok.out n w)
    have HRHas := Lib.hid (fun w => rhas_any s n w)
    have HWith := Lib.hid (fun w => with_any s HSok.out n w)
    have HWo := Lib.hid (fun w => without_any s HSok.out n w)
    have HOr := Lib.hid (fun w => ror_set s (Sl.of [n]) HSok.out (Sl.ok_of _) w)
    have HSub := Lib.hid (fun w => rsub_set s (Sl.of [n]) HSok.out (Sl.ok_of _) w)
    have hOne := rof_any _ 1 1 [n] _ (ints_new1 (w0.alloc (.cells #[.int .u64 (s.a : Int), .int .u64 (s.b : Int), .int .u64 (s.c : Int), .int .u64 (s.d : Int)] 24)) n 3) (by omega)
    simp only [World.size_alloc] at hOne
    have HOne := Lib.hid hOne
    clear hOne
    rw [Sl.with_or HSok.out] at HWith
    rw [Sl.without_sub HSok.out] at HWo
    have HOf := Lib.hid (fun w (h : IntsAt w w.heap.size A k l) => of_any A k c l w h hk)
    have HROf := Lib.hid (fun w (h : IntsAt w w.heap.size A k l) => rof_any A k c l w h hk)
    clear HSok
    generalize s.or (Sl.of [n]) = u at *
    generalize s.sub (Sl.of [n]) = d at *
    generalize Sl.of [n] = t at *
    generalize Sl.of l = o at *
    generalize s.hasI n = hb at *
    go_enter Tryd.func3, Tryd.ntmps3
    go_wp2_with fail
    refine HOne.out.mono ?_
    rintro e w1 ⟨rfl, hb1⟩
    have HB1 := Lib.hid ((((Below.refl _ w0).alloc (Nat.le_refl _) _).alloc (by simp) _).trans (hb1.mono (by simp; omega)))
    have HS0 := Lib.hid (((SetAt.new w0 s).alloc (.cells #[.int .i64 n] 3)).below hb1 (by simp; omega))
    clear hb1
    go_wp2
    have HS := Lib.hid (HS0.out.alloc (.cells #[.int .u64 (t.a : Int), .int .u64 (t.b : Int), .int .u64 (t.c : Int), .int .u64 (t.d : Int)] 24))
    have H1 := Lib.hid (SetAt.new w1 t)
    have HB := Lib.hid (HB1.out.alloc HB1.out.size (.cells #[.int .u64 (t.a : Int), .int .u64 (t.b : Int), .int .u64 (t.c : Int), .int .u64 (t.d : Int)] 24))
    obtain ⟨g7, hg7⟩ : ∃ g, w1.heap.size = g := ⟨_, rfl⟩
    rw [hg7] at H1
    simp only [hg7]
    generalize w1.alloc (.cells #[.int .u64 (t.a : Int), .int .u64 (t.b : Int), .int .u64 (t.c : Int), .int .u64 (t.d : Int)] 24) = w3 at *
    have HT := Lib.hid (tab_below HT0.out HB.out HW.out)
    have HZ := Lib.hid (Nat.le_trans HW.out HB.out.size)
    have HI := Lib.hid ((HI0.out.below HB.out).more HB.out.size)
    clear hg7 HS0 HB1 HI0 HT0
    refine region_slots 50 [(1, .int .i64 n), (2, .slice A k c), (3, .pointer (some ⟨w0.heap.size, 0, none⟩)), (7, .pointer (some ⟨g7, 0, none⟩))] (fun W => Below w3.heap.size w3 W) (fun _ i v _ => HasG s t u d o n hb A k c i v) (by kernel_rfl) (by kernel_rfl) (by kernel_rfl) rfl rfl (by intro p hp; simp only [List.mem_cons, List.not_mem_nil, or_false] at hp; rcases hp with rfl | rfl | rfl | rfl <;> rfl) ((Below.refl _ _).drew) ?_ ?_
    · refine ⟨?_, ?_, ?_, ?_, ?_, ?_, ?_, ?_, ?_, ?_, ?_, ?_, ?_, ?_, ?_, ?_, ?_, ?_, ?_, ?_, ?_, ?_, ?_, ?_, ?_, ?_, ?_, ?_, ?_, ?_, ?_, ?_, ?_, ?_, ?_, ?_, trivial⟩
      · intro D a w hI hdep hD0 K hK
        have e3 : a.eval (.tmp 3) = .pointer (some ⟨w0.heap.size, 0, none⟩) := hI.fast (3, .pointer (some ⟨w0.heap.size, 0, none⟩)) (by simp)
        obtain ⟨⟨c0, c1, c2, c3⟩, _⟩ := (HS.out.below hI.world HS.out.lt).reads
        refine ok_value (wanted_none rfl) (v := setV s) ?_ (hK _ _ hI.world (fun _ _ _ h => h) rfl)
        have ec : ∀ c, a.eval (.const c) = c := fun _ => rfl
        have ef : ∀ f, a.eval (.func f) = .func (.func f) #[] #[] := fun _ => rfl
        generalize a.eval = ρ at e3 ec ef ⊢
        go_simp
      · intro D a w hI hdep hD0 K hK
        have e1 : a.eval (.tmp 1) = .int .i64 n := hI.fast (1, .int .i64 n) (by simp)
        refine ok_value (wanted_none rfl) (v := .int .i64 n) ?_ (hK _ _ hI.world (fun _ _ _ h => h) rfl)
        have ec : ∀ c, a.eval (.const c) = c := fun _ => rfl
        have ef : ∀ f, a.eval (.func f) = .func (.func f) #[] #[] := fun _ => rfl
        generalize a.eval = ρ at e1 ec ef ⊢
        go_simp
      · intro D a w hI hdep hD0 K hK
        have e15 : a.eval (.tmp 15) = setV s := hI.good 0 15 (dep_of hdep 0 rfl) rfl
        have e16 : a.eval (.tmp 16) = .int .i64 n := hI.good 1 16 (dep_of hdep 1 rfl) rfl
        refine ok_call (wanted_none rfl) (f := 9) (args := #[setV s, .int .i64 n]) ?_ (HHas.out w) ?_
        · have ec : ∀ c, a.eval (.const c) = c := fun _ => rfl
          have ef : ∀ f, a.eval (.func f) = .func (.func f) #[] #[] := fun _ => rfl
          generalize a.eval = ρ at e15 e16 ec ef ⊢
          go_simp
        rintro e w2 ⟨rfl, hb2⟩
        exact ⟨_, rfl, hK _ _ (hI.world.trans (hb2.mono hI.world.size)) (fun _ _ _ h => h) rfl⟩
      · intro D a w hI hdep hD0 K hK
        have e3 : a.eval (.tmp 3) = .pointer (some ⟨w0.heap.size, 0, none⟩) := hI.fast (3, .pointer (some ⟨w0.heap.size, 0, none⟩)) (by simp)
        obtain ⟨⟨c0, c1, c2, c3⟩, _⟩ := (HS.out.below hI.world HS.out.lt).reads
        refine ok_value (wanted_none rfl) (v := setV s) ?_ (hK _ _ hI.world (fun _ _ _ h => h) rfl)
        have ec : ∀ c, a.eval (.const c) = c := fun _ => rfl
        have ef : ∀ f, a.eval (.func f) = .func (.func f) #[] #[] := fun _ => rfl
        generalize a.eval = ρ at e3 ec ef ⊢
        go_simp
      · intro D a w hI hdep hD0 K hK
        have e1 : a.eval (.tmp 1) = .int .i64 n := hI.fast (1, .int .i64 n) (by simp)
        refine ok_value (wanted_none rfl) (v := .int .i64 n) ?_ (hK _ _ hI.world (fun _ _ _ h => h) rfl)
        have ec : ∀ c, a.eval (.const c) = c := fun _ => rfl
        have ef : ∀ f, a.eval (.func f) = .func (.func f) #[] #[] := fun _ => rfl
        generalize a.eval = ρ at e1 ec ef ⊢
        go_simp
      · intro D a w hI hdep hD0 K hK
        have e18 : a.eval (.tmp 18) = setV s := hI.good 3 18 (dep_of hdep 3 rfl) rfl
        have e19 : a.eval (.tmp 19) = .int .i64 n := hI.good 4 19 (dep_of hdep 4 rfl) rfl
        refine ok_call (wanted_none rfl) (f := 10) (args := #[setV s, .int .i64 n]) ?_ (HRHas.out w) ?_
        · have ec : ∀ c, a.eval (.const c) = c := fun _ => rfl
          have ef : ∀ f, a.eval (.func f) = .func (.func f) #[] #[] := fun _ => rfl
          generalize a.eval = ρ at e18 e19 ec ef ⊢
          go_simp
        rintro e w2 ⟨rfl, hb2⟩
        exact ⟨_, rfl, hK _ _ (hI.world.trans (hb2.mono hI.world.size)) (fun _ _ _ h => h) rfl⟩
      · intro D a w hI hdep hD0 K hK
        have e17 : a.eval (.tmp 17) = .bool hb := hI.good 2 17 (dep_of hdep 2 rfl) rfl
        have e20 : a.eval (.tmp 20) = .bool hb := hI.good 5 20 (dep_of hdep 5 rfl) rfl
        refine ok_value (wanted_none rfl) (v := .bool true) ?_ (hK _ _ hI.world (fun _ _ _ h => h) rfl)
        have ec : ∀ c, a.eval (.const c) = c := fun _ => rfl
        have ef : ∀ f, a.eval (.func f) = .func (.func f) #[] #[] := fun _ => rfl
        generalize a.eval = ρ at e17 e20 ec ef ⊢
        go_simp
      · intro D a w hI hdep hD0 K hK
        have e21 : a.eval (.tmp 21) = .bool true := hI.good 6 21 (dep_of hdep 6 rfl) rfl
        refine ok_value (wanted_none rfl) (v := .bool true) ?_ (hK _ _ hI.world (fun _ _ _ h => h) rfl)
        have ec : ∀ c, a.eval (.const c) = c := fun _ => rfl
        have ef : ∀ f, a.eval (.func f) = .func (.func f) #[] #[] := fun _ => rfl
        generalize a.eval = ρ at e21 ec ef ⊢
        go_simp
      · intro D a w hI hdep hD0 K hK
        have eg : a.eval (.tmp 22) = .bool true := hI.good 7 22 (dep_of hdep 7 rfl) rfl
        have e3 : a.eval (.tmp 3) = .pointer (some ⟨w0.heap.size, 0, none⟩) := hI.fast (3, .pointer (some ⟨w0.heap.size, 0, none⟩)) (by simp)
        obtain ⟨⟨c0, c1, c2, c3⟩, _⟩ := (HS.out.below hI.world HS.out.lt).reads
        refine ok_value (wanted_yes rfl rfl hI.size (by decide) eg) (v := setV s) ?_ (hK _ _ hI.world (fun _ _ _ h => h) rfl)
        have ec : ∀ c, a.eval (.const c) = c := fun _ => rfl
        have ef : ∀ f, a.eval (.func f) = .func (.func f) #[] #[] := fun _ => rfl
        generalize a.eval = ρ at eg e3 ec ef ⊢
        go_simp
      · intro D a w hI hdep hD0 K hK
        have eg : a.eval (.tmp 22) = .bool true := hI.good 7 22 (dep_of hdep 7 rfl) rfl
        have e1 : a.eval (.tmp 1) = .int .i64 n := hI.fast (1, .int .i64 n) (by simp)
        refine ok_value (wanted_yes rfl rfl hI.size (by decide) eg) (v := .int .i64 n) ?_ (hK _ _ hI.world (fun _ _ _ h => h) rfl)
        have ec : ∀ c, a.eval (.const c) = c := fun _ => rfl
        have ef : ∀ f, a.eval (.func f) = .func (.func f) #[] #[] := fun _ => rfl
        generalize a.eval = ρ at eg e1 ec ef ⊢
        go_simp
      · intro D a w hI hdep hD0 K hK
        have eg : a.eval (.tmp 22) = .bool true := hI.good 7 22 (dep_of hdep 7 rfl) rfl
        have e23 : a.eval (.tmp 23) = setV s := hI.good 8 23 (dep_of hdep 8 rfl) rfl
        have e24 : a.eval (.tmp 24) = .int .i64 n := hI.good 9 24 (dep_of hdep 9 rfl) rfl
        refine ok_call (wanted_yes rfl rfl hI.size (by decide) eg) (f := 11) (args := #[setV s, .int .i64 n]) ?_ (HWith.out w) ?_
        · have ec : ∀ c, a.eval (.const c) = c := fun _ => rfl
          have ef : ∀ f, a.eval (.func f) = .func (.func f) #[] #[] := fun _ => rfl
          generalize a.eval = ρ at eg e23 e24 ec ef ⊢
          go_simp
        rintro e w2 ⟨rfl, hb2⟩
        exact ⟨_, rfl, hK _ _ (hI.world.trans (hb2.mono hI.world.size)) (fun _ _ _ h => h) rfl⟩
      · intro D a w hI hdep hD0 K hK
        have eg : a.eval (.tmp 22) = .bool true := hI.good 7 22 (dep_of hdep 7 rfl) rfl
        have e3 : a.eval (.tmp 3) = .pointer (some ⟨w0.heap.size, 0, none⟩) := hI.fast (3, .pointer (some ⟨w0.heap.size, 0, none⟩)) (by simp)
        obtain ⟨⟨c0, c1, c2, c3⟩, _⟩ := (HS.out.below hI.world HS.out.lt).reads
        refine ok_value (wanted_yes rfl rfl hI.size (by decide) eg) (v := setV s) ?_ (hK _ _ hI.world (fun _ _ _ h => h) rfl)
        have ec : ∀ c, a.eval (.const c) = c := fun _ => rfl
        have ef : ∀ f, a.eval (.func f) = .func (.func f) #[] #[] := fun _ => rfl
        generalize a.eval = ρ at eg e3 ec ef ⊢
        go_simp
      · intro D a w hI hdep hD0 K hK
        have eg : a.eval (.tmp 22) = .bool true := hI.good 7 22 (dep_of hdep 7 rfl) rfl
        have e7 : a.eval (.tmp 7) = .pointer (some ⟨g7, 0, none⟩) := hI.fast (7, .pointer (some ⟨g7, 0, none⟩)) (by simp)
        obtain ⟨⟨c0, c1, c2, c3⟩, _⟩ := (H1.out.below hI.world H1.out.lt).reads
        refine ok_value (wanted_yes rfl rfl hI.size (by decide) eg) (v := setV t) ?_ (hK _ _ hI.world (fun _ _ _ h => h) rfl)
        have ec : ∀ c, a.eval (.const c) = c := fun _ => rfl
        have ef : ∀ f, a.eval (.func f) = .func (.func f) #[] #[] := fun _ => rfl
        generalize a.eval = ρ at eg e7 ec ef ⊢
        go_simp
      · intro D a w hI hdep hD0 K hK
        have eg : a.eval (.tmp 22) = .bool true := hI.good 7 22 (dep_of hdep 7 rfl) rfl
        have e26 : a.eval (.tmp 26) = setV s := hI.good 11 26 (dep_of hdep 11 rfl) rfl
        have e27 : a.eval (.tmp 27) = setV t := hI.good 12 27 (dep_of hdep 12 rfl) rfl
        refine ok_call (wanted_yes rfl rfl hI.size (by decide) eg) (f := 12) (args := #[setV s, setV t]) ?_ (HOr.out w) ?_
        · have ec : ∀ c, a.eval (.const c) = c := fun _ => rfl
          have ef : ∀ f, a.eval (.func f) = .func (.func f) #[] #[] := fun _ => rfl
          generalize a.eval = ρ at eg e26 e27 ec ef ⊢
          go_simp
        rintro e w2 ⟨rfl, hb2⟩
        exact ⟨_, rfl, hK _ _ (hI.world.trans (hb2.mono hI.world.size)) (fun _ _ _ h => h) rfl⟩
      · intro D a w hI hdep hD0 K hK
        have eg : a.eval (.tmp 22) = .bool true := hI.good 7 22 (dep_of hdep 7 rfl) rfl
        have e25 : a.eval (.tmp 25) = setV u := hI.good 10 25 (dep_of hdep 10 rfl) rfl
        have e28 : a.eval (.tmp 28) = setV u := hI.good 13 28 (dep_of hdep 13 rfl) rfl
        have eq := eq_same u
        refine ok_value (wanted_yes rfl rfl hI.size (by decide) eg) (v := .bool true) ?_ (hK _ _ hI.world (fun _ _ _ h => h) rfl)
        have ec : ∀ c, a.eval (.const c) = c := fun _ => rfl
        have ef : ∀ f, a.eval (.func f) = .func (.func f) #[] #[] := fun _ => rfl
        generalize a.eval = ρ at eg e25 e28 eq ec ef ⊢
        go_simp
      · intro D a w hI hdep hD0 K hK
        have e22 : a.eval (.tmp 22) = .bool true := hI.good 7 22 (dep_of hdep 7 rfl) rfl
        have e29 : a.eval (.tmp 29) = .bool true := hI.good 14 29 (dep_of hdep 14 rfl) rfl
        refine ok_value (wanted_none rfl) (v := .bool true) ?_ (hK _ _ hI.world (fun _ _ _ h => h) rfl)
        have ec : ∀ c, a.eval (.const c) = c := fun _ => rfl
        have ef : ∀ f, a.eval (.func f) = .func (.func f) #[] #[] := fun _ => rfl
        generalize a.eval = ρ at e22 e29 ec ef ⊢
        go_simp
      · intro D a w hI hdep hD0 K hK
        have e30 : a.eval (.tmp 30) = .bool true := hI.good 15 30 (dep_of hdep 15 rfl) rfl
        refine ok_value (wanted_none rfl) (v := .bool true) ?_ (hK _ _ hI.world (fun _ _ _ h => h) rfl)
        have ec : ∀ c, a.eval (.const c) = c := fun _ => rfl
        have ef : ∀ f, a.eval (.func f) = .func (.func f) #[] #[] := fun _ => rfl
        generalize a.eval = ρ at e30 ec ef ⊢
        go_simp
      · intro D a w hI hdep hD0 K hK
        have eg : a.eval (.tmp 31) = .bool true := hI.good 16 31 (dep_of hdep 16 rfl) rfl
        have e3 : a.eval (.tmp 3) = .pointer (some ⟨w0.heap.size, 0, none⟩) := hI.fast (3, .pointer (some ⟨w0.heap.size, 0, none⟩)) (by simp)
        obtain ⟨⟨c0, c1, c2, c3⟩, _⟩ := (HS.out.below hI.world HS.out.lt).reads
        refine ok_value (wanted_yes rfl rfl hI.size (by decide) eg) (v := setV s) ?_ (hK _ _ hI.world (fun _ _ _ h => h) rfl)
        have ec : ∀ c, a.eval (.const c) = c := fun _ => rfl
        have ef : ∀ f, a.eval (.func f) = .func (.func f) #[] #[] := fun _ => rfl
        generalize a.eval = ρ at eg e3 ec ef ⊢
        go_simp
      · intro D a w hI hdep hD0 K hK
        have eg : a.eval (.tmp 31) = .bool true := hI.good 16 31 (dep_of hdep 16 rfl) rfl
        have e1 : a.eval (.tmp 1) = .int .i64 n := hI.fast (1, .int .i64 n) (by simp)
        refine ok_value (wanted_yes rfl rfl hI.size (by decide) eg) (v := .int .i64 n) ?_ (hK _ _ hI.world (fun _ _ _ h => h) rfl)
        have ec : ∀ c, a.eval (.const c) = c := fun _ => rfl
        have ef : ∀ f, a.eval (.func f) = .func (.func f) #[] #[] := fun _ => rfl
        generalize a.eval = ρ at eg e1 ec ef ⊢
        go_simp
      · intro D a w hI hdep hD0 K hK
        have eg : a.eval (.tmp 31) = .bool true := hI.good 16 31 (dep_of hdep 16 rfl) rfl
        have e32 : a.eval (.tmp 32) = setV s := hI.good 17 32 (dep_of hdep 17 rfl) rfl
        have e33 : a.eval (.tmp 33) = .int .i64 n := hI.good 18 33 (dep_of hdep 18 rfl) rfl
        refine ok_call (wanted_yes rfl rfl hI.size (by decide) eg) (f := 13) (args := #[setV s, .int .i64 n]) ?_ (HWo.out w) ?_
        · have ec : ∀ c, a.eval (.const c) = c := fun _ => rfl
          have ef : ∀ f, a.eval (.func f) = .func (.func f) #[] #[] := fun _ => rfl
          generalize a.eval = ρ at eg e32 e33 ec ef ⊢
          go_simp
        rintro e w2 ⟨rfl, hb2⟩
        exact ⟨_, rfl, hK _ _ (hI.world.trans (hb2.mono hI.world.size)) (fun _ _ _ h => h) rfl⟩
      · intro D a w hI hdep hD0 K hK
        have eg : a.eval (.tmp 31) = .bool true := hI.good 16 31 (dep_of hdep 16 rfl) rfl
        have e3 : a.eval (.tmp 3) = .pointer (some ⟨w0.heap.size, 0, none⟩) := hI.fast (3, .pointer (some ⟨w0.heap.size, 0, none⟩)) (by simp)
        obtain ⟨⟨c0, c1, c2, c3⟩, _⟩ := (HS.out.below hI.world HS.out.lt).reads
        refine ok_value (wanted_yes rfl rfl hI.size (by decide) eg) (v := setV s) ?_ (hK _ _ hI.world (fun _ _ _ h => h) rfl)
        have ec : ∀ c, a.eval (.const c) = c := fun _ => rfl
        have ef : ∀ f, a.eval (.func f) = .func (.func f) #[] #[] := fun _ => rfl
        generalize a.eval = ρ at eg e3 ec ef ⊢
        go_simp
      · intro D a w hI hdep hD0 K hK
        have eg : a.eval (.tmp 31) = .bool true := hI.good 16 31 (dep_of hdep 16 rfl) rfl
        have e7 : a.eval (.tmp 7) = .pointer (some ⟨g7, 0, none⟩) := hI.fast (7, .pointer (some ⟨g7, 0, none⟩)) (by simp)
        obtain ⟨⟨c0, c1, c2, c3⟩, _⟩ := (H1.out.below hI.world H1.out.lt).reads
        refine ok_value (wanted_yes rfl rfl hI.size (by decide) eg) (v := setV t) ?_ (hK _ _ hI.world (fun _ _ _ h => h) rfl)
        have ec : ∀ c, a.eval (.const c) = c := fun _ => rfl
        have ef : ∀ f, a.eval (.func f) = .func (.func f) #[] #[] := fun _ => rfl
        generalize a.eval = ρ at eg e7 ec ef ⊢
        go_simp
      · intro D a w hI hdep hD0 K hK
        have eg : a.eval (.tmp 31) = .bool true := hI.good 16 31 (dep_of hdep 16 rfl) rfl
        have e35 : a.eval (.tmp 35) = setV s := hI.good 20 35 (dep_of hdep 20 rfl) rfl
        have e36 : a.eval (.tmp 36) = setV t := hI.good 21 36 (dep_of hdep 21 rfl) rfl
        refine ok_call (wanted_yes rfl rfl hI.size (by decide) eg) (f := 14) (args := #[setV s, setV t]) ?_ (HSub.out w) ?_
        · have ec : ∀ c, a.eval (.const c) = c := fun _ => rfl
          have ef : ∀ f, a.eval (.func f) = .func (.func f) #[] #[] := fun _ => rfl
          generalize a.eval = ρ at eg e35 e36 ec ef ⊢
          go_simp
        rintro e w2 ⟨rfl, hb2⟩
        exact ⟨_, rfl, hK _ _ (hI.world.trans (hb2.mono hI.world.size)) (fun _ _ _ h => h) rfl⟩
      · intro D a w hI hdep hD0 K hK
        have eg : a.eval (.tmp 31) = .bool true := hI.good 16 31 (dep_of hdep 16 rfl) rfl
        have e34 : a.eval (.tmp 34) = setV d := hI.good 19 34 (dep_of hdep 19 rfl) rfl
        have e37 : a.eval (.tmp 37) = setV d := hI.good 22 37 (dep_of hdep 22 rfl) rfl
        have eq := eq_same d
        refine ok_value (wanted_yes rfl rfl hI.size (by decide) eg) (v := .bool true) ?_ (hK _ _ hI.world (fun _ _ _ h => h) rfl)
        have ec : ∀ c, a.eval (.const c) = c := fun _ => rfl
        have ef : ∀ f, a.eval (.func f) = .func (.func f) #[] #[] := fun _ => rfl
        generalize a.eval = ρ at eg e34 e37 eq ec ef ⊢
        go_simp
      · intro D a w hI hdep hD0 K hK
        have e31 : a.eval (.tmp 31) = .bool true := hI.good 16 31 (dep_of hdep 16 rfl) rfl
        have e38 : a.eval (.tmp 38) = .bool true := hI.good 23 38 (dep_of hdep 23 rfl) rfl
        refine ok_value (wanted_none rfl) (v := .bool true) ?_ (hK _ _ hI.world (fun _ _ _ h => h) rfl)
        have ec : ∀ c, a.eval (.const c) = c := fun _ => rfl
        have ef : ∀ f, a.eval (.func f) = .func (.func f) #[] #[] := fun _ => rfl
        generalize a.eval = ρ at e31 e38 ec ef ⊢
        go_simp
      · intro D a w hI hdep hD0 K hK
        have e39 : a.eval (.tmp 39) = .bool true := hI.good 24 39 (dep_of hdep 24 rfl) rfl
        refine ok_value (wanted_none rfl) (v := .bool true) ?_ (hK _ _ hI.world (fun _ _ _ h => h) rfl)
        have ec : ∀ c, a.eval (.const c) = c := fun _ => rfl
        have ef : ∀ f, a.eval (.func f) = .func (.func f) #[] #[] := fun _ => rfl
        generalize a.eval = ρ at e39 ec ef ⊢
        go_simp
      · intro D a w hI hdep hD0 K hK
        have eg : a.eval (.tmp 40) = .bool true := hI.good 25 40 (dep_of hdep 25 rfl) rfl
        have e2 : a.eval (.tmp 2) = .slice A k c := hI.fast (2, .slice A k c) (by simp)
        refine ok_value (wanted_yes rfl rfl hI.size (by decide) eg) (v := .slice A k c) ?_ (hK _ _ hI.world (fun _ _ _ h => h) rfl)
        have ec : ∀ c, a.eval (.const c) = c := fun _ => rfl
        have ef : ∀ f, a.eval (.func f) = .func (.func f) #[] #[] := fun _ => rfl
        generalize a.eval = ρ at eg e2 ec ef ⊢
        go_simp
      · intro D a w hI hdep hD0 K hK
        have eg : a.eval (.tmp 40) = .bool true := hI.good 25 40 (dep_of hdep 25 rfl) rfl
        have e41 : a.eval (.tmp 41) = .slice A k c := hI.good 26 41 (dep_of hdep 26 rfl) rfl
        refine ok_call (wanted_yes rfl rfl hI.size (by decide) eg) (f := 15) (args := #[.slice A k c]) ?_ (HOf.out w (ints_le HI.out hI.world hI.world.size)) ?_
        · have ec : ∀ c, a.eval (.const c) = c := fun _ => rfl
          have ef : ∀ f, a.eval (.func f) = .func (.func f) #[] #[] := fun _ => rfl
          generalize a.eval = ρ at eg e41 ec ef ⊢
          go_simp
        rintro e w2 ⟨rfl, hb2⟩
        exact ⟨_, rfl, hK _ _ (hI.world.trans (hb2.mono hI.world.size)) (fun _ _ _ h => h) rfl⟩
      · intro D a w hI hdep hD0 K hK
        have eg : a.eval (.tmp 40) = .bool true := hI.good 25 40 (dep_of hdep 25 rfl) rfl
        have e2 : a.eval (.tmp 2) = .slice A k c := hI.fast (2, .slice A k c) (by simp)
        refine ok_value (wanted_yes rfl rfl hI.size (by decide) eg) (v := .slice A k c) ?_ (hK _ _ hI.world (fun _ _ _ h => h) rfl)
        have ec : ∀ c, a.eval (.const c) = c := fun _ => rfl
        have ef : ∀ f, a.eval (.func f) = .func (.func f) #[] #[] := fun _ => rfl
        generalize a.eval = ρ at eg e2 ec ef ⊢
        go_simp
      · intro D a w hI hdep hD0 K hK
        have eg : a.eval (.tmp 40) = .bool true := hI.good 25 40 (dep_of hdep 25 rfl) rfl
        have e43 : a.eval (.tmp 43) = .slice A k c := hI.good 28 43 (dep_of hdep 28 rfl) rfl
        refine ok_call (wanted_yes rfl rfl hI.size (by decide) eg) (f := 8) (args := #[.slice A k c]) ?_ (HROf.out w (ints_le HI.out hI.world hI.world.size)) ?_
        · have ec : ∀ c, a.eval (.const c) = c := fun _ => rfl
          have ef : ∀ f, a.eval (.func f) = .func (.func f) #[] #[] := fun _ => rfl
          generalize a.eval = ρ at eg e43 ec ef ⊢
          go_simp
        rintro e w2 ⟨rfl, hb2⟩
        exact ⟨_, rfl, hK _ _ (hI.world.trans (hb2.mono hI.world.size)) (fun _ _ _ h => h) rfl⟩
      · intro D a w hI hdep hD0 K hK
        have eg : a.eval (.tmp 40) = .bool true := hI.good 25 40 (dep_of hdep 25 rfl) rfl
        have e42 : a.eval (.tmp 42) = setV o := hI.good 27 42 (dep_of hdep 27 rfl) rfl
        have e44 : a.eval (.tmp 44) = setV o := hI.good 29 44 (dep_of hdep 29 rfl) rfl
        have eq := eq_same o
        refine ok_value (wanted_yes rfl rfl hI.size (by decide) eg) (v := .bool true) ?_ (hK _ _ hI.world (fun _ _ _ h => h) rfl)
        have ec : ∀ c, a.eval (.const c) = c := fun _ => rfl
        have ef : ∀ f, a.eval (.func f) = .func (.func f) #[] #[] := fun _ => rfl
        generalize a.eval = ρ at eg e42 e44 eq ec ef ⊢
        go_simp
      · intro D a w hI hdep hD0 K hK
        have e40 : a.eval (.tmp 40) = .bool true := hI.good 25 40 (dep_of hdep 25 rfl) rfl
        have e45 : a.eval (.tmp 45) = .bool true := hI.good 30 45 (dep_of hdep 30 rfl) rfl
        refine ok_value (wanted_none rfl) (v := .bool true) ?_ (hK _ _ hI.world (fun _ _ _ h => h) rfl)
        have ec : ∀ c, a.eval (.const c) = c := fun _ => rfl
        have ef : ∀ f, a.eval (.func f) = .func (.func f) #[] #[] := fun _ => rfl
        generalize a.eval = ρ at e40 e45 ec ef ⊢
        go_simp
      · intro D a w hI hdep hD0 K hK
        have e46 : a.eval (.tmp 46) = .bool true := hI.good 31 46 (dep_of hdep 31 rfl) rfl
        refine ok_value (wanted_none rfl) (v := .bool true) ?_ (hK _ _ hI.world (fun _ _ _ h => h) rfl)
        have ec : ∀ c, a.eval (.const c) = c := fun _ => rfl
        have ef : ∀ f, a.eval (.func f) = .func (.func f) #[] #[] := fun _ => rfl
        generalize a.eval = ρ at e46 ec ef ⊢
        go_simp
      · intro D a w hI hdep hD0 K hK
        have eg : a.eval (.tmp 47) = .bool true := hI.good 32 47 (dep_of hdep 32 rfl) rfl
        refine ok_call (wanted_yes rfl rfl hI.size (by decide) eg) (f := 7) (args := #[]) ?_ (lives_any w (tab_below HT.out hI.world HZ.out) (Nat.le_trans HZ.out hI.world.size)) ?_
        · have ec : ∀ c, a.eval (.const c) = c := fun _ => rfl
          have ef : ∀ f, a.eval (.func f) = .func (.func f) #[] #[] := fun _ => rfl
          generalize a.eval = ρ at eg ec ef ⊢
          go_simp
        rintro e w2 ⟨rfl, hb2⟩
        exact ⟨_, rfl, hK _ _ (hI.world.trans (hb2.mono hI.world.size)) (fun _ _ _ h => h) rfl⟩
      · intro D a w hI hdep hD0 K hK
        have e47 : a.eval (.tmp 47) = .bool true := hI.good 32 47 (dep_of hdep 32 rfl) rfl
        have e48 : a.eval (.tmp 48) = .bool true := hI.good 33 48 (dep_of hdep 33 rfl) rfl
        refine ok_value (wanted_none rfl) (v := .bool true) ?_ (hK _ _ hI.world (fun _ _ _ h => h) rfl)
        have ec : ∀ c, a.eval (.const c) = c := fun _ => rfl
        have ef : ∀ f, a.eval (.func f) = .func (.func f) #[] #[] := fun _ => rfl
        generalize a.eval = ρ at e47 e48 ec ef ⊢
        go_simp
      · intro D a w hI hdep hD0 K hK
        have e49 : a.eval (.tmp 49) = .bool true := hI.good 34 49 (dep_of hdep 34 rfl) rfl
        refine ok_value (wanted_none rfl) (v := .bool true) ?_ (hK _ _ hI.world (fun _ _ _ h => h) rfl)
        have ec : ∀ c, a.eval (.const c) = c := fun _ => rfl
        have ef : ∀ f, a.eval (.func f) = .func (.func f) #[] #[] := fun _ => rfl
        generalize a.eval = ρ at e49 ec ef ⊢
        go_simp
    · intro D a w2 hI hD
      have e0 : a.eval (.tmp 6) = .bool true := hI.good 35 6 (hD 35 (by decide)) rfl
      have hd := hI.defers
      have hB := hI.world
      obtain ⟨tmps, defers⟩ := a
      simp only at hd
      subst hd
      clear hI hD
      go_wp2
      go_ret
      exact ⟨congrArg Ending.returned e0, HB.out.trans (hB.mono HB.out.size)⟩
end Go.Proofs.YtmeajdlgaipfiaaDoor
