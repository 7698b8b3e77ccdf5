/-
  SlotsSets answers true. Conditions: the table of math/bits is laid.
-/
import Derived.Test.YtmeajdlgaipfiaaDoorSlL
import Derived.Test.YtmeajdlgaipfiaaDoorRegion
namespace Go.Proofs.YtmeajdlgaipfiaaDoor
open Go.RowKit

/-- List, as the region wants it. -/
def ListQ (m : Nat) (w : World) (e : Ending) (w' : World) : Prop := ∃ A c, e = .returned (.slice A m c) ∧ Below w.heap.size w w'
theorem list_q (s : Sl.Four) (w : World) : Calls Tryd.prog 21 #[setV s] w (ListQ s.list.length w) := (list_any s w).mono fun _ _ ⟨A, c, h, _, hb⟩ => ⟨A, c, h, hb⟩

def SetsG (p q u d : Sl.Four) (ib : Bool) (m : Nat) : Nat → Value → Prop
  | 0, v => v = setV p
  | 1, v => v = setV q
  | 2, v => v = setV u
  | 3, v => v = setV p
  | 4, v => v = setV q
  | 5, v => v = setV u
  | 8, v => v = setV p
  | 9, v => v = setV q
  | 10, v => v = setV d
  | 11, v => v = setV p
  | 12, v => v = setV q
  | 13, v => v = setV d
  | 17, v => v = setV p
  | 18, v => v = setV q
  | 19, v => v = .bool ib
  | 20, v => v = setV p
  | 21, v => v = setV q
  | 22, v => v = .bool ib
  | 26, v => v = setV p
  | 27, v => v = .int .i64 (m : Int)
  | 28, v => v = setV p
  | 29, v => ∃ A c, v = .slice A m c
  | 30, v => v = .int .i64 (m : Int)
  | _, v => v = .bool true

set_option maxHeartbeats 1000000 in
set_option maxRecDepth 100000 in
theorem sets_walk (p q : Sl.Four) (hp : p.ok) (hq : q.ok) (w0 : World) (hT : Tab w0) (hw : 1 ≤ w0.heap.size) :
    Calls Tryd.prog 4 #[setV p, setV q] w0 (BoolP true w0) := by
  have HT0 := Lib.hid hT
  have HW := Lib.hid hw
  have HOr := Lib.hid (fun w => or_set p q hp hq w)
  have HROr := Lib.hid (fun w => ror_set p q hp hq w)
  have HSub := Lib.hid (fun w => sub_set p q hp hq w)
  have HRSub := Lib.hid (fun w => rsub_set p q hp hq w)
  have HIn := Lib.hid (fun w => inside_any p q hp hq w)
  have HRIn := Lib.hid (fun w => rinside_any p q hp hq w)
  have HCnt := Lib.hid (fun w => count_any p hp w)
  have HLs := Lib.hid (fun w => list_q p w)
  have HLe := Lib.hid (Sl.list_le p)
  clear hT hw hp hq
  generalize p.or q = u at *
  generalize p.sub q = d at *
  generalize p.inside q = ib at *
  generalize p.list.length = m at *
  have hm : m ≤ 9223372036854775807 := by have := HLe.out; omega
  go_enter Tryd.func4, Tryd.ntmps4
  go_wp2
  have HP := Lib.hid ((SetAt.new w0 p).alloc (.cells #[.int .u64 (q.a : Int), .int .u64 (q.b : Int), .int .u64 (q.c : Int), .int .u64 (q.d : Int)] 24))
  have hQ := SetAt.new (w0.alloc (.cells #[.int .u64 (p.a : Int), .int .u64 (p.b : Int), .int .u64 (p.c : Int), .int .u64 (p.d : Int)] 24)) q
  rw [World.size_alloc] at hQ
  have HQ := Lib.hid hQ
  have HB := Lib.hid (((Below.refl _ w0).alloc (Nat.le_refl _) (.cells #[.int .u64 (p.a : Int), .int .u64 (p.b : Int), .int .u64 (p.c : Int), .int .u64 (p.d : Int)] 24)).alloc (by simp) (.cells #[.int .u64 (q.a : Int), .int .u64 (q.b : Int), .int .u64 (q.c : Int), .int .u64 (q.d : Int)] 24))
  clear hQ
  generalize (w0.alloc (.cells #[.int .u64 (p.a : Int), .int .u64 (p.b : Int), .int .u64 (p.c : Int), .int .u64 (p.d : Int)] 24)).alloc (.cells #[.int .u64 (q.a : Int), .int .u64 (q.b : Int), .int .u64 (q.c : Int), .int .u64 (q.d : Int)] 24) = w3 at *
  have HT := Lib.hid (tab_below HT0.out HB.out HW.out)
  have HZ := Lib.hid (Nat.le_trans HW.out HB.out.size)
  refine region_slots 41 [(2, .pointer (some ⟨w0.heap.size, 0, none⟩)), (3, .pointer (some ⟨w0.heap.size + 1, 0, none⟩))] (fun W => Below w3.heap.size w3 W) (fun _ i v _ => SetsG p q u d ib m i v) (by kernel_rfl) (by kernel_rfl) (by kernel_rfl) rfl rfl (by intro p hp; simp only [List.mem_cons, List.not_mem_nil, or_false] at hp; rcases hp with rfl | rfl <;> rfl) ((Below.refl _ _).drew) ?_ ?_
  · refine ⟨?_, ?_, ?_, ?_, ?_, ?_, ?_, ?_, ?_, ?_, ?_, ?_, ?_, ?_, ?_, ?_, ?_, ?_, ?_, ?_, ?_, ?_, ?_, ?_, ?_, ?_, ?_, ?_, ?_, ?_, ?_, ?_, ?_, ?_, ?_, ?_, ?_, trivial⟩
    · intro D a w hI hdep hD0 K hK
      have e2 : a.eval (.tmp 2) = .pointer (some ⟨w0.heap.size, 0, none⟩) := hI.fast (2, .pointer (some ⟨w0.heap.size, 0, none⟩)) (by simp)
      obtain ⟨⟨c0, c1, c2, c3⟩, _⟩ := (HP.out.below hI.world HP.out.lt).reads
      refine ok_value (wanted_none rfl) (v := setV p) ?_ (hK _ _ hI.world (fun _ _ _ h => h) rfl)
      have ec : ∀ c, a.eval (.const c) = c := fun _ => rfl
      have ef : ∀ f, a.eval (.func f) = .func (.func f) #[] #[] := fun _ => rfl
      generalize a.eval = ρ at e2 ec ef ⊢
      go_simp
    · intro D a w hI hdep hD0 K hK
      have e3 : a.eval (.tmp 3) = .pointer (some ⟨w0.heap.size + 1, 0, none⟩) := hI.fast (3, .pointer (some ⟨w0.heap.size + 1, 0, none⟩)) (by simp)
      obtain ⟨⟨c0, c1, c2, c3⟩, _⟩ := (HQ.out.below hI.world HQ.out.lt).reads
      refine ok_value (wanted_none rfl) (v := setV q) ?_ (hK _ _ hI.world (fun _ _ _ h => h) rfl)
      have ec : ∀ c, a.eval (.const c) = c := fun _ => rfl
      have ef : ∀ f, a.eval (.func f) = .func (.func f) #[] #[] := fun _ => rfl
      generalize a.eval = ρ at e3 ec ef ⊢
      go_simp
    · intro D a w hI hdep hD0 K hK
      have e5 : a.eval (.tmp 5) = setV p := hI.good 0 5 (dep_of hdep 0 rfl) rfl
      have e6 : a.eval (.tmp 6) = setV q := hI.good 1 6 (dep_of hdep 1 rfl) rfl
      refine ok_call (wanted_none rfl) (f := 16) (args := #[setV p, setV q]) ?_ (HOr.out w) ?_
      · have ec : ∀ c, a.eval (.const c) = c := fun _ => rfl
        have ef : ∀ f, a.eval (.func f) = .func (.func f) #[] #[] := fun _ => rfl
        generalize a.eval = ρ at e5 e6 ec ef ⊢
        go_simp
      rintro e w2 ⟨rfl, hb2⟩
      exact ⟨_, rfl, hK _ _ (hI.world.trans (hb2.mono hI.world.size)) (fun _ _ _ h => h) rfl⟩
    · intro D a w hI hdep hD0 K hK
      have e2 : a.eval (.tmp 2) = .pointer (some ⟨w0.heap.size, 0, none⟩) := hI.fast (2, .pointer (some ⟨w0.heap.size, 0, none⟩)) (by simp)
      obtain ⟨⟨c0, c1, c2, c3⟩, _⟩ := (HP.out.below hI.world HP.out.lt).reads
      refine ok_value (wanted_none rfl) (v := setV p) ?_ (hK _ _ hI.world (fun _ _ _ h => h) rfl)
      have ec : ∀ c, a.eval (.const c) = c := fun _ => rfl
      have ef : ∀ f, a.eval (.func f) = .func (.func f) #[] #[] := fun _ => rfl
      generalize a.eval = ρ at e2 ec ef ⊢
      go_simp
    · intro D a w hI hdep hD0 K hK
      have e3 : a.eval (.tmp 3) = .pointer (some ⟨w0.heap.size + 1, 0, none⟩) := hI.fast (3, .pointer (some ⟨w0.heap.size + 1, 0, none⟩)) (by simp)
      obtain ⟨⟨c0, c1, c2, c3⟩, _⟩ := (HQ.out.below hI.world HQ.out.lt).reads
      refine ok_value (wanted_none rfl) (v := setV q) ?_ (hK _ _ hI.world (fun _ _ _ h => h) rfl)
      have ec : ∀ c, a.eval (.const c) = c := fun _ => rfl
      have ef : ∀ f, a.eval (.func f) = .func (.func f) #[] #[] := fun _ => rfl
      generalize a.eval = ρ at e3 ec ef ⊢
      go_simp
    · intro D a w hI hdep hD0 K hK
      have e8 : a.eval (.tmp 8) = setV p := hI.good 3 8 (dep_of hdep 3 rfl) rfl
      have e9 : a.eval (.tmp 9) = setV q := hI.good 4 9 (dep_of hdep 4 rfl) rfl
      refine ok_call (wanted_none rfl) (f := 12) (args := #[setV p, setV q]) ?_ (HROr.out w) ?_
      · have ec : ∀ c, a.eval (.const c) = c := fun _ => rfl
        have ef : ∀ f, a.eval (.func f) = .func (.func f) #[] #[] := fun _ => rfl
        generalize a.eval = ρ at e8 e9 ec ef ⊢
        go_simp
      rintro e w2 ⟨rfl, hb2⟩
      exact ⟨_, rfl, hK _ _ (hI.world.trans (hb2.mono hI.world.size)) (fun _ _ _ h => h) rfl⟩
    · intro D a w hI hdep hD0 K hK
      have e7 : a.eval (.tmp 7) = setV u := hI.good 2 7 (dep_of hdep 2 rfl) rfl
      have e10 : a.eval (.tmp 10) = setV u := hI.good 5 10 (dep_of hdep 5 rfl) rfl
      have eq := eq_same u
      refine ok_value (wanted_none rfl) (v := .bool true) ?_ (hK _ _ hI.world (fun _ _ _ h => h) rfl)
      have ec : ∀ c, a.eval (.const c) = c := fun _ => rfl
      have ef : ∀ f, a.eval (.func f) = .func (.func f) #[] #[] := fun _ => rfl
      generalize a.eval = ρ at e7 e10 eq ec ef ⊢
      go_simp
    · intro D a w hI hdep hD0 K hK
      have e11 : a.eval (.tmp 11) = .bool true := hI.good 6 11 (dep_of hdep 6 rfl) rfl
      refine ok_value (wanted_none rfl) (v := .bool true) ?_ (hK _ _ hI.world (fun _ _ _ h => h) rfl)
      have ec : ∀ c, a.eval (.const c) = c := fun _ => rfl
      have ef : ∀ f, a.eval (.func f) = .func (.func f) #[] #[] := fun _ => rfl
      generalize a.eval = ρ at e11 ec ef ⊢
      go_simp
    · intro D a w hI hdep hD0 K hK
      have eg : a.eval (.tmp 12) = .bool true := hI.good 7 12 (dep_of hdep 7 rfl) rfl
      have e2 : a.eval (.tmp 2) = .pointer (some ⟨w0.heap.size, 0, none⟩) := hI.fast (2, .pointer (some ⟨w0.heap.size, 0, none⟩)) (by simp)
      obtain ⟨⟨c0, c1, c2, c3⟩, _⟩ := (HP.out.below hI.world HP.out.lt).reads
      refine ok_value (wanted_yes rfl rfl hI.size (by decide) eg) (v := setV p) ?_ (hK _ _ hI.world (fun _ _ _ h => h) rfl)
      have ec : ∀ c, a.eval (.const c) = c := fun _ => rfl
      have ef : ∀ f, a.eval (.func f) = .func (.func f) #[] #[] := fun _ => rfl
      generalize a.eval = ρ at eg e2 ec ef ⊢
      go_simp
    · intro D a w hI hdep hD0 K hK
      have eg : a.eval (.tmp 12) = .bool true := hI.good 7 12 (dep_of hdep 7 rfl) rfl
      have e3 : a.eval (.tmp 3) = .pointer (some ⟨w0.heap.size + 1, 0, none⟩) := hI.fast (3, .pointer (some ⟨w0.heap.size + 1, 0, none⟩)) (by simp)
      obtain ⟨⟨c0, c1, c2, c3⟩, _⟩ := (HQ.out.below hI.world HQ.out.lt).reads
      refine ok_value (wanted_yes rfl rfl hI.size (by decide) eg) (v := setV q) ?_ (hK _ _ hI.world (fun _ _ _ h => h) rfl)
      have ec : ∀ c, a.eval (.const c) = c := fun _ => rfl
      have ef : ∀ f, a.eval (.func f) = .func (.func f) #[] #[] := fun _ => rfl
      generalize a.eval = ρ at eg e3 ec ef ⊢
      go_simp
    · intro D a w hI hdep hD0 K hK
      have eg : a.eval (.tmp 12) = .bool true := hI.good 7 12 (dep_of hdep 7 rfl) rfl
      have e13 : a.eval (.tmp 13) = setV p := hI.good 8 13 (dep_of hdep 8 rfl) rfl
      have e14 : a.eval (.tmp 14) = setV q := hI.good 9 14 (dep_of hdep 9 rfl) rfl
      refine ok_call (wanted_yes rfl rfl hI.size (by decide) eg) (f := 17) (args := #[setV p, setV q]) ?_ (HSub.out w) ?_
      · have ec : ∀ c, a.eval (.const c) = c := fun _ => rfl
        have ef : ∀ f, a.eval (.func f) = .func (.func f) #[] #[] := fun _ => rfl
        generalize a.eval = ρ at eg e13 e14 ec ef ⊢
        go_simp
      rintro e w2 ⟨rfl, hb2⟩
      exact ⟨_, rfl, hK _ _ (hI.world.trans (hb2.mono hI.world.size)) (fun _ _ _ h => h) rfl⟩
    · intro D a w hI hdep hD0 K hK
      have eg : a.eval (.tmp 12) = .bool true := hI.good 7 12 (dep_of hdep 7 rfl) rfl
      have e2 : a.eval (.tmp 2) = .pointer (some ⟨w0.heap.size, 0, none⟩) := hI.fast (2, .pointer (some ⟨w0.heap.size, 0, none⟩)) (by simp)
      obtain ⟨⟨c0, c1, c2, c3⟩, _⟩ := (HP.out.below hI.world HP.out.lt).reads
      refine ok_value (wanted_yes rfl rfl hI.size (by decide) eg) (v := setV p) ?_ (hK _ _ hI.world (fun _ _ _ h => h) rfl)
      have ec : ∀ c, a.eval (.const c) = c := fun _ => rfl
      have ef : ∀ f, a.eval (.func f) = .func (.func f) #[] #[] := fun _ => rfl
      generalize a.eval = ρ at eg e2 ec ef ⊢
      go_simp
    · intro D a w hI hdep hD0 K hK
      have eg : a.eval (.tmp 12) = .bool true := hI.good 7 12 (dep_of hdep 7 rfl) rfl
      have e3 : a.eval (.tmp 3) = .pointer (some ⟨w0.heap.size + 1, 0, none⟩) := hI.fast (3, .pointer (some ⟨w0.heap.size + 1, 0, none⟩)) (by simp)
      obtain ⟨⟨c0, c1, c2, c3⟩, _⟩ := (HQ.out.below hI.world HQ.out.lt).reads
      refine ok_value (wanted_yes rfl rfl hI.size (by decide) eg) (v := setV q) ?_ (hK _ _ hI.world (fun _ _ _ h => h) rfl)
      have ec : ∀ c, a.eval (.const c) = c := fun _ => rfl
      have ef : ∀ f, a.eval (.func f) = .func (.func f) #[] #[] := fun _ => rfl
      generalize a.eval = ρ at eg e3 ec ef ⊢
      go_simp
    · intro D a w hI hdep hD0 K hK
      have eg : a.eval (.tmp 12) = .bool true := hI.good 7 12 (dep_of hdep 7 rfl) rfl
      have e16 : a.eval (.tmp 16) = setV p := hI.good 11 16 (dep_of hdep 11 rfl) rfl
      have e17 : a.eval (.tmp 17) = setV q := hI.good 12 17 (dep_of hdep 12 rfl) rfl
      refine ok_call (wanted_yes rfl rfl hI.size (by decide) eg) (f := 14) (args := #[setV p, setV q]) ?_ (HRSub.out w) ?_
      · have ec : ∀ c, a.eval (.const c) = c := fun _ => rfl
        have ef : ∀ f, a.eval (.func f) = .func (.func f) #[] #[] := fun _ => rfl
        generalize a.eval = ρ at eg e16 e17 ec ef ⊢
        go_simp
      rintro e w2 ⟨rfl, hb2⟩
      exact ⟨_, rfl, hK _ _ (hI.world.trans (hb2.mono hI.world.size)) (fun _ _ _ h => h) rfl⟩
    · intro D a w hI hdep hD0 K hK
      have eg : a.eval (.tmp 12) = .bool true := hI.good 7 12 (dep_of hdep 7 rfl) rfl
      have e15 : a.eval (.tmp 15) = setV d := hI.good 10 15 (dep_of hdep 10 rfl) rfl
      have e18 : a.eval (.tmp 18) = setV d := hI.good 13 18 (dep_of hdep 13 rfl) rfl
      have eq := eq_same d
      refine ok_value (wanted_yes rfl rfl hI.size (by decide) eg) (v := .bool true) ?_ (hK _ _ hI.world (fun _ _ _ h => h) rfl)
      have ec : ∀ c, a.eval (.const c) = c := fun _ => rfl
      have ef : ∀ f, a.eval (.func f) = .func (.func f) #[] #[] := fun _ => rfl
      generalize a.eval = ρ at eg e15 e18 eq ec ef ⊢
      go_simp
    · intro D a w hI hdep hD0 K hK
      have e12 : a.eval (.tmp 12) = .bool true := hI.good 7 12 (dep_of hdep 7 rfl) rfl
      have e19 : a.eval (.tmp 19) = .bool true := hI.good 14 19 (dep_of hdep 14 rfl) rfl
      refine ok_value (wanted_none rfl) (v := .bool true) ?_ (hK _ _ hI.world (fun _ _ _ h => h) rfl)
      have ec : ∀ c, a.eval (.const c) = c := fun _ => rfl
      have ef : ∀ f, a.eval (.func f) = .func (.func f) #[] #[] := fun _ => rfl
      generalize a.eval = ρ at e12 e19 ec ef ⊢
      go_simp
    · intro D a w hI hdep hD0 K hK
      have e20 : a.eval (.tmp 20) = .bool true := hI.good 15 20 (dep_of hdep 15 rfl) rfl
      refine ok_value (wanted_none rfl) (v := .bool true) ?_ (hK _ _ hI.world (fun _ _ _ h => h) rfl)
      have ec : ∀ c, a.eval (.const c) = c := fun _ => rfl
      have ef : ∀ f, a.eval (.func f) = .func (.func f) #[] #[] := fun _ => rfl
      generalize a.eval = ρ at e20 ec ef ⊢
      go_simp
    · intro D a w hI hdep hD0 K hK
      have eg : a.eval (.tmp 21) = .bool true := hI.good 16 21 (dep_of hdep 16 rfl) rfl
      have e2 : a.eval (.tmp 2) = .pointer (some ⟨w0.heap.size, 0, none⟩) := hI.fast (2, .pointer (some ⟨w0.heap.size, 0, none⟩)) (by simp)
      obtain ⟨⟨c0, c1, c2, c3⟩, _⟩ := (HP.out.below hI.world HP.out.lt).reads
      refine ok_value (wanted_yes rfl rfl hI.size (by decide) eg) (v := setV p) ?_ (hK _ _ hI.world (fun _ _ _ h => h) rfl)
      have ec : ∀ c, a.eval (.const c) = c := fun _ => rfl
      have ef : ∀ f, a.eval (.func f) = .func (.func f) #[] #[] := fun _ => rfl
      generalize a.eval = ρ at eg e2 ec ef ⊢
      go_simp
    · intro D a w hI hdep hD0 K hK
      have eg : a.eval (.tmp 21) = .bool true := hI.good 16 21 (dep_of hdep 16 rfl) rfl
      have e3 : a.eval (.tmp 3) = .pointer (some ⟨w0.heap.size + 1, 0, none⟩) := hI.fast (3, .pointer (some ⟨w0.heap.size + 1, 0, none⟩)) (by simp)
      obtain ⟨⟨c0, c1, c2, c3⟩, _⟩ := (HQ.out.below hI.world HQ.out.lt).reads
      refine ok_value (wanted_yes rfl rfl hI.size (by decide) eg) (v := setV q) ?_ (hK _ _ hI.world (fun _ _ _ h => h) rfl)
      have ec : ∀ c, a.eval (.const c) = c := fun _ => rfl
      have ef : ∀ f, a.eval (.func f) = .func (.func f) #[] #[] := fun _ => rfl
      generalize a.eval = ρ at eg e3 ec ef ⊢
      go_simp
    · intro D a w hI hdep hD0 K hK
      have eg : a.eval (.tmp 21) = .bool true := hI.good 16 21 (dep_of hdep 16 rfl) rfl
      have e22 : a.eval (.tmp 22) = setV p := hI.good 17 22 (dep_of hdep 17 rfl) rfl
      have e23 : a.eval (.tmp 23) = setV q := hI.good 18 23 (dep_of hdep 18 rfl) rfl
      refine ok_call (wanted_yes rfl rfl hI.size (by decide) eg) (f := 18) (args := #[setV p, setV q]) ?_ (HIn.out w) ?_
      · have ec : ∀ c, a.eval (.const c) = c := fun _ => rfl
        have ef : ∀ f, a.eval (.func f) = .func (.func f) #[] #[] := fun _ => rfl
        generalize a.eval = ρ at eg e22 e23 ec ef ⊢
        go_simp
      rintro e w2 ⟨rfl, hb2⟩
      exact ⟨_, rfl, hK _ _ (hI.world.trans (hb2.mono hI.world.size)) (fun _ _ _ h => h) rfl⟩
    · intro D a w hI hdep hD0 K hK
      have eg : a.eval (.tmp 21) = .bool true := hI.good 16 21 (dep_of hdep 16 rfl) rfl
      have e2 : a.eval (.tmp 2) = .pointer (some ⟨w0.heap.size, 0, none⟩) := hI.fast (2, .pointer (some ⟨w0.heap.size, 0, none⟩)) (by simp)
      obtain ⟨⟨c0, c1, c2, c3⟩, _⟩ := (HP.out.below hI.world HP.out.lt).reads
      refine ok_value (wanted_yes rfl rfl hI.size (by decide) eg) (v := setV p) ?_ (hK _ _ hI.world (fun _ _ _ h => h) rfl)
      have ec : ∀ c, a.eval (.const c) = c := fun _ => rfl
      have ef : ∀ f, a.eval (.func f) = .func (.func f) #[] #[] := fun _ => rfl
      generalize a.eval = ρ at eg e2 ec ef ⊢
      go_simp
    · intro D a w hI hdep hD0 K hK
      have eg : a.eval (.tmp 21) = .bool true := hI.good 16 21 (dep_of hdep 16 rfl) rfl
      have e3 : a.eval (.tmp 3) = .pointer (some ⟨w0.heap.size + 1, 0, none⟩) := hI.fast (3, .pointer (some ⟨w0.heap.size + 1, 0, none⟩)) (by simp)
      obtain ⟨⟨c0, c1, c2, c3⟩, _⟩ := (HQ.out.below hI.world HQ.out.lt).reads
      refine ok_value (wanted_yes rfl rfl hI.size (by decide) eg) (v := setV q) ?_ (hK _ _ hI.world (fun _ _ _ h => h) rfl)
      have ec : ∀ c, a.eval (.const c) = c := fun _ => rfl
      have ef : ∀ f, a.eval (.func f) = .func (.func f) #[] #[] := fun _ => rfl
      generalize a.eval = ρ at eg e3 ec ef ⊢
      go_simp
    · intro D a w hI hdep hD0 K hK
      have eg : a.eval (.tmp 21) = .bool true := hI.good 16 21 (dep_of hdep 16 rfl) rfl
      have e25 : a.eval (.tmp 25) = setV p := hI.good 20 25 (dep_of hdep 20 rfl) rfl
      have e26 : a.eval (.tmp 26) = setV q := hI.good 21 26 (dep_of hdep 21 rfl) rfl
      refine ok_call (wanted_yes rfl rfl hI.size (by decide) eg) (f := 19) (args := #[setV p, setV q]) ?_ (HRIn.out w) ?_
      · have ec : ∀ c, a.eval (.const c) = c := fun _ => rfl
        have ef : ∀ f, a.eval (.func f) = .func (.func f) #[] #[] := fun _ => rfl
        generalize a.eval = ρ at eg e25 e26 ec ef ⊢
        go_simp
      rintro e w2 ⟨rfl, hb2⟩
      exact ⟨_, rfl, hK _ _ (hI.world.trans (hb2.mono hI.world.size)) (fun _ _ _ h => h) rfl⟩
    · intro D a w hI hdep hD0 K hK
      have eg : a.eval (.tmp 21) = .bool true := hI.good 16 21 (dep_of hdep 16 rfl) rfl
      have e24 : a.eval (.tmp 24) = .bool ib := hI.good 19 24 (dep_of hdep 19 rfl) rfl
      have e27 : a.eval (.tmp 27) = .bool ib := hI.good 22 27 (dep_of hdep 22 rfl) rfl
      refine ok_value (wanted_yes rfl rfl hI.size (by decide) eg) (v := .bool true) ?_ (hK _ _ hI.world (fun _ _ _ h => h) rfl)
      have ec : ∀ c, a.eval (.const c) = c := fun _ => rfl
      have ef : ∀ f, a.eval (.func f) = .func (.func f) #[] #[] := fun _ => rfl
      generalize a.eval = ρ at eg e24 e27 ec ef ⊢
      go_simp
    · intro D a w hI hdep hD0 K hK
      have e21 : a.eval (.tmp 21) = .bool true := hI.good 16 21 (dep_of hdep 16 rfl) rfl
      have e28 : a.eval (.tmp 28) = .bool true := hI.good 23 28 (dep_of hdep 23 rfl) rfl
      refine ok_value (wanted_none rfl) (v := .bool true) ?_ (hK _ _ hI.world (fun _ _ _ h => h) rfl)
      have ec : ∀ c, a.eval (.const c) = c := fun _ => rfl
      have ef : ∀ f, a.eval (.func f) = .func (.func f) #[] #[] := fun _ => rfl
      generalize a.eval = ρ at e21 e28 ec ef ⊢
      go_simp
    · intro D a w hI hdep hD0 K hK
      have e29 : a.eval (.tmp 29) = .bool true := hI.good 24 29 (dep_of hdep 24 rfl) rfl
      refine ok_value (wanted_none rfl) (v := .bool true) ?_ (hK _ _ hI.world (fun _ _ _ h => h) rfl)
      have ec : ∀ c, a.eval (.const c) = c := fun _ => rfl
      have ef : ∀ f, a.eval (.func f) = .func (.func f) #[] #[] := fun _ => rfl
      generalize a.eval = ρ at e29 ec ef ⊢
      go_simp
    · intro D a w hI hdep hD0 K hK
      have eg : a.eval (.tmp 30) = .bool true := hI.good 25 30 (dep_of hdep 25 rfl) rfl
      have e2 : a.eval (.tmp 2) = .pointer (some ⟨w0.heap.size, 0, none⟩) := hI.fast (2, .pointer (some ⟨w0.heap.size, 0, none⟩)) (by simp)
      obtain ⟨⟨c0, c1, c2, c3⟩, _⟩ := (HP.out.below hI.world HP.out.lt).reads
      refine ok_value (wanted_yes rfl rfl hI.size (by decide) eg) (v := setV p) ?_ (hK _ _ hI.world (fun _ _ _ h => h) rfl)
      have ec : ∀ c, a.eval (.const c) = c := fun _ => rfl
      have ef : ∀ f, a.eval (.func f) = .func (.func f) #[] #[] := fun _ => rfl
      generalize a.eval = ρ at eg e2 ec ef ⊢
      go_simp
    · intro D a w hI hdep hD0 K hK
      have eg : a.eval (.tmp 30) = .bool true := hI.good 25 30 (dep_of hdep 25 rfl) rfl
      have e31 : a.eval (.tmp 31) = setV p := hI.good 26 31 (dep_of hdep 26 rfl) rfl
      refine ok_call (wanted_yes rfl rfl hI.size (by decide) eg) (f := 20) (args := #[setV p]) ?_ (HCnt.out w) ?_
      · have ec : ∀ c, a.eval (.const c) = c := fun _ => rfl
        have ef : ∀ f, a.eval (.func f) = .func (.func f) #[] #[] := fun _ => rfl
        generalize a.eval = ρ at eg e31 ec ef ⊢
        go_simp
      rintro e w2 ⟨rfl, hb2⟩
      exact ⟨_, rfl, hK _ _ (hI.world.trans (hb2.mono hI.world.size)) (fun _ _ _ h => h) rfl⟩
    · intro D a w hI hdep hD0 K hK
      have eg : a.eval (.tmp 30) = .bool true := hI.good 25 30 (dep_of hdep 25 rfl) rfl
      have e2 : a.eval (.tmp 2) = .pointer (some ⟨w0.heap.size, 0, none⟩) := hI.fast (2, .pointer (some ⟨w0.heap.size, 0, none⟩)) (by simp)
      obtain ⟨⟨c0, c1, c2, c3⟩, _⟩ := (HP.out.below hI.world HP.out.lt).reads
      refine ok_value (wanted_yes rfl rfl hI.size (by decide) eg) (v := setV p) ?_ (hK _ _ hI.world (fun _ _ _ h => h) rfl)
      have ec : ∀ c, a.eval (.const c) = c := fun _ => rfl
      have ef : ∀ f, a.eval (.func f) = .func (.func f) #[] #[] := fun _ => rfl
      generalize a.eval = ρ at eg e2 ec ef ⊢
      go_simp
    · intro D a w hI hdep hD0 K hK
      have eg : a.eval (.tmp 30) = .bool true := hI.good 25 30 (dep_of hdep 25 rfl) rfl
      have e33 : a.eval (.tmp 33) = setV p := hI.good 28 33 (dep_of hdep 28 rfl) rfl
      refine ok_call (wanted_yes rfl rfl hI.size (by decide) eg) (f := 21) (args := #[setV p]) ?_ (HLs.out w) ?_
      · have ec : ∀ c, a.eval (.const c) = c := fun _ => rfl
        have ef : ∀ f, a.eval (.func f) = .func (.func f) #[] #[] := fun _ => rfl
        generalize a.eval = ρ at eg e33 ec ef ⊢
        go_simp
      rintro e w2 ⟨A, c, rfl, hb2⟩
      exact ⟨_, rfl, hK _ _ (hI.world.trans (hb2.mono hI.world.size)) (fun _ _ _ h => h) ⟨A, c, rfl⟩⟩
    · intro D a w hI hdep hD0 K hK
      have eg : a.eval (.tmp 30) = .bool true := hI.good 25 30 (dep_of hdep 25 rfl) rfl
      have e34 := hI.good 29 34 (dep_of hdep 29 rfl) rfl
      obtain ⟨A, c, e34⟩ := e34
      refine ok_value (wanted_yes rfl rfl hI.size (by decide) eg) (v := .int .i64 (m : Int)) ?_ (hK _ _ hI.world (fun _ _ _ h => h) rfl)
      have ec : ∀ c, a.eval (.const c) = c := fun _ => rfl
      have ef : ∀ f, a.eval (.func f) = .func (.func f) #[] #[] := fun _ => rfl
      generalize a.eval = ρ at eg e34 ec ef ⊢
      go_simp
    · intro D a w hI hdep hD0 K hK
      have eg : a.eval (.tmp 30) = .bool true := hI.good 25 30 (dep_of hdep 25 rfl) rfl
      have e32 : a.eval (.tmp 32) = .int .i64 (m : Int) := hI.good 27 32 (dep_of hdep 27 rfl) rfl
      have e35 : a.eval (.tmp 35) = .int .i64 (m : Int) := hI.good 30 35 (dep_of hdep 30 rfl) rfl
      refine ok_value (wanted_yes rfl rfl hI.size (by decide) eg) (v := .bool true) ?_ (hK _ _ hI.world (fun _ _ _ h => h) rfl)
      have ec : ∀ c, a.eval (.const c) = c := fun _ => rfl
      have ef : ∀ f, a.eval (.func f) = .func (.func f) #[] #[] := fun _ => rfl
      generalize a.eval = ρ at eg e32 e35 ec ef ⊢
      go_simp
    · intro D a w hI hdep hD0 K hK
      have e30 : a.eval (.tmp 30) = .bool true := hI.good 25 30 (dep_of hdep 25 rfl) rfl
      have e36 : a.eval (.tmp 36) = .bool true := hI.good 31 36 (dep_of hdep 31 rfl) rfl
      refine ok_value (wanted_none rfl) (v := .bool true) ?_ (hK _ _ hI.world (fun _ _ _ h => h) rfl)
      have ec : ∀ c, a.eval (.const c) = c := fun _ => rfl
      have ef : ∀ f, a.eval (.func f) = .func (.func f) #[] #[] := fun _ => rfl
      generalize a.eval = ρ at e30 e36 ec ef ⊢
      go_simp
    · intro D a w hI hdep hD0 K hK
      have e37 : a.eval (.tmp 37) = .bool true := hI.good 32 37 (dep_of hdep 32 rfl) rfl
      refine ok_value (wanted_none rfl) (v := .bool true) ?_ (hK _ _ hI.world (fun _ _ _ h => h) rfl)
      have ec : ∀ c, a.eval (.const c) = c := fun _ => rfl
      have ef : ∀ f, a.eval (.func f) = .func (.func f) #[] #[] := fun _ => rfl
      generalize a.eval = ρ at e37 ec ef ⊢
      go_simp
    · intro D a w hI hdep hD0 K hK
      have eg : a.eval (.tmp 38) = .bool true := hI.good 33 38 (dep_of hdep 33 rfl) rfl
      refine ok_call (wanted_yes rfl rfl hI.size (by decide) eg) (f := 7) (args := #[]) ?_ (lives_any w (tab_below HT.out hI.world HZ.out) (Nat.le_trans HZ.out hI.world.size)) ?_
      · have ec : ∀ c, a.eval (.const c) = c := fun _ => rfl
        have ef : ∀ f, a.eval (.func f) = .func (.func f) #[] #[] := fun _ => rfl
        generalize a.eval = ρ at eg ec ef ⊢
        go_simp
      rintro e w2 ⟨rfl, hb2⟩
      exact ⟨_, rfl, hK _ _ (hI.world.trans (hb2.mono hI.world.size)) (fun _ _ _ h => h) rfl⟩
    · intro D a w hI hdep hD0 K hK
      have e38 : a.eval (.tmp 38) = .bool true := hI.good 33 38 (dep_of hdep 33 rfl) rfl
      have e39 : a.eval (.tmp 39) = .bool true := hI.good 34 39 (dep_of hdep 34 rfl) rfl
      refine ok_value (wanted_none rfl) (v := .bool true) ?_ (hK _ _ hI.world (fun _ _ _ h => h) rfl)
      have ec : ∀ c, a.eval (.const c) = c := fun _ => rfl
      have ef : ∀ f, a.eval (.func f) = .func (.func f) #[] #[] := fun _ => rfl
      generalize a.eval = ρ at e38 e39 ec ef ⊢
      go_simp
    · intro D a w hI hdep hD0 K hK
      have e40 : a.eval (.tmp 40) = .bool true := hI.good 35 40 (dep_of hdep 35 rfl) rfl
      refine ok_value (wanted_none rfl) (v := .bool true) ?_ (hK _ _ hI.world (fun _ _ _ h => h) rfl)
      have ec : ∀ c, a.eval (.const c) = c := fun _ => rfl
      have ef : ∀ f, a.eval (.func f) = .func (.func f) #[] #[] := fun _ => rfl
      generalize a.eval = ρ at e40 ec ef ⊢
      go_simp
  · intro D a w2 hI hD
    have e0 : a.eval (.tmp 4) = .bool true := hI.good 36 4 (hD 36 (by decide)) rfl
    have hd := hI.defers
    have hB := hI.world
    obtain ⟨tmps, defers⟩ := a
    simp only at hd
    subst hd
    clear hI hD
    go_wp2
    go_ret
    exact ⟨congrArg Ending.returned e0, HB.out.trans (hB.mono HB.out.size)⟩
end Go.Proofs.YtmeajdlgaipfiaaDoor
