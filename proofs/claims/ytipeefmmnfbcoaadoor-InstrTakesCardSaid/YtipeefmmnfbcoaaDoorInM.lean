/-
  The walk of InstrTakes. Conditions: the bytes can be read; their number is within the reach; the library's variables are laid.
-/
import Derived.Test.YtipeefmmnfbcoaaDoorInU
import Derived.Test.YtipeefmmnfbcoaaDoorInL
import Derived.Test.YtipeefmmnfbcoaaDoorRegionK
namespace Go.Proofs.YtipeefmmnfbcoaaDoor
open Go.RowKit

/-- The world while the law's last statement runs: behind operation 1 the cursor has gone on. -/
structure TkC (g B j4 j5 : Nat) (s0 s1 : List Nat × Nat) (x y : Int) (A : Option Addr) (n c : Nat) (w3 : World) (D : Nat → Bool) (W : World) : Prop where
  cur : Cur W g (if D 1 = true then s1 else s0)
  i4 : Ins W j4 x y
  t5 : Two W j5 (.slice A n c) (.int .i64 (s1.2 : Int))
  dat : Dat W B A n c s1
  row : w3.grownBy W (some g)

section
variable {g B j4 j5 : Nat} {s0 s1 : List Nat × Nat} {x y : Int} {A : Option Addr} {n c : Nat} {w3 : World} {D : Nat → Bool} {W : World}
theorem TkC.up (h : TkC g B j4 j5 s0 s1 x y A n c w3 D W) {i : Nat} (hi : (1 == i) = false) : TkC g B j4 j5 s0 s1 x y A n c w3 (add D i) W :=
  ⟨by rw [up_other hi]; exact h.cur, h.i4, h.t5, h.dat, h.row⟩
theorem TkC.curB (h : TkC g B j4 j5 s0 s1 x y A n c w3 D W) (hD : D 1 = false) : Cur W g s0 := by
  have := h.cur
  rw [hD] at this
  exact this
theorem TkC.curA (h : TkC g B j4 j5 s0 s1 x y A n c w3 D W) (hD : D 1 = true) : Cur W g s1 := by
  have := h.cur
  rw [hD] at this
  exact this
theorem TkC.took (h : TkC g B j4 j5 s0 s1 x y A n c w3 D W) (hN : g ≠ j4 ∧ g ≠ j5 ∧ B ≤ g ∧ B ≤ g) {W' : World} (hc : Cur W' g s1) (hg : W.grownBy W' (some g)) : TkC g B j4 j5 s0 s1 x y A n c w3 (add D 1) W' :=
  ⟨by rw [show add D 1 1 = true by simp [add]]; exact hc, h.i4.kept hg hN.1, h.t5.kept hg (by intro e; injection e with e; exact hN.2.1 e), h.dat.kept hg (fun k e => by injection e with e; subst e; exact hN.2.2.1), Lib.grownBy_trans h.row hg⟩
theorem TkC.below (h : TkC g B j4 j5 s0 s1 x y A n c w3 D W) (hN : g ≠ j4 ∧ g ≠ j5 ∧ B ≤ g ∧ B ≤ g) {W' : World} (hb : Below W.heap.size W W') : TkC g B j4 j5 s0 s1 x y A n c w3 D W' :=
  ⟨kept_below h.cur hb, h.i4.on hb, h.t5.on hb, h.dat.below (hb.mono (Nat.le_trans hN.2.2.1 (Nat.le_of_lt h.cur.lt))), Lib.grownBy_below h.row hb⟩
theorem TkC.drew (h : TkC g B j4 j5 s0 s1 x y A n c w3 D W) (hN : g ≠ j4 ∧ g ≠ j5 ∧ B ≤ g ∧ B ≤ g) : TkC g B j4 j5 s0 s1 x y A n c w3 D W.drew := h.below hN (Below.refl _ _).drew
end

theorem in_err (g : Nat) (s : List Nat × Nat) (w : World) (h : Cur w g s) : Calls Tryd.prog 18 #[.pointer (some ⟨g, 0, none⟩)] w fun e w' => e = .returned (.int .i64 (s.2 : Int)) ∧ w' = w := by
  refine (err_any (some ⟨g, 0, none⟩) s w (.inr ⟨g, rfl, h⟩)).mono ?_
  rintro e w' ⟨rfl, ⟨_, rfl⟩ | ⟨hx, _⟩⟩
  · exact ⟨rfl, rfl⟩
  · cases hx
theorem in_left (g : Nat) (s : List Nat × Nat) (w : World) (h : Cur w g s) : Calls Tryd.prog 19 #[.pointer (some ⟨g, 0, none⟩)] w fun e w' => e = .returned (.int .i64 (s.1.length : Int)) ∧ w' = w := by
  refine (left_any (some ⟨g, 0, none⟩) s w (.inr ⟨g, rfl, h⟩)).mono ?_
  rintro e w' ⟨rfl, ⟨_, rfl⟩ | ⟨hx, _⟩⟩
  · exact ⟨rfl, rfl⟩
  · cases hx

def TkG (g j5 : Nat) (s1 : List Nat × Nat) (x y : Int) (A : Option Addr) (n c : Nat) (_ : Unit) : Nat → Value → Prop
  | 0, v => v = .pointer (some ⟨g, 0, none⟩)
  | 1, v => v = .agg #[.int .i64 x, .int .i64 y]
  | 2, v => v = .agg #[.int .i64 x, .int .i64 y]
  | 3, v => v = .bool true
  | 4, v => v = .bool true
  | 5, v => v = .pointer (some ⟨g, 0, none⟩)
  | 6, v => v = .int .i64 (s1.2 : Int)
  | 7, v => v = .pointer (some ⟨j5, 1, none⟩)
  | 8, v => v = .int .i64 (s1.2 : Int)
  | 9, v => v = .bool true
  | 10, v => v = .bool true
  | 11, v => v = .bool true
  | 12, v => v = .pointer (some ⟨g, 0, none⟩)
  | 13, v => v = .int .i64 (s1.1.length : Int)
  | 14, v => v = .agg #[.slice A n c, .int .i64 (s1.2 : Int)]
  | 15, v => v = .int .i64 (s1.1.length : Int)
  | 16, v => v = .bool true
  | 17, v => v = .bool true
  | 18, v => v = .bool true
  | 19, v => v = .bool true
  | 20, v => v = .bool true
  | 21, v => v = .bool true
  | _, _ => True

set_option maxHeartbeats 4000000 in
set_option maxRecDepth 100000 in
theorem instrTakes_walk (a0 : Option Addr) (n0 c0 : Nat) (l : List Nat) (w : World) (hb : BytesAt w w.heap.size a0 n0 l) (hnc : n0 ≤ c0) (hcm : c0 ≤ 140737488351232) (hg : Glob w) : Calls Tryd.prog 4 #[.slice a0 n0 c0] w (BoolP true w) := by
  have HG := Lib.hid hg
  have HBy := Lib.hid hb
  have HN := Lib.hid (new_any a0 n0 c0 l w hb (by omega))
  have HL := Lib.hid (And.intro hnc hcm)
  clear hg hb hnc hcm
  go_enter Tryd.func4, Tryd.ntmps4
  go_wp2_with fail
  refine HN.out.mono ?_
  rintro _ w1 ⟨g, rfl, hg, hc1, hb1⟩
  have C1 := Lib.hid hc1
  have B1 := Lib.hid hb1
  have HGt := Lib.hid (rintake_any a0 n0 c0 w.heap.size (l, 0) w1 (fun _ => ⟨HBy.out.below hb1, HL.out.1, by have := HL.out.2; omega⟩) (fun h => absurd rfl h) hb1.size)
  obtain ⟨x, y, s1, ht⟩ : ∃ x y s1, In.take (l, 0) = ((x, y), s1) := ⟨_, _, _, rfl⟩
  rw [ht] at HGt
  dsimp only at HGt
  have HT := Lib.hid ht
  have HGl := Lib.hid hg
  clear hc1 hb1 ht HN hg
  go_wp2_with fail
  refine HGt.out.mono ?_
  rintro _ w2 ⟨A, n, c, rfl, hd2, hb2⟩
  have C2 := Lib.hid (kept_below C1.out hb2)
  have B2 := Lib.hid (below_self B1.out hb2)
  have D2 := Lib.hid hd2
  clear hd2 hb2 HGt
  have hx : (x == x) = true := beq_self_eq_true x
  have hy : (y == y) = true := beq_self_eq_true y
  have I4 := (Ins.new w2 x y).alloc (.cells #[.slice A n c, .int .i64 (s1.2 : Int)] 40)
  have T5 := Two.new (w2.alloc (.cells #[.int .i64 x, .int .i64 y] 24)) (.slice A n c) (.int .i64 (s1.2 : Int))
  rw [World.size_alloc] at T5
  have b3 := ((Below.refl w2.heap.size w2).alloc (Nat.le_refl _) (.cells #[.int .i64 x, .int .i64 y] 24)).alloc (by simp) (.cells #[.slice A n c, .int .i64 (s1.2 : Int)] 40)
  have C3 := kept_below C2.out b3
  have HB3 := Lib.hid (below_self B2.out b3)
  have D3 := D2.out.below (b3.mono B2.out.size)
  have hN : Hid (g ≠ w2.heap.size ∧ g ≠ w2.heap.size + 1 ∧ w.heap.size ≤ g ∧ w.heap.size ≤ g) := Lib.hid (by have := C2.out.lt; have := HGl.out; omega)
  have HK := Lib.hid (And.intro I4 (And.intro T5 (And.intro C3 D3)))
  clear I4 T5 b3 C3 D3 C2 B2 D2 C1 B1
  go_wp2
  generalize ((w2.alloc (.cells #[.int .i64 x, .int .i64 y] 24)).alloc (.cells #[.slice A n c, .int .i64 (s1.2 : Int)] 40)) = w3 at *
  generalize w2.heap.size + 1 = j5 at *
  generalize w2.heap.size = j4 at *
  obtain ⟨I4, T5, C3, D3⟩ := HK.out
  have HS : TkC g w.heap.size j4 j5 (l, 0) s1 x y A n c w3 (fun _ => false) w3 := ⟨C3, I4, T5, D3, World.grownBy.refl _ _⟩
  clear I4 T5 C3 D3 HK
  have HC := Lib.hid (HS.drew hN.out)
  clear HS
  refine region_k () 37 (fun _ D W => TkC g w.heap.size j4 j5 (l, 0) s1 x y A n c w3 D W) (TkG g j5 s1 x y A n c) (by kernel_rfl) (by kernel_rfl) (by kernel_rfl) rfl rfl HC.out ?_ ?_
  · refine ⟨?_, ?_, ?_, ?_, ?_, ?_, ?_, ?_, ?_, ?_, ?_, ?_, ?_, ?_, ?_, ?_, ?_, ?_, ?_, ?_, ?_, ?_, trivial⟩
    · intro u D a w hI hdep hD0 K hK
      have e3 : a.eval (.tmp 3) = .pointer (some ⟨g, 0, none⟩) := hI.read 3 rfl
      refine ok_value (wanted_none rfl) (v := .pointer (some ⟨g, 0, none⟩)) ?_ (hK u _ _ (hI.world.up rfl) (fun _ _ _ h => h) rfl)
      have ec : ∀ c, a.eval (.const c) = c := fun _ => rfl
      have ef : ∀ f, a.eval (.func f) = .func (.func f) #[] #[] := fun _ => rfl
      clear hI hdep hK
      generalize a.eval = ρ at e3 ec ef ⊢
      go_simp
    · intro u D a w hI hdep hD0 K hK
      have e16 : a.eval (.tmp 16) = .pointer (some ⟨g, 0, none⟩) := hI.good 0 16 (dep_of hdep 0 rfl) rfl
      have hc0 := hI.world.curB hD0
      refine ok_call (wanted_none rfl) (f := 15) (args := #[.pointer (some ⟨g, 0, none⟩)]) ?_ (intake_cur g (l, 0) w hc0) ?_
      · have ec : ∀ c, a.eval (.const c) = c := fun _ => rfl
        have ef : ∀ f, a.eval (.func f) = .func (.func f) #[] #[] := fun _ => rfl
        clear hI hdep hK
        generalize a.eval = ρ at e16 ec ef ⊢
        go_simp
      · unfold TakeI
        rw [HT.out]
        rintro e w2 ⟨rfl, hc2, hg2⟩
        exact ⟨_, rfl, hK u _ _ (hI.world.took hN.out hc2 hg2) (fun _ _ _ h => h) rfl⟩
    · intro u D a w hI hdep hD0 K hK
      have e4 : a.eval (.tmp 4) = .pointer (some ⟨j4, 0, none⟩) := hI.read 4 rfl
      have x0 := hI.world.i4.c0
      have x1 := hI.world.i4.c1
      refine ok_value (wanted_none rfl) (v := .agg #[.int .i64 x, .int .i64 y]) ?_ (hK u _ _ (hI.world.up rfl) (fun _ _ _ h => h) rfl)
      have ec : ∀ c, a.eval (.const c) = c := fun _ => rfl
      have ef : ∀ f, a.eval (.func f) = .func (.func f) #[] #[] := fun _ => rfl
      clear hI hdep hK
      generalize a.eval = ρ at e4 ec ef ⊢
      go_simp
    · intro u D a w hI hdep hD0 K hK
      have e17 : a.eval (.tmp 17) = .agg #[.int .i64 x, .int .i64 y] := hI.good 1 17 (dep_of hdep 1 rfl) rfl
      have e18 : a.eval (.tmp 18) = .agg #[.int .i64 x, .int .i64 y] := hI.good 2 18 (dep_of hdep 2 rfl) rfl
      refine ok_value (wanted_none rfl) (v := .bool true) ?_ (hK u _ _ (hI.world.up rfl) (fun _ _ _ h => h) rfl)
      have ec : ∀ c, a.eval (.const c) = c := fun _ => rfl
      have ef : ∀ f, a.eval (.func f) = .func (.func f) #[] #[] := fun _ => rfl
      clear hI hdep hK
      generalize a.eval = ρ at e17 e18 ec ef ⊢
      go_simp
    · intro u D a w hI hdep hD0 K hK
      have e19 : a.eval (.tmp 19) = .bool true := hI.good 3 19 (dep_of hdep 3 rfl) rfl
      refine ok_value (wanted_none rfl) (v := .bool true) ?_ (hK u _ _ (hI.world.up rfl) (fun _ _ _ h => h) rfl)
      have ec : ∀ c, a.eval (.const c) = c := fun _ => rfl
      have ef : ∀ f, a.eval (.func f) = .func (.func f) #[] #[] := fun _ => rfl
      clear hI hdep hK
      generalize a.eval = ρ at e19 ec ef ⊢
      go_simp
    · intro u D a w hI hdep hD0 K hK
      have eg : a.eval (.tmp 20) = .bool true := hI.good 4 20 (dep_of hdep 4 rfl) rfl
      have e3 : a.eval (.tmp 3) = .pointer (some ⟨g, 0, none⟩) := hI.read 3 rfl
      refine ok_value (wanted_is rfl rfl hI.size (by simp) eg) (v := .pointer (some ⟨g, 0, none⟩)) ?_ (hK u _ _ (hI.world.up rfl) (fun _ _ _ h => h) rfl)
      have ec : ∀ c, a.eval (.const c) = c := fun _ => rfl
      have ef : ∀ f, a.eval (.func f) = .func (.func f) #[] #[] := fun _ => rfl
      clear hI hdep hK
      generalize a.eval = ρ at eg e3 ec ef ⊢
      go_simp
    · intro u D a w hI hdep hD0 K hK
      have eg : a.eval (.tmp 20) = .bool true := hI.good 4 20 (dep_of hdep 4 rfl) rfl
      have e21 : a.eval (.tmp 21) = .pointer (some ⟨g, 0, none⟩) := hI.good 5 21 (dep_of hdep 5 rfl) rfl
      have h1 : D 1 = true := eq_true_of_ne_false (fun h => absurd (dep_of hdep 4 rfl) (by rw [hI.not_up (hI.not_up h 3 rfl) 4 rfl]; decide))
      refine ok_call (wanted_is rfl rfl hI.size (by simp) eg) (f := 18) (args := #[.pointer (some ⟨g, 0, none⟩)]) ?_ (in_err g s1 w (hI.world.curA h1)) ?_
      · have ec : ∀ c, a.eval (.const c) = c := fun _ => rfl
        have ef : ∀ f, a.eval (.func f) = .func (.func f) #[] #[] := fun _ => rfl
        clear hI hdep hK
        generalize a.eval = ρ at eg e21 ec ef ⊢
        go_simp
      · rintro e w2 ⟨rfl, he⟩
        obtain rfl := he.symm
        exact ⟨_, rfl, hK u _ _ (hI.world.up rfl) (fun _ _ _ h => h) rfl⟩
    · intro u D a w hI hdep hD0 K hK
      have eg : a.eval (.tmp 20) = .bool true := hI.good 4 20 (dep_of hdep 4 rfl) rfl
      have e5 : a.eval (.tmp 5) = .pointer (some ⟨j5, 0, none⟩) := hI.read 5 rfl
      refine ok_value (wanted_is rfl rfl hI.size (by simp) eg) (v := .pointer (some ⟨j5, 1, none⟩)) ?_ (hK u _ _ (hI.world.up rfl) (fun _ _ _ h => h) rfl)
      have ec : ∀ c, a.eval (.const c) = c := fun _ => rfl
      have ef : ∀ f, a.eval (.func f) = .func (.func f) #[] #[] := fun _ => rfl
      clear hI hdep hK
      generalize a.eval = ρ at eg e5 ec ef ⊢
      go_simp
    · intro u D a w hI hdep hD0 K hK
      have eg : a.eval (.tmp 20) = .bool true := hI.good 4 20 (dep_of hdep 4 rfl) rfl
      have e23 : a.eval (.tmp 23) = .pointer (some ⟨j5, 1, none⟩) := hI.good 7 23 (dep_of hdep 7 rfl) rfl
      have x1 := hI.world.t5.c1
      refine ok_value (wanted_is rfl rfl hI.size (by simp) eg) (v := .int .i64 (s1.2 : Int)) ?_ (hK u _ _ (hI.world.up rfl) (fun _ _ _ h => h) rfl)
      have ec : ∀ c, a.eval (.const c) = c := fun _ => rfl
      have ef : ∀ f, a.eval (.func f) = .func (.func f) #[] #[] := fun _ => rfl
      clear hI hdep hK
      generalize a.eval = ρ at eg e23 ec ef ⊢
      go_simp
    · intro u D a w hI hdep hD0 K hK
      have eg : a.eval (.tmp 20) = .bool true := hI.good 4 20 (dep_of hdep 4 rfl) rfl
      have e22 : a.eval (.tmp 22) = .int .i64 (s1.2 : Int) := hI.good 6 22 (dep_of hdep 6 rfl) rfl
      have e24 : a.eval (.tmp 24) = .int .i64 (s1.2 : Int) := hI.good 8 24 (dep_of hdep 8 rfl) rfl
      refine ok_value (wanted_is rfl rfl hI.size (by simp) eg) (v := .bool true) ?_ (hK u _ _ (hI.world.up rfl) (fun _ _ _ h => h) rfl)
      have ec : ∀ c, a.eval (.const c) = c := fun _ => rfl
      have ef : ∀ f, a.eval (.func f) = .func (.func f) #[] #[] := fun _ => rfl
      clear hI hdep hK
      generalize a.eval = ρ at eg e22 e24 ec ef ⊢
      go_simp
    · intro u D a w hI hdep hD0 K hK
      have e20 : a.eval (.tmp 20) = .bool true := hI.good 4 20 (dep_of hdep 4 rfl) rfl
      have e25 : a.eval (.tmp 25) = .bool true := hI.good 9 25 (dep_of hdep 9 rfl) rfl
      refine ok_value (wanted_none rfl) (v := .bool true) ?_ (hK u _ _ (hI.world.up rfl) (fun _ _ _ h => h) rfl)
      have ec : ∀ c, a.eval (.const c) = c := fun _ => rfl
      have ef : ∀ f, a.eval (.func f) = .func (.func f) #[] #[] := fun _ => rfl
      clear hI hdep hK
      generalize a.eval = ρ at e20 e25 ec ef ⊢
      go_simp
    · intro u D a w hI hdep hD0 K hK
      have e26 : a.eval (.tmp 26) = .bool true := hI.good 10 26 (dep_of hdep 10 rfl) rfl
      refine ok_value (wanted_none rfl) (v := .bool true) ?_ (hK u _ _ (hI.world.up rfl) (fun _ _ _ h => h) rfl)
      have ec : ∀ c, a.eval (.const c) = c := fun _ => rfl
      have ef : ∀ f, a.eval (.func f) = .func (.func f) #[] #[] := fun _ => rfl
      clear hI hdep hK
      generalize a.eval = ρ at e26 ec ef ⊢
      go_simp
    · intro u D a w hI hdep hD0 K hK
      have eg : a.eval (.tmp 27) = .bool true := hI.good 11 27 (dep_of hdep 11 rfl) rfl
      have e3 : a.eval (.tmp 3) = .pointer (some ⟨g, 0, none⟩) := hI.read 3 rfl
      refine ok_value (wanted_is rfl rfl hI.size (by simp) eg) (v := .pointer (some ⟨g, 0, none⟩)) ?_ (hK u _ _ (hI.world.up rfl) (fun _ _ _ h => h) rfl)
      have ec : ∀ c, a.eval (.const c) = c := fun _ => rfl
      have ef : ∀ f, a.eval (.func f) = .func (.func f) #[] #[] := fun _ => rfl
      clear hI hdep hK
      generalize a.eval = ρ at eg e3 ec ef ⊢
      go_simp
    · intro u D a w hI hdep hD0 K hK
      have eg : a.eval (.tmp 27) = .bool true := hI.good 11 27 (dep_of hdep 11 rfl) rfl
      have e28 : a.eval (.tmp 28) = .pointer (some ⟨g, 0, none⟩) := hI.good 12 28 (dep_of hdep 12 rfl) rfl
      have h1 : D 1 = true := eq_true_of_ne_false (fun h => absurd (dep_of hdep 11 rfl) (by rw [hI.not_up (hI.not_up (hI.not_up (hI.not_up h 3 rfl) 4 rfl) 10 rfl) 11 rfl]; decide))
      refine ok_call (wanted_is rfl rfl hI.size (by simp) eg) (f := 19) (args := #[.pointer (some ⟨g, 0, none⟩)]) ?_ (in_left g s1 w (hI.world.curA h1)) ?_
      · have ec : ∀ c, a.eval (.const c) = c := fun _ => rfl
        have ef : ∀ f, a.eval (.func f) = .func (.func f) #[] #[] := fun _ => rfl
        clear hI hdep hK
        generalize a.eval = ρ at eg e28 ec ef ⊢
        go_simp
      · rintro e w2 ⟨rfl, he⟩
        obtain rfl := he.symm
        exact ⟨_, rfl, hK u _ _ (hI.world.up rfl) (fun _ _ _ h => h) rfl⟩
    · intro u D a w hI hdep hD0 K hK
      have eg : a.eval (.tmp 27) = .bool true := hI.good 11 27 (dep_of hdep 11 rfl) rfl
      have e5 : a.eval (.tmp 5) = .pointer (some ⟨j5, 0, none⟩) := hI.read 5 rfl
      have x0 := hI.world.t5.c0
      have x1 := hI.world.t5.c1
      refine ok_value (wanted_is rfl rfl hI.size (by simp) eg) (v := .agg #[.slice A n c, .int .i64 (s1.2 : Int)]) ?_ (hK u _ _ (hI.world.up rfl) (fun _ _ _ h => h) rfl)
      have ec : ∀ c, a.eval (.const c) = c := fun _ => rfl
      have ef : ∀ f, a.eval (.func f) = .func (.func f) #[] #[] := fun _ => rfl
      clear hI hdep hK
      generalize a.eval = ρ at eg e5 ec ef ⊢
      go_simp
    · intro u D a w hI hdep hD0 K hK
      have eg : a.eval (.tmp 27) = .bool true := hI.good 11 27 (dep_of hdep 11 rfl) rfl
      have e30 : a.eval (.tmp 30) = .agg #[.slice A n c, .int .i64 (s1.2 : Int)] := hI.good 14 30 (dep_of hdep 14 rfl) rfl
      have h1 : D 1 = true := eq_true_of_ne_false (fun h => absurd (dep_of hdep 11 rfl) (by rw [hI.not_up (hI.not_up (hI.not_up (hI.not_up h 3 rfl) 4 rfl) 10 rfl) 11 rfl]; decide))
      refine ok_call (wanted_is rfl rfl hI.size (by simp) eg) (f := 20) (args := #[.agg #[.slice A n c, .int .i64 (s1.2 : Int)]]) ?_ (rLeft_any A n c _ s1 w hI.world.dat (hI.world.curA h1).nil) ?_
      · have ec : ∀ c, a.eval (.const c) = c := fun _ => rfl
        have ef : ∀ f, a.eval (.func f) = .func (.func f) #[] #[] := fun _ => rfl
        clear hI hdep hK
        generalize a.eval = ρ at eg e30 ec ef ⊢
        go_simp
      · rintro e w2 ⟨rfl, hb2⟩
        exact ⟨_, rfl, hK u _ _ ((hI.world.up rfl).below hN.out hb2) (fun _ _ _ h => h) rfl⟩
    · intro u D a w hI hdep hD0 K hK
      have eg : a.eval (.tmp 27) = .bool true := hI.good 11 27 (dep_of hdep 11 rfl) rfl
      have e29 : a.eval (.tmp 29) = .int .i64 (s1.1.length : Int) := hI.good 13 29 (dep_of hdep 13 rfl) rfl
      have e31 : a.eval (.tmp 31) = .int .i64 (s1.1.length : Int) := hI.good 15 31 (dep_of hdep 15 rfl) rfl
      refine ok_value (wanted_is rfl rfl hI.size (by simp) eg) (v := .bool true) ?_ (hK u _ _ (hI.world.up rfl) (fun _ _ _ h => h) rfl)
      have ec : ∀ c, a.eval (.const c) = c := fun _ => rfl
      have ef : ∀ f, a.eval (.func f) = .func (.func f) #[] #[] := fun _ => rfl
      clear hI hdep hK
      generalize a.eval = ρ at eg e29 e31 ec ef ⊢
      go_simp
    · intro u D a w hI hdep hD0 K hK
      have e27 : a.eval (.tmp 27) = .bool true := hI.good 11 27 (dep_of hdep 11 rfl) rfl
      have e32 : a.eval (.tmp 32) = .bool true := hI.good 16 32 (dep_of hdep 16 rfl) rfl
      refine ok_value (wanted_none rfl) (v := .bool true) ?_ (hK u _ _ (hI.world.up rfl) (fun _ _ _ h => h) rfl)
      have ec : ∀ c, a.eval (.const c) = c := fun _ => rfl
      have ef : ∀ f, a.eval (.func f) = .func (.func f) #[] #[] := fun _ => rfl
      clear hI hdep hK
      generalize a.eval = ρ at e27 e32 ec ef ⊢
      go_simp
    · intro u D a w hI hdep hD0 K hK
      have e33 : a.eval (.tmp 33) = .bool true := hI.good 17 33 (dep_of hdep 17 rfl) rfl
      refine ok_value (wanted_none rfl) (v := .bool true) ?_ (hK u _ _ (hI.world.up rfl) (fun _ _ _ h => h) rfl)
      have ec : ∀ c, a.eval (.const c) = c := fun _ => rfl
      have ef : ∀ f, a.eval (.func f) = .func (.func f) #[] #[] := fun _ => rfl
      clear hI hdep hK
      generalize a.eval = ρ at e33 ec ef ⊢
      go_simp
    · intro u D a w hI hdep hD0 K hK
      have eg : a.eval (.tmp 34) = .bool true := hI.good 18 34 (dep_of hdep 18 rfl) rfl
      refine ok_call (wanted_is rfl rfl hI.size (by simp) eg) (f := 6) (args := #[]) ?_ (lives10_any w (HG.out.below (HB3.out.grown hI.world.row HB3.out.size (fun k hk => by injection hk with hk; subst hk; exact hN.out.2.2.2)))) ?_
      · have ec : ∀ c, a.eval (.const c) = c := fun _ => rfl
        have ef : ∀ f, a.eval (.func f) = .func (.func f) #[] #[] := fun _ => rfl
        clear hI hdep hK
        generalize a.eval = ρ at eg ec ef ⊢
        go_simp
      · rintro e w2 ⟨rfl, hb2⟩
        exact ⟨_, rfl, hK u _ _ ((hI.world.up rfl).below hN.out hb2) (fun _ _ _ h => h) rfl⟩
    · intro u D a w hI hdep hD0 K hK
      have e34 : a.eval (.tmp 34) = .bool true := hI.good 18 34 (dep_of hdep 18 rfl) rfl
      have e35 : a.eval (.tmp 35) = .bool true := hI.good 19 35 (dep_of hdep 19 rfl) rfl
      refine ok_value (wanted_none rfl) (v := .bool true) ?_ (hK u _ _ (hI.world.up rfl) (fun _ _ _ h => h) rfl)
      have ec : ∀ c, a.eval (.const c) = c := fun _ => rfl
      have ef : ∀ f, a.eval (.func f) = .func (.func f) #[] #[] := fun _ => rfl
      clear hI hdep hK
      generalize a.eval = ρ at e34 e35 ec ef ⊢
      go_simp
    · intro u D a w hI hdep hD0 K hK
      have e36 : a.eval (.tmp 36) = .bool true := hI.good 20 36 (dep_of hdep 20 rfl) rfl
      refine ok_value (wanted_none rfl) (v := .bool true) ?_ (hK u _ _ (hI.world.up rfl) (fun _ _ _ h => h) rfl)
      have ec : ∀ c, a.eval (.const c) = c := fun _ => rfl
      have ef : ∀ f, a.eval (.func f) = .func (.func f) #[] #[] := fun _ => rfl
      clear hI hdep hK
      generalize a.eval = ρ at e36 ec ef ⊢
      go_simp
  · intro u D a w4 hI hD
    have hfr := hI.frame [(16, .pointer (some ⟨g, 0, none⟩)), (17, .agg #[.int .i64 x, .int .i64 y]), (18, .agg #[.int .i64 x, .int .i64 y]), (19, .bool true), (20, .bool true), (21, .pointer (some ⟨g, 0, none⟩)), (22, .int .i64 (s1.2 : Int)), (23, .pointer (some ⟨j5, 1, none⟩)), (24, .int .i64 (s1.2 : Int)), (25, .bool true), (26, .bool true), (27, .bool true), (28, .pointer (some ⟨g, 0, none⟩)), (29, .int .i64 (s1.1.length : Int)), (30, .agg #[.slice A n c, .int .i64 (s1.2 : Int)]), (31, .int .i64 (s1.1.length : Int)), (32, .bool true), (33, .bool true), (34, .bool true), (35, .bool true), (36, .bool true), (2, .bool true)] (all_cons (hI.good 0 16 (hD 0 (by decide)) rfl) (all_cons (hI.good 1 17 (hD 1 (by decide)) rfl) (all_cons (hI.good 2 18 (hD 2 (by decide)) rfl) (all_cons (hI.good 3 19 (hD 3 (by decide)) rfl) (all_cons (hI.good 4 20 (hD 4 (by decide)) rfl) (all_cons (hI.good 5 21 (hD 5 (by decide)) rfl) (all_cons (hI.good 6 22 (hD 6 (by decide)) rfl) (all_cons (hI.good 7 23 (hD 7 (by decide)) rfl) (all_cons (hI.good 8 24 (hD 8 (by decide)) rfl) (all_cons (hI.good 9 25 (hD 9 (by decide)) rfl) (all_cons (hI.good 10 26 (hD 10 (by decide)) rfl) (all_cons (hI.good 11 27 (hD 11 (by decide)) rfl) (all_cons (hI.good 12 28 (hD 12 (by decide)) rfl) (all_cons (hI.good 13 29 (hD 13 (by decide)) rfl) (all_cons (hI.good 14 30 (hD 14 (by decide)) rfl) (all_cons (hI.good 15 31 (hD 15 (by decide)) rfl) (all_cons (hI.good 16 32 (hD 16 (by decide)) rfl) (all_cons (hI.good 17 33 (hD 17 (by decide)) rfl) (all_cons (hI.good 18 34 (hD 18 (by decide)) rfl) (all_cons (hI.good 19 35 (hD 19 (by decide)) rfl) (all_cons (hI.good 20 36 (hD 20 (by decide)) rfl) (all_cons (hI.good 21 2 (hD 21 (by decide)) rfl) all_nil)))))))))))))))))))))) rfl
    have hW := hI.world
    clear hI
    subst hfr
    simp only [List.foldl_cons, List.foldl_nil, List.setIfInBounds_toArray, List.set_cons_succ, List.set_cons_zero]
    have HB4 := Lib.hid (HB3.out.grown hW.row HB3.out.size (fun k hk => by injection hk with hk; subst hk; exact hN.out.2.2.2))
    clear hW hD
    go_wp2
    go_ret
    exact ⟨rfl, HB4.out⟩
end Go.Proofs.YtipeefmmnfbcoaaDoor
