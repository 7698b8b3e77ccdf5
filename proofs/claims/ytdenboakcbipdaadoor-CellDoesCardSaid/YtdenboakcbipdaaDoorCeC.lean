/-
  What cell.made makes of one value, and of two. Conditions: the values can be read.
-/
import Derived.Test.YtdenboakcbipdaaDoorCeB
import Derived.Test.YtdenboakcbipdaaDoorRegionK
import Derived.BigQuiet
import Derived.Deep.QuietTactic
namespace Go.Proofs.YtdenboakcbipdaaDoor
open Go.RowKit
attribute [local go_sem] Ce.run_store_complex

namespace Ce
/-- What an operation makes of two values (of one: the second does not count). -/
def MadeR (op : Int) (a b : Cv) (r : Option Cv) : Prop :=
  (op = 15 ∧ r = some ⟨2, 0, floatOfInt .f64 a.n, floatOfInt .f64 b.n⟩)
  ∨ ((op = 16 ∨ op = 17 ∨ op = 18) ∧ ∃ re im, r = some ⟨2, 0, re, im⟩ ∧ Pl.TwoR op a.re a.im b.re b.im re im)
  ∨ ((op = 19 ∨ op = 20) ∧ r = some ⟨1, Pl.part op a.re a.im, 0, 0⟩)
  ∨ ((op = 11 ∨ op = 14) ∧ r = some ⟨1, Wh.one op a.n, 0, 0⟩)
  ∨ (Wh.takes op = 2 ∧ r = if (Wh.two op a.n b.n).2 then some ⟨1, (Wh.two op a.n b.n).1, 0, 0⟩ else none)

/-- What is held of what was made. -/
def thing : Option Cv → Value
  | none => .nilIface
  | some v => held v
end Ce

def MadeP (op : Int) (a b : Ce.Cv) (w : World) (e : Ending) (w' : World) : Prop := ∃ r, Ce.MadeR op a b r ∧ e = .returned (Ce.thing r) ∧ Below w.heap.size w w'

theorem below_drewN {B : Nat} {a w : World} (h : Below B a w) (n : Nat) : Below B a (w.drewN n) := ⟨h.os, h.tape, h.output, h.size, h.block⟩

/-- One value. -/
theorem made_one (op : Int) (b off c : Nat) (v z : Ce.Cv) (w : World) (h : ValsAt w w.heap.size (some ⟨b, off, none⟩) 1 [v]) (hop : op = 19 ∨ op = 20 ∨ op = 11 ∨ op = 14) : Calls Tryd.prog 20 #[.int .i64 op, .slice (some ⟨b, off, none⟩) 1 c] w (MadeP op v z w) := by
  obtain ⟨b', off', e, hlb, hc⟩ := h.2 (by omega)
  obtain ⟨q0, q1, q2⟩ := hc 0 (by omega)
  clear hc h
  simp only [Option.some.injEq, Addr.mk.injEq] at e
  obtain ⟨rfl, rfl, _⟩ := e
  obtain ⟨vk, vn, vr, vi⟩ := v
  simp only [Nat.zero_mul, Nat.add_zero, List.getD_cons_zero] at q0 q1 q2
  rcases hop with rfl | rfl | rfl | rfl
  · have H := fun w => part_any 19 vr vi w
    have HR : Ce.MadeR 19 ⟨vk, vn, vr, vi⟩ z (some ⟨1, Pl.part 19 vr vi, 0, 0⟩) := .inr (.inr (.inl ⟨.inl rfl, rfl⟩))
    have HH := Lib.hid HR
    clear HR
    generalize Pl.part 19 vr vi = y at *
    go_enter Tryd.func20, Tryd.ntmps20
    go_wp2_with (go_at_call 36; with_reducible refine (H _).mono ?_; rintro _ w1 ⟨rfl, he⟩; obtain rfl := he.symm)
    go_ret
    exact ⟨_, HH.out, rfl, Below.refl _ _⟩
  · have H := fun w => part_any 20 vr vi w
    have HR : Ce.MadeR 20 ⟨vk, vn, vr, vi⟩ z (some ⟨1, Pl.part 20 vr vi, 0, 0⟩) := .inr (.inr (.inl ⟨.inr rfl, rfl⟩))
    have HH := Lib.hid HR
    clear HR
    generalize Pl.part 20 vr vi = y at *
    go_enter Tryd.func20, Tryd.ntmps20
    go_wp2_with (go_at_call 36; with_reducible refine (H _).mono ?_; rintro _ w1 ⟨rfl, he⟩; obtain rfl := he.symm)
    go_ret
    exact ⟨_, HH.out, rfl, Below.refl _ _⟩
  · have H := fun w => one_any 11 vn w
    have HR : Ce.MadeR 11 ⟨vk, vn, vr, vi⟩ z (some ⟨1, Wh.one 11 vn, 0, 0⟩) := .inr (.inr (.inr (.inl ⟨.inl rfl, rfl⟩)))
    have HH := Lib.hid HR
    clear HR
    generalize Wh.one 11 vn = y at *
    go_enter Tryd.func20, Tryd.ntmps20
    go_wp2_with (go_at_call 37; with_reducible refine (H _).mono ?_; rintro _ w1 ⟨rfl, he⟩; obtain rfl := he.symm)
    go_ret
    exact ⟨_, HH.out, rfl, Below.refl _ _⟩
  · have H := fun w => one_any 14 vn w
    have HR : Ce.MadeR 14 ⟨vk, vn, vr, vi⟩ z (some ⟨1, Wh.one 14 vn, 0, 0⟩) := .inr (.inr (.inr (.inl ⟨.inr rfl, rfl⟩)))
    have HH := Lib.hid HR
    clear HR
    generalize Wh.one 14 vn = y at *
    go_enter Tryd.func20, Tryd.ntmps20
    go_wp2_with (go_at_call 37; with_reducible refine (H _).mono ?_; rintro _ w1 ⟨rfl, he⟩; obtain rfl := he.symm)
    go_ret
    exact ⟨_, HH.out, rfl, Below.refl _ _⟩

theorem wh_two (op : Int) (h : Wh.takes op = 2) : op = 6 ∨ op = 7 ∨ op = 8 ∨ op = 9 ∨ op = 10 ∨ op = 12 ∨ op = 13 := by
  unfold Wh.takes at h
  split at h
  · assumption
  · split at h <;> omega

set_option maxHeartbeats 1000000 in
/-- Two whole numbers. -/
theorem made_whole (op : Int) (b off c : Nat) (u v : Ce.Cv) (w : World) (h : ValsAt w w.heap.size (some ⟨b, off, none⟩) 2 [u, v]) (hop : Wh.takes op = 2) : Calls Tryd.prog 20 #[.int .i64 op, .slice (some ⟨b, off, none⟩) 2 c] w (MadeP op u v w) := by
  obtain ⟨b', off', e, hlb, hc⟩ := h.2 (by omega)
  obtain ⟨q0, q1, q2⟩ := hc 0 (by omega)
  obtain ⟨p0, p1, p2⟩ := hc 1 (by omega)
  clear hc h
  simp only [Option.some.injEq, Addr.mk.injEq] at e
  obtain ⟨rfl, rfl, _⟩ := e
  obtain ⟨uk, un, ur, ui⟩ := u
  obtain ⟨vk, vn, vr, vi⟩ := v
  simp only [Nat.zero_mul, Nat.one_mul, Nat.add_zero, Nat.add_assoc, Nat.reduceAdd, List.getD_cons_zero, List.getD_cons_succ] at q0 q1 q2 p0 p1 p2
  have H := fun w => wtwo_any op un vn w
  unfold WTwoP at H
  have HR : Ce.MadeR op ⟨uk, un, ur, ui⟩ ⟨vk, vn, vr, vi⟩ (if (Wh.two op un vn).2 then some ⟨1, (Wh.two op un vn).1, 0, 0⟩ else none) := .inr (.inr (.inr (.inr ⟨hop, rfl⟩)))
  have HH := Lib.hid HR
  clear HR
  generalize Wh.two op un vn = xy at H HH
  obtain ⟨x, y⟩ := xy
  have hx := wh_two op hop
  clear hop
  have g1 : op ≠ 15 ∧ op ≠ 16 ∧ op ≠ 17 ∧ op ≠ 18 ∧ op ≠ 19 ∧ op ≠ 20 := by omega
  obtain ⟨g15, g16, g17, g18, g19, g20⟩ := g1
  clear hx
  cases y
  · go_enter Tryd.func20, Tryd.ntmps20
    go_wp2
    go_quiet (first | (go_at_call 38; refine Calls.quiet_of_same (H _)))
    go_wp2
    go_ret
    exact ⟨_, HH.out, rfl, below_drewN (Below.refl _ _) _⟩
  · go_enter Tryd.func20, Tryd.ntmps20
    go_wp2
    go_quiet (first | (go_at_call 38; refine Calls.quiet_of_same (H _)))
    go_wp2
    go_ret
    exact ⟨_, HH.out, rfl, below_drewN (Below.refl _ _) _⟩

set_option maxHeartbeats 1000000 in
/-- A pair. -/
theorem made_pair (b off c : Nat) (u v : Ce.Cv) (w : World) (h : ValsAt w w.heap.size (some ⟨b, off, none⟩) 2 [u, v]) : Calls Tryd.prog 20 #[.int .i64 15, .slice (some ⟨b, off, none⟩) 2 c] w (MadeP 15 u v w) := by
  obtain ⟨b', off', e, hlb, hc⟩ := h.2 (by omega)
  obtain ⟨q0, q1, q2⟩ := hc 0 (by omega)
  obtain ⟨p0, p1, p2⟩ := hc 1 (by omega)
  clear hc h
  simp only [Option.some.injEq, Addr.mk.injEq] at e
  obtain ⟨rfl, rfl, _⟩ := e
  obtain ⟨uk, un, ur, ui⟩ := u
  obtain ⟨vk, vn, vr, vi⟩ := v
  simp only [Nat.zero_mul, Nat.one_mul, Nat.add_zero, Nat.add_assoc, Nat.reduceAdd, List.getD_cons_zero, List.getD_cons_succ] at q0 q1 q2 p0 p1 p2
  have H := fun w => pair_any un vn w
  have HR : Ce.MadeR 15 ⟨uk, un, ur, ui⟩ ⟨vk, vn, vr, vi⟩ (some ⟨2, 0, floatOfInt .f64 un, floatOfInt .f64 vn⟩) := .inl ⟨rfl, rfl⟩
  have HH := Lib.hid HR
  clear HR
  generalize floatOfInt .f64 un = x at *
  generalize floatOfInt .f64 vn = y at *
  go_enter Tryd.func20, Tryd.ntmps20
  go_wp2
  go_quiet (first | (go_at_call 34; refine Calls.quiet_of_same (H _)))
  go_wp2
  go_ret
  exact ⟨_, HH.out, rfl, below_drewN (Below.refl _ _) _⟩

/-- What the call answers. -/
structure MdX where
  re : Nat
  im : Nat

def MdG (b off c : Nat) (op : Int) (ar ai br bi : Nat) (x : MdX) : Nat → Value → Prop
  | 0, v => v = .int .i64 op
  | 1, v => v = .slice (some ⟨b, off, none⟩) 2 c
  | 2, v => v = .pointer (some ⟨b, off, none⟩)
  | 3, v => v = .pointer (some ⟨b, off + 2, none⟩)
  | 4, v => v = .complex .f64 ar ai
  | 5, v => v = .slice (some ⟨b, off, none⟩) 2 c
  | 6, v => v = .pointer (some ⟨b, off + 3, none⟩)
  | 7, v => v = .pointer (some ⟨b, off + 5, none⟩)
  | 8, v => v = .complex .f64 br bi
  | 9, v => v = .complex .f64 x.re x.im
  | 10, v => v = .iface 64 (.complex .f64 x.re x.im)
  | 11, v => v = .iface 64 (.complex .f64 x.re x.im)
  | _, _ => True

theorem mdg9 {b off c : Nat} {op : Int} {ar ai br bi : Nat} {x : MdX} {re im : Nat} {D : Nat → Bool} (h9 : D 9 = false) (h10 : D 10 = false) (h11 : D 11 = false) : ∀ j v, D j = true → MdG b off c op ar ai br bi x j v → MdG b off c op ar ai br bi ⟨re, im⟩ j v
  | 0, _, _, h | 1, _, _, h | 2, _, _, h | 3, _, _, h | 4, _, _, h | 5, _, _, h | 6, _, _, h | 7, _, _, h | 8, _, _, h => h
  | 9, _, hj, _ => by rw [h9] at hj; cases hj
  | 10, _, hj, _ => by rw [h10] at hj; cases hj
  | 11, _, hj, _ => by rw [h11] at hj; cases hj
  | _ + 12, _, _, h => h

theorem up_other {D : Nat → Bool} {i j : Nat} (h : (j == i) = false) : add D i j = D j := by unfold add; rw [h]; simp

/-- The world while the call answers. -/
structure MdC (w0 : World) (op : Int) (ar ai br bi : Nat) (x : MdX) (D : Nat → Bool) (W : World) : Prop where
  row : Below w0.heap.size w0 W
  two : D 9 = true → Pl.TwoR op ar ai br bi x.re x.im
section
variable {w0 W : World} {op : Int} {ar ai br bi : Nat} {x : MdX} {D : Nat → Bool}
theorem MdC.up (h : MdC w0 op ar ai br bi x D W) {i : Nat} (h9 : ((9 : Nat) == i) = false) : MdC w0 op ar ai br bi x (add D i) W :=
  ⟨h.row, by rw [up_other h9]; exact h.two⟩
theorem MdC.two_up (h : MdC w0 op ar ai br bi x D W) {re im : Nat} {W' : World} (hr : Pl.TwoR op ar ai br bi re im) (hb : Below W.heap.size W W') : MdC w0 op ar ai br bi ⟨re, im⟩ (add D 9) W' :=
  ⟨h.row.trans (hb.mono h.row.size), fun _ => hr⟩
end

set_option maxHeartbeats 4000000 in
set_option maxRecDepth 100000 in
/-- Two complex numbers. -/
theorem made_cx (op : Int) (b off c : Nat) (u v : Ce.Cv) (w0 : World) (h : ValsAt w0 w0.heap.size (some ⟨b, off, none⟩) 2 [u, v]) (hop : op = 16 ∨ op = 17 ∨ op = 18) : Calls Tryd.prog 20 #[.int .i64 op, .slice (some ⟨b, off, none⟩) 2 c] w0 (MadeP op u v w0) := by
  obtain ⟨b', off', e, hlb, hc⟩ := h.2 (by omega)
  obtain ⟨-, -, q2⟩ := hc 0 (by omega)
  obtain ⟨-, -, q5⟩ := hc 1 (by omega)
  clear hc h
  simp only [Option.some.injEq, Addr.mk.injEq] at e
  obtain ⟨rfl, rfl, _⟩ := e
  obtain ⟨uk, un, ar, ai⟩ := u
  obtain ⟨vk, vn, br, bi⟩ := v
  simp only [Nat.zero_mul, Nat.one_mul, Nat.add_zero, Nat.add_assoc, Nat.reduceAdd, List.getD_cons_zero, List.getD_cons_succ] at q2 q5
  have g1 : (op == 15) = false := by simp; omega
  rcases hop with rfl | rfl | rfl
  · go_enter Tryd.func20, Tryd.ntmps20
    go_wp2
    generalize ho : (16 : Int) = op at *
    refine region_k (⟨0, 0⟩ : MdX) 72 (MdC w0 op ar ai br bi) (MdG b off c op ar ai br bi) (by kernel_rfl) (by kernel_rfl) (by kernel_rfl) rfl rfl ⟨(Below.refl _ _).drew, (fun h => by cases h)⟩ ?_ ?_
    · refine ⟨?_, ?_, ?_, ?_, ?_, ?_, ?_, ?_, ?_, ?_, ?_, ?_, trivial⟩
      · intro x D a w hI hdep hD0 K hK
        have e0 : a.eval (.tmp 0) = .int .i64 op := hI.read 0 rfl
        refine ok_value (wanted_none rfl) (v := .int .i64 op) ?_ (hK x _ _ (hI.world.up rfl) (fun _ _ _ h => h) rfl)
        have ec : ∀ c, a.eval (.const c) = c := fun _ => rfl
        have ef : ∀ f, a.eval (.func f) = .func (.func f) #[] #[] := fun _ => rfl
        clear hI hdep hK
        generalize a.eval = ρ at e0 ec ef ⊢
        go_simp
      · intro x D a w hI hdep hD0 K hK
        have e1 : a.eval (.tmp 1) = .slice (some ⟨b, off, none⟩) 2 c := hI.read 1 rfl
        refine ok_value (wanted_none rfl) (v := .slice (some ⟨b, off, none⟩) 2 c) ?_ (hK x _ _ (hI.world.up rfl) (fun _ _ _ h => h) rfl)
        have ec : ∀ c, a.eval (.const c) = c := fun _ => rfl
        have ef : ∀ f, a.eval (.func f) = .func (.func f) #[] #[] := fun _ => rfl
        clear hI hdep hK
        generalize a.eval = ρ at e1 ec ef ⊢
        go_simp
      · intro x D a w hI hdep hD0 K hK
        have e25 : a.eval (.tmp 25) = .slice (some ⟨b, off, none⟩) 2 c := hI.good 1 25 (dep_of hdep 1 rfl) rfl
        refine ok_value (wanted_none rfl) (v := .pointer (some ⟨b, off, none⟩)) ?_ (hK x _ _ (hI.world.up rfl) (fun _ _ _ h => h) rfl)
        have ec : ∀ c, a.eval (.const c) = c := fun _ => rfl
        have ef : ∀ f, a.eval (.func f) = .func (.func f) #[] #[] := fun _ => rfl
        clear hI hdep hK
        generalize a.eval = ρ at e25 ec ef ⊢
        go_simp
      · intro x D a w hI hdep hD0 K hK
        have e26 : a.eval (.tmp 26) = .pointer (some ⟨b, off, none⟩) := hI.good 2 26 (dep_of hdep 2 rfl) rfl
        refine ok_value (wanted_none rfl) (v := .pointer (some ⟨b, off + 2, none⟩)) ?_ (hK x _ _ (hI.world.up rfl) (fun _ _ _ h => h) rfl)
        have ec : ∀ c, a.eval (.const c) = c := fun _ => rfl
        have ef : ∀ f, a.eval (.func f) = .func (.func f) #[] #[] := fun _ => rfl
        clear hI hdep hK
        generalize a.eval = ρ at e26 ec ef ⊢
        go_simp
      · intro x D a w hI hdep hD0 K hK
        have e27 : a.eval (.tmp 27) = .pointer (some ⟨b, off + 2, none⟩) := hI.good 3 27 (dep_of hdep 3 rfl) rfl
        have x0 := (hI.world.row.cell (p := ⟨b, off + 2, none⟩) hlb).trans q2
        refine ok_value (wanted_none rfl) (v := .complex .f64 ar ai) ?_ (hK x _ _ (hI.world.up rfl) (fun _ _ _ h => h) rfl)
        have ec : ∀ c, a.eval (.const c) = c := fun _ => rfl
        have ef : ∀ f, a.eval (.func f) = .func (.func f) #[] #[] := fun _ => rfl
        clear hI hdep hK
        generalize a.eval = ρ at e27 ec ef ⊢
        go_simp
      · intro x D a w hI hdep hD0 K hK
        have e1 : a.eval (.tmp 1) = .slice (some ⟨b, off, none⟩) 2 c := hI.read 1 rfl
        refine ok_value (wanted_none rfl) (v := .slice (some ⟨b, off, none⟩) 2 c) ?_ (hK x _ _ (hI.world.up rfl) (fun _ _ _ h => h) rfl)
        have ec : ∀ c, a.eval (.const c) = c := fun _ => rfl
        have ef : ∀ f, a.eval (.func f) = .func (.func f) #[] #[] := fun _ => rfl
        clear hI hdep hK
        generalize a.eval = ρ at e1 ec ef ⊢
        go_simp
      · intro x D a w hI hdep hD0 K hK
        have e29 : a.eval (.tmp 29) = .slice (some ⟨b, off, none⟩) 2 c := hI.good 5 29 (dep_of hdep 5 rfl) rfl
        refine ok_value (wanted_none rfl) (v := .pointer (some ⟨b, off + 3, none⟩)) ?_ (hK x _ _ (hI.world.up rfl) (fun _ _ _ h => h) rfl)
        have ec : ∀ c, a.eval (.const c) = c := fun _ => rfl
        have ef : ∀ f, a.eval (.func f) = .func (.func f) #[] #[] := fun _ => rfl
        clear hI hdep hK
        generalize a.eval = ρ at e29 ec ef ⊢
        go_simp
      · intro x D a w hI hdep hD0 K hK
        have e30 : a.eval (.tmp 30) = .pointer (some ⟨b, off + 3, none⟩) := hI.good 6 30 (dep_of hdep 6 rfl) rfl
        refine ok_value (wanted_none rfl) (v := .pointer (some ⟨b, off + 5, none⟩)) ?_ (hK x _ _ (hI.world.up rfl) (fun _ _ _ h => h) rfl)
        have ec : ∀ c, a.eval (.const c) = c := fun _ => rfl
        have ef : ∀ f, a.eval (.func f) = .func (.func f) #[] #[] := fun _ => rfl
        clear hI hdep hK
        generalize a.eval = ρ at e30 ec ef ⊢
        go_simp
      · intro x D a w hI hdep hD0 K hK
        have e31 : a.eval (.tmp 31) = .pointer (some ⟨b, off + 5, none⟩) := hI.good 7 31 (dep_of hdep 7 rfl) rfl
        have x0 := (hI.world.row.cell (p := ⟨b, off + 5, none⟩) hlb).trans q5
        refine ok_value (wanted_none rfl) (v := .complex .f64 br bi) ?_ (hK x _ _ (hI.world.up rfl) (fun _ _ _ h => h) rfl)
        have ec : ∀ c, a.eval (.const c) = c := fun _ => rfl
        have ef : ∀ f, a.eval (.func f) = .func (.func f) #[] #[] := fun _ => rfl
        clear hI hdep hK
        generalize a.eval = ρ at e31 ec ef ⊢
        go_simp
      · intro x D a w hI hdep hD0 K hK
        have e24 : a.eval (.tmp 24) = .int .i64 op := hI.good 0 24 (dep_of hdep 0 rfl) rfl
        have e28 : a.eval (.tmp 28) = .complex .f64 ar ai := hI.good 4 28 (dep_of hdep 4 rfl) rfl
        have e32 : a.eval (.tmp 32) = .complex .f64 br bi := hI.good 8 32 (dep_of hdep 8 rfl) rfl
        refine ok_call (wanted_none rfl) (f := 35) (args := #[.int .i64 op, .complex .f64 ar ai, .complex .f64 br bi]) ?_ (two_any op ar ai br bi w) ?_
        · have ec : ∀ c, a.eval (.const c) = c := fun _ => rfl
          have ef : ∀ f, a.eval (.func f) = .func (.func f) #[] #[] := fun _ => rfl
          clear hI hdep hK
          generalize a.eval = ρ at e24 e28 e32 ec ef ⊢
          go_simp
        · rintro e w2 ⟨re, im, rfl, hr, hb2, _⟩
          exact ⟨_, rfl, hK ⟨re, im⟩ _ _ (hI.world.two_up hr hb2) (mdg9 hD0 (hI.not_up hD0 10 rfl) (hI.not_up (hI.not_up hD0 10 rfl) 11 rfl)) rfl⟩
      · intro x D a w hI hdep hD0 K hK
        have e33 : a.eval (.tmp 33) = .complex .f64 x.re x.im := hI.good 9 33 (dep_of hdep 9 rfl) rfl
        refine ok_value (wanted_none rfl) (v := .iface 64 (.complex .f64 x.re x.im)) ?_ (hK x _ _ (hI.world.up rfl) (fun _ _ _ h => h) rfl)
        have ec : ∀ c, a.eval (.const c) = c := fun _ => rfl
        have ef : ∀ f, a.eval (.func f) = .func (.func f) #[] #[] := fun _ => rfl
        clear hI hdep hK
        generalize a.eval = ρ at e33 ec ef ⊢
        go_simp
      · intro x D a w hI hdep hD0 K hK
        have e34 : a.eval (.tmp 34) = .iface 64 (.complex .f64 x.re x.im) := hI.good 10 34 (dep_of hdep 10 rfl) rfl
        refine ok_value (wanted_none rfl) (v := .iface 64 (.complex .f64 x.re x.im)) ?_ (hK x _ _ (hI.world.up rfl) (fun _ _ _ h => h) rfl)
        have ec : ∀ c, a.eval (.const c) = c := fun _ => rfl
        have ef : ∀ f, a.eval (.func f) = .func (.func f) #[] #[] := fun _ => rfl
        clear hI hdep hK
        generalize a.eval = ρ at e34 ec ef ⊢
        go_simp
    · intro x D a w hI hD
      have hfr := hI.frame [(24, .int .i64 op), (25, .slice (some ⟨b, off, none⟩) 2 c), (26, .pointer (some ⟨b, off, none⟩)), (27, .pointer (some ⟨b, off + 2, none⟩)), (28, .complex .f64 ar ai), (29, .slice (some ⟨b, off, none⟩) 2 c), (30, .pointer (some ⟨b, off + 3, none⟩)), (31, .pointer (some ⟨b, off + 5, none⟩)), (32, .complex .f64 br bi), (33, .complex .f64 x.re x.im), (34, .iface 64 (.complex .f64 x.re x.im)), (4, .iface 64 (.complex .f64 x.re x.im))] (all_cons (hI.good 0 24 (hD 0 (by decide)) rfl) (all_cons (hI.good 1 25 (hD 1 (by decide)) rfl) (all_cons (hI.good 2 26 (hD 2 (by decide)) rfl) (all_cons (hI.good 3 27 (hD 3 (by decide)) rfl) (all_cons (hI.good 4 28 (hD 4 (by decide)) rfl) (all_cons (hI.good 5 29 (hD 5 (by decide)) rfl) (all_cons (hI.good 6 30 (hD 6 (by decide)) rfl) (all_cons (hI.good 7 31 (hD 7 (by decide)) rfl) (all_cons (hI.good 8 32 (hD 8 (by decide)) rfl) (all_cons (hI.good 9 33 (hD 9 (by decide)) rfl) (all_cons (hI.good 10 34 (hD 10 (by decide)) rfl) (all_cons (hI.good 11 4 (hD 11 (by decide)) rfl) all_nil)))))))))))) rfl
      have hW := hI.world
      clear hI
      subst hfr
      simp only [List.foldl_cons, List.foldl_nil, List.setIfInBounds_toArray, List.set_cons_succ, List.set_cons_zero]
      have h9 := hW.two (hD 9 (by decide))
      have HB := Lib.hid hW.row
      have HR : Ce.MadeR op ⟨uk, un, ar, ai⟩ ⟨vk, vn, br, bi⟩ (some ⟨2, 0, x.re, x.im⟩) := .inr (.inl ⟨by omega, _, _, rfl, h9⟩)
      have HH := Lib.hid HR
      clear HR h9 hW hD
      go_wp2
      go_ret
      exact ⟨_, HH.out, rfl, HB.out⟩
  · go_enter Tryd.func20, Tryd.ntmps20
    go_wp2
    generalize ho : (17 : Int) = op at *
    refine region_k (⟨0, 0⟩ : MdX) 72 (MdC w0 op ar ai br bi) (MdG b off c op ar ai br bi) (by kernel_rfl) (by kernel_rfl) (by kernel_rfl) rfl rfl ⟨(Below.refl _ _).drew, (fun h => by cases h)⟩ ?_ ?_
    · refine ⟨?_, ?_, ?_, ?_, ?_, ?_, ?_, ?_, ?_, ?_, ?_, ?_, trivial⟩
      · intro x D a w hI hdep hD0 K hK
        have e0 : a.eval (.tmp 0) = .int .i64 op := hI.read 0 rfl
        refine ok_value (wanted_none rfl) (v := .int .i64 op) ?_ (hK x _ _ (hI.world.up rfl) (fun _ _ _ h => h) rfl)
        have ec : ∀ c, a.eval (.const c) = c := fun _ => rfl
        have ef : ∀ f, a.eval (.func f) = .func (.func f) #[] #[] := fun _ => rfl
        clear hI hdep hK
        generalize a.eval = ρ at e0 ec ef ⊢
        go_simp
      · intro x D a w hI hdep hD0 K hK
        have e1 : a.eval (.tmp 1) = .slice (some ⟨b, off, none⟩) 2 c := hI.read 1 rfl
        refine ok_value (wanted_none rfl) (v := .slice (some ⟨b, off, none⟩) 2 c) ?_ (hK x _ _ (hI.world.up rfl) (fun _ _ _ h => h) rfl)
        have ec : ∀ c, a.eval (.const c) = c := fun _ => rfl
        have ef : ∀ f, a.eval (.func f) = .func (.func f) #[] #[] := fun _ => rfl
        clear hI hdep hK
        generalize a.eval = ρ at e1 ec ef ⊢
        go_simp
      · intro x D a w hI hdep hD0 K hK
        have e25 : a.eval (.tmp 25) = .slice (some ⟨b, off, none⟩) 2 c := hI.good 1 25 (dep_of hdep 1 rfl) rfl
        refine ok_value (wanted_none rfl) (v := .pointer (some ⟨b, off, none⟩)) ?_ (hK x _ _ (hI.world.up rfl) (fun _ _ _ h => h) rfl)
        have ec : ∀ c, a.eval (.const c) = c := fun _ => rfl
        have ef : ∀ f, a.eval (.func f) = .func (.func f) #[] #[] := fun _ => rfl
        clear hI hdep hK
        generalize a.eval = ρ at e25 ec ef ⊢
        go_simp
      · intro x D a w hI hdep hD0 K hK
        have e26 : a.eval (.tmp 26) = .pointer (some ⟨b, off, none⟩) := hI.good 2 26 (dep_of hdep 2 rfl) rfl
        refine ok_value (wanted_none rfl) (v := .pointer (some ⟨b, off + 2, none⟩)) ?_ (hK x _ _ (hI.world.up rfl) (fun _ _ _ h => h) rfl)
        have ec : ∀ c, a.eval (.const c) = c := fun _ => rfl
        have ef : ∀ f, a.eval (.func f) = .func (.func f) #[] #[] := fun _ => rfl
        clear hI hdep hK
        generalize a.eval = ρ at e26 ec ef ⊢
        go_simp
      · intro x D a w hI hdep hD0 K hK
        have e27 : a.eval (.tmp 27) = .pointer (some ⟨b, off + 2, none⟩) := hI.good 3 27 (dep_of hdep 3 rfl) rfl
        have x0 := (hI.world.row.cell (p := ⟨b, off + 2, none⟩) hlb).trans q2
        refine ok_value (wanted_none rfl) (v := .complex .f64 ar ai) ?_ (hK x _ _ (hI.world.up rfl) (fun _ _ _ h => h) rfl)
        have ec : ∀ c, a.eval (.const c) = c := fun _ => rfl
        have ef : ∀ f, a.eval (.func f) = .func (.func f) #[] #[] := fun _ => rfl
        clear hI hdep hK
        generalize a.eval = ρ at e27 ec ef ⊢
        go_simp
      · intro x D a w hI hdep hD0 K hK
        have e1 : a.eval (.tmp 1) = .slice (some ⟨b, off, none⟩) 2 c := hI.read 1 rfl
        refine ok_value (wanted_none rfl) (v := .slice (some ⟨b, off, none⟩) 2 c) ?_ (hK x _ _ (hI.world.up rfl) (fun _ _ _ h => h) rfl)
        have ec : ∀ c, a.eval (.const c) = c := fun _ => rfl
        have ef : ∀ f, a.eval (.func f) = .func (.func f) #[] #[] := fun _ => rfl
        clear hI hdep hK
        generalize a.eval = ρ at e1 ec ef ⊢
        go_simp
      · intro x D a w hI hdep hD0 K hK
        have e29 : a.eval (.tmp 29) = .slice (some ⟨b, off, none⟩) 2 c := hI.good 5 29 (dep_of hdep 5 rfl) rfl
        refine ok_value (wanted_none rfl) (v := .pointer (some ⟨b, off + 3, none⟩)) ?_ (hK x _ _ (hI.world.up rfl) (fun _ _ _ h => h) rfl)
        have ec : ∀ c, a.eval (.const c) = c := fun _ => rfl
        have ef : ∀ f, a.eval (.func f) = .func (.func f) #[] #[] := fun _ => rfl
        clear hI hdep hK
        generalize a.eval = ρ at e29 ec ef ⊢
        go_simp
      · intro x D a w hI hdep hD0 K hK
        have e30 : a.eval (.tmp 30) = .pointer (some ⟨b, off + 3, none⟩) := hI.good 6 30 (dep_of hdep 6 rfl) rfl
        refine ok_value (wanted_none rfl) (v := .pointer (some ⟨b, off + 5, none⟩)) ?_ (hK x _ _ (hI.world.up rfl) (fun _ _ _ h => h) rfl)
        have ec : ∀ c, a.eval (.const c) = c := fun _ => rfl
        have ef : ∀ f, a.eval (.func f) = .func (.func f) #[] #[] := fun _ => rfl
        clear hI hdep hK
        generalize a.eval = ρ at e30 ec ef ⊢
        go_simp
      · intro x D a w hI hdep hD0 K hK
        have e31 : a.eval (.tmp 31) = .pointer (some ⟨b, off + 5, none⟩) := hI.good 7 31 (dep_of hdep 7 rfl) rfl
        have x0 := (hI.world.row.cell (p := ⟨b, off + 5, none⟩) hlb).trans q5
        refine ok_value (wanted_none rfl) (v := .complex .f64 br bi) ?_ (hK x _ _ (hI.world.up rfl) (fun _ _ _ h => h) rfl)
        have ec : ∀ c, a.eval (.const c) = c := fun _ => rfl
        have ef : ∀ f, a.eval (.func f) = .func (.func f) #[] #[] := fun _ => rfl
        clear hI hdep hK
        generalize a.eval = ρ at e31 ec ef ⊢
        go_simp
      · intro x D a w hI hdep hD0 K hK
        have e24 : a.eval (.tmp 24) = .int .i64 op := hI.good 0 24 (dep_of hdep 0 rfl) rfl
        have e28 : a.eval (.tmp 28) = .complex .f64 ar ai := hI.good 4 28 (dep_of hdep 4 rfl) rfl
        have e32 : a.eval (.tmp 32) = .complex .f64 br bi := hI.good 8 32 (dep_of hdep 8 rfl) rfl
        refine ok_call (wanted_none rfl) (f := 35) (args := #[.int .i64 op, .complex .f64 ar ai, .complex .f64 br bi]) ?_ (two_any op ar ai br bi w) ?_
        · have ec : ∀ c, a.eval (.const c) = c := fun _ => rfl
          have ef : ∀ f, a.eval (.func f) = .func (.func f) #[] #[] := fun _ => rfl
          clear hI hdep hK
          generalize a.eval = ρ at e24 e28 e32 ec ef ⊢
          go_simp
        · rintro e w2 ⟨re, im, rfl, hr, hb2, _⟩
          exact ⟨_, rfl, hK ⟨re, im⟩ _ _ (hI.world.two_up hr hb2) (mdg9 hD0 (hI.not_up hD0 10 rfl) (hI.not_up (hI.not_up hD0 10 rfl) 11 rfl)) rfl⟩
      · intro x D a w hI hdep hD0 K hK
        have e33 : a.eval (.tmp 33) = .complex .f64 x.re x.im := hI.good 9 33 (dep_of hdep 9 rfl) rfl
        refine ok_value (wanted_none rfl) (v := .iface 64 (.complex .f64 x.re x.im)) ?_ (hK x _ _ (hI.world.up rfl) (fun _ _ _ h => h) rfl)
        have ec : ∀ c, a.eval (.const c) = c := fun _ => rfl
        have ef : ∀ f, a.eval (.func f) = .func (.func f) #[] #[] := fun _ => rfl
        clear hI hdep hK
        generalize a.eval = ρ at e33 ec ef ⊢
        go_simp
      · intro x D a w hI hdep hD0 K hK
        have e34 : a.eval (.tmp 34) = .iface 64 (.complex .f64 x.re x.im) := hI.good 10 34 (dep_of hdep 10 rfl) rfl
        refine ok_value (wanted_none rfl) (v := .iface 64 (.complex .f64 x.re x.im)) ?_ (hK x _ _ (hI.world.up rfl) (fun _ _ _ h => h) rfl)
        have ec : ∀ c, a.eval (.const c) = c := fun _ => rfl
        have ef : ∀ f, a.eval (.func f) = .func (.func f) #[] #[] := fun _ => rfl
        clear hI hdep hK
        generalize a.eval = ρ at e34 ec ef ⊢
        go_simp
    · intro x D a w hI hD
      have hfr := hI.frame [(24, .int .i64 op), (25, .slice (some ⟨b, off, none⟩) 2 c), (26, .pointer (some ⟨b, off, none⟩)), (27, .pointer (some ⟨b, off + 2, none⟩)), (28, .complex .f64 ar ai), (29, .slice (some ⟨b, off, none⟩) 2 c), (30, .pointer (some ⟨b, off + 3, none⟩)), (31, .pointer (some ⟨b, off + 5, none⟩)), (32, .complex .f64 br bi), (33, .complex .f64 x.re x.im), (34, .iface 64 (.complex .f64 x.re x.im)), (4, .iface 64 (.complex .f64 x.re x.im))] (all_cons (hI.good 0 24 (hD 0 (by decide)) rfl) (all_cons (hI.good 1 25 (hD 1 (by decide)) rfl) (all_cons (hI.good 2 26 (hD 2 (by decide)) rfl) (all_cons (hI.good 3 27 (hD 3 (by decide)) rfl) (all_cons (hI.good 4 28 (hD 4 (by decide)) rfl) (all_cons (hI.good 5 29 (hD 5 (by decide)) rfl) (all_cons (hI.good 6 30 (hD 6 (by decide)) rfl) (all_cons (hI.good 7 31 (hD 7 (by decide)) rfl) (all_cons (hI.good 8 32 (hD 8 (by decide)) rfl) (all_cons (hI.good 9 33 (hD 9 (by decide)) rfl) (all_cons (hI.good 10 34 (hD 10 (by decide)) rfl) (all_cons (hI.good 11 4 (hD 11 (by decide)) rfl) all_nil)))))))))))) rfl
      have hW := hI.world
      clear hI
      subst hfr
      simp only [List.foldl_cons, List.foldl_nil, List.setIfInBounds_toArray, List.set_cons_succ, List.set_cons_zero]
      have h9 := hW.two (hD 9 (by decide))
      have HB := Lib.hid hW.row
      have HR : Ce.MadeR op ⟨uk, un, ar, ai⟩ ⟨vk, vn, br, bi⟩ (some ⟨2, 0, x.re, x.im⟩) := .inr (.inl ⟨by omega, _, _, rfl, h9⟩)
      have HH := Lib.hid HR
      clear HR h9 hW hD
      go_wp2
      go_ret
      exact ⟨_, HH.out, rfl, HB.out⟩
  · go_enter Tryd.func20, Tryd.ntmps20
    go_wp2
    generalize ho : (18 : Int) = op at *
    refine region_k (⟨0, 0⟩ : MdX) 72 (MdC w0 op ar ai br bi) (MdG b off c op ar ai br bi) (by kernel_rfl) (by kernel_rfl) (by kernel_rfl) rfl rfl ⟨(Below.refl _ _).drew, (fun h => by cases h)⟩ ?_ ?_
    · refine ⟨?_, ?_, ?_, ?_, ?_, ?_, ?_, ?_, ?_, ?_, ?_, ?_, trivial⟩
      · intro x D a w hI hdep hD0 K hK
        have e0 : a.eval (.tmp 0) = .int .i64 op := hI.read 0 rfl
        refine ok_value (wanted_none rfl) (v := .int .i64 op) ?_ (hK x _ _ (hI.world.up rfl) (fun _ _ _ h => h) rfl)
        have ec : ∀ c, a.eval (.const c) = c := fun _ => rfl
        have ef : ∀ f, a.eval (.func f) = .func (.func f) #[] #[] := fun _ => rfl
        clear hI hdep hK
        generalize a.eval = ρ at e0 ec ef ⊢
        go_simp
      · intro x D a w hI hdep hD0 K hK
        have e1 : a.eval (.tmp 1) = .slice (some ⟨b, off, none⟩) 2 c := hI.read 1 rfl
        refine ok_value (wanted_none rfl) (v := .slice (some ⟨b, off, none⟩) 2 c) ?_ (hK x _ _ (hI.world.up rfl) (fun _ _ _ h => h) rfl)
        have ec : ∀ c, a.eval (.const c) = c := fun _ => rfl
        have ef : ∀ f, a.eval (.func f) = .func (.func f) #[] #[] := fun _ => rfl
        clear hI hdep hK
        generalize a.eval = ρ at e1 ec ef ⊢
        go_simp
      · intro x D a w hI hdep hD0 K hK
        have e25 : a.eval (.tmp 25) = .slice (some ⟨b, off, none⟩) 2 c := hI.good 1 25 (dep_of hdep 1 rfl) rfl
        refine ok_value (wanted_none rfl) (v := .pointer (some ⟨b, off, none⟩)) ?_ (hK x _ _ (hI.world.up rfl) (fun _ _ _ h => h) rfl)
        have ec : ∀ c, a.eval (.const c) = c := fun _ => rfl
        have ef : ∀ f, a.eval (.func f) = .func (.func f) #[] #[] := fun _ => rfl
        clear hI hdep hK
        generalize a.eval = ρ at e25 ec ef ⊢
        go_simp
      · intro x D a w hI hdep hD0 K hK
        have e26 : a.eval (.tmp 26) = .pointer (some ⟨b, off, none⟩) := hI.good 2 26 (dep_of hdep 2 rfl) rfl
        refine ok_value (wanted_none rfl) (v := .pointer (some ⟨b, off + 2, none⟩)) ?_ (hK x _ _ (hI.world.up rfl) (fun _ _ _ h => h) rfl)
        have ec : ∀ c, a.eval (.const c) = c := fun _ => rfl
        have ef : ∀ f, a.eval (.func f) = .func (.func f) #[] #[] := fun _ => rfl
        clear hI hdep hK
        generalize a.eval = ρ at e26 ec ef ⊢
        go_simp
      · intro x D a w hI hdep hD0 K hK
        have e27 : a.eval (.tmp 27) = .pointer (some ⟨b, off + 2, none⟩) := hI.good 3 27 (dep_of hdep 3 rfl) rfl
        have x0 := (hI.world.row.cell (p := ⟨b, off + 2, none⟩) hlb).trans q2
        refine ok_value (wanted_none rfl) (v := .complex .f64 ar ai) ?_ (hK x _ _ (hI.world.up rfl) (fun _ _ _ h => h) rfl)
        have ec : ∀ c, a.eval (.const c) = c := fun _ => rfl
        have ef : ∀ f, a.eval (.func f) = .func (.func f) #[] #[] := fun _ => rfl
        clear hI hdep hK
        generalize a.eval = ρ at e27 ec ef ⊢
        go_simp
      · intro x D a w hI hdep hD0 K hK
        have e1 : a.eval (.tmp 1) = .slice (some ⟨b, off, none⟩) 2 c := hI.read 1 rfl
        refine ok_value (wanted_none rfl) (v := .slice (some ⟨b, off, none⟩) 2 c) ?_ (hK x _ _ (hI.world.up rfl) (fun _ _ _ h => h) rfl)
        have ec : ∀ c, a.eval (.const c) = c := fun _ => rfl
        have ef : ∀ f, a.eval (.func f) = .func (.func f) #[] #[] := fun _ => rfl
        clear hI hdep hK
        generalize a.eval = ρ at e1 ec ef ⊢
        go_simp
      · intro x D a w hI hdep hD0 K hK
        have e29 : a.eval (.tmp 29) = .slice (some ⟨b, off, none⟩) 2 c := hI.good 5 29 (dep_of hdep 5 rfl) rfl
        refine ok_value (wanted_none rfl) (v := .pointer (some ⟨b, off + 3, none⟩)) ?_ (hK x _ _ (hI.world.up rfl) (fun _ _ _ h => h) rfl)
        have ec : ∀ c, a.eval (.const c) = c := fun _ => rfl
        have ef : ∀ f, a.eval (.func f) = .func (.func f) #[] #[] := fun _ => rfl
        clear hI hdep hK
        generalize a.eval = ρ at e29 ec ef ⊢
        go_simp
      · intro x D a w hI hdep hD0 K hK
        have e30 : a.eval (.tmp 30) = .pointer (some ⟨b, off + 3, none⟩) := hI.good 6 30 (dep_of hdep 6 rfl) rfl
        refine ok_value (wanted_none rfl) (v := .pointer (some ⟨b, off + 5, none⟩)) ?_ (hK x _ _ (hI.world.up rfl) (fun _ _ _ h => h) rfl)
        have ec : ∀ c, a.eval (.const c) = c := fun _ => rfl
        have ef : ∀ f, a.eval (.func f) = .func (.func f) #[] #[] := fun _ => rfl
        clear hI hdep hK
        generalize a.eval = ρ at e30 ec ef ⊢
        go_simp
      · intro x D a w hI hdep hD0 K hK
        have e31 : a.eval (.tmp 31) = .pointer (some ⟨b, off + 5, none⟩) := hI.good 7 31 (dep_of hdep 7 rfl) rfl
        have x0 := (hI.world.row.cell (p := ⟨b, off + 5, none⟩) hlb).trans q5
        refine ok_value (wanted_none rfl) (v := .complex .f64 br bi) ?_ (hK x _ _ (hI.world.up rfl) (fun _ _ _ h => h) rfl)
        have ec : ∀ c, a.eval (.const c) = c := fun _ => rfl
        have ef : ∀ f, a.eval (.func f) = .func (.func f) #[] #[] := fun _ => rfl
        clear hI hdep hK
        generalize a.eval = ρ at e31 ec ef ⊢
        go_simp
      · intro x D a w hI hdep hD0 K hK
        have e24 : a.eval (.tmp 24) = .int .i64 op := hI.good 0 24 (dep_of hdep 0 rfl) rfl
        have e28 : a.eval (.tmp 28) = .complex .f64 ar ai := hI.good 4 28 (dep_of hdep 4 rfl) rfl
        have e32 : a.eval (.tmp 32) = .complex .f64 br bi := hI.good 8 32 (dep_of hdep 8 rfl) rfl
        refine ok_call (wanted_none rfl) (f := 35) (args := #[.int .i64 op, .complex .f64 ar ai, .complex .f64 br bi]) ?_ (two_any op ar ai br bi w) ?_
        · have ec : ∀ c, a.eval (.const c) = c := fun _ => rfl
          have ef : ∀ f, a.eval (.func f) = .func (.func f) #[] #[] := fun _ => rfl
          clear hI hdep hK
          generalize a.eval = ρ at e24 e28 e32 ec ef ⊢
          go_simp
        · rintro e w2 ⟨re, im, rfl, hr, hb2, _⟩
          exact ⟨_, rfl, hK ⟨re, im⟩ _ _ (hI.world.two_up hr hb2) (mdg9 hD0 (hI.not_up hD0 10 rfl) (hI.not_up (hI.not_up hD0 10 rfl) 11 rfl)) rfl⟩
      · intro x D a w hI hdep hD0 K hK
        have e33 : a.eval (.tmp 33) = .complex .f64 x.re x.im := hI.good 9 33 (dep_of hdep 9 rfl) rfl
        refine ok_value (wanted_none rfl) (v := .iface 64 (.complex .f64 x.re x.im)) ?_ (hK x _ _ (hI.world.up rfl) (fun _ _ _ h => h) rfl)
        have ec : ∀ c, a.eval (.const c) = c := fun _ => rfl
        have ef : ∀ f, a.eval (.func f) = .func (.func f) #[] #[] := fun _ => rfl
        clear hI hdep hK
        generalize a.eval = ρ at e33 ec ef ⊢
        go_simp
      · intro x D a w hI hdep hD0 K hK
        have e34 : a.eval (.tmp 34) = .iface 64 (.complex .f64 x.re x.im) := hI.good 10 34 (dep_of hdep 10 rfl) rfl
        refine ok_value (wanted_none rfl) (v := .iface 64 (.complex .f64 x.re x.im)) ?_ (hK x _ _ (hI.world.up rfl) (fun _ _ _ h => h) rfl)
        have ec : ∀ c, a.eval (.const c) = c := fun _ => rfl
        have ef : ∀ f, a.eval (.func f) = .func (.func f) #[] #[] := fun _ => rfl
        clear hI hdep hK
        generalize a.eval = ρ at e34 ec ef ⊢
        go_simp
    · intro x D a w hI hD
      have hfr := hI.frame [(24, .int .i64 op), (25, .slice (some ⟨b, off, none⟩) 2 c), (26, .pointer (some ⟨b, off, none⟩)), (27, .pointer (some ⟨b, off + 2, none⟩)), (28, .complex .f64 ar ai), (29, .slice (some ⟨b, off, none⟩) 2 c), (30, .pointer (some ⟨b, off + 3, none⟩)), (31, .pointer (some ⟨b, off + 5, none⟩)), (32, .complex .f64 br bi), (33, .complex .f64 x.re x.im), (34, .iface 64 (.complex .f64 x.re x.im)), (4, .iface 64 (.complex .f64 x.re x.im))] (all_cons (hI.good 0 24 (hD 0 (by decide)) rfl) (all_cons (hI.good 1 25 (hD 1 (by decide)) rfl) (all_cons (hI.good 2 26 (hD 2 (by decide)) rfl) (all_cons (hI.good 3 27 (hD 3 (by decide)) rfl) (all_cons (hI.good 4 28 (hD 4 (by decide)) rfl) (all_cons (hI.good 5 29 (hD 5 (by decide)) rfl) (all_cons (hI.good 6 30 (hD 6 (by decide)) rfl) (all_cons (hI.good 7 31 (hD 7 (by decide)) rfl) (all_cons (hI.good 8 32 (hD 8 (by decide)) rfl) (all_cons (hI.good 9 33 (hD 9 (by decide)) rfl) (all_cons (hI.good 10 34 (hD 10 (by decide)) rfl) (all_cons (hI.good 11 4 (hD 11 (by decide)) rfl) all_nil)))))))))))) rfl
      have hW := hI.world
      clear hI
      subst hfr
      simp only [List.foldl_cons, List.foldl_nil, List.setIfInBounds_toArray, List.set_cons_succ, List.set_cons_zero]
      have h9 := hW.two (hD 9 (by decide))
      have HB := Lib.hid hW.row
      have HR : Ce.MadeR op ⟨uk, un, ar, ai⟩ ⟨vk, vn, br, bi⟩ (some ⟨2, 0, x.re, x.im⟩) := .inr (.inl ⟨by omega, _, _, rfl, h9⟩)
      have HH := Lib.hid HR
      clear HR h9 hW hD
      go_wp2
      go_ret
      exact ⟨_, HH.out, rfl, HB.out⟩
end Go.Proofs.YtdenboakcbipdaaDoor
