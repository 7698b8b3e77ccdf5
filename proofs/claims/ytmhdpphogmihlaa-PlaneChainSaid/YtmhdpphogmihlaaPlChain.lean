/-
  The walk of PlaneChain. Conditions: the steps can be read.
-/
import Derived.Test.YtmhdpphogmihlaaPlC
import Derived.Test.YtmhdpphogmihlaaPlAt
import Derived.Test.YtmhdpphogmihlaaRegionK
import Derived.BigQuiet
import Derived.Deep.QuietTactic
namespace Go.Proofs.Ytmhdpphogmihlaa
open Go.RowKit

/-- What the two answers are. -/
structure ChX where
  re : Nat
  im : Nat
  re' : Nat
  im' : Nat

def ChG (b off n c k : Nat) (op : Int) (xr xi yr yi pr pi : Nat) (x : ChX) : Nat → Value → Prop
  | 0, v => v = .slice (some ⟨b, off, none⟩) n c
  | 1, v => v = .int .i64 (k : Int)
  | 2, v => v = .pointer (some ⟨b, off + k * 3, none⟩)
  | 3, v => v = .pointer (some ⟨b, off + k * 3, none⟩)
  | 4, v => v = .int .i64 op
  | 5, v => v = .complex .f64 xr xi
  | 6, v => v = .complex .f64 pr pi
  | 7, v => v = .complex .f64 x.re x.im
  | 8, v => v = .slice (some ⟨b, off, none⟩) n c
  | 9, v => v = .int .i64 (k : Int)
  | 10, v => v = .pointer (some ⟨b, off + k * 3, none⟩)
  | 11, v => v = .pointer (some ⟨b, off + k * 3, none⟩)
  | 12, v => v = .int .i64 op
  | 13, v => v = .complex .f64 yr yi
  | 14, v => v = .complex .f64 pr pi
  | 15, v => v = .complex .f64 x.re' x.im'
  | 16, v => v = .complex .f64 x.re x.im
  | 17, v => v = .complex .f64 x.re' x.im'
  | _, _ => True

theorem chg7 {b off n c k : Nat} {op : Int} {xr xi yr yi pr pi : Nat} {x : ChX} {re im : Nat} {D : Nat → Bool} (h7 : D 7 = false) (h16 : D 16 = false) : ∀ j v, D j = true → ChG b off n c k op xr xi yr yi pr pi x j v → ChG b off n c k op xr xi yr yi pr pi ⟨re, im, x.re', x.im'⟩ j v
  | 0, _, _, h | 1, _, _, h | 2, _, _, h | 3, _, _, h | 4, _, _, h | 5, _, _, h | 6, _, _, h | 8, _, _, h | 9, _, _, h | 10, _, _, h | 11, _, _, h | 12, _, _, h | 13, _, _, h | 14, _, _, h | 15, _, _, h | 17, _, _, h => h
  | 7, _, hj, _ => by rw [h7] at hj; cases hj
  | 16, _, hj, _ => by rw [h16] at hj; cases hj
  | _ + 18, _, _, h => h

theorem chg15 {b off n c k : Nat} {op : Int} {xr xi yr yi pr pi : Nat} {x : ChX} {re im : Nat} {D : Nat → Bool} (h15 : D 15 = false) (h17 : D 17 = false) : ∀ j v, D j = true → ChG b off n c k op xr xi yr yi pr pi x j v → ChG b off n c k op xr xi yr yi pr pi ⟨x.re, x.im, re, im⟩ j v
  | 0, _, _, h | 1, _, _, h | 2, _, _, h | 3, _, _, h | 4, _, _, h | 5, _, _, h | 6, _, _, h | 7, _, _, h | 8, _, _, h | 9, _, _, h | 10, _, _, h | 11, _, _, h | 12, _, _, h | 13, _, _, h | 14, _, _, h | 16, _, _, h => h
  | 15, _, hj, _ => by rw [h15] at hj; cases hj
  | 17, _, hj, _ => by rw [h17] at hj; cases hj
  | _ + 18, _, _, h => h

theorem up_other {D : Nat → Bool} {i j : Nat} (h : (j == i) = false) : add D i j = D j := by unfold add; rw [h]; simp

/-- The world while the two answer. -/
structure ChC (w0 : World) (op : Int) (xr xi yr yi pr pi : Nat) (x : ChX) (D : Nat → Bool) (W : World) : Prop where
  row : Below w0.heap.size w0 W
  mine : D 7 = true → Pl.TwoR op xr xi pr pi x.re x.im
  yours : D 15 = true → Pl.TwoR op yr yi pr pi x.re' x.im'
section
variable {w0 W : World} {op : Int} {xr xi yr yi pr pi : Nat} {x : ChX} {D : Nat → Bool}
theorem ChC.up (h : ChC w0 op xr xi yr yi pr pi x D W) {i : Nat} (h7 : ((7 : Nat) == i) = false) (h15 : ((15 : Nat) == i) = false) : ChC w0 op xr xi yr yi pr pi x (add D i) W :=
  ⟨h.row, by rw [up_other h7]; exact h.mine, by rw [up_other h15]; exact h.yours⟩
theorem ChC.mine_up (h : ChC w0 op xr xi yr yi pr pi x D W) {re im : Nat} {W' : World} (hr : Pl.TwoR op xr xi pr pi re im) (hb : Below W.heap.size W W') : ChC w0 op xr xi yr yi pr pi ⟨re, im, x.re', x.im'⟩ (add D 7) W' :=
  ⟨h.row.trans (hb.mono h.row.size), fun _ => hr, by rw [up_other rfl]; exact h.yours⟩
theorem ChC.yours_up (h : ChC w0 op xr xi yr yi pr pi x D W) {re im : Nat} {W' : World} (hr : Pl.TwoR op yr yi pr pi re im) (hb : Below W.heap.size W W') : ChC w0 op xr xi yr yi pr pi ⟨x.re, x.im, re, im⟩ (add D 15) W' :=
  ⟨h.row.trans (hb.mono h.row.size), by rw [up_other rfl]; exact h.mine, fun _ => hr⟩
end

/-- Between two rounds: both numbers are alike. -/
def ChRel (w0 : World) (n : Nat) (u v i : Value) (W : World) : Prop :=
  ∃ (xr xi yr yi k : Nat), u = .complex .f64 xr xi ∧ v = .complex .f64 yr yi ∧ i = .int .i64 (k : Int) ∧ k ≤ n ∧ k ≤ 60 ∧ Pl.Al xr yr ∧ Pl.Al xi yi ∧ Below w0.heap.size w0 W

theorem below_drewN {B : Nat} {a w : World} (h : Below B a w) (n : Nat) : Below B a (w.drewN n) := ⟨h.os, h.tape, h.output, h.size, h.block⟩

set_option maxHeartbeats 8000000 in
set_option maxRecDepth 100000 in
theorem chain_walk (a : Option Addr) (n c : Nat) (l : Steps) (w0 : World) (h : StepsAt w0 w0.heap.size a n l) (hn : n ≤ 9223372036854775807) :
    Calls Try.prog 3 #[.slice a n c] w0 (BoolP true w0) := by
  have HS := Lib.hid h
  clear h
  go_enter Try.func3, Try.ntmps3
  go_wp2
  go_loopw [3, 4, 5] (ChRel w0 n) (fun _ _ i _ => n - (intOf i).toNat)
  case atStart => exact ⟨0, 0, 0, 0, 0, rfl, rfl, rfl, Nat.zero_le _, Nat.zero_le _, .refl _, .refl _, Below.refl _ _⟩
  case round =>
    obtain ⟨xr, xi, yr, yi, k, rfl, rfl, rfl, hk, hk60, hal, hal', hB⟩ := hrel
    have HAL := Lib.hid hal
    have HAL' := Lib.hid hal'
    have HB := Lib.hid hB
    clear hal hal' hB
    by_cases hlt : k < n ∧ k < 60
    · obtain ⟨hlt, hlt60⟩ := hlt
      obtain ⟨b, off, rfl, hlb, hc⟩ := HS.out.2 (by omega)
      obtain ⟨c0, c1, c2⟩ := hc k hlt
      clear hc
      generalize l.getD k (0, 0, 0) = s at *
      obtain ⟨op, re0, im0⟩ := s
      simp only at c0 c1 c2
      have hki : (k : Int) < (n : Int) := by omega
      have hki60 : (k : Int) < 60 := by omega
      have q0 := (HB.out.cell (p := ⟨b, off + k * 3, none⟩) hlb).trans c0
      have q1 := (HB.out.cell (p := ⟨b, off + k * 3 + 1, none⟩) hlb).trans c1
      have q2 := (HB.out.cell (p := ⟨b, off + k * 3 + 2, none⟩) hlb).trans c2
      have HC0 := Lib.hid c0
      clear c0 c1 c2
      go_wp2
      go_quiet (first
        | (go_at_call 5; refine Calls.quiet_of_same (pair_any _ _ _))
        | (go_at_call 6; refine Calls.quiet_of_same (rpair_any _ _ _)))
      clear q0 q1 q2
      have HB1 := Lib.hid (below_drewN HB.out nq)
      generalize wr.drewN nq = W at *
      generalize floatOfInt .f64 re0 = pr at *
      generalize floatOfInt .f64 im0 = pi at *
      have q0 := HC0.out
      go_wp2
      refine region_k (⟨0, 0, 0, 0⟩ : ChX) 99 (ChC w0 op xr xi yr yi pr pi) (ChG b off n c k op xr xi yr yi pr pi) (by kernel_rfl) (by kernel_rfl) (by kernel_rfl) rfl rfl ⟨HB1.out.drew, (fun h => by cases h), (fun h => by cases h)⟩ ?_ ?_
      · refine ⟨?_, ?_, ?_, ?_, ?_, ?_, ?_, ?_, ?_, ?_, ?_, ?_, ?_, ?_, ?_, ?_, ?_, ?_, trivial⟩
        · intro x D a w hI hdep hD0 K hK
          have e0 : a.eval (.tmp 0) = .slice (some ⟨b, off, none⟩) n c := hI.read 0 rfl
          refine ok_value (wanted_none rfl) (v := .slice (some ⟨b, off, none⟩) n c) ?_ (hK x _ _ (hI.world.up rfl rfl) (fun _ _ _ h => h) rfl)
          have ec : ∀ c, a.eval (.const c) = c := fun _ => rfl
          have ef : ∀ f, a.eval (.func f) = .func (.func f) #[] #[] := fun _ => rfl
          clear hI hdep hK
          generalize a.eval = ρ at e0 ec ef ⊢
          go_simp
        · intro x D a w hI hdep hD0 K hK
          have e5 : a.eval (.tmp 5) = .int .i64 (k : Int) := hI.read 5 rfl
          refine ok_value (wanted_none rfl) (v := .int .i64 (k : Int)) ?_ (hK x _ _ (hI.world.up rfl rfl) (fun _ _ _ h => h) rfl)
          have ec : ∀ c, a.eval (.const c) = c := fun _ => rfl
          have ef : ∀ f, a.eval (.func f) = .func (.func f) #[] #[] := fun _ => rfl
          clear hI hdep hK
          generalize a.eval = ρ at e5 ec ef ⊢
          go_simp
        · intro x D a w hI hdep hD0 K hK
          have e42 : a.eval (.tmp 42) = .slice (some ⟨b, off, none⟩) n c := hI.good 0 42 (dep_of hdep 0 rfl) rfl
          have e43 : a.eval (.tmp 43) = .int .i64 (k : Int) := hI.good 1 43 (dep_of hdep 1 rfl) rfl
          refine ok_value (wanted_none rfl) (v := .pointer (some ⟨b, off + k * 3, none⟩)) ?_ (hK x _ _ (hI.world.up rfl rfl) (fun _ _ _ h => h) rfl)
          have ec : ∀ c, a.eval (.const c) = c := fun _ => rfl
          have ef : ∀ f, a.eval (.func f) = .func (.func f) #[] #[] := fun _ => rfl
          clear hI hdep hK
          generalize a.eval = ρ at e42 e43 ec ef ⊢
          go_simp
        · intro x D a w hI hdep hD0 K hK
          have e44 : a.eval (.tmp 44) = .pointer (some ⟨b, off + k * 3, none⟩) := hI.good 2 44 (dep_of hdep 2 rfl) rfl
          refine ok_value (wanted_none rfl) (v := .pointer (some ⟨b, off + k * 3, none⟩)) ?_ (hK x _ _ (hI.world.up rfl rfl) (fun _ _ _ h => h) rfl)
          have ec : ∀ c, a.eval (.const c) = c := fun _ => rfl
          have ef : ∀ f, a.eval (.func f) = .func (.func f) #[] #[] := fun _ => rfl
          clear hI hdep hK
          generalize a.eval = ρ at e44 ec ef ⊢
          go_simp
        · intro x D a w hI hdep hD0 K hK
          have e45 : a.eval (.tmp 45) = .pointer (some ⟨b, off + k * 3, none⟩) := hI.good 3 45 (dep_of hdep 3 rfl) rfl
          have x0 := (hI.world.row.cell (p := ⟨b, off + k * 3, none⟩) hlb).trans q0
          refine ok_value (wanted_none rfl) (v := .int .i64 op) ?_ (hK x _ _ (hI.world.up rfl rfl) (fun _ _ _ h => h) rfl)
          have ec : ∀ c, a.eval (.const c) = c := fun _ => rfl
          have ef : ∀ f, a.eval (.func f) = .func (.func f) #[] #[] := fun _ => rfl
          clear hI hdep hK
          generalize a.eval = ρ at e45 ec ef ⊢
          go_simp
        · intro x D a w hI hdep hD0 K hK
          have e3 : a.eval (.tmp 3) = .complex .f64 xr xi := hI.read 3 rfl
          refine ok_value (wanted_none rfl) (v := .complex .f64 xr xi) ?_ (hK x _ _ (hI.world.up rfl rfl) (fun _ _ _ h => h) rfl)
          have ec : ∀ c, a.eval (.const c) = c := fun _ => rfl
          have ef : ∀ f, a.eval (.func f) = .func (.func f) #[] #[] := fun _ => rfl
          clear hI hdep hK
          generalize a.eval = ρ at e3 ec ef ⊢
          go_simp
        · intro x D a w hI hdep hD0 K hK
          have e6 : a.eval (.tmp 6) = .complex .f64 pr pi := hI.read 6 rfl
          refine ok_value (wanted_none rfl) (v := .complex .f64 pr pi) ?_ (hK x _ _ (hI.world.up rfl rfl) (fun _ _ _ h => h) rfl)
          have ec : ∀ c, a.eval (.const c) = c := fun _ => rfl
          have ef : ∀ f, a.eval (.func f) = .func (.func f) #[] #[] := fun _ => rfl
          clear hI hdep hK
          generalize a.eval = ρ at e6 ec ef ⊢
          go_simp
        · intro x D a w hI hdep hD0 K hK
          have e46 : a.eval (.tmp 46) = .int .i64 op := hI.good 4 46 (dep_of hdep 4 rfl) rfl
          have e47 : a.eval (.tmp 47) = .complex .f64 xr xi := hI.good 5 47 (dep_of hdep 5 rfl) rfl
          have e48 : a.eval (.tmp 48) = .complex .f64 pr pi := hI.good 6 48 (dep_of hdep 6 rfl) rfl
          refine ok_call (wanted_none rfl) (f := 7) (args := #[.int .i64 op, .complex .f64 xr xi, .complex .f64 pr pi]) ?_ (two_any op xr xi pr pi w) ?_
          · have ec : ∀ c, a.eval (.const c) = c := fun _ => rfl
            have ef : ∀ f, a.eval (.func f) = .func (.func f) #[] #[] := fun _ => rfl
            clear hI hdep hK
            generalize a.eval = ρ at e46 e47 e48 ec ef ⊢
            go_simp
          · rintro e w2 ⟨re, im, rfl, hr, hb2, _⟩
            exact ⟨_, rfl, hK ⟨re, im, x.re', x.im'⟩ _ _ (hI.world.mine_up hr hb2) (chg7 hD0 (hI.not_up hD0 16 rfl)) rfl⟩
        · intro x D a w hI hdep hD0 K hK
          have e0 : a.eval (.tmp 0) = .slice (some ⟨b, off, none⟩) n c := hI.read 0 rfl
          refine ok_value (wanted_none rfl) (v := .slice (some ⟨b, off, none⟩) n c) ?_ (hK x _ _ (hI.world.up rfl rfl) (fun _ _ _ h => h) rfl)
          have ec : ∀ c, a.eval (.const c) = c := fun _ => rfl
          have ef : ∀ f, a.eval (.func f) = .func (.func f) #[] #[] := fun _ => rfl
          clear hI hdep hK
          generalize a.eval = ρ at e0 ec ef ⊢
          go_simp
        · intro x D a w hI hdep hD0 K hK
          have e5 : a.eval (.tmp 5) = .int .i64 (k : Int) := hI.read 5 rfl
          refine ok_value (wanted_none rfl) (v := .int .i64 (k : Int)) ?_ (hK x _ _ (hI.world.up rfl rfl) (fun _ _ _ h => h) rfl)
          have ec : ∀ c, a.eval (.const c) = c := fun _ => rfl
          have ef : ∀ f, a.eval (.func f) = .func (.func f) #[] #[] := fun _ => rfl
          clear hI hdep hK
          generalize a.eval = ρ at e5 ec ef ⊢
          go_simp
        · intro x D a w hI hdep hD0 K hK
          have e50 : a.eval (.tmp 50) = .slice (some ⟨b, off, none⟩) n c := hI.good 8 50 (dep_of hdep 8 rfl) rfl
          have e51 : a.eval (.tmp 51) = .int .i64 (k : Int) := hI.good 9 51 (dep_of hdep 9 rfl) rfl
          refine ok_value (wanted_none rfl) (v := .pointer (some ⟨b, off + k * 3, none⟩)) ?_ (hK x _ _ (hI.world.up rfl rfl) (fun _ _ _ h => h) rfl)
          have ec : ∀ c, a.eval (.const c) = c := fun _ => rfl
          have ef : ∀ f, a.eval (.func f) = .func (.func f) #[] #[] := fun _ => rfl
          clear hI hdep hK
          generalize a.eval = ρ at e50 e51 ec ef ⊢
          go_simp
        · intro x D a w hI hdep hD0 K hK
          have e52 : a.eval (.tmp 52) = .pointer (some ⟨b, off + k * 3, none⟩) := hI.good 10 52 (dep_of hdep 10 rfl) rfl
          refine ok_value (wanted_none rfl) (v := .pointer (some ⟨b, off + k * 3, none⟩)) ?_ (hK x _ _ (hI.world.up rfl rfl) (fun _ _ _ h => h) rfl)
          have ec : ∀ c, a.eval (.const c) = c := fun _ => rfl
          have ef : ∀ f, a.eval (.func f) = .func (.func f) #[] #[] := fun _ => rfl
          clear hI hdep hK
          generalize a.eval = ρ at e52 ec ef ⊢
          go_simp
        · intro x D a w hI hdep hD0 K hK
          have e53 : a.eval (.tmp 53) = .pointer (some ⟨b, off + k * 3, none⟩) := hI.good 11 53 (dep_of hdep 11 rfl) rfl
          have x0 := (hI.world.row.cell (p := ⟨b, off + k * 3, none⟩) hlb).trans q0
          refine ok_value (wanted_none rfl) (v := .int .i64 op) ?_ (hK x _ _ (hI.world.up rfl rfl) (fun _ _ _ h => h) rfl)
          have ec : ∀ c, a.eval (.const c) = c := fun _ => rfl
          have ef : ∀ f, a.eval (.func f) = .func (.func f) #[] #[] := fun _ => rfl
          clear hI hdep hK
          generalize a.eval = ρ at e53 ec ef ⊢
          go_simp
        · intro x D a w hI hdep hD0 K hK
          have e4 : a.eval (.tmp 4) = .complex .f64 yr yi := hI.read 4 rfl
          refine ok_value (wanted_none rfl) (v := .complex .f64 yr yi) ?_ (hK x _ _ (hI.world.up rfl rfl) (fun _ _ _ h => h) rfl)
          have ec : ∀ c, a.eval (.const c) = c := fun _ => rfl
          have ef : ∀ f, a.eval (.func f) = .func (.func f) #[] #[] := fun _ => rfl
          clear hI hdep hK
          generalize a.eval = ρ at e4 ec ef ⊢
          go_simp
        · intro x D a w hI hdep hD0 K hK
          have e7 : a.eval (.tmp 7) = .complex .f64 pr pi := hI.read 7 rfl
          refine ok_value (wanted_none rfl) (v := .complex .f64 pr pi) ?_ (hK x _ _ (hI.world.up rfl rfl) (fun _ _ _ h => h) rfl)
          have ec : ∀ c, a.eval (.const c) = c := fun _ => rfl
          have ef : ∀ f, a.eval (.func f) = .func (.func f) #[] #[] := fun _ => rfl
          clear hI hdep hK
          generalize a.eval = ρ at e7 ec ef ⊢
          go_simp
        · intro x D a w hI hdep hD0 K hK
          have e54 : a.eval (.tmp 54) = .int .i64 op := hI.good 12 54 (dep_of hdep 12 rfl) rfl
          have e55 : a.eval (.tmp 55) = .complex .f64 yr yi := hI.good 13 55 (dep_of hdep 13 rfl) rfl
          have e56 : a.eval (.tmp 56) = .complex .f64 pr pi := hI.good 14 56 (dep_of hdep 14 rfl) rfl
          refine ok_call (wanted_none rfl) (f := 8) (args := #[.int .i64 op, .complex .f64 yr yi, .complex .f64 pr pi]) ?_ (rtwo_any op yr yi pr pi w) ?_
          · have ec : ∀ c, a.eval (.const c) = c := fun _ => rfl
            have ef : ∀ f, a.eval (.func f) = .func (.func f) #[] #[] := fun _ => rfl
            clear hI hdep hK
            generalize a.eval = ρ at e54 e55 e56 ec ef ⊢
            go_simp
          · rintro e w2 ⟨re, im, rfl, hr, hb2, _⟩
            exact ⟨_, rfl, hK ⟨x.re, x.im, re, im⟩ _ _ (hI.world.yours_up hr hb2) (chg15 hD0 (hI.not_up hD0 17 rfl)) rfl⟩
        · intro x D a w hI hdep hD0 K hK
          have e49 : a.eval (.tmp 49) = .complex .f64 x.re x.im := hI.good 7 49 (dep_of hdep 7 rfl) rfl
          refine ok_value (wanted_none rfl) (v := .complex .f64 x.re x.im) ?_ (hK x _ _ (hI.world.up rfl rfl) (fun _ _ _ h => h) rfl)
          have ec : ∀ c, a.eval (.const c) = c := fun _ => rfl
          have ef : ∀ f, a.eval (.func f) = .func (.func f) #[] #[] := fun _ => rfl
          clear hI hdep hK
          generalize a.eval = ρ at e49 ec ef ⊢
          go_simp
        · intro x D a w hI hdep hD0 K hK
          have e57 : a.eval (.tmp 57) = .complex .f64 x.re' x.im' := hI.good 15 57 (dep_of hdep 15 rfl) rfl
          refine ok_value (wanted_none rfl) (v := .complex .f64 x.re' x.im') ?_ (hK x _ _ (hI.world.up rfl rfl) (fun _ _ _ h => h) rfl)
          have ec : ∀ c, a.eval (.const c) = c := fun _ => rfl
          have ef : ∀ f, a.eval (.func f) = .func (.func f) #[] #[] := fun _ => rfl
          clear hI hdep hK
          generalize a.eval = ρ at e57 ec ef ⊢
          go_simp
      · intro x D a w hI hD
        have hfr := hI.frame [(42, .slice (some ⟨b, off, none⟩) n c), (43, .int .i64 (k : Int)), (44, .pointer (some ⟨b, off + k * 3, none⟩)), (45, .pointer (some ⟨b, off + k * 3, none⟩)), (46, .int .i64 op), (47, .complex .f64 xr xi), (48, .complex .f64 pr pi), (49, .complex .f64 x.re x.im), (50, .slice (some ⟨b, off, none⟩) n c), (51, .int .i64 (k : Int)), (52, .pointer (some ⟨b, off + k * 3, none⟩)), (53, .pointer (some ⟨b, off + k * 3, none⟩)), (54, .int .i64 op), (55, .complex .f64 yr yi), (56, .complex .f64 pr pi), (57, .complex .f64 x.re' x.im'), (8, .complex .f64 x.re x.im), (9, .complex .f64 x.re' x.im')] (all_cons (hI.good 0 42 (hD 0 (by decide)) rfl) (all_cons (hI.good 1 43 (hD 1 (by decide)) rfl) (all_cons (hI.good 2 44 (hD 2 (by decide)) rfl) (all_cons (hI.good 3 45 (hD 3 (by decide)) rfl) (all_cons (hI.good 4 46 (hD 4 (by decide)) rfl) (all_cons (hI.good 5 47 (hD 5 (by decide)) rfl) (all_cons (hI.good 6 48 (hD 6 (by decide)) rfl) (all_cons (hI.good 7 49 (hD 7 (by decide)) rfl) (all_cons (hI.good 8 50 (hD 8 (by decide)) rfl) (all_cons (hI.good 9 51 (hD 9 (by decide)) rfl) (all_cons (hI.good 10 52 (hD 10 (by decide)) rfl) (all_cons (hI.good 11 53 (hD 11 (by decide)) rfl) (all_cons (hI.good 12 54 (hD 12 (by decide)) rfl) (all_cons (hI.good 13 55 (hD 13 (by decide)) rfl) (all_cons (hI.good 14 56 (hD 14 (by decide)) rfl) (all_cons (hI.good 15 57 (hD 15 (by decide)) rfl) (all_cons (hI.good 16 8 (hD 16 (by decide)) rfl) (all_cons (hI.good 17 9 (hD 17 (by decide)) rfl) all_nil)))))))))))))))))) rfl
        have hW := hI.world
        clear hI
        subst hfr
        simp only [List.foldl_cons, List.foldl_nil, List.setIfInBounds_toArray, List.set_cons_succ, List.set_cons_zero]
        have h7 := hW.mine (hD 7 (by decide))
        have h15 := hW.yours (hD 15 (by decide))
        have HB2 := Lib.hid hW.row
        obtain ⟨e1, e2⟩ := Pl.two_al h7 h15 HAL.out HAL'.out (.refl pr) (.refl pi)
        have HE1 := Lib.hid e1
        have HE2 := Lib.hid e2
        have H1 := fun w => rsame_any pr pi pr pi w
        rw [Pl.al_self, Pl.al_self] at H1
        have H2 := fun w => rsame_any x.re x.im x.re' x.im' w
        rw [Pl.al_of e1, Pl.al_of e2] at H2
        have H3 := fun w => same_any x.re x.im xr xi w
        rw [Pl.al_congr e1 HAL.out, Pl.al_congr e2 HAL'.out] at H3
        have H4 := fun w => rsame_any x.re' x.im' yr yi w
        have H5 := fun w => part_any 19 x.re x.im w
        have H6 := fun w => rpart_any 19 x.re' x.im' w
        have H7 := fun w => part_any 20 x.re x.im w
        have H8 := fun w => rpart_any 20 x.re' x.im' w
        have p19 : Pl.part 19 x.re x.im = Pl.part 19 x.re' x.im' := Pl.near_congr e1
        have p20 : Pl.part 20 x.re x.im = Pl.part 20 x.re' x.im' := Pl.near_congr e2
        rw [p19] at H5
        rw [p20] at H7
        generalize (Pl.al x.re' yr && Pl.al x.im' yi) = s at *
        generalize Pl.part 19 x.re' x.im' = z at *
        generalize Pl.part 20 x.re' x.im' = z' at *
        clear hW hD h7 h15 e1 e2 p19 p20 q0
        obtain ⟨ar, ai, br, bi⟩ := x
        simp only at *
        cases s
        all_goals
          go_wp2_with (first
            | (go_at_call 9; with_reducible refine (H1 _).mono ?_; rintro _ w1 ⟨rfl, he⟩; obtain rfl := he.symm)
            | (go_at_call 9; with_reducible refine (H2 _).mono ?_; rintro _ w1 ⟨rfl, he⟩; obtain rfl := he.symm)
            | (go_at_call 10; with_reducible refine (H3 _).mono ?_; rintro _ w1 ⟨rfl, he⟩; obtain rfl := he.symm)
            | (go_at_call 9; with_reducible refine (H4 _).mono ?_; rintro _ w1 ⟨rfl, he⟩; obtain rfl := he.symm)
            | (go_at_call 11; with_reducible refine (H5 _).mono ?_; rintro _ w1 ⟨rfl, he⟩; obtain rfl := he.symm)
            | (go_at_call 12; with_reducible refine (H6 _).mono ?_; rintro _ w1 ⟨rfl, he⟩; obtain rfl := he.symm)
            | (go_at_call 11; with_reducible refine (H7 _).mono ?_; rintro _ w1 ⟨rfl, he⟩; obtain rfl := he.symm)
            | (go_at_call 12; with_reducible refine (H8 _).mono ?_; rintro _ w1 ⟨rfl, he⟩; obtain rfl := he.symm))
          go_roundw
          case rel => exact ⟨ar, ai, br, bi, k + 1, rfl, rfl, by go_num, by omega, by omega, HE1.out, HE2.out, HB2.out⟩
          case measure => simp [intOf]; omega
    · have H0 := fun w => part_any 0 xr xi w
      have p0 : Pl.part 0 xr xi = 0 := rfl
      rw [p0] at H0
      clear p0
      by_cases hkn : k < n
      · have hki : (k : Int) < (n : Int) := by omega
        have hki60 : decide ((k : Int) < 60) = false := decide_eq_false (by omega)
        go_wp2_with (first
          | (go_at_call 11; with_reducible refine (H0 _).mono ?_; rintro _ w1 ⟨rfl, he⟩; obtain rfl := he.symm)
          | (go_at_call 13; refine (lives_any _).mono ?_; rintro _ w1 ⟨rfl, he⟩; obtain rfl := he.symm))
        go_ret
        exact ⟨rfl, HB.out⟩
      · have hki : decide ((k : Int) < (n : Int)) = false := decide_eq_false (by omega)
        go_wp2_with (first
          | (go_at_call 11; with_reducible refine (H0 _).mono ?_; rintro _ w1 ⟨rfl, he⟩; obtain rfl := he.symm)
          | (go_at_call 13; refine (lives_any _).mono ?_; rintro _ w1 ⟨rfl, he⟩; obtain rfl := he.symm))
        go_ret
        exact ⟨rfl, HB.out⟩
end Go.Proofs.Ytmhdpphogmihlaa
