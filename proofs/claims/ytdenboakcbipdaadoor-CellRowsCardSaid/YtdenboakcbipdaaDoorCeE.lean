/-
  What the document's own Do answers of any values. Conditions: the values can be read; their numbers are within 64 bits.
-/
import Derived.Test.YtdenboakcbipdaaDoorCeD
namespace Go.Proofs.YtdenboakcbipdaaDoor
open Go.RowKit
attribute [local go_sem] Ce.run_store_complex

/-- What a call answers; the new slice's block. -/
structure RdX where
  re : Nat
  im : Nat
  b : Nat

def RpG (b off c : Nat) (un vn : Int) (x : RdX) : Nat → Value → Prop
  | 0, v => v = .slice (some ⟨b, off, none⟩) 2 c
  | 1, v => v = .pointer (some ⟨b, off, none⟩)
  | 2, v => v = .pointer (some ⟨b, off + 1, none⟩)
  | 3, v => v = .int .i64 un
  | 4, v => v = .slice (some ⟨b, off, none⟩) 2 c
  | 5, v => v = .pointer (some ⟨b, off + 3, none⟩)
  | 6, v => v = .pointer (some ⟨b, off + 4, none⟩)
  | 7, v => v = .int .i64 vn
  | 8, v => v = .complex .f64 x.re x.im
  | 9, v => v = .agg #[.int .i64 2, .int .i64 0, .complex .f64 x.re x.im]
  | 10, v => v = .slice (some ⟨x.b, 0, none⟩) 1 1
  | 11, v => v = .slice (some ⟨x.b, 0, none⟩) 1 1
  | 12, v => v = .bool true
  | _, _ => True

theorem rpg8 {b off c : Nat} {un vn : Int} {x : RdX} {re im : Nat} {D : Nat → Bool} (h8 : D 8 = false) (h9 : D 9 = false) : ∀ j v, D j = true → RpG b off c un vn x j v → RpG b off c un vn ⟨re, im, x.b⟩ j v
  | 0, _, _, h | 1, _, _, h | 2, _, _, h | 3, _, _, h | 4, _, _, h | 5, _, _, h | 6, _, _, h | 7, _, _, h | 10, _, _, h | 11, _, _, h | 12, _, _, h => h
  | 8, _, hj, _ => by rw [h8] at hj; cases hj
  | 9, _, hj, _ => by rw [h9] at hj; cases hj
  | _ + 13, _, _, h => h

theorem rpg10 {b off c : Nat} {un vn : Int} {x : RdX} {nb : Nat} {D : Nat → Bool} (h10 : D 10 = false) (h11 : D 11 = false) : ∀ j v, D j = true → RpG b off c un vn x j v → RpG b off c un vn ⟨x.re, x.im, nb⟩ j v
  | 0, _, _, h | 1, _, _, h | 2, _, _, h | 3, _, _, h | 4, _, _, h | 5, _, _, h | 6, _, _, h | 7, _, _, h | 8, _, _, h | 9, _, _, h | 12, _, _, h => h
  | 10, _, hj, _ => by rw [h10] at hj; cases hj
  | 11, _, hj, _ => by rw [h11] at hj; cases hj
  | _ + 13, _, _, h => h

def RtG (b off c : Nat) (op : Int) (ar ai br bi : Nat) (x : RdX) : Nat → Value → Prop
  | 0, v => v = .int .i64 op
  | 1, v => v = .slice (some ⟨b, off, none⟩) 2 c
  | 2, v => v = .pointer (some ⟨b, off, none⟩)
  | 3, v => v = .pointer (some ⟨b, off + 2, none⟩)
  | 4, v => v = .complex .f64 ar ai
  | 5, v => v = .slice (some ⟨b, off, none⟩) 2 c
  | 6, v => v = .pointer (some ⟨b, off + 3, none⟩)
  | 7, v => v = .pointer (some ⟨b, off + 5, none⟩)
  | 8, v => v = .complex .f64 br bi
  | 9, v => v = .complex .f64 x.re x.im
  | 10, v => v = .agg #[.int .i64 2, .int .i64 0, .complex .f64 x.re x.im]
  | 11, v => v = .slice (some ⟨x.b, 0, none⟩) 1 1
  | 12, v => v = .slice (some ⟨x.b, 0, none⟩) 1 1
  | 13, v => v = .bool true
  | _, _ => True

theorem rtg9 {b off c : Nat} {op : Int} {ar ai br bi : Nat} {x : RdX} {re im : Nat} {D : Nat → Bool} (h9 : D 9 = false) (h10 : D 10 = false) : ∀ j v, D j = true → RtG b off c op ar ai br bi x j v → RtG b off c op ar ai br bi ⟨re, im, x.b⟩ j v
  | 0, _, _, h | 1, _, _, h | 2, _, _, h | 3, _, _, h | 4, _, _, h | 5, _, _, h | 6, _, _, h | 7, _, _, h | 8, _, _, h | 11, _, _, h | 12, _, _, h | 13, _, _, h => h
  | 9, _, hj, _ => by rw [h9] at hj; cases hj
  | 10, _, hj, _ => by rw [h10] at hj; cases hj
  | _ + 14, _, _, h => h

theorem rtg11 {b off c : Nat} {op : Int} {ar ai br bi : Nat} {x : RdX} {nb : Nat} {D : Nat → Bool} (h11 : D 11 = false) (h12 : D 12 = false) : ∀ j v, D j = true → RtG b off c op ar ai br bi x j v → RtG b off c op ar ai br bi ⟨x.re, x.im, nb⟩ j v
  | 0, _, _, h | 1, _, _, h | 2, _, _, h | 3, _, _, h | 4, _, _, h | 5, _, _, h | 6, _, _, h | 7, _, _, h | 8, _, _, h | 9, _, _, h | 10, _, _, h | 13, _, _, h => h
  | 11, _, hj, _ => by rw [h11] at hj; cases hj
  | 12, _, hj, _ => by rw [h12] at hj; cases hj
  | _ + 14, _, _, h => h

/-- The world while it is reckoned: i is the call's operation, n the new slice's; R is what the call answers. -/
structure RdC (w0 : World) (R : Nat → Nat → Prop) (i n : Nat) (x : RdX) (D : Nat → Bool) (W : World) : Prop where
  row : Below w0.heap.size w0 W
  call : D i = true → R x.re x.im
  new : D n = true → ValsAt W W.heap.size (some ⟨x.b, 0, none⟩) 1 [⟨2, 0, x.re, x.im⟩]
section
variable {w0 W : World} {R : Nat → Nat → Prop} {i n : Nat} {x : RdX} {D : Nat → Bool}
theorem RdC.up (h : RdC w0 R i n x D W) {j : Nat} (h1 : (i == j) = false) (h2 : (n == j) = false) : RdC w0 R i n x (add D j) W :=
  ⟨h.row, by rw [up_other h1]; exact h.call, by rw [up_other h2]; exact h.new⟩
theorem RdC.call_up (h : RdC w0 R i n x D W) {j re im : Nat} {W' : World} (_hj : i = j) (h2 : (n == j) = false) (hr : R re im) (hb : Below W.heap.size W W') (hn : D n = false) : RdC w0 R i n ⟨re, im, x.b⟩ (add D j) W' :=
  ⟨h.row.trans (hb.mono h.row.size), fun _ => hr, by rw [up_other h2, hn]; intro h; cases h⟩
theorem RdC.new_up (h : RdC w0 R i n x D W) {j : Nat} (_hj : n = j) (h2 : (i == j) = false) : RdC w0 R i n ⟨x.re, x.im, W.heap.size⟩ (add D j) (W.alloc (Ce.Cv.obj ⟨2, 0, x.re, x.im⟩)) :=
  ⟨h.row.trans ((below_alloc1 _ _).mono h.row.size), by rw [up_other h2]; exact h.call, fun _ => vals_new rfl ⟨2, 0, x.re, x.im⟩⟩
end

theorem each1 (u : Ce.Cv) (t : Int) : Ce.each [u] t = (u.k == t) := by simp [Ce.each]
theorem each2 (u v : Ce.Cv) (t : Int) : Ce.each [u, v] t = (u.k == t && v.k == t) := by simp [Ce.each]
theorem no_fits {op : Int} {l : List Ce.Cv} (h : Ce.each l (Ce.ct op) = false) : ¬ Ce.fits op l := by
  rintro ⟨_, _, h'⟩
  rw [h] at h'
  cases h'

/-- Not as many as it takes. -/
theorem rdo_short (op : Int) (a : Option Addr) (n c : Nat) (l : List Ce.Cv) (w : World) (hl : l.length = n) (hf : Ce.cn op = 0 ∨ (Ce.cn op ≠ 0 ∧ (n : Int) ≠ Ce.cn op)) : Calls Tryd.prog 8 #[.int .i64 op, .slice a n c] w (DoP op l w) := by
  have HF : Hid (¬ Ce.fits op l) := Lib.hid (by rintro ⟨h1, h2, _⟩; rw [hl] at h2; omega)
  have H := fun w => rtakes_any op w
  clear hl
  rcases Ce.ops op with rfl | rfl | rfl | rfl | rfl | rfl | ⟨h1, h2, h3, h4, h5, h6⟩
  case inr.inr.inr.inr.inr.inr =>
    rw [show Ce.cn op = Wh.takes op by simp [Ce.cn, h1, h2, h3, h4, h5, h6]] at hf
    have hz : 0 ≤ Wh.takes op := by unfold Wh.takes; split <;> (try split) <;> omega
    generalize Wh.takes op = z at *
    have g15 : (op == 15) = false := by simpa using h1
    have g16 : (op == 16) = false := by simpa using h2
    have g17 : (op == 17) = false := by simpa using h3
    have g18 : (op == 18) = false := by simpa using h4
    have g19 : (op == 19) = false := by simpa using h5
    have g20 : (op == 20) = false := by simpa using h6
    clear h1 h2 h3 h4 h5 h6
    rcases hf with rfl | ⟨hz0, hne⟩
    · go_enter Tryd.func8, Tryd.ntmps8
      go_wp2_with (go_at_call 21; with_reducible refine (H _).mono ?_; rintro _ w1 ⟨rfl, he⟩; obtain rfl := he.symm)
      go_ret2
      exact ⟨none, .inl ⟨HF.out, rfl⟩, Below.refl _ _, rfl⟩
    · have k1 : 0 < z := by omega
      have k2 : (z == 0) = false := by simpa using hz0
      have k3 : ((n : Int) != z) = true := by simpa using hne
      clear hz hz0 hne
      go_enter Tryd.func8, Tryd.ntmps8
      go_wp2_with (go_at_call 21; with_reducible refine (H _).mono ?_; rintro _ w1 ⟨rfl, he⟩; obtain rfl := he.symm)
      go_ret2
      exact ⟨none, .inl ⟨HF.out, rfl⟩, Below.refl _ _, rfl⟩
  · rw [show Wh.takes 15 = 0 from rfl] at H
    rw [show Ce.cn 15 = 2 from rfl] at hf
    have k3 : ((n : Int) != 2) = true := by
      simp only [bne_iff_ne, ne_eq]
      omega
    clear hf
    go_enter Tryd.func8, Tryd.ntmps8
    go_wp2_with (go_at_call 21; with_reducible refine (H _).mono ?_; rintro _ w1 ⟨rfl, he⟩; obtain rfl := he.symm)
    go_ret2
    exact ⟨none, .inl ⟨HF.out, rfl⟩, Below.refl _ _, rfl⟩
  · rw [show Wh.takes 16 = 0 from rfl] at H
    rw [show Ce.cn 16 = 2 from rfl] at hf
    have k3 : ((n : Int) != 2) = true := by
      simp only [bne_iff_ne, ne_eq]
      omega
    clear hf
    go_enter Tryd.func8, Tryd.ntmps8
    go_wp2_with (go_at_call 21; with_reducible refine (H _).mono ?_; rintro _ w1 ⟨rfl, he⟩; obtain rfl := he.symm)
    go_ret2
    exact ⟨none, .inl ⟨HF.out, rfl⟩, Below.refl _ _, rfl⟩
  · rw [show Wh.takes 17 = 0 from rfl] at H
    rw [show Ce.cn 17 = 2 from rfl] at hf
    have k3 : ((n : Int) != 2) = true := by
      simp only [bne_iff_ne, ne_eq]
      omega
    clear hf
    go_enter Tryd.func8, Tryd.ntmps8
    go_wp2_with (go_at_call 21; with_reducible refine (H _).mono ?_; rintro _ w1 ⟨rfl, he⟩; obtain rfl := he.symm)
    go_ret2
    exact ⟨none, .inl ⟨HF.out, rfl⟩, Below.refl _ _, rfl⟩
  · rw [show Wh.takes 18 = 0 from rfl] at H
    rw [show Ce.cn 18 = 2 from rfl] at hf
    have k3 : ((n : Int) != 2) = true := by
      simp only [bne_iff_ne, ne_eq]
      omega
    clear hf
    go_enter Tryd.func8, Tryd.ntmps8
    go_wp2_with (go_at_call 21; with_reducible refine (H _).mono ?_; rintro _ w1 ⟨rfl, he⟩; obtain rfl := he.symm)
    go_ret2
    exact ⟨none, .inl ⟨HF.out, rfl⟩, Below.refl _ _, rfl⟩
  · rw [show Wh.takes 19 = 0 from rfl] at H
    rw [show Ce.cn 19 = 1 from rfl] at hf
    have k3 : ((n : Int) != 1) = true := by
      simp only [bne_iff_ne, ne_eq]
      omega
    clear hf
    go_enter Tryd.func8, Tryd.ntmps8
    go_wp2_with (go_at_call 21; with_reducible refine (H _).mono ?_; rintro _ w1 ⟨rfl, he⟩; obtain rfl := he.symm)
    go_ret2
    exact ⟨none, .inl ⟨HF.out, rfl⟩, Below.refl _ _, rfl⟩
  · rw [show Wh.takes 20 = 0 from rfl] at H
    rw [show Ce.cn 20 = 1 from rfl] at hf
    have k3 : ((n : Int) != 1) = true := by
      simp only [bne_iff_ne, ne_eq]
      omega
    clear hf
    go_enter Tryd.func8, Tryd.ntmps8
    go_wp2_with (go_at_call 21; with_reducible refine (H _).mono ?_; rintro _ w1 ⟨rfl, he⟩; obtain rfl := he.symm)
    go_ret2
    exact ⟨none, .inl ⟨HF.out, rfl⟩, Below.refl _ _, rfl⟩

set_option maxHeartbeats 1000000 in
/-- One value. -/
theorem rdo_one (op : Int) (b off c : Nat) (u : Ce.Cv) (w : World) (h : ValsAt w w.heap.size (some ⟨b, off, none⟩) 1 [u]) (hop : op = 19 ∨ op = 20 ∨ op = 11 ∨ op = 14) : Calls Tryd.prog 8 #[.int .i64 op, .slice (some ⟨b, off, none⟩) 1 c] w (DoP op [u] w) := by
  obtain ⟨b', off', e, hlb, hc⟩ := h.2 (by omega)
  obtain ⟨q0, q1, q2⟩ := hc 0 (by omega)
  clear hc h
  simp only [Option.some.injEq, Addr.mk.injEq] at e
  obtain ⟨rfl, rfl, _⟩ := e
  obtain ⟨uk, un, ur, ui⟩ := u
  simp only [Nat.zero_mul, Nat.add_zero, List.getD_cons_zero] at q0 q1 q2
  have H := fun w => rtakes_any op w
  rcases hop with rfl | rfl | rfl | rfl
  · rw [show Wh.takes 19 = 0 from rfl] at H
    by_cases hk : uk = 2
    · subst hk
      have H2 := fun w => rpart_any 19 ur ui w
      have HR : Hid (Ce.DoR 19 [⟨2, un, ur, ui⟩] (some ⟨1, Pl.part 19 ur ui, 0, 0⟩)) := Lib.hid (.inr ⟨⟨by decide, rfl, rfl⟩, .inr (.inr (.inl ⟨.inl rfl, rfl⟩))⟩)
      generalize Pl.part 19 ur ui = y at *
      go_enter Tryd.func8, Tryd.ntmps8
      go_wp2_with (go_at_call 21; with_reducible refine (H _).mono ?_; rintro _ w1 ⟨rfl, he⟩; obtain rfl := he.symm)
      refine wp_loop_rounds 2 ?_
      rw [rounds_succ]
      go_wp2
      rw [rounds_succ]
      go_wp2_with (go_at_call 22; with_reducible refine (H2 _).mono ?_; rintro _ w1 ⟨rfl, he⟩; obtain rfl := he.symm)
      go_ret2
      exact ⟨_, HR.out, below_alloc1 _ _, _, rfl, vals_new rfl ⟨1, y, 0, 0⟩⟩
    · have HR : Hid (Ce.DoR 19 [⟨uk, un, ur, ui⟩] none) := Lib.hid (.inl ⟨no_fits (by rw [each1, show Ce.ct 19 = 2 from rfl]; simpa using hk), rfl⟩)
      go_enter Tryd.func8, Tryd.ntmps8
      go_wp2_with (go_at_call 21; with_reducible refine (H _).mono ?_; rintro _ w1 ⟨rfl, he⟩; obtain rfl := he.symm)
      refine wp_loop_rounds 2 ?_
      rw [rounds_succ]
      go_wp2
      go_ret2
      exact ⟨none, HR.out, Below.refl _ _, rfl⟩
  · rw [show Wh.takes 20 = 0 from rfl] at H
    by_cases hk : uk = 2
    · subst hk
      have H2 := fun w => rpart_any 20 ur ui w
      have HR : Hid (Ce.DoR 20 [⟨2, un, ur, ui⟩] (some ⟨1, Pl.part 20 ur ui, 0, 0⟩)) := Lib.hid (.inr ⟨⟨by decide, rfl, rfl⟩, .inr (.inr (.inl ⟨.inr rfl, rfl⟩))⟩)
      generalize Pl.part 20 ur ui = y at *
      go_enter Tryd.func8, Tryd.ntmps8
      go_wp2_with (go_at_call 21; with_reducible refine (H _).mono ?_; rintro _ w1 ⟨rfl, he⟩; obtain rfl := he.symm)
      refine wp_loop_rounds 2 ?_
      rw [rounds_succ]
      go_wp2
      rw [rounds_succ]
      go_wp2_with (go_at_call 22; with_reducible refine (H2 _).mono ?_; rintro _ w1 ⟨rfl, he⟩; obtain rfl := he.symm)
      go_ret2
      exact ⟨_, HR.out, below_alloc1 _ _, _, rfl, vals_new rfl ⟨1, y, 0, 0⟩⟩
    · have HR : Hid (Ce.DoR 20 [⟨uk, un, ur, ui⟩] none) := Lib.hid (.inl ⟨no_fits (by rw [each1, show Ce.ct 20 = 2 from rfl]; simpa using hk), rfl⟩)
      go_enter Tryd.func8, Tryd.ntmps8
      go_wp2_with (go_at_call 21; with_reducible refine (H _).mono ?_; rintro _ w1 ⟨rfl, he⟩; obtain rfl := he.symm)
      refine wp_loop_rounds 2 ?_
      rw [rounds_succ]
      go_wp2
      go_ret2
      exact ⟨none, HR.out, Below.refl _ _, rfl⟩
  · rw [show Wh.takes 11 = 1 from rfl] at H
    by_cases hk : uk = 1
    · subst hk
      have H2 := fun w => rone_any 11 un w
      have HR : Hid (Ce.DoR 11 [⟨1, un, ur, ui⟩] (some ⟨1, Wh.one 11 un, 0, 0⟩)) := Lib.hid (.inr ⟨⟨by decide, rfl, rfl⟩, .inr (.inr (.inr (.inl ⟨.inl rfl, rfl⟩)))⟩)
      generalize Wh.one 11 un = y at *
      go_enter Tryd.func8, Tryd.ntmps8
      go_wp2_with (go_at_call 21; with_reducible refine (H _).mono ?_; rintro _ w1 ⟨rfl, he⟩; obtain rfl := he.symm)
      refine wp_loop_rounds 2 ?_
      rw [rounds_succ]
      go_wp2
      rw [rounds_succ]
      go_wp2_with (go_at_call 24; with_reducible refine (H2 _).mono ?_; rintro _ w1 ⟨rfl, he⟩; obtain rfl := he.symm)
      go_ret2
      exact ⟨_, HR.out, below_alloc1 _ _, _, rfl, vals_new rfl ⟨1, y, 0, 0⟩⟩
    · have HR : Hid (Ce.DoR 11 [⟨uk, un, ur, ui⟩] none) := Lib.hid (.inl ⟨no_fits (by rw [each1, show Ce.ct 11 = 1 from rfl]; simpa using hk), rfl⟩)
      go_enter Tryd.func8, Tryd.ntmps8
      go_wp2_with (go_at_call 21; with_reducible refine (H _).mono ?_; rintro _ w1 ⟨rfl, he⟩; obtain rfl := he.symm)
      refine wp_loop_rounds 2 ?_
      rw [rounds_succ]
      go_wp2
      go_ret2
      exact ⟨none, HR.out, Below.refl _ _, rfl⟩
  · rw [show Wh.takes 14 = 1 from rfl] at H
    by_cases hk : uk = 1
    · subst hk
      have H2 := fun w => rone_any 14 un w
      have HR : Hid (Ce.DoR 14 [⟨1, un, ur, ui⟩] (some ⟨1, Wh.one 14 un, 0, 0⟩)) := Lib.hid (.inr ⟨⟨by decide, rfl, rfl⟩, .inr (.inr (.inr (.inl ⟨.inr rfl, rfl⟩)))⟩)
      generalize Wh.one 14 un = y at *
      go_enter Tryd.func8, Tryd.ntmps8
      go_wp2_with (go_at_call 21; with_reducible refine (H _).mono ?_; rintro _ w1 ⟨rfl, he⟩; obtain rfl := he.symm)
      refine wp_loop_rounds 2 ?_
      rw [rounds_succ]
      go_wp2
      rw [rounds_succ]
      go_wp2_with (go_at_call 24; with_reducible refine (H2 _).mono ?_; rintro _ w1 ⟨rfl, he⟩; obtain rfl := he.symm)
      go_ret2
      exact ⟨_, HR.out, below_alloc1 _ _, _, rfl, vals_new rfl ⟨1, y, 0, 0⟩⟩
    · have HR : Hid (Ce.DoR 14 [⟨uk, un, ur, ui⟩] none) := Lib.hid (.inl ⟨no_fits (by rw [each1, show Ce.ct 14 = 1 from rfl]; simpa using hk), rfl⟩)
      go_enter Tryd.func8, Tryd.ntmps8
      go_wp2_with (go_at_call 21; with_reducible refine (H _).mono ?_; rintro _ w1 ⟨rfl, he⟩; obtain rfl := he.symm)
      refine wp_loop_rounds 2 ?_
      rw [rounds_succ]
      go_wp2
      go_ret2
      exact ⟨none, HR.out, Below.refl _ _, rfl⟩

set_option maxHeartbeats 2000000 in
/-- Two whole numbers. -/
theorem rdo_whole (op : Int) (b off c : Nat) (u v : Ce.Cv) (w : World) (h : ValsAt w w.heap.size (some ⟨b, off, none⟩) 2 [u, v]) (hu : -9223372036854775808 ≤ u.n ∧ u.n ≤ 9223372036854775807) (hop : Wh.takes op = 2) : Calls Tryd.prog 8 #[.int .i64 op, .slice (some ⟨b, off, none⟩) 2 c] w (DoP op [u, v] w) := by
  obtain ⟨b', off', e, hlb, hc⟩ := h.2 (by omega)
  obtain ⟨q0, q1, q2⟩ := hc 0 (by omega)
  obtain ⟨q3, q4, q5⟩ := hc 1 (by omega)
  clear hc h
  simp only [Option.some.injEq, Addr.mk.injEq] at e
  obtain ⟨rfl, rfl, _⟩ := e
  obtain ⟨uk, un, ar, ai⟩ := u
  obtain ⟨vk, vn, br, bi⟩ := v
  simp only [Nat.zero_mul, Nat.one_mul, Nat.add_zero, Nat.add_assoc, Nat.reduceAdd, List.getD_cons_zero, List.getD_cons_succ] at q0 q1 q2 q3 q4 q5
  have H := fun w => rtakes_any op w
  rw [hop] at H
  have hx := wh_two op hop
  have HCT : Hid (Ce.ct op = 1) := Lib.hid (by unfold Ce.ct; rw [if_neg (by omega)])
  have HCN : Hid (Ce.cn op = 2) := Lib.hid (by unfold Ce.cn; rw [if_neg (by omega), if_neg (by omega)]; exact hop)
  have HT := Lib.hid hop
  have H2 := fun w => wrtwo_any op un vn w hu
  unfold WTwoP at H2
  clear hu
  have g15 : (op == 15) = false := by simp; omega
  have g16 : (op == 16) = false := by simp; omega
  have g17 : (op == 17) = false := by simp; omega
  have g18 : (op == 18) = false := by simp; omega
  have g19 : (op == 19) = false := by simp; omega
  have g20 : (op == 20) = false := by simp; omega
  clear hx hop
  by_cases hk : uk = 1
  case neg =>
    have HR : Hid (Ce.DoR op [⟨uk, un, ar, ai⟩, ⟨vk, vn, br, bi⟩] none) := Lib.hid (.inl ⟨no_fits (by rw [each2, show Ce.ct op = 1 from HCT.out]; simp [hk]), rfl⟩)
    go_enter Tryd.func8, Tryd.ntmps8
    go_wp2_with (go_at_call 21; with_reducible refine (H _).mono ?_; rintro _ w1 ⟨rfl, he⟩; obtain rfl := he.symm)
    refine wp_loop_rounds 3 ?_
    rw [rounds_succ]
    go_wp2
    go_ret2
    exact ⟨none, HR.out, Below.refl _ _, rfl⟩
  subst hk
  by_cases hk : vk = 1
  case neg =>
    have HR : Hid (Ce.DoR op [⟨1, un, ar, ai⟩, ⟨vk, vn, br, bi⟩] none) := Lib.hid (.inl ⟨no_fits (by rw [each2, show Ce.ct op = 1 from HCT.out]; simp [hk]), rfl⟩)
    go_enter Tryd.func8, Tryd.ntmps8
    go_wp2_with (go_at_call 21; with_reducible refine (H _).mono ?_; rintro _ w1 ⟨rfl, he⟩; obtain rfl := he.symm)
    refine wp_loop_rounds 3 ?_
    rw [rounds_succ]
    go_wp2
    rw [rounds_succ]
    go_wp2
    go_ret2
    exact ⟨none, HR.out, Below.refl _ _, rfl⟩
  subst hk
  have HR : Hid (Ce.DoR op [⟨1, un, ar, ai⟩, ⟨1, vn, br, bi⟩] (if (Wh.two op un vn).2 then some ⟨1, (Wh.two op un vn).1, 0, 0⟩ else none)) := Lib.hid (.inr ⟨⟨by rw [HCN.out]; decide, by rw [HCN.out]; rfl, by rw [each2, HCT.out]; rfl⟩, .inr (.inr (.inr (.inr ⟨HT.out, rfl⟩)))⟩)
  generalize Wh.two op un vn = xy at H2 HR
  obtain ⟨x, y⟩ := xy
  cases y
  · go_enter Tryd.func8, Tryd.ntmps8
    go_wp2_with (go_at_call 21; with_reducible refine (H _).mono ?_; rintro _ w1 ⟨rfl, he⟩; obtain rfl := he.symm)
    refine wp_loop_rounds 3 ?_
    rw [rounds_succ]
    go_wp2
    rw [rounds_succ]
    go_wp2
    rw [rounds_succ]
    go_wp2
    go_quiet (first | (go_at_call 25; refine Calls.quiet_of_same (H2 _)))
    go_wp2
    go_ret2
    exact ⟨_, HR.out, below_drewN (Below.refl _ _) _, rfl⟩
  · go_enter Tryd.func8, Tryd.ntmps8
    go_wp2_with (go_at_call 21; with_reducible refine (H _).mono ?_; rintro _ w1 ⟨rfl, he⟩; obtain rfl := he.symm)
    refine wp_loop_rounds 3 ?_
    rw [rounds_succ]
    go_wp2
    rw [rounds_succ]
    go_wp2
    rw [rounds_succ]
    go_wp2
    go_quiet (first | (go_at_call 25; refine Calls.quiet_of_same (H2 _)))
    go_wp2
    go_ret2
    exact ⟨_, HR.out, (below_drewN (Below.refl _ _) _).trans ((below_alloc1 _ _).mono (Nat.le_refl _)), _, rfl, vals_new rfl ⟨1, x, 0, 0⟩⟩

set_option maxHeartbeats 4000000 in
set_option maxRecDepth 100000 in
/-- A pair. -/
theorem rdo_pair (b off c : Nat) (u v : Ce.Cv) (w : World) (h : ValsAt w w.heap.size (some ⟨b, off, none⟩) 2 [u, v]) : Calls Tryd.prog 8 #[.int .i64 15, .slice (some ⟨b, off, none⟩) 2 c] w (DoP 15 [u, v] w) := by
  obtain ⟨b', off', e, hlb, hc⟩ := h.2 (by omega)
  obtain ⟨q0, q1, q2⟩ := hc 0 (by omega)
  obtain ⟨q3, q4, q5⟩ := hc 1 (by omega)
  clear hc h
  simp only [Option.some.injEq, Addr.mk.injEq] at e
  obtain ⟨rfl, rfl, _⟩ := e
  obtain ⟨uk, un, ar, ai⟩ := u
  obtain ⟨vk, vn, br, bi⟩ := v
  simp only [Nat.zero_mul, Nat.one_mul, Nat.add_zero, Nat.add_assoc, Nat.reduceAdd, List.getD_cons_zero, List.getD_cons_succ] at q0 q1 q2 q3 q4 q5
  have H := fun w => rtakes_any 15 w
  rw [show Wh.takes 15 = 0 from rfl] at H
  have HCT : Hid (Ce.ct 15 = 1) := Lib.hid rfl
  by_cases hk : uk = 1
  case neg =>
    have HR : Hid (Ce.DoR 15 [⟨uk, un, ar, ai⟩, ⟨vk, vn, br, bi⟩] none) := Lib.hid (.inl ⟨no_fits (by rw [each2, show Ce.ct 15 = 1 from HCT.out]; simp [hk]), rfl⟩)
    go_enter Tryd.func8, Tryd.ntmps8
    go_wp2_with (go_at_call 21; with_reducible refine (H _).mono ?_; rintro _ w1 ⟨rfl, he⟩; obtain rfl := he.symm)
    refine wp_loop_rounds 3 ?_
    rw [rounds_succ]
    go_wp2
    go_ret2
    exact ⟨none, HR.out, Below.refl _ _, rfl⟩
  subst hk
  by_cases hk : vk = 1
  case neg =>
    have HR : Hid (Ce.DoR 15 [⟨1, un, ar, ai⟩, ⟨vk, vn, br, bi⟩] none) := Lib.hid (.inl ⟨no_fits (by rw [each2, show Ce.ct 15 = 1 from HCT.out]; simp [hk]), rfl⟩)
    go_enter Tryd.func8, Tryd.ntmps8
    go_wp2_with (go_at_call 21; with_reducible refine (H _).mono ?_; rintro _ w1 ⟨rfl, he⟩; obtain rfl := he.symm)
    refine wp_loop_rounds 3 ?_
    rw [rounds_succ]
    go_wp2
    rw [rounds_succ]
    go_wp2
    go_ret2
    exact ⟨none, HR.out, Below.refl _ _, rfl⟩
  subst hk
  go_enter Tryd.func8, Tryd.ntmps8
  go_wp2_with (go_at_call 21; with_reducible refine (H _).mono ?_; rintro _ w1 ⟨rfl, he⟩; obtain rfl := he.symm)
  refine wp_loop_rounds 3 ?_
  rw [rounds_succ]
  go_wp2
  rw [rounds_succ]
  go_wp2
  rw [rounds_succ]
  go_wp2
  refine region_k (⟨0, 0, 0⟩ : RdX) 131 (RdC w (fun re im => re = floatOfInt .f64 un ∧ im = floatOfInt .f64 vn) 8 10) (RpG b off c un vn) (by kernel_rfl) (by kernel_rfl) (by kernel_rfl) rfl rfl ⟨(Below.refl _ _).drew, (fun h => by cases h), (fun h => by cases h)⟩ ?_ ?_
  · refine ⟨?_, ?_, ?_, ?_, ?_, ?_, ?_, ?_, ?_, ?_, ?_, ?_, ?_, trivial⟩
    · intro x D a w hI hdep hD0 K hK
      have e1 : a.eval (.tmp 1) = .slice (some ⟨b, off, none⟩) 2 c := hI.read 1 rfl
      refine ok_value (wanted_none rfl) (v := .slice (some ⟨b, off, none⟩) 2 c) ?_ (hK x _ _ (hI.world.up rfl rfl) (fun _ _ _ h => h) rfl)
      have ec : ∀ c, a.eval (.const c) = c := fun _ => rfl
      have ef : ∀ f, a.eval (.func f) = .func (.func f) #[] #[] := fun _ => rfl
      clear hI hdep hK
      generalize a.eval = ρ at e1 ec ef ⊢
      go_simp
    · intro x D a w hI hdep hD0 K hK
      have e61 : a.eval (.tmp 61) = .slice (some ⟨b, off, none⟩) 2 c := hI.good 0 61 (dep_of hdep 0 rfl) rfl
      refine ok_value (wanted_none rfl) (v := .pointer (some ⟨b, off, none⟩)) ?_ (hK x _ _ (hI.world.up rfl rfl) (fun _ _ _ h => h) rfl)
      have ec : ∀ c, a.eval (.const c) = c := fun _ => rfl
      have ef : ∀ f, a.eval (.func f) = .func (.func f) #[] #[] := fun _ => rfl
      clear hI hdep hK
      generalize a.eval = ρ at e61 ec ef ⊢
      go_simp
    · intro x D a w hI hdep hD0 K hK
      have e62 : a.eval (.tmp 62) = .pointer (some ⟨b, off, none⟩) := hI.good 1 62 (dep_of hdep 1 rfl) rfl
      refine ok_value (wanted_none rfl) (v := .pointer (some ⟨b, off + 1, none⟩)) ?_ (hK x _ _ (hI.world.up rfl rfl) (fun _ _ _ h => h) rfl)
      have ec : ∀ c, a.eval (.const c) = c := fun _ => rfl
      have ef : ∀ f, a.eval (.func f) = .func (.func f) #[] #[] := fun _ => rfl
      clear hI hdep hK
      generalize a.eval = ρ at e62 ec ef ⊢
      go_simp
    · intro x D a w hI hdep hD0 K hK
      have e63 : a.eval (.tmp 63) = .pointer (some ⟨b, off + 1, none⟩) := hI.good 2 63 (dep_of hdep 2 rfl) rfl
      have x0 := (hI.world.row.cell (p := ⟨b, off + 1, none⟩) hlb).trans q1
      refine ok_value (wanted_none rfl) (v := .int .i64 un) ?_ (hK x _ _ (hI.world.up rfl rfl) (fun _ _ _ h => h) rfl)
      have ec : ∀ c, a.eval (.const c) = c := fun _ => rfl
      have ef : ∀ f, a.eval (.func f) = .func (.func f) #[] #[] := fun _ => rfl
      clear hI hdep hK
      generalize a.eval = ρ at e63 ec ef ⊢
      go_simp
    · intro x D a w hI hdep hD0 K hK
      have e1 : a.eval (.tmp 1) = .slice (some ⟨b, off, none⟩) 2 c := hI.read 1 rfl
      refine ok_value (wanted_none rfl) (v := .slice (some ⟨b, off, none⟩) 2 c) ?_ (hK x _ _ (hI.world.up rfl rfl) (fun _ _ _ h => h) rfl)
      have ec : ∀ c, a.eval (.const c) = c := fun _ => rfl
      have ef : ∀ f, a.eval (.func f) = .func (.func f) #[] #[] := fun _ => rfl
      clear hI hdep hK
      generalize a.eval = ρ at e1 ec ef ⊢
      go_simp
    · intro x D a w hI hdep hD0 K hK
      have e65 : a.eval (.tmp 65) = .slice (some ⟨b, off, none⟩) 2 c := hI.good 4 65 (dep_of hdep 4 rfl) rfl
      refine ok_value (wanted_none rfl) (v := .pointer (some ⟨b, off + 3, none⟩)) ?_ (hK x _ _ (hI.world.up rfl rfl) (fun _ _ _ h => h) rfl)
      have ec : ∀ c, a.eval (.const c) = c := fun _ => rfl
      have ef : ∀ f, a.eval (.func f) = .func (.func f) #[] #[] := fun _ => rfl
      clear hI hdep hK
      generalize a.eval = ρ at e65 ec ef ⊢
      go_simp
    · intro x D a w hI hdep hD0 K hK
      have e66 : a.eval (.tmp 66) = .pointer (some ⟨b, off + 3, none⟩) := hI.good 5 66 (dep_of hdep 5 rfl) rfl
      refine ok_value (wanted_none rfl) (v := .pointer (some ⟨b, off + 4, none⟩)) ?_ (hK x _ _ (hI.world.up rfl rfl) (fun _ _ _ h => h) rfl)
      have ec : ∀ c, a.eval (.const c) = c := fun _ => rfl
      have ef : ∀ f, a.eval (.func f) = .func (.func f) #[] #[] := fun _ => rfl
      clear hI hdep hK
      generalize a.eval = ρ at e66 ec ef ⊢
      go_simp
    · intro x D a w hI hdep hD0 K hK
      have e67 : a.eval (.tmp 67) = .pointer (some ⟨b, off + 4, none⟩) := hI.good 6 67 (dep_of hdep 6 rfl) rfl
      have x0 := (hI.world.row.cell (p := ⟨b, off + 4, none⟩) hlb).trans q4
      refine ok_value (wanted_none rfl) (v := .int .i64 vn) ?_ (hK x _ _ (hI.world.up rfl rfl) (fun _ _ _ h => h) rfl)
      have ec : ∀ c, a.eval (.const c) = c := fun _ => rfl
      have ef : ∀ f, a.eval (.func f) = .func (.func f) #[] #[] := fun _ => rfl
      clear hI hdep hK
      generalize a.eval = ρ at e67 ec ef ⊢
      go_simp
    · intro x D a w hI hdep hD0 K hK
      have e64 : a.eval (.tmp 64) = .int .i64 un := hI.good 3 64 (dep_of hdep 3 rfl) rfl
      have e68 : a.eval (.tmp 68) = .int .i64 vn := hI.good 7 68 (dep_of hdep 7 rfl) rfl
      refine ok_call (wanted_none rfl) (f := 17) (args := #[.int .i64 un, .int .i64 vn]) ?_ (rpair_any un vn w) ?_
      · have ec : ∀ c, a.eval (.const c) = c := fun _ => rfl
        have ef : ∀ f, a.eval (.func f) = .func (.func f) #[] #[] := fun _ => rfl
        clear hI hdep hK
        generalize a.eval = ρ at e64 e68 ec ef ⊢
        go_simp
      · rintro e w2 ⟨rfl, rfl⟩
        exact ⟨_, rfl, hK ⟨floatOfInt .f64 un, floatOfInt .f64 vn, x.b⟩ _ _ (hI.world.call_up rfl rfl ⟨rfl, rfl⟩ (Below.refl _ _) (hI.not_up (hI.not_up hD0 9 rfl) 10 rfl)) (rpg8 hD0 (hI.not_up hD0 9 rfl)) rfl⟩
    · intro x D a w hI hdep hD0 K hK
      have e69 : a.eval (.tmp 69) = .complex .f64 x.re x.im := hI.good 8 69 (dep_of hdep 8 rfl) rfl
      refine ok_value (wanted_none rfl) (v := .agg #[.int .i64 2, .int .i64 0, .complex .f64 x.re x.im]) ?_ (hK x _ _ (hI.world.up rfl rfl) (fun _ _ _ h => h) rfl)
      have ec : ∀ c, a.eval (.const c) = c := fun _ => rfl
      have ef : ∀ f, a.eval (.func f) = .func (.func f) #[] #[] := fun _ => rfl
      clear hI hdep hK
      generalize a.eval = ρ at e69 ec ef ⊢
      go_simp
    · intro x D a w hI hdep hD0 K hK
      have e70 : a.eval (.tmp 70) = .agg #[.int .i64 2, .int .i64 0, .complex .f64 x.re x.im] := hI.good 9 70 (dep_of hdep 9 rfl) rfl
      refine ok_new (wanted_none rfl) (v := .slice (some ⟨w.heap.size, 0, none⟩) 1 1) (w' := w.alloc (Ce.Cv.obj ⟨2, 0, x.re, x.im⟩)) ?_ (hK ⟨x.re, x.im, w.heap.size⟩ _ _ (hI.world.new_up rfl rfl) (rpg10 hD0 (hI.not_up hD0 11 rfl)) rfl)
      have ec : ∀ c, a.eval (.const c) = c := fun _ => rfl
      have ef : ∀ f, a.eval (.func f) = .func (.func f) #[] #[] := fun _ => rfl
      clear hI hdep hK
      generalize a.eval = ρ at e70 ec ef ⊢
      go_simp
    · intro x D a w hI hdep hD0 K hK
      have e71 : a.eval (.tmp 71) = .slice (some ⟨x.b, 0, none⟩) 1 1 := hI.good 10 71 (dep_of hdep 10 rfl) rfl
      refine ok_value (wanted_none rfl) (v := .slice (some ⟨x.b, 0, none⟩) 1 1) ?_ (hK x _ _ (hI.world.up rfl rfl) (fun _ _ _ h => h) rfl)
      have ec : ∀ c, a.eval (.const c) = c := fun _ => rfl
      have ef : ∀ f, a.eval (.func f) = .func (.func f) #[] #[] := fun _ => rfl
      clear hI hdep hK
      generalize a.eval = ρ at e71 ec ef ⊢
      go_simp
    · intro x D a w hI hdep hD0 K hK
      refine ok_value (wanted_none rfl) (v := .bool true) ?_ (hK x _ _ (hI.world.up rfl rfl) (fun _ _ _ h => h) rfl)
      have ec : ∀ c, a.eval (.const c) = c := fun _ => rfl
      have ef : ∀ f, a.eval (.func f) = .func (.func f) #[] #[] := fun _ => rfl
      clear hI hdep hK
      generalize a.eval = ρ at ec ef ⊢
      go_simp
  · intro x D a w1 hI hD
    have hfr := hI.frame [(61, .slice (some ⟨b, off, none⟩) 2 c), (62, .pointer (some ⟨b, off, none⟩)), (63, .pointer (some ⟨b, off + 1, none⟩)), (64, .int .i64 un), (65, .slice (some ⟨b, off, none⟩) 2 c), (66, .pointer (some ⟨b, off + 3, none⟩)), (67, .pointer (some ⟨b, off + 4, none⟩)), (68, .int .i64 vn), (69, .complex .f64 x.re x.im), (70, .agg #[.int .i64 2, .int .i64 0, .complex .f64 x.re x.im]), (71, .slice (some ⟨x.b, 0, none⟩) 1 1), (4, .slice (some ⟨x.b, 0, none⟩) 1 1), (5, .bool true)] (all_cons (hI.good 0 61 (hD 0 (by decide)) rfl) (all_cons (hI.good 1 62 (hD 1 (by decide)) rfl) (all_cons (hI.good 2 63 (hD 2 (by decide)) rfl) (all_cons (hI.good 3 64 (hD 3 (by decide)) rfl) (all_cons (hI.good 4 65 (hD 4 (by decide)) rfl) (all_cons (hI.good 5 66 (hD 5 (by decide)) rfl) (all_cons (hI.good 6 67 (hD 6 (by decide)) rfl) (all_cons (hI.good 7 68 (hD 7 (by decide)) rfl) (all_cons (hI.good 8 69 (hD 8 (by decide)) rfl) (all_cons (hI.good 9 70 (hD 9 (by decide)) rfl) (all_cons (hI.good 10 71 (hD 10 (by decide)) rfl) (all_cons (hI.good 11 4 (hD 11 (by decide)) rfl) (all_cons (hI.good 12 5 (hD 12 (by decide)) rfl) all_nil))))))))))))) rfl
    have hW := hI.world
    clear hI
    subst hfr
    simp only [List.foldl_cons, List.foldl_nil, List.setIfInBounds_toArray, List.set_cons_succ, List.set_cons_zero]
    have h8 := hW.call (hD 8 (by decide))
    have HB := Lib.hid hW.row
    have HV := Lib.hid (hW.new (hD 10 (by decide)))
    have HR : Hid (Ce.DoR 15 [⟨1, un, ar, ai⟩, ⟨1, vn, br, bi⟩] (some ⟨2, 0, x.re, x.im⟩)) := Lib.hid (.inr ⟨⟨by decide, rfl, rfl⟩, .inl ⟨rfl, by rw [h8.1, h8.2]; rfl⟩⟩)
    clear h8 hW hD
    go_wp2
    go_ret2
    exact ⟨_, HR.out, HB.out, _, rfl, HV.out⟩

set_option maxHeartbeats 8000000 in
set_option maxRecDepth 100000 in
/-- Two complex numbers. -/
theorem rdo_cx (op : Int) (b off c : Nat) (u v : Ce.Cv) (w : World) (h : ValsAt w w.heap.size (some ⟨b, off, none⟩) 2 [u, v]) (hop : op = 16 ∨ op = 17 ∨ op = 18) : Calls Tryd.prog 8 #[.int .i64 op, .slice (some ⟨b, off, none⟩) 2 c] w (DoP op [u, v] w) := by
  obtain ⟨b', off', e, hlb, hc⟩ := h.2 (by omega)
  obtain ⟨q0, q1, q2⟩ := hc 0 (by omega)
  obtain ⟨q3, q4, q5⟩ := hc 1 (by omega)
  clear hc h
  simp only [Option.some.injEq, Addr.mk.injEq] at e
  obtain ⟨rfl, rfl, _⟩ := e
  obtain ⟨uk, un, ar, ai⟩ := u
  obtain ⟨vk, vn, br, bi⟩ := v
  simp only [Nat.zero_mul, Nat.one_mul, Nat.add_zero, Nat.add_assoc, Nat.reduceAdd, List.getD_cons_zero, List.getD_cons_succ] at q0 q1 q2 q3 q4 q5
  have H := fun w => rtakes_any op w
  rcases hop with rfl | rfl | rfl
  · rw [show Wh.takes 16 = 0 from rfl] at H
    have HCT : Hid (Ce.ct 16 = 2) := Lib.hid rfl
    by_cases hk : uk = 2
    case neg =>
      have HR : Hid (Ce.DoR 16 [⟨uk, un, ar, ai⟩, ⟨vk, vn, br, bi⟩] none) := Lib.hid (.inl ⟨no_fits (by rw [each2, show Ce.ct 16 = 2 from HCT.out]; simp [hk]), rfl⟩)
      go_enter Tryd.func8, Tryd.ntmps8
      go_wp2_with (go_at_call 21; with_reducible refine (H _).mono ?_; rintro _ w1 ⟨rfl, he⟩; obtain rfl := he.symm)
      refine wp_loop_rounds 3 ?_
      rw [rounds_succ]
      go_wp2
      go_ret2
      exact ⟨none, HR.out, Below.refl _ _, rfl⟩
    subst hk
    by_cases hk : vk = 2
    case neg =>
      have HR : Hid (Ce.DoR 16 [⟨2, un, ar, ai⟩, ⟨vk, vn, br, bi⟩] none) := Lib.hid (.inl ⟨no_fits (by rw [each2, show Ce.ct 16 = 2 from HCT.out]; simp [hk]), rfl⟩)
      go_enter Tryd.func8, Tryd.ntmps8
      go_wp2_with (go_at_call 21; with_reducible refine (H _).mono ?_; rintro _ w1 ⟨rfl, he⟩; obtain rfl := he.symm)
      refine wp_loop_rounds 3 ?_
      rw [rounds_succ]
      go_wp2
      rw [rounds_succ]
      go_wp2
      go_ret2
      exact ⟨none, HR.out, Below.refl _ _, rfl⟩
    subst hk
    go_enter Tryd.func8, Tryd.ntmps8
    go_wp2_with (go_at_call 21; with_reducible refine (H _).mono ?_; rintro _ w1 ⟨rfl, he⟩; obtain rfl := he.symm)
    refine wp_loop_rounds 3 ?_
    rw [rounds_succ]
    go_wp2
    rw [rounds_succ]
    go_wp2
    rw [rounds_succ]
    go_wp2
    generalize ho : (16 : Int) = op at *
    refine region_k (⟨0, 0, 0⟩ : RdX) 131 (RdC w (Pl.TwoR op ar ai br bi) 9 11) (RtG b off c op ar ai br bi) (by kernel_rfl) (by kernel_rfl) (by kernel_rfl) rfl rfl ⟨(Below.refl _ _).drew, (fun h => by cases h), (fun h => by cases h)⟩ ?_ ?_
    · refine ⟨?_, ?_, ?_, ?_, ?_, ?_, ?_, ?_, ?_, ?_, ?_, ?_, ?_, ?_, trivial⟩
      · intro x D a w hI hdep hD0 K hK
        have e0 : a.eval (.tmp 0) = .int .i64 op := hI.read 0 rfl
        refine ok_value (wanted_none rfl) (v := .int .i64 op) ?_ (hK x _ _ (hI.world.up rfl rfl) (fun _ _ _ h => h) rfl)
        have ec : ∀ c, a.eval (.const c) = c := fun _ => rfl
        have ef : ∀ f, a.eval (.func f) = .func (.func f) #[] #[] := fun _ => rfl
        clear hI hdep hK
        generalize a.eval = ρ at e0 ec ef ⊢
        go_simp
      · intro x D a w hI hdep hD0 K hK
        have e1 : a.eval (.tmp 1) = .slice (some ⟨b, off, none⟩) 2 c := hI.read 1 rfl
        refine ok_value (wanted_none rfl) (v := .slice (some ⟨b, off, none⟩) 2 c) ?_ (hK x _ _ (hI.world.up rfl rfl) (fun _ _ _ h => h) rfl)
        have ec : ∀ c, a.eval (.const c) = c := fun _ => rfl
        have ef : ∀ f, a.eval (.func f) = .func (.func f) #[] #[] := fun _ => rfl
        clear hI hdep hK
        generalize a.eval = ρ at e1 ec ef ⊢
        go_simp
      · intro x D a w hI hdep hD0 K hK
        have e91 : a.eval (.tmp 91) = .slice (some ⟨b, off, none⟩) 2 c := hI.good 1 91 (dep_of hdep 1 rfl) rfl
        refine ok_value (wanted_none rfl) (v := .pointer (some ⟨b, off, none⟩)) ?_ (hK x _ _ (hI.world.up rfl rfl) (fun _ _ _ h => h) rfl)
        have ec : ∀ c, a.eval (.const c) = c := fun _ => rfl
        have ef : ∀ f, a.eval (.func f) = .func (.func f) #[] #[] := fun _ => rfl
        clear hI hdep hK
        generalize a.eval = ρ at e91 ec ef ⊢
        go_simp
      · intro x D a w hI hdep hD0 K hK
        have e92 : a.eval (.tmp 92) = .pointer (some ⟨b, off, none⟩) := hI.good 2 92 (dep_of hdep 2 rfl) rfl
        refine ok_value (wanted_none rfl) (v := .pointer (some ⟨b, off + 2, none⟩)) ?_ (hK x _ _ (hI.world.up rfl rfl) (fun _ _ _ h => h) rfl)
        have ec : ∀ c, a.eval (.const c) = c := fun _ => rfl
        have ef : ∀ f, a.eval (.func f) = .func (.func f) #[] #[] := fun _ => rfl
        clear hI hdep hK
        generalize a.eval = ρ at e92 ec ef ⊢
        go_simp
      · intro x D a w hI hdep hD0 K hK
        have e93 : a.eval (.tmp 93) = .pointer (some ⟨b, off + 2, none⟩) := hI.good 3 93 (dep_of hdep 3 rfl) rfl
        have x0 := (hI.world.row.cell (p := ⟨b, off + 2, none⟩) hlb).trans q2
        refine ok_value (wanted_none rfl) (v := .complex .f64 ar ai) ?_ (hK x _ _ (hI.world.up rfl rfl) (fun _ _ _ h => h) rfl)
        have ec : ∀ c, a.eval (.const c) = c := fun _ => rfl
        have ef : ∀ f, a.eval (.func f) = .func (.func f) #[] #[] := fun _ => rfl
        clear hI hdep hK
        generalize a.eval = ρ at e93 ec ef ⊢
        go_simp
      · intro x D a w hI hdep hD0 K hK
        have e1 : a.eval (.tmp 1) = .slice (some ⟨b, off, none⟩) 2 c := hI.read 1 rfl
        refine ok_value (wanted_none rfl) (v := .slice (some ⟨b, off, none⟩) 2 c) ?_ (hK x _ _ (hI.world.up rfl rfl) (fun _ _ _ h => h) rfl)
        have ec : ∀ c, a.eval (.const c) = c := fun _ => rfl
        have ef : ∀ f, a.eval (.func f) = .func (.func f) #[] #[] := fun _ => rfl
        clear hI hdep hK
        generalize a.eval = ρ at e1 ec ef ⊢
        go_simp
      · intro x D a w hI hdep hD0 K hK
        have e95 : a.eval (.tmp 95) = .slice (some ⟨b, off, none⟩) 2 c := hI.good 5 95 (dep_of hdep 5 rfl) rfl
        refine ok_value (wanted_none rfl) (v := .pointer (some ⟨b, off + 3, none⟩)) ?_ (hK x _ _ (hI.world.up rfl rfl) (fun _ _ _ h => h) rfl)
        have ec : ∀ c, a.eval (.const c) = c := fun _ => rfl
        have ef : ∀ f, a.eval (.func f) = .func (.func f) #[] #[] := fun _ => rfl
        clear hI hdep hK
        generalize a.eval = ρ at e95 ec ef ⊢
        go_simp
      · intro x D a w hI hdep hD0 K hK
        have e96 : a.eval (.tmp 96) = .pointer (some ⟨b, off + 3, none⟩) := hI.good 6 96 (dep_of hdep 6 rfl) rfl
        refine ok_value (wanted_none rfl) (v := .pointer (some ⟨b, off + 5, none⟩)) ?_ (hK x _ _ (hI.world.up rfl rfl) (fun _ _ _ h => h) rfl)
        have ec : ∀ c, a.eval (.const c) = c := fun _ => rfl
        have ef : ∀ f, a.eval (.func f) = .func (.func f) #[] #[] := fun _ => rfl
        clear hI hdep hK
        generalize a.eval = ρ at e96 ec ef ⊢
        go_simp
      · intro x D a w hI hdep hD0 K hK
        have e97 : a.eval (.tmp 97) = .pointer (some ⟨b, off + 5, none⟩) := hI.good 7 97 (dep_of hdep 7 rfl) rfl
        have x0 := (hI.world.row.cell (p := ⟨b, off + 5, none⟩) hlb).trans q5
        refine ok_value (wanted_none rfl) (v := .complex .f64 br bi) ?_ (hK x _ _ (hI.world.up rfl rfl) (fun _ _ _ h => h) rfl)
        have ec : ∀ c, a.eval (.const c) = c := fun _ => rfl
        have ef : ∀ f, a.eval (.func f) = .func (.func f) #[] #[] := fun _ => rfl
        clear hI hdep hK
        generalize a.eval = ρ at e97 ec ef ⊢
        go_simp
      · intro x D a w hI hdep hD0 K hK
        have e90 : a.eval (.tmp 90) = .int .i64 op := hI.good 0 90 (dep_of hdep 0 rfl) rfl
        have e94 : a.eval (.tmp 94) = .complex .f64 ar ai := hI.good 4 94 (dep_of hdep 4 rfl) rfl
        have e98 : a.eval (.tmp 98) = .complex .f64 br bi := hI.good 8 98 (dep_of hdep 8 rfl) rfl
        refine ok_call (wanted_none rfl) (f := 23) (args := #[.int .i64 op, .complex .f64 ar ai, .complex .f64 br bi]) ?_ (rtwo_any op ar ai br bi w) ?_
        · have ec : ∀ c, a.eval (.const c) = c := fun _ => rfl
          have ef : ∀ f, a.eval (.func f) = .func (.func f) #[] #[] := fun _ => rfl
          clear hI hdep hK
          generalize a.eval = ρ at e90 e94 e98 ec ef ⊢
          go_simp
        · rintro e w2 ⟨re, im, rfl, hr, hb2, _⟩
          exact ⟨_, rfl, hK ⟨re, im, x.b⟩ _ _ (hI.world.call_up rfl rfl hr hb2 (hI.not_up (hI.not_up hD0 10 rfl) 11 rfl)) (rtg9 hD0 (hI.not_up hD0 10 rfl)) rfl⟩
      · intro x D a w hI hdep hD0 K hK
        have e99 : a.eval (.tmp 99) = .complex .f64 x.re x.im := hI.good 9 99 (dep_of hdep 9 rfl) rfl
        refine ok_value (wanted_none rfl) (v := .agg #[.int .i64 2, .int .i64 0, .complex .f64 x.re x.im]) ?_ (hK x _ _ (hI.world.up rfl rfl) (fun _ _ _ h => h) rfl)
        have ec : ∀ c, a.eval (.const c) = c := fun _ => rfl
        have ef : ∀ f, a.eval (.func f) = .func (.func f) #[] #[] := fun _ => rfl
        clear hI hdep hK
        generalize a.eval = ρ at e99 ec ef ⊢
        go_simp
      · intro x D a w hI hdep hD0 K hK
        have e100 : a.eval (.tmp 100) = .agg #[.int .i64 2, .int .i64 0, .complex .f64 x.re x.im] := hI.good 10 100 (dep_of hdep 10 rfl) rfl
        refine ok_new (wanted_none rfl) (v := .slice (some ⟨w.heap.size, 0, none⟩) 1 1) (w' := w.alloc (Ce.Cv.obj ⟨2, 0, x.re, x.im⟩)) ?_ (hK ⟨x.re, x.im, w.heap.size⟩ _ _ (hI.world.new_up rfl rfl) (rtg11 hD0 (hI.not_up hD0 12 rfl)) rfl)
        have ec : ∀ c, a.eval (.const c) = c := fun _ => rfl
        have ef : ∀ f, a.eval (.func f) = .func (.func f) #[] #[] := fun _ => rfl
        clear hI hdep hK
        generalize a.eval = ρ at e100 ec ef ⊢
        go_simp
      · intro x D a w hI hdep hD0 K hK
        have e101 : a.eval (.tmp 101) = .slice (some ⟨x.b, 0, none⟩) 1 1 := hI.good 11 101 (dep_of hdep 11 rfl) rfl
        refine ok_value (wanted_none rfl) (v := .slice (some ⟨x.b, 0, none⟩) 1 1) ?_ (hK x _ _ (hI.world.up rfl rfl) (fun _ _ _ h => h) rfl)
        have ec : ∀ c, a.eval (.const c) = c := fun _ => rfl
        have ef : ∀ f, a.eval (.func f) = .func (.func f) #[] #[] := fun _ => rfl
        clear hI hdep hK
        generalize a.eval = ρ at e101 ec ef ⊢
        go_simp
      · intro x D a w hI hdep hD0 K hK
        refine ok_value (wanted_none rfl) (v := .bool true) ?_ (hK x _ _ (hI.world.up rfl rfl) (fun _ _ _ h => h) rfl)
        have ec : ∀ c, a.eval (.const c) = c := fun _ => rfl
        have ef : ∀ f, a.eval (.func f) = .func (.func f) #[] #[] := fun _ => rfl
        clear hI hdep hK
        generalize a.eval = ρ at ec ef ⊢
        go_simp
    · intro x D a w1 hI hD
      have hfr := hI.frame [(90, .int .i64 op), (91, .slice (some ⟨b, off, none⟩) 2 c), (92, .pointer (some ⟨b, off, none⟩)), (93, .pointer (some ⟨b, off + 2, none⟩)), (94, .complex .f64 ar ai), (95, .slice (some ⟨b, off, none⟩) 2 c), (96, .pointer (some ⟨b, off + 3, none⟩)), (97, .pointer (some ⟨b, off + 5, none⟩)), (98, .complex .f64 br bi), (99, .complex .f64 x.re x.im), (100, .agg #[.int .i64 2, .int .i64 0, .complex .f64 x.re x.im]), (101, .slice (some ⟨x.b, 0, none⟩) 1 1), (4, .slice (some ⟨x.b, 0, none⟩) 1 1), (5, .bool true)] (all_cons (hI.good 0 90 (hD 0 (by decide)) rfl) (all_cons (hI.good 1 91 (hD 1 (by decide)) rfl) (all_cons (hI.good 2 92 (hD 2 (by decide)) rfl) (all_cons (hI.good 3 93 (hD 3 (by decide)) rfl) (all_cons (hI.good 4 94 (hD 4 (by decide)) rfl) (all_cons (hI.good 5 95 (hD 5 (by decide)) rfl) (all_cons (hI.good 6 96 (hD 6 (by decide)) rfl) (all_cons (hI.good 7 97 (hD 7 (by decide)) rfl) (all_cons (hI.good 8 98 (hD 8 (by decide)) rfl) (all_cons (hI.good 9 99 (hD 9 (by decide)) rfl) (all_cons (hI.good 10 100 (hD 10 (by decide)) rfl) (all_cons (hI.good 11 101 (hD 11 (by decide)) rfl) (all_cons (hI.good 12 4 (hD 12 (by decide)) rfl) (all_cons (hI.good 13 5 (hD 13 (by decide)) rfl) all_nil)))))))))))))) rfl
      have hW := hI.world
      clear hI
      subst hfr
      simp only [List.foldl_cons, List.foldl_nil, List.setIfInBounds_toArray, List.set_cons_succ, List.set_cons_zero]
      have h9 := hW.call (hD 9 (by decide))
      have HB := Lib.hid hW.row
      have HV := Lib.hid (hW.new (hD 11 (by decide)))
      have HR : Hid (Ce.DoR op [⟨2, un, ar, ai⟩, ⟨2, vn, br, bi⟩] (some ⟨2, 0, x.re, x.im⟩)) := by
        subst ho
        exact Lib.hid (.inr ⟨⟨by decide, rfl, rfl⟩, .inr (.inl ⟨by omega, _, _, rfl, h9⟩)⟩)
      clear h9 hW hD
      go_wp2
      go_ret2
      exact ⟨_, HR.out, HB.out, _, rfl, HV.out⟩
  · rw [show Wh.takes 17 = 0 from rfl] at H
    have HCT : Hid (Ce.ct 17 = 2) := Lib.hid rfl
    by_cases hk : uk = 2
    case neg =>
      have HR : Hid (Ce.DoR 17 [⟨uk, un, ar, ai⟩, ⟨vk, vn, br, bi⟩] none) := Lib.hid (.inl ⟨no_fits (by rw [each2, show Ce.ct 17 = 2 from HCT.out]; simp [hk]), rfl⟩)
      go_enter Tryd.func8, Tryd.ntmps8
      go_wp2_with (go_at_call 21; with_reducible refine (H _).mono ?_; rintro _ w1 ⟨rfl, he⟩; obtain rfl := he.symm)
      refine wp_loop_rounds 3 ?_
      rw [rounds_succ]
      go_wp2
      go_ret2
      exact ⟨none, HR.out, Below.refl _ _, rfl⟩
    subst hk
    by_cases hk : vk = 2
    case neg =>
      have HR : Hid (Ce.DoR 17 [⟨2, un, ar, ai⟩, ⟨vk, vn, br, bi⟩] none) := Lib.hid (.inl ⟨no_fits (by rw [each2, show Ce.ct 17 = 2 from HCT.out]; simp [hk]), rfl⟩)
      go_enter Tryd.func8, Tryd.ntmps8
      go_wp2_with (go_at_call 21; with_reducible refine (H _).mono ?_; rintro _ w1 ⟨rfl, he⟩; obtain rfl := he.symm)
      refine wp_loop_rounds 3 ?_
      rw [rounds_succ]
      go_wp2
      rw [rounds_succ]
      go_wp2
      go_ret2
      exact ⟨none, HR.out, Below.refl _ _, rfl⟩
    subst hk
    go_enter Tryd.func8, Tryd.ntmps8
    go_wp2_with (go_at_call 21; with_reducible refine (H _).mono ?_; rintro _ w1 ⟨rfl, he⟩; obtain rfl := he.symm)
    refine wp_loop_rounds 3 ?_
    rw [rounds_succ]
    go_wp2
    rw [rounds_succ]
    go_wp2
    rw [rounds_succ]
    go_wp2
    generalize ho : (17 : Int) = op at *
    refine region_k (⟨0, 0, 0⟩ : RdX) 131 (RdC w (Pl.TwoR op ar ai br bi) 9 11) (RtG b off c op ar ai br bi) (by kernel_rfl) (by kernel_rfl) (by kernel_rfl) rfl rfl ⟨(Below.refl _ _).drew, (fun h => by cases h), (fun h => by cases h)⟩ ?_ ?_
    · refine ⟨?_, ?_, ?_, ?_, ?_, ?_, ?_, ?_, ?_, ?_, ?_, ?_, ?_, ?_, trivial⟩
      · intro x D a w hI hdep hD0 K hK
        have e0 : a.eval (.tmp 0) = .int .i64 op := hI.read 0 rfl
        refine ok_value (wanted_none rfl) (v := .int .i64 op) ?_ (hK x _ _ (hI.world.up rfl rfl) (fun _ _ _ h => h) rfl)
        have ec : ∀ c, a.eval (.const c) = c := fun _ => rfl
        have ef : ∀ f, a.eval (.func f) = .func (.func f) #[] #[] := fun _ => rfl
        clear hI hdep hK
        generalize a.eval = ρ at e0 ec ef ⊢
        go_simp
      · intro x D a w hI hdep hD0 K hK
        have e1 : a.eval (.tmp 1) = .slice (some ⟨b, off, none⟩) 2 c := hI.read 1 rfl
        refine ok_value (wanted_none rfl) (v := .slice (some ⟨b, off, none⟩) 2 c) ?_ (hK x _ _ (hI.world.up rfl rfl) (fun _ _ _ h => h) rfl)
        have ec : ∀ c, a.eval (.const c) = c := fun _ => rfl
        have ef : ∀ f, a.eval (.func f) = .func (.func f) #[] #[] := fun _ => rfl
        clear hI hdep hK
        generalize a.eval = ρ at e1 ec ef ⊢
        go_simp
      · intro x D a w hI hdep hD0 K hK
        have e91 : a.eval (.tmp 91) = .slice (some ⟨b, off, none⟩) 2 c := hI.good 1 91 (dep_of hdep 1 rfl) rfl
        refine ok_value (wanted_none rfl) (v := .pointer (some ⟨b, off, none⟩)) ?_ (hK x _ _ (hI.world.up rfl rfl) (fun _ _ _ h => h) rfl)
        have ec : ∀ c, a.eval (.const c) = c := fun _ => rfl
        have ef : ∀ f, a.eval (.func f) = .func (.func f) #[] #[] := fun _ => rfl
        clear hI hdep hK
        generalize a.eval = ρ at e91 ec ef ⊢
        go_simp
      · intro x D a w hI hdep hD0 K hK
        have e92 : a.eval (.tmp 92) = .pointer (some ⟨b, off, none⟩) := hI.good 2 92 (dep_of hdep 2 rfl) rfl
        refine ok_value (wanted_none rfl) (v := .pointer (some ⟨b, off + 2, none⟩)) ?_ (hK x _ _ (hI.world.up rfl rfl) (fun _ _ _ h => h) rfl)
        have ec : ∀ c, a.eval (.const c) = c := fun _ => rfl
        have ef : ∀ f, a.eval (.func f) = .func (.func f) #[] #[] := fun _ => rfl
        clear hI hdep hK
        generalize a.eval = ρ at e92 ec ef ⊢
        go_simp
      · intro x D a w hI hdep hD0 K hK
        have e93 : a.eval (.tmp 93) = .pointer (some ⟨b, off + 2, none⟩) := hI.good 3 93 (dep_of hdep 3 rfl) rfl
        have x0 := (hI.world.row.cell (p := ⟨b, off + 2, none⟩) hlb).trans q2
        refine ok_value (wanted_none rfl) (v := .complex .f64 ar ai) ?_ (hK x _ _ (hI.world.up rfl rfl) (fun _ _ _ h => h) rfl)
        have ec : ∀ c, a.eval (.const c) = c := fun _ => rfl
        have ef : ∀ f, a.eval (.func f) = .func (.func f) #[] #[] := fun _ => rfl
        clear hI hdep hK
        generalize a.eval = ρ at e93 ec ef ⊢
        go_simp
      · intro x D a w hI hdep hD0 K hK
        have e1 : a.eval (.tmp 1) = .slice (some ⟨b, off, none⟩) 2 c := hI.read 1 rfl
        refine ok_value (wanted_none rfl) (v := .slice (some ⟨b, off, none⟩) 2 c) ?_ (hK x _ _ (hI.world.up rfl rfl) (fun _ _ _ h => h) rfl)
        have ec : ∀ c, a.eval (.const c) = c := fun _ => rfl
        have ef : ∀ f, a.eval (.func f) = .func (.func f) #[] #[] := fun _ => rfl
        clear hI hdep hK
        generalize a.eval = ρ at e1 ec ef ⊢
        go_simp
      · intro x D a w hI hdep hD0 K hK
        have e95 : a.eval (.tmp 95) = .slice (some ⟨b, off, none⟩) 2 c := hI.good 5 95 (dep_of hdep 5 rfl) rfl
        refine ok_value (wanted_none rfl) (v := .pointer (some ⟨b, off + 3, none⟩)) ?_ (hK x _ _ (hI.world.up rfl rfl) (fun _ _ _ h => h) rfl)
        have ec : ∀ c, a.eval (.const c) = c := fun _ => rfl
        have ef : ∀ f, a.eval (.func f) = .func (.func f) #[] #[] := fun _ => rfl
        clear hI hdep hK
        generalize a.eval = ρ at e95 ec ef ⊢
        go_simp
      · intro x D a w hI hdep hD0 K hK
        have e96 : a.eval (.tmp 96) = .pointer (some ⟨b, off + 3, none⟩) := hI.good 6 96 (dep_of hdep 6 rfl) rfl
        refine ok_value (wanted_none rfl) (v := .pointer (some ⟨b, off + 5, none⟩)) ?_ (hK x _ _ (hI.world.up rfl rfl) (fun _ _ _ h => h) rfl)
        have ec : ∀ c, a.eval (.const c) = c := fun _ => rfl
        have ef : ∀ f, a.eval (.func f) = .func (.func f) #[] #[] := fun _ => rfl
        clear hI hdep hK
        generalize a.eval = ρ at e96 ec ef ⊢
        go_simp
      · intro x D a w hI hdep hD0 K hK
        have e97 : a.eval (.tmp 97) = .pointer (some ⟨b, off + 5, none⟩) := hI.good 7 97 (dep_of hdep 7 rfl) rfl
        have x0 := (hI.world.row.cell (p := ⟨b, off + 5, none⟩) hlb).trans q5
        refine ok_value (wanted_none rfl) (v := .complex .f64 br bi) ?_ (hK x _ _ (hI.world.up rfl rfl) (fun _ _ _ h => h) rfl)
        have ec : ∀ c, a.eval (.const c) = c := fun _ => rfl
        have ef : ∀ f, a.eval (.func f) = .func (.func f) #[] #[] := fun _ => rfl
        clear hI hdep hK
        generalize a.eval = ρ at e97 ec ef ⊢
        go_simp
      · intro x D a w hI hdep hD0 K hK
        have e90 : a.eval (.tmp 90) = .int .i64 op := hI.good 0 90 (dep_of hdep 0 rfl) rfl
        have e94 : a.eval (.tmp 94) = .complex .f64 ar ai := hI.good 4 94 (dep_of hdep 4 rfl) rfl
        have e98 : a.eval (.tmp 98) = .complex .f64 br bi := hI.good 8 98 (dep_of hdep 8 rfl) rfl
        refine ok_call (wanted_none rfl) (f := 23) (args := #[.int .i64 op, .complex .f64 ar ai, .complex .f64 br bi]) ?_ (rtwo_any op ar ai br bi w) ?_
        · have ec : ∀ c, a.eval (.const c) = c := fun _ => rfl
          have ef : ∀ f, a.eval (.func f) = .func (.func f) #[] #[] := fun _ => rfl
          clear hI hdep hK
          generalize a.eval = ρ at e90 e94 e98 ec ef ⊢
          go_simp
        · rintro e w2 ⟨re, im, rfl, hr, hb2, _⟩
          exact ⟨_, rfl, hK ⟨re, im, x.b⟩ _ _ (hI.world.call_up rfl rfl hr hb2 (hI.not_up (hI.not_up hD0 10 rfl) 11 rfl)) (rtg9 hD0 (hI.not_up hD0 10 rfl)) rfl⟩
      · intro x D a w hI hdep hD0 K hK
        have e99 : a.eval (.tmp 99) = .complex .f64 x.re x.im := hI.good 9 99 (dep_of hdep 9 rfl) rfl
        refine ok_value (wanted_none rfl) (v := .agg #[.int .i64 2, .int .i64 0, .complex .f64 x.re x.im]) ?_ (hK x _ _ (hI.world.up rfl rfl) (fun _ _ _ h => h) rfl)
        have ec : ∀ c, a.eval (.const c) = c := fun _ => rfl
        have ef : ∀ f, a.eval (.func f) = .func (.func f) #[] #[] := fun _ => rfl
        clear hI hdep hK
        generalize a.eval = ρ at e99 ec ef ⊢
        go_simp
      · intro x D a w hI hdep hD0 K hK
        have e100 : a.eval (.tmp 100) = .agg #[.int .i64 2, .int .i64 0, .complex .f64 x.re x.im] := hI.good 10 100 (dep_of hdep 10 rfl) rfl
        refine ok_new (wanted_none rfl) (v := .slice (some ⟨w.heap.size, 0, none⟩) 1 1) (w' := w.alloc (Ce.Cv.obj ⟨2, 0, x.re, x.im⟩)) ?_ (hK ⟨x.re, x.im, w.heap.size⟩ _ _ (hI.world.new_up rfl rfl) (rtg11 hD0 (hI.not_up hD0 12 rfl)) rfl)
        have ec : ∀ c, a.eval (.const c) = c := fun _ => rfl
        have ef : ∀ f, a.eval (.func f) = .func (.func f) #[] #[] := fun _ => rfl
        clear hI hdep hK
        generalize a.eval = ρ at e100 ec ef ⊢
        go_simp
      · intro x D a w hI hdep hD0 K hK
        have e101 : a.eval (.tmp 101) = .slice (some ⟨x.b, 0, none⟩) 1 1 := hI.good 11 101 (dep_of hdep 11 rfl) rfl
        refine ok_value (wanted_none rfl) (v := .slice (some ⟨x.b, 0, none⟩) 1 1) ?_ (hK x _ _ (hI.world.up rfl rfl) (fun _ _ _ h => h) rfl)
        have ec : ∀ c, a.eval (.const c) = c := fun _ => rfl
        have ef : ∀ f, a.eval (.func f) = .func (.func f) #[] #[] := fun _ => rfl
        clear hI hdep hK
        generalize a.eval = ρ at e101 ec ef ⊢
        go_simp
      · intro x D a w hI hdep hD0 K hK
        refine ok_value (wanted_none rfl) (v := .bool true) ?_ (hK x _ _ (hI.world.up rfl rfl) (fun _ _ _ h => h) rfl)
        have ec : ∀ c, a.eval (.const c) = c := fun _ => rfl
        have ef : ∀ f, a.eval (.func f) = .func (.func f) #[] #[] := fun _ => rfl
        clear hI hdep hK
        generalize a.eval = ρ at ec ef ⊢
        go_simp
    · intro x D a w1 hI hD
      have hfr := hI.frame [(90, .int .i64 op), (91, .slice (some ⟨b, off, none⟩) 2 c), (92, .pointer (some ⟨b, off, none⟩)), (93, .pointer (some ⟨b, off + 2, none⟩)), (94, .complex .f64 ar ai), (95, .slice (some ⟨b, off, none⟩) 2 c), (96, .pointer (some ⟨b, off + 3, none⟩)), (97, .pointer (some ⟨b, off + 5, none⟩)), (98, .complex .f64 br bi), (99, .complex .f64 x.re x.im), (100, .agg #[.int .i64 2, .int .i64 0, .complex .f64 x.re x.im]), (101, .slice (some ⟨x.b, 0, none⟩) 1 1), (4, .slice (some ⟨x.b, 0, none⟩) 1 1), (5, .bool true)] (all_cons (hI.good 0 90 (hD 0 (by decide)) rfl) (all_cons (hI.good 1 91 (hD 1 (by decide)) rfl) (all_cons (hI.good 2 92 (hD 2 (by decide)) rfl) (all_cons (hI.good 3 93 (hD 3 (by decide)) rfl) (all_cons (hI.good 4 94 (hD 4 (by decide)) rfl) (all_cons (hI.good 5 95 (hD 5 (by decide)) rfl) (all_cons (hI.good 6 96 (hD 6 (by decide)) rfl) (all_cons (hI.good 7 97 (hD 7 (by decide)) rfl) (all_cons (hI.good 8 98 (hD 8 (by decide)) rfl) (all_cons (hI.good 9 99 (hD 9 (by decide)) rfl) (all_cons (hI.good 10 100 (hD 10 (by decide)) rfl) (all_cons (hI.good 11 101 (hD 11 (by decide)) rfl) (all_cons (hI.good 12 4 (hD 12 (by decide)) rfl) (all_cons (hI.good 13 5 (hD 13 (by decide)) rfl) all_nil)))))))))))))) rfl
      have hW := hI.world
      clear hI
      subst hfr
      simp only [List.foldl_cons, List.foldl_nil, List.setIfInBounds_toArray, List.set_cons_succ, List.set_cons_zero]
      have h9 := hW.call (hD 9 (by decide))
      have HB := Lib.hid hW.row
      have HV := Lib.hid (hW.new (hD 11 (by decide)))
      have HR : Hid (Ce.DoR op [⟨2, un, ar, ai⟩, ⟨2, vn, br, bi⟩] (some ⟨2, 0, x.re, x.im⟩)) := by
        subst ho
        exact Lib.hid (.inr ⟨⟨by decide, rfl, rfl⟩, .inr (.inl ⟨by omega, _, _, rfl, h9⟩)⟩)
      clear h9 hW hD
      go_wp2
      go_ret2
      exact ⟨_, HR.out, HB.out, _, rfl, HV.out⟩
  · rw [show Wh.takes 18 = 0 from rfl] at H
    have HCT : Hid (Ce.ct 18 = 2) := Lib.hid rfl
    by_cases hk : uk = 2
    case neg =>
      have HR : Hid (Ce.DoR 18 [⟨uk, un, ar, ai⟩, ⟨vk, vn, br, bi⟩] none) := Lib.hid (.inl ⟨no_fits (by rw [each2, show Ce.ct 18 = 2 from HCT.out]; simp [hk]), rfl⟩)
      go_enter Tryd.func8, Tryd.ntmps8
      go_wp2_with (go_at_call 21; with_reducible refine (H _).mono ?_; rintro _ w1 ⟨rfl, he⟩; obtain rfl := he.symm)
      refine wp_loop_rounds 3 ?_
      rw [rounds_succ]
      go_wp2
      go_ret2
      exact ⟨none, HR.out, Below.refl _ _, rfl⟩
    subst hk
    by_cases hk : vk = 2
    case neg =>
      have HR : Hid (Ce.DoR 18 [⟨2, un, ar, ai⟩, ⟨vk, vn, br, bi⟩] none) := Lib.hid (.inl ⟨no_fits (by rw [each2, show Ce.ct 18 = 2 from HCT.out]; simp [hk]), rfl⟩)
      go_enter Tryd.func8, Tryd.ntmps8
      go_wp2_with (go_at_call 21; with_reducible refine (H _).mono ?_; rintro _ w1 ⟨rfl, he⟩; obtain rfl := he.symm)
      refine wp_loop_rounds 3 ?_
      rw [rounds_succ]
      go_wp2
      rw [rounds_succ]
      go_wp2
      go_ret2
      exact ⟨none, HR.out, Below.refl _ _, rfl⟩
    subst hk
    go_enter Tryd.func8, Tryd.ntmps8
    go_wp2_with (go_at_call 21; with_reducible refine (H _).mono ?_; rintro _ w1 ⟨rfl, he⟩; obtain rfl := he.symm)
    refine wp_loop_rounds 3 ?_
    rw [rounds_succ]
    go_wp2
    rw [rounds_succ]
    go_wp2
    rw [rounds_succ]
    go_wp2
    generalize ho : (18 : Int) = op at *
    refine region_k (⟨0, 0, 0⟩ : RdX) 131 (RdC w (Pl.TwoR op ar ai br bi) 9 11) (RtG b off c op ar ai br bi) (by kernel_rfl) (by kernel_rfl) (by kernel_rfl) rfl rfl ⟨(Below.refl _ _).drew, (fun h => by cases h), (fun h => by cases h)⟩ ?_ ?_
    · refine ⟨?_, ?_, ?_, ?_, ?_, ?_, ?_, ?_, ?_, ?_, ?_, ?_, ?_, ?_, trivial⟩
      · intro x D a w hI hdep hD0 K hK
        have e0 : a.eval (.tmp 0) = .int .i64 op := hI.read 0 rfl
        refine ok_value (wanted_none rfl) (v := .int .i64 op) ?_ (hK x _ _ (hI.world.up rfl rfl) (fun _ _ _ h => h) rfl)
        have ec : ∀ c, a.eval (.const c) = c := fun _ => rfl
        have ef : ∀ f, a.eval (.func f) = .func (.func f) #[] #[] := fun _ => rfl
        clear hI hdep hK
        generalize a.eval = ρ at e0 ec ef ⊢
        go_simp
      · intro x D a w hI hdep hD0 K hK
        have e1 : a.eval (.tmp 1) = .slice (some ⟨b, off, none⟩) 2 c := hI.read 1 rfl
        refine ok_value (wanted_none rfl) (v := .slice (some ⟨b, off, none⟩) 2 c) ?_ (hK x _ _ (hI.world.up rfl rfl) (fun _ _ _ h => h) rfl)
        have ec : ∀ c, a.eval (.const c) = c := fun _ => rfl
        have ef : ∀ f, a.eval (.func f) = .func (.func f) #[] #[] := fun _ => rfl
        clear hI hdep hK
        generalize a.eval = ρ at e1 ec ef ⊢
        go_simp
      · intro x D a w hI hdep hD0 K hK
        have e91 : a.eval (.tmp 91) = .slice (some ⟨b, off, none⟩) 2 c := hI.good 1 91 (dep_of hdep 1 rfl) rfl
        refine ok_value (wanted_none rfl) (v := .pointer (some ⟨b, off, none⟩)) ?_ (hK x _ _ (hI.world.up rfl rfl) (fun _ _ _ h => h) rfl)
        have ec : ∀ c, a.eval (.const c) = c := fun _ => rfl
        have ef : ∀ f, a.eval (.func f) = .func (.func f) #[] #[] := fun _ => rfl
        clear hI hdep hK
        generalize a.eval = ρ at e91 ec ef ⊢
        go_simp
      · intro x D a w hI hdep hD0 K hK
        have e92 : a.eval (.tmp 92) = .pointer (some ⟨b, off, none⟩) := hI.good 2 92 (dep_of hdep 2 rfl) rfl
        refine ok_value (wanted_none rfl) (v := .pointer (some ⟨b, off + 2, none⟩)) ?_ (hK x _ _ (hI.world.up rfl rfl) (fun _ _ _ h => h) rfl)
        have ec : ∀ c, a.eval (.const c) = c := fun _ => rfl
        have ef : ∀ f, a.eval (.func f) = .func (.func f) #[] #[] := fun _ => rfl
        clear hI hdep hK
        generalize a.eval = ρ at e92 ec ef ⊢
        go_simp
      · intro x D a w hI hdep hD0 K hK
        have e93 : a.eval (.tmp 93) = .pointer (some ⟨b, off + 2, none⟩) := hI.good 3 93 (dep_of hdep 3 rfl) rfl
        have x0 := (hI.world.row.cell (p := ⟨b, off + 2, none⟩) hlb).trans q2
        refine ok_value (wanted_none rfl) (v := .complex .f64 ar ai) ?_ (hK x _ _ (hI.world.up rfl rfl) (fun _ _ _ h => h) rfl)
        have ec : ∀ c, a.eval (.const c) = c := fun _ => rfl
        have ef : ∀ f, a.eval (.func f) = .func (.func f) #[] #[] := fun _ => rfl
        clear hI hdep hK
        generalize a.eval = ρ at e93 ec ef ⊢
        go_simp
      · intro x D a w hI hdep hD0 K hK
        have e1 : a.eval (.tmp 1) = .slice (some ⟨b, off, none⟩) 2 c := hI.read 1 rfl
        refine ok_value (wanted_none rfl) (v := .slice (some ⟨b, off, none⟩) 2 c) ?_ (hK x _ _ (hI.world.up rfl rfl) (fun _ _ _ h => h) rfl)
        have ec : ∀ c, a.eval (.const c) = c := fun _ => rfl
        have ef : ∀ f, a.eval (.func f) = .func (.func f) #[] #[] := fun _ => rfl
        clear hI hdep hK
        generalize a.eval = ρ at e1 ec ef ⊢
        go_simp
      · intro x D a w hI hdep hD0 K hK
        have e95 : a.eval (.tmp 95) = .slice (some ⟨b, off, none⟩) 2 c := hI.good 5 95 (dep_of hdep 5 rfl) rfl
        refine ok_value (wanted_none rfl) (v := .pointer (some ⟨b, off + 3, none⟩)) ?_ (hK x _ _ (hI.world.up rfl rfl) (fun _ _ _ h => h) rfl)
        have ec : ∀ c, a.eval (.const c) = c := fun _ => rfl
        have ef : ∀ f, a.eval (.func f) = .func (.func f) #[] #[] := fun _ => rfl
        clear hI hdep hK
        generalize a.eval = ρ at e95 ec ef ⊢
        go_simp
      · intro x D a w hI hdep hD0 K hK
        have e96 : a.eval (.tmp 96) = .pointer (some ⟨b, off + 3, none⟩) := hI.good 6 96 (dep_of hdep 6 rfl) rfl
        refine ok_value (wanted_none rfl) (v := .pointer (some ⟨b, off + 5, none⟩)) ?_ (hK x _ _ (hI.world.up rfl rfl) (fun _ _ _ h => h) rfl)
        have ec : ∀ c, a.eval (.const c) = c := fun _ => rfl
        have ef : ∀ f, a.eval (.func f) = .func (.func f) #[] #[] := fun _ => rfl
        clear hI hdep hK
        generalize a.eval = ρ at e96 ec ef ⊢
        go_simp
      · intro x D a w hI hdep hD0 K hK
        have e97 : a.eval (.tmp 97) = .pointer (some ⟨b, off + 5, none⟩) := hI.good 7 97 (dep_of hdep 7 rfl) rfl
        have x0 := (hI.world.row.cell (p := ⟨b, off + 5, none⟩) hlb).trans q5
        refine ok_value (wanted_none rfl) (v := .complex .f64 br bi) ?_ (hK x _ _ (hI.world.up rfl rfl) (fun _ _ _ h => h) rfl)
        have ec : ∀ c, a.eval (.const c) = c := fun _ => rfl
        have ef : ∀ f, a.eval (.func f) = .func (.func f) #[] #[] := fun _ => rfl
        clear hI hdep hK
        generalize a.eval = ρ at e97 ec ef ⊢
        go_simp
      · intro x D a w hI hdep hD0 K hK
        have e90 : a.eval (.tmp 90) = .int .i64 op := hI.good 0 90 (dep_of hdep 0 rfl) rfl
        have e94 : a.eval (.tmp 94) = .complex .f64 ar ai := hI.good 4 94 (dep_of hdep 4 rfl) rfl
        have e98 : a.eval (.tmp 98) = .complex .f64 br bi := hI.good 8 98 (dep_of hdep 8 rfl) rfl
        refine ok_call (wanted_none rfl) (f := 23) (args := #[.int .i64 op, .complex .f64 ar ai, .complex .f64 br bi]) ?_ (rtwo_any op ar ai br bi w) ?_
        · have ec : ∀ c, a.eval (.const c) = c := fun _ => rfl
          have ef : ∀ f, a.eval (.func f) = .func (.func f) #[] #[] := fun _ => rfl
          clear hI hdep hK
          generalize a.eval = ρ at e90 e94 e98 ec ef ⊢
          go_simp
        · rintro e w2 ⟨re, im, rfl, hr, hb2, _⟩
          exact ⟨_, rfl, hK ⟨re, im, x.b⟩ _ _ (hI.world.call_up rfl rfl hr hb2 (hI.not_up (hI.not_up hD0 10 rfl) 11 rfl)) (rtg9 hD0 (hI.not_up hD0 10 rfl)) rfl⟩
      · intro x D a w hI hdep hD0 K hK
        have e99 : a.eval (.tmp 99) = .complex .f64 x.re x.im := hI.good 9 99 (dep_of hdep 9 rfl) rfl
        refine ok_value (wanted_none rfl) (v := .agg #[.int .i64 2, .int .i64 0, .complex .f64 x.re x.im]) ?_ (hK x _ _ (hI.world.up rfl rfl) (fun _ _ _ h => h) rfl)
        have ec : ∀ c, a.eval (.const c) = c := fun _ => rfl
        have ef : ∀ f, a.eval (.func f) = .func (.func f) #[] #[] := fun _ => rfl
        clear hI hdep hK
        generalize a.eval = ρ at e99 ec ef ⊢
        go_simp
      · intro x D a w hI hdep hD0 K hK
        have e100 : a.eval (.tmp 100) = .agg #[.int .i64 2, .int .i64 0, .complex .f64 x.re x.im] := hI.good 10 100 (dep_of hdep 10 rfl) rfl
        refine ok_new (wanted_none rfl) (v := .slice (some ⟨w.heap.size, 0, none⟩) 1 1) (w' := w.alloc (Ce.Cv.obj ⟨2, 0, x.re, x.im⟩)) ?_ (hK ⟨x.re, x.im, w.heap.size⟩ _ _ (hI.world.new_up rfl rfl) (rtg11 hD0 (hI.not_up hD0 12 rfl)) rfl)
        have ec : ∀ c, a.eval (.const c) = c := fun _ => rfl
        have ef : ∀ f, a.eval (.func f) = .func (.func f) #[] #[] := fun _ => rfl
        clear hI hdep hK
        generalize a.eval = ρ at e100 ec ef ⊢
        go_simp
      · intro x D a w hI hdep hD0 K hK
        have e101 : a.eval (.tmp 101) = .slice (some ⟨x.b, 0, none⟩) 1 1 := hI.good 11 101 (dep_of hdep 11 rfl) rfl
        refine ok_value (wanted_none rfl) (v := .slice (some ⟨x.b, 0, none⟩) 1 1) ?_ (hK x _ _ (hI.world.up rfl rfl) (fun _ _ _ h => h) rfl)
        have ec : ∀ c, a.eval (.const c) = c := fun _ => rfl
        have ef : ∀ f, a.eval (.func f) = .func (.func f) #[] #[] := fun _ => rfl
        clear hI hdep hK
        generalize a.eval = ρ at e101 ec ef ⊢
        go_simp
      · intro x D a w hI hdep hD0 K hK
        refine ok_value (wanted_none rfl) (v := .bool true) ?_ (hK x _ _ (hI.world.up rfl rfl) (fun _ _ _ h => h) rfl)
        have ec : ∀ c, a.eval (.const c) = c := fun _ => rfl
        have ef : ∀ f, a.eval (.func f) = .func (.func f) #[] #[] := fun _ => rfl
        clear hI hdep hK
        generalize a.eval = ρ at ec ef ⊢
        go_simp
    · intro x D a w1 hI hD
      have hfr := hI.frame [(90, .int .i64 op), (91, .slice (some ⟨b, off, none⟩) 2 c), (92, .pointer (some ⟨b, off, none⟩)), (93, .pointer (some ⟨b, off + 2, none⟩)), (94, .complex .f64 ar ai), (95, .slice (some ⟨b, off, none⟩) 2 c), (96, .pointer (some ⟨b, off + 3, none⟩)), (97, .pointer (some ⟨b, off + 5, none⟩)), (98, .complex .f64 br bi), (99, .complex .f64 x.re x.im), (100, .agg #[.int .i64 2, .int .i64 0, .complex .f64 x.re x.im]), (101, .slice (some ⟨x.b, 0, none⟩) 1 1), (4, .slice (some ⟨x.b, 0, none⟩) 1 1), (5, .bool true)] (all_cons (hI.good 0 90 (hD 0 (by decide)) rfl) (all_cons (hI.good 1 91 (hD 1 (by decide)) rfl) (all_cons (hI.good 2 92 (hD 2 (by decide)) rfl) (all_cons (hI.good 3 93 (hD 3 (by decide)) rfl) (all_cons (hI.good 4 94 (hD 4 (by decide)) rfl) (all_cons (hI.good 5 95 (hD 5 (by decide)) rfl) (all_cons (hI.good 6 96 (hD 6 (by decide)) rfl) (all_cons (hI.good 7 97 (hD 7 (by decide)) rfl) (all_cons (hI.good 8 98 (hD 8 (by decide)) rfl) (all_cons (hI.good 9 99 (hD 9 (by decide)) rfl) (all_cons (hI.good 10 100 (hD 10 (by decide)) rfl) (all_cons (hI.good 11 101 (hD 11 (by decide)) rfl) (all_cons (hI.good 12 4 (hD 12 (by decide)) rfl) (all_cons (hI.good 13 5 (hD 13 (by decide)) rfl) all_nil)))))))))))))) rfl
      have hW := hI.world
      clear hI
      subst hfr
      simp only [List.foldl_cons, List.foldl_nil, List.setIfInBounds_toArray, List.set_cons_succ, List.set_cons_zero]
      have h9 := hW.call (hD 9 (by decide))
      have HB := Lib.hid hW.row
      have HV := Lib.hid (hW.new (hD 11 (by decide)))
      have HR : Hid (Ce.DoR op [⟨2, un, ar, ai⟩, ⟨2, vn, br, bi⟩] (some ⟨2, 0, x.re, x.im⟩)) := by
        subst ho
        exact Lib.hid (.inr ⟨⟨by decide, rfl, rfl⟩, .inr (.inl ⟨by omega, _, _, rfl, h9⟩)⟩)
      clear h9 hW hD
      go_wp2
      go_ret2
      exact ⟨_, HR.out, HB.out, _, rfl, HV.out⟩

/-- What an operation makes of any values, by the document. -/
theorem rdo_any (op : Int) (a : Option Addr) (n c : Nat) (l : List Ce.Cv) (w : World) (h : ValsAt w w.heap.size a n l) (hb : ∀ v ∈ l, -9223372036854775808 ≤ v.n ∧ v.n ≤ 9223372036854775807) : Calls Tryd.prog 8 #[.int .i64 op, .slice a n c] w (DoP op l w) := by
  have hln := h.1
  by_cases h0 : Ce.cn op = 0
  · exact rdo_short op a n c l w hln (.inl h0)
  by_cases hl : (n : Int) = Ce.cn op
  case neg => exact rdo_short op a n c l w hln (.inr ⟨h0, hl⟩)
  rcases Ce.ops op with rfl | rfl | rfl | rfl | rfl | rfl | ⟨h1, h2, h3, h4, h5, h6⟩
  · obtain rfl : n = 2 := by have : Ce.cn 15 = 2 := rfl; omega
    obtain ⟨u, v, rfl⟩ := two_of_len hln
    obtain ⟨b, off, rfl, _⟩ := h.2 (by omega)
    exact rdo_pair b off c u v w h
  · obtain rfl : n = 2 := by have : Ce.cn 16 = 2 := rfl; omega
    obtain ⟨u, v, rfl⟩ := two_of_len hln
    obtain ⟨b, off, rfl, _⟩ := h.2 (by omega)
    exact rdo_cx 16 b off c u v w h (.inl rfl)
  · obtain rfl : n = 2 := by have : Ce.cn 17 = 2 := rfl; omega
    obtain ⟨u, v, rfl⟩ := two_of_len hln
    obtain ⟨b, off, rfl, _⟩ := h.2 (by omega)
    exact rdo_cx 17 b off c u v w h (.inr (.inl rfl))
  · obtain rfl : n = 2 := by have : Ce.cn 18 = 2 := rfl; omega
    obtain ⟨u, v, rfl⟩ := two_of_len hln
    obtain ⟨b, off, rfl, _⟩ := h.2 (by omega)
    exact rdo_cx 18 b off c u v w h (.inr (.inr rfl))
  · obtain rfl : n = 1 := by have : Ce.cn 19 = 1 := rfl; omega
    obtain ⟨u, rfl⟩ := one_of_len hln
    obtain ⟨b, off, rfl, _⟩ := h.2 (by omega)
    exact rdo_one 19 b off c u w h (.inl rfl)
  · obtain rfl : n = 1 := by have : Ce.cn 20 = 1 := rfl; omega
    obtain ⟨u, rfl⟩ := one_of_len hln
    obtain ⟨b, off, rfl, _⟩ := h.2 (by omega)
    exact rdo_one 20 b off c u w h (.inr (.inl rfl))
  · have hcn : Ce.cn op = Wh.takes op := by simp [Ce.cn, h1, h2, h3, h4, h5, h6]
    rw [hcn] at h0 hl
    by_cases ht : Wh.takes op = 2
    · obtain rfl : n = 2 := by omega
      obtain ⟨u, v, rfl⟩ := two_of_len hln
      obtain ⟨b, off, rfl, _⟩ := h.2 (by omega)
      exact rdo_whole op b off c u v w h (hb u (by simp)) ht
    · have ho : (op = 11 ∨ op = 14) ∧ Wh.takes op = 1 := by
        unfold Wh.takes at h0 ht ⊢
        split at h0
        · rename_i h'; simp [h'] at ht
        · split at h0
          · rename_i h' h''
            simp [h', h'']
          · exact absurd rfl h0
      obtain rfl : n = 1 := by omega
      obtain ⟨u, rfl⟩ := one_of_len hln
      obtain ⟨b, off, rfl, _⟩ := h.2 (by omega)
      exact rdo_one op b off c u w h (by omega)
end Go.Proofs.YtdenboakcbipdaaDoor
