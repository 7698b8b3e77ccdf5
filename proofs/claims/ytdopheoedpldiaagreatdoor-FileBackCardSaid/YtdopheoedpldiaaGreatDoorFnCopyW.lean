/-
 fnc.Copy: the same function, its lists in memory of the call's own. Conditions: the function can be read; at most a million of each list.
-/
import Derived.Test.YtdopheoedpldiaaGreatDoorFnCp
import Derived.Test.YtdopheoedpldiaaGreatDoorFnTkP
set_option maxRecDepth 100000
namespace Go.Proofs.YtdopheoedpldiaaGreatDoor
open Go.RowKit
structure CpAt (W0 : World) (b : Nat) (v0 : FnV) (f : Fn.F) (v : FnV) (W : World) : Prop where
 box : FnAt W b v
 below : Below b W0 W
 src : FnOk W b v0 f
 lt : b + 1 < W.heap.size
 res : W.heap[b + 1]? = some (.cells #[.string ⟨#[]⟩, .bool false, .slice none 0 0, .slice none 0 0, .slice none 0 0, .slice none 0 0, .slice none 0 0, .slice none 0 0, .slice none 0 0, .slice none 0 0, .slice none 0 0] 43 (0, 0))
theorem CpAt.step {W0 W W1 : World} {b k : Nat} {v0 v v' : FnV} {f : Fn.F} {u : Value} (h : CpAt W0 b v0 f v W) (hb : Below W.heap.size W W1) (hv : v.cells.setIfInBounds k u = v'.cells) : CpAt W0 b v0 f v' (W1.setCell ⟨b, k, none⟩ u) := by
 have hb1 : Below b W W1 := hb.mono (by have := h.lt; omega)
 have hb2 := hb1.setCell (p := ⟨b, k, none⟩) (Nat.le_refl _) u
 have hs : (W1.setCell ⟨b, k, none⟩ u).heap.size = W1.heap.size := by simp [World.setCell]
 exact ⟨by unfold FnAt; rw [heap_set (h.box.on hb) u, hv], h.below.trans hb2, h.src.below hb2, by rw [hs]; exact Nat.lt_of_lt_of_le h.lt hb.size, (Below.heap_setCell W1 ⟨b, k, none⟩ u (b + 1) (by show b + 1 ≠ b; omega)).trans ((hb.block (b + 1) h.lt).trans h.res)⟩
theorem FnAt.frozen {w : World} {b : Nat} {v : FnV} (h : FnAt w b v) (k : Nat) : w.frozen? ⟨b, k, none⟩ = false := by
 unfold FnAt at h
 simp [World.frozen?, h]
theorem own_step {W W1 : World} {b k n size : Nat} {e : TypeId} {v u : Value} {xs : List Value} (h : W.ownsRow (b + 2) e size v n xs) (hb : Below W.heap.size W W1) : (W1.setCell ⟨b, k, none⟩ u).ownsRow (b + 2) e size v n xs :=
 row_kept h fun j hj => by
   have := h.lt j hj
   exact (Below.heap_setCell W1 ⟨b, k, none⟩ u j (by show j ≠ b; omega)).trans (hb.block j this.2)
theorem own_set {W W1 : World} {b k n size : Nat} {e : TypeId} {v u : Value} {xs : List Value} (h : W1.ownsRow W.heap.size e size v n xs) (hb : b + 1 < W.heap.size) : (W1.setCell ⟨b, k, none⟩ u).ownsRow (b + 2) e size v n xs :=
 row_kept (ownsRow_base h hb) fun j hj => by
   have := h.lt j hj
   exact Below.heap_setCell W1 ⟨b, k, none⟩ u j (by show j ≠ b; omega)
set_option maxHeartbeats 4000000 in
theorem fncopy_any (v : FnV) (f : Fn.F) (W : World) (h : FnOk W W.heap.size v f) (hl : ∀ s ∈ [v.outer, v.params, v.results, v.locals, v.code, v.lines, v.nodes, v.at_, v.live], s.n ≤ 1048576) :
   Calls Tryz.prog 32 #[.agg v.cells] W fun e W' => ∃ v', e = .returned (.agg v'.cells) ∧ FnOwn W' (W.heap.size + 2) v' f ∧ Below W.heap.size W W' := by
 have HL := Lib.hid hl
 have hE := h.name
 have hI := h.inner
 obtain ⟨b, hbW⟩ : ∃ b, W.heap.size = b := ⟨_, rfl⟩
 have h1 := heap_alloc_new W (.cells v.cells 43)
 have HC := Lib.hid (show CpAt W W.heap.size v f v ((W.alloc (.cells v.cells 43)).alloc (.cells #[.string ⟨#[]⟩, .bool false, .slice none 0 0, .slice none 0 0, .slice none 0 0, .slice none 0 0, .slice none 0 0, .slice none 0 0, .slice none 0 0, .slice none 0 0, .slice none 0 0] 43)) from
   ⟨(((Below.refl _ _).alloc (Nat.le_refl _) (.cells #[.string ⟨#[]⟩, .bool false, .slice none 0 0, .slice none 0 0, .slice none 0 0, .slice none 0 0, .slice none 0 0, .slice none 0 0, .slice none 0 0, .slice none 0 0, .slice none 0 0] 43)).block W.heap.size (heap_lt h1)).trans h1, ((Below.refl W.heap.size W).alloc (Nat.le_refl _) _).alloc (by simp) _, h.below (((Below.refl W.heap.size W).alloc (Nat.le_refl _) _).alloc (by simp) _), by simp, by have := heap_alloc_new (W.alloc (.cells v.cells 43)) (.cells #[.string ⟨#[]⟩, .bool false, .slice none 0 0, .slice none 0 0, .slice none 0 0, .slice none 0 0, .slice none 0 0, .slice none 0 0, .slice none 0 0, .slice none 0 0, .slice none 0 0] 43); simpa using this⟩)
 have HRs := Lib.hid (heap_alloc_new (W.alloc (.cells v.cells 43)) (.cells #[.string ⟨#[]⟩, .bool false, .slice none 0 0, .slice none 0 0, .slice none 0 0, .slice none 0 0, .slice none 0 0, .slice none 0 0, .slice none 0 0, .slice none 0 0, .slice none 0 0] 43))
 rw [hbW] at HC
 have hL : ∀ s ∈ [v.outer, v.params, v.results, v.locals, v.code, v.lines, v.nodes, v.at_, v.live], s.n ≤ 1048576 := hl
 clear h h1 hl
 go_enter Tryz.func32, Tryz.ntmps32
 have H := Lib.hid (fresh_types v.outer.a v.outer.n v.outer.c f.outer ((W.alloc (.cells v.cells 43)).alloc (.cells #[.string ⟨#[]⟩, .bool false, .slice none 0 0, .slice none 0 0, .slice none 0 0, .slice none 0 0, .slice none 0 0, .slice none 0 0, .slice none 0 0, .slice none 0 0, .slice none 0 0] 43)) ((HC.out.src.more (by have := HC.out.lt; omega)).outer).1 HC.out.src.outer.2 (hL v.outer (by simp)))
 have c := HC.out.box.c2
 go_wp2_with (go_at_call 71; refine H.out.mono ?_; clear H c; go_must (rintro _ x0 ⟨s0, rfl, ho, hb⟩; simp only [Sl3.val] at ho ⊢; have c := (HC.out.box.on hb).c2; have cf : x0.frozen? ⟨b, 2, none⟩ = false := (HC.out.box.on hb).frozen 2; have cn := (HC.out.box.on hb).c3; have cm := (HC.out.step (k := 2) (u := .slice s0.a s0.n s0.c) (v' := ⟨v.name, v.inner, s0, v.params, v.results, v.locals, v.code, v.lines, v.nodes, v.at_, v.live⟩) hb rfl).box.c3; have HO0 := Lib.hid (own_set (k := 2) (u := .slice s0.a s0.n s0.c) ho HC.out.lt); have HCn := Lib.hid (HC.out.step (k := 2) (u := .slice s0.a s0.n s0.c) (v' := ⟨v.name, v.inner, s0, v.params, v.results, v.locals, v.code, v.lines, v.nodes, v.at_, v.live⟩) hb rfl)))
 clear HC ho hb c cf cn cm
 generalize x0.setCell ⟨b, 2, none⟩ (.slice s0.a s0.n s0.c) = w1 at *
 have HC := HCn
 clear HCn
 have H := Lib.hid (fresh_types v.params.a v.params.n v.params.c f.params w1 ((HC.out.src.more (by have := HC.out.lt; omega)).params).1 HC.out.src.params.2 (hL v.params (by simp)))
 have c := HC.out.box.c3
 go_wp2_with (go_at_call 71; refine H.out.mono ?_; clear H c; go_must (rintro _ x1 ⟨s1, rfl, ho, hb⟩; simp only [Sl3.val] at ho ⊢; have c := (HC.out.box.on hb).c3; have cf : x1.frozen? ⟨b, 3, none⟩ = false := (HC.out.box.on hb).frozen 3; have cn := (HC.out.box.on hb).c4; have cm := (HC.out.step (k := 3) (u := .slice s1.a s1.n s1.c) (v' := ⟨v.name, v.inner, s0, s1, v.results, v.locals, v.code, v.lines, v.nodes, v.at_, v.live⟩) hb rfl).box.c4; have HO1 := Lib.hid (own_set (k := 3) (u := .slice s1.a s1.n s1.c) ho HC.out.lt); have HCn := Lib.hid (HC.out.step (k := 3) (u := .slice s1.a s1.n s1.c) (v' := ⟨v.name, v.inner, s0, s1, v.results, v.locals, v.code, v.lines, v.nodes, v.at_, v.live⟩) hb rfl); have HO0 := Lib.hid (own_step (k := 3) (u := .slice s1.a s1.n s1.c) HO0.out hb)))
 clear HC ho hb c cf cn cm
 generalize x1.setCell ⟨b, 3, none⟩ (.slice s1.a s1.n s1.c) = w2 at *
 have HC := HCn
 clear HCn
 have H := Lib.hid (fresh_types v.results.a v.results.n v.results.c f.results w2 ((HC.out.src.more (by have := HC.out.lt; omega)).results).1 HC.out.src.results.2 (hL v.results (by simp)))
 have c := HC.out.box.c4
 go_wp2_with (go_at_call 71; refine H.out.mono ?_; clear H c; go_must (rintro _ x2 ⟨s2, rfl, ho, hb⟩; simp only [Sl3.val] at ho ⊢; have c := (HC.out.box.on hb).c4; have cf : x2.frozen? ⟨b, 4, none⟩ = false := (HC.out.box.on hb).frozen 4; have cn := (HC.out.box.on hb).c5; have cm := (HC.out.step (k := 4) (u := .slice s2.a s2.n s2.c) (v' := ⟨v.name, v.inner, s0, s1, s2, v.locals, v.code, v.lines, v.nodes, v.at_, v.live⟩) hb rfl).box.c5; have HO2 := Lib.hid (own_set (k := 4) (u := .slice s2.a s2.n s2.c) ho HC.out.lt); have HCn := Lib.hid (HC.out.step (k := 4) (u := .slice s2.a s2.n s2.c) (v' := ⟨v.name, v.inner, s0, s1, s2, v.locals, v.code, v.lines, v.nodes, v.at_, v.live⟩) hb rfl); have HO0 := Lib.hid (own_step (k := 4) (u := .slice s2.a s2.n s2.c) HO0.out hb); have HO1 := Lib.hid (own_step (k := 4) (u := .slice s2.a s2.n s2.c) HO1.out hb)))
 clear HC ho hb c cf cn cm
 generalize x2.setCell ⟨b, 4, none⟩ (.slice s2.a s2.n s2.c) = w3 at *
 have HC := HCn
 clear HCn
 have H := Lib.hid (fresh_types v.locals.a v.locals.n v.locals.c f.locals w3 ((HC.out.src.more (by have := HC.out.lt; omega)).locals).1 HC.out.src.locals.2 (hL v.locals (by simp)))
 have c := HC.out.box.c5
 go_wp2_with (go_at_call 71; refine H.out.mono ?_; clear H c; go_must (rintro _ x3 ⟨s3, rfl, ho, hb⟩; simp only [Sl3.val] at ho ⊢; have c := (HC.out.box.on hb).c5; have cf : x3.frozen? ⟨b, 5, none⟩ = false := (HC.out.box.on hb).frozen 5; have cn := (HC.out.box.on hb).c6; have cm := (HC.out.step (k := 5) (u := .slice s3.a s3.n s3.c) (v' := ⟨v.name, v.inner, s0, s1, s2, s3, v.code, v.lines, v.nodes, v.at_, v.live⟩) hb rfl).box.c6; have HO3 := Lib.hid (own_set (k := 5) (u := .slice s3.a s3.n s3.c) ho HC.out.lt); have HCn := Lib.hid (HC.out.step (k := 5) (u := .slice s3.a s3.n s3.c) (v' := ⟨v.name, v.inner, s0, s1, s2, s3, v.code, v.lines, v.nodes, v.at_, v.live⟩) hb rfl); have HO0 := Lib.hid (own_step (k := 5) (u := .slice s3.a s3.n s3.c) HO0.out hb); have HO1 := Lib.hid (own_step (k := 5) (u := .slice s3.a s3.n s3.c) HO1.out hb); have HO2 := Lib.hid (own_step (k := 5) (u := .slice s3.a s3.n s3.c) HO2.out hb)))
 clear HC ho hb c cf cn cm
 generalize x3.setCell ⟨b, 5, none⟩ (.slice s3.a s3.n s3.c) = w4 at *
 have HC := HCn
 clear HCn
 have H := Lib.hid (fresh_instrs v.code.a v.code.n v.code.c f.code w4 ((HC.out.src.more (by have := HC.out.lt; omega)).code).1 HC.out.src.code.2 (hL v.code (by simp)))
 have c := HC.out.box.c6
 go_wp2_with (go_at_call 72; refine H.out.mono ?_; clear H c; go_must (rintro _ x4 ⟨s4, rfl, ho, hb⟩; simp only [Sl3.val] at ho ⊢; have c := (HC.out.box.on hb).c6; have cf : x4.frozen? ⟨b, 6, none⟩ = false := (HC.out.box.on hb).frozen 6; have cn := (HC.out.box.on hb).c7; have cm := (HC.out.step (k := 6) (u := .slice s4.a s4.n s4.c) (v' := ⟨v.name, v.inner, s0, s1, s2, s3, s4, v.lines, v.nodes, v.at_, v.live⟩) hb rfl).box.c7; have HO4 := Lib.hid (own_set (k := 6) (u := .slice s4.a s4.n s4.c) ho HC.out.lt); have HCn := Lib.hid (HC.out.step (k := 6) (u := .slice s4.a s4.n s4.c) (v' := ⟨v.name, v.inner, s0, s1, s2, s3, s4, v.lines, v.nodes, v.at_, v.live⟩) hb rfl); have HO0 := Lib.hid (own_step (k := 6) (u := .slice s4.a s4.n s4.c) HO0.out hb); have HO1 := Lib.hid (own_step (k := 6) (u := .slice s4.a s4.n s4.c) HO1.out hb); have HO2 := Lib.hid (own_step (k := 6) (u := .slice s4.a s4.n s4.c) HO2.out hb); have HO3 := Lib.hid (own_step (k := 6) (u := .slice s4.a s4.n s4.c) HO3.out hb)))
 clear HC ho hb c cf cn cm
 generalize x4.setCell ⟨b, 6, none⟩ (.slice s4.a s4.n s4.c) = w5 at *
 have HC := HCn
 clear HCn
 have H := Lib.hid (fresh_ints v.lines.a v.lines.n v.lines.c f.lines w5 ((HC.out.src.more (by have := HC.out.lt; omega)).lines).1 HC.out.src.lines.2 (hL v.lines (by simp)))
 have c := HC.out.box.c7
 go_wp2_with (go_at_call 73; refine H.out.mono ?_; clear H c; go_must (rintro _ x5 ⟨s5, rfl, ho, hb⟩; simp only [Sl3.val] at ho ⊢; have c := (HC.out.box.on hb).c7; have cf : x5.frozen? ⟨b, 7, none⟩ = false := (HC.out.box.on hb).frozen 7; have cn := (HC.out.box.on hb).c8; have cm := (HC.out.step (k := 7) (u := .slice s5.a s5.n s5.c) (v' := ⟨v.name, v.inner, s0, s1, s2, s3, s4, s5, v.nodes, v.at_, v.live⟩) hb rfl).box.c8; have HO5 := Lib.hid (own_set (k := 7) (u := .slice s5.a s5.n s5.c) ho HC.out.lt); have HCn := Lib.hid (HC.out.step (k := 7) (u := .slice s5.a s5.n s5.c) (v' := ⟨v.name, v.inner, s0, s1, s2, s3, s4, s5, v.nodes, v.at_, v.live⟩) hb rfl); have HO0 := Lib.hid (own_step (k := 7) (u := .slice s5.a s5.n s5.c) HO0.out hb); have HO1 := Lib.hid (own_step (k := 7) (u := .slice s5.a s5.n s5.c) HO1.out hb); have HO2 := Lib.hid (own_step (k := 7) (u := .slice s5.a s5.n s5.c) HO2.out hb); have HO3 := Lib.hid (own_step (k := 7) (u := .slice s5.a s5.n s5.c) HO3.out hb); have HO4 := Lib.hid (own_step (k := 7) (u := .slice s5.a s5.n s5.c) HO4.out hb)))
 clear HC ho hb c cf cn cm
 generalize x5.setCell ⟨b, 7, none⟩ (.slice s5.a s5.n s5.c) = w6 at *
 have HC := HCn
 clear HCn
 have H := Lib.hid (fresh_nodes v.nodes.a v.nodes.n v.nodes.c f.nodes w6 ((HC.out.src.more (by have := HC.out.lt; omega)).nodes).1 HC.out.src.nodes.2 (hL v.nodes (by simp)))
 have c := HC.out.box.c8
 go_wp2_with (go_at_call 74; refine H.out.mono ?_; clear H c; go_must (rintro _ x6 ⟨s6, rfl, ho, hb⟩; simp only [Sl3.val] at ho ⊢; have c := (HC.out.box.on hb).c8; have cf : x6.frozen? ⟨b, 8, none⟩ = false := (HC.out.box.on hb).frozen 8; have cn := (HC.out.box.on hb).c9; have cm := (HC.out.step (k := 8) (u := .slice s6.a s6.n s6.c) (v' := ⟨v.name, v.inner, s0, s1, s2, s3, s4, s5, s6, v.at_, v.live⟩) hb rfl).box.c9; have HO6 := Lib.hid (own_set (k := 8) (u := .slice s6.a s6.n s6.c) ho HC.out.lt); have HCn := Lib.hid (HC.out.step (k := 8) (u := .slice s6.a s6.n s6.c) (v' := ⟨v.name, v.inner, s0, s1, s2, s3, s4, s5, s6, v.at_, v.live⟩) hb rfl); have HO0 := Lib.hid (own_step (k := 8) (u := .slice s6.a s6.n s6.c) HO0.out hb); have HO1 := Lib.hid (own_step (k := 8) (u := .slice s6.a s6.n s6.c) HO1.out hb); have HO2 := Lib.hid (own_step (k := 8) (u := .slice s6.a s6.n s6.c) HO2.out hb); have HO3 := Lib.hid (own_step (k := 8) (u := .slice s6.a s6.n s6.c) HO3.out hb); have HO4 := Lib.hid (own_step (k := 8) (u := .slice s6.a s6.n s6.c) HO4.out hb); have HO5 := Lib.hid (own_step (k := 8) (u := .slice s6.a s6.n s6.c) HO5.out hb)))
 clear HC ho hb c cf cn cm
 generalize x6.setCell ⟨b, 8, none⟩ (.slice s6.a s6.n s6.c) = w7 at *
 have HC := HCn
 clear HCn
 have H := Lib.hid (fresh_ints v.at_.a v.at_.n v.at_.c f.at_ w7 ((HC.out.src.more (by have := HC.out.lt; omega)).at_).1 HC.out.src.at_.2 (hL v.at_ (by simp)))
 have c := HC.out.box.c9
 go_wp2_with (go_at_call 73; refine H.out.mono ?_; clear H c; go_must (rintro _ x7 ⟨s7, rfl, ho, hb⟩; simp only [Sl3.val] at ho ⊢; have c := (HC.out.box.on hb).c9; have cf : x7.frozen? ⟨b, 9, none⟩ = false := (HC.out.box.on hb).frozen 9; have cn := (HC.out.box.on hb).c10; have cm := (HC.out.step (k := 9) (u := .slice s7.a s7.n s7.c) (v' := ⟨v.name, v.inner, s0, s1, s2, s3, s4, s5, s6, s7, v.live⟩) hb rfl).box.c10; have HO7 := Lib.hid (own_set (k := 9) (u := .slice s7.a s7.n s7.c) ho HC.out.lt); have HCn := Lib.hid (HC.out.step (k := 9) (u := .slice s7.a s7.n s7.c) (v' := ⟨v.name, v.inner, s0, s1, s2, s3, s4, s5, s6, s7, v.live⟩) hb rfl); have HO0 := Lib.hid (own_step (k := 9) (u := .slice s7.a s7.n s7.c) HO0.out hb); have HO1 := Lib.hid (own_step (k := 9) (u := .slice s7.a s7.n s7.c) HO1.out hb); have HO2 := Lib.hid (own_step (k := 9) (u := .slice s7.a s7.n s7.c) HO2.out hb); have HO3 := Lib.hid (own_step (k := 9) (u := .slice s7.a s7.n s7.c) HO3.out hb); have HO4 := Lib.hid (own_step (k := 9) (u := .slice s7.a s7.n s7.c) HO4.out hb); have HO5 := Lib.hid (own_step (k := 9) (u := .slice s7.a s7.n s7.c) HO5.out hb); have HO6 := Lib.hid (own_step (k := 9) (u := .slice s7.a s7.n s7.c) HO6.out hb)))
 clear HC ho hb c cf cn cm
 generalize x7.setCell ⟨b, 9, none⟩ (.slice s7.a s7.n s7.c) = w8 at *
 have HC := HCn
 clear HCn
 have H := Lib.hid (fresh_sets v.live.a v.live.n v.live.c f.live w8 ((HC.out.src.more (by have := HC.out.lt; omega)).live).1 HC.out.src.live.2 (hL v.live (by simp)))
 have c := HC.out.box.c10
 go_wp2_with (go_at_call 75; refine H.out.mono ?_; clear H c; go_must (rintro _ x8 ⟨s8, rfl, ho, hb⟩; simp only [Sl3.val] at ho ⊢; have c := (HC.out.box.on hb).c10; have cf : x8.frozen? ⟨b, 10, none⟩ = false := (HC.out.box.on hb).frozen 10; have y0 := (HC.out.step (k := 10) (u := .slice s8.a s8.n s8.c) (v' := ⟨v.name, v.inner, s0, s1, s2, s3, s4, s5, s6, s7, s8⟩) hb rfl).box.c0; have q0 := (HC.out.box.on hb).c0; have y1 := (HC.out.step (k := 10) (u := .slice s8.a s8.n s8.c) (v' := ⟨v.name, v.inner, s0, s1, s2, s3, s4, s5, s6, s7, s8⟩) hb rfl).box.c1; have q1 := (HC.out.box.on hb).c1; have y2 := (HC.out.step (k := 10) (u := .slice s8.a s8.n s8.c) (v' := ⟨v.name, v.inner, s0, s1, s2, s3, s4, s5, s6, s7, s8⟩) hb rfl).box.c2; have q2 := (HC.out.box.on hb).c2; have y3 := (HC.out.step (k := 10) (u := .slice s8.a s8.n s8.c) (v' := ⟨v.name, v.inner, s0, s1, s2, s3, s4, s5, s6, s7, s8⟩) hb rfl).box.c3; have q3 := (HC.out.box.on hb).c3; have y4 := (HC.out.step (k := 10) (u := .slice s8.a s8.n s8.c) (v' := ⟨v.name, v.inner, s0, s1, s2, s3, s4, s5, s6, s7, s8⟩) hb rfl).box.c4; have q4 := (HC.out.box.on hb).c4; have y5 := (HC.out.step (k := 10) (u := .slice s8.a s8.n s8.c) (v' := ⟨v.name, v.inner, s0, s1, s2, s3, s4, s5, s6, s7, s8⟩) hb rfl).box.c5; have q5 := (HC.out.box.on hb).c5; have y6 := (HC.out.step (k := 10) (u := .slice s8.a s8.n s8.c) (v' := ⟨v.name, v.inner, s0, s1, s2, s3, s4, s5, s6, s7, s8⟩) hb rfl).box.c6; have q6 := (HC.out.box.on hb).c6; have y7 := (HC.out.step (k := 10) (u := .slice s8.a s8.n s8.c) (v' := ⟨v.name, v.inner, s0, s1, s2, s3, s4, s5, s6, s7, s8⟩) hb rfl).box.c7; have q7 := (HC.out.box.on hb).c7; have y8 := (HC.out.step (k := 10) (u := .slice s8.a s8.n s8.c) (v' := ⟨v.name, v.inner, s0, s1, s2, s3, s4, s5, s6, s7, s8⟩) hb rfl).box.c8; have q8 := (HC.out.box.on hb).c8; have y9 := (HC.out.step (k := 10) (u := .slice s8.a s8.n s8.c) (v' := ⟨v.name, v.inner, s0, s1, s2, s3, s4, s5, s6, s7, s8⟩) hb rfl).box.c9; have q9 := (HC.out.box.on hb).c9; have y10 := (HC.out.step (k := 10) (u := .slice s8.a s8.n s8.c) (v' := ⟨v.name, v.inner, s0, s1, s2, s3, s4, s5, s6, s7, s8⟩) hb rfl).box.c10; have q10 := (HC.out.box.on hb).c10; have r8 := (hb.block (b + 1) HC.out.lt).trans HC.out.res; have k0 : x8.cell? ⟨b + 1, 0, none⟩ = some (.string ⟨#[]⟩) := cell_of_row _ _ 0 _ _ _ r8; have kf0 : x8.frozen? ⟨b + 1, 0, none⟩ = false := (by simp [World.frozen?, r8]); have k1 : x8.cell? ⟨b + 1, 1, none⟩ = some (.bool false) := cell_of_row _ _ 1 _ _ _ r8; have kf1 : x8.frozen? ⟨b + 1, 1, none⟩ = false := (by simp [World.frozen?, r8]); have k2 : x8.cell? ⟨b + 1, 2, none⟩ = some (.slice none 0 0) := cell_of_row _ _ 2 _ _ _ r8; have kf2 : x8.frozen? ⟨b + 1, 2, none⟩ = false := (by simp [World.frozen?, r8]); have k3 : x8.cell? ⟨b + 1, 3, none⟩ = some (.slice none 0 0) := cell_of_row _ _ 3 _ _ _ r8; have kf3 : x8.frozen? ⟨b + 1, 3, none⟩ = false := (by simp [World.frozen?, r8]); have k4 : x8.cell? ⟨b + 1, 4, none⟩ = some (.slice none 0 0) := cell_of_row _ _ 4 _ _ _ r8; have kf4 : x8.frozen? ⟨b + 1, 4, none⟩ = false := (by simp [World.frozen?, r8]); have k5 : x8.cell? ⟨b + 1, 5, none⟩ = some (.slice none 0 0) := cell_of_row _ _ 5 _ _ _ r8; have kf5 : x8.frozen? ⟨b + 1, 5, none⟩ = false := (by simp [World.frozen?, r8]); have k6 : x8.cell? ⟨b + 1, 6, none⟩ = some (.slice none 0 0) := cell_of_row _ _ 6 _ _ _ r8; have kf6 : x8.frozen? ⟨b + 1, 6, none⟩ = false := (by simp [World.frozen?, r8]); have k7 : x8.cell? ⟨b + 1, 7, none⟩ = some (.slice none 0 0) := cell_of_row _ _ 7 _ _ _ r8; have kf7 : x8.frozen? ⟨b + 1, 7, none⟩ = false := (by simp [World.frozen?, r8]); have k8 : x8.cell? ⟨b + 1, 8, none⟩ = some (.slice none 0 0) := cell_of_row _ _ 8 _ _ _ r8; have kf8 : x8.frozen? ⟨b + 1, 8, none⟩ = false := (by simp [World.frozen?, r8]); have k9 : x8.cell? ⟨b + 1, 9, none⟩ = some (.slice none 0 0) := cell_of_row _ _ 9 _ _ _ r8; have kf9 : x8.frozen? ⟨b + 1, 9, none⟩ = false := (by simp [World.frozen?, r8]); have k10 : x8.cell? ⟨b + 1, 10, none⟩ = some (.slice none 0 0) := cell_of_row _ _ 10 _ _ _ r8; have kf10 : x8.frozen? ⟨b + 1, 10, none⟩ = false := (by simp [World.frozen?, r8]); have HO8 := Lib.hid (own_set (k := 10) (u := .slice s8.a s8.n s8.c) ho HC.out.lt); have HCn := Lib.hid (HC.out.step (k := 10) (u := .slice s8.a s8.n s8.c) (v' := ⟨v.name, v.inner, s0, s1, s2, s3, s4, s5, s6, s7, s8⟩) hb rfl); have HO0 := Lib.hid (own_step (k := 10) (u := .slice s8.a s8.n s8.c) HO0.out hb); have HO1 := Lib.hid (own_step (k := 10) (u := .slice s8.a s8.n s8.c) HO1.out hb); have HO2 := Lib.hid (own_step (k := 10) (u := .slice s8.a s8.n s8.c) HO2.out hb); have HO3 := Lib.hid (own_step (k := 10) (u := .slice s8.a s8.n s8.c) HO3.out hb); have HO4 := Lib.hid (own_step (k := 10) (u := .slice s8.a s8.n s8.c) HO4.out hb); have HO5 := Lib.hid (own_step (k := 10) (u := .slice s8.a s8.n s8.c) HO5.out hb); have HO6 := Lib.hid (own_step (k := 10) (u := .slice s8.a s8.n s8.c) HO6.out hb); have HO7 := Lib.hid (own_step (k := 10) (u := .slice s8.a s8.n s8.c) HO7.out hb)))
 have HR := Lib.hid (HCn.out.res)
 have HBl := Lib.hid HCn.out.below
 have hn := HCn.out.src
 obtain ⟨m0, m1, m2, m3, m4, m5, m6, m7, m8⟩ := And.intro hn.n_outer (And.intro hn.n_params (And.intro hn.n_results (And.intro hn.n_locals (And.intro hn.n_code (And.intro hn.n_lines (And.intro hn.n_nodes (And.intro hn.n_at hn.n_live)))))))
 have HX := Lib.hid (show FnOwn _ (b + 2) ⟨f.name, f.inner, s0, s1, s2, s3, s4, s5, s6, s7, s8⟩ f from ⟨rfl, rfl, by rw [m0]; exact HO0.out, by rw [m1]; exact HO1.out, by rw [m2]; exact HO2.out, by rw [m3]; exact HO3.out, by rw [m4]; exact HO4.out, by rw [m5]; exact HO5.out, by rw [m6]; exact HO6.out, by rw [m7]; exact HO7.out, by rw [m8]; exact HO8.out⟩)
 have h0 := heap_set (i := 0) HR.out (.string f.name)
 have h1 := heap_set (i := 1) h0 (.bool f.inner)
 have h2 := heap_set (i := 2) h1 (.slice s0.a s0.n s0.c)
 have h3 := heap_set (i := 3) h2 (.slice s1.a s1.n s1.c)
 have h4 := heap_set (i := 4) h3 (.slice s2.a s2.n s2.c)
 have h5 := heap_set (i := 5) h4 (.slice s3.a s3.n s3.c)
 have h6 := heap_set (i := 6) h5 (.slice s4.a s4.n s4.c)
 have h7 := heap_set (i := 7) h6 (.slice s5.a s5.n s5.c)
 have h8 := heap_set (i := 8) h7 (.slice s6.a s6.n s6.c)
 have h9 := heap_set (i := 9) h8 (.slice s7.a s7.n s7.c)
 have h10 := heap_set (i := 10) h9 (.slice s8.a s8.n s8.c)
 have r0 := cell_of_row _ _ 0 _ _ _ h10
 have r1 := cell_of_row _ _ 1 _ _ _ h10
 have r2 := cell_of_row _ _ 2 _ _ _ h10
 have r3 := cell_of_row _ _ 3 _ _ _ h10
 have r4 := cell_of_row _ _ 4 _ _ _ h10
 have r5 := cell_of_row _ _ 5 _ _ _ h10
 have r6 := cell_of_row _ _ 6 _ _ _ h10
 have r7 := cell_of_row _ _ 7 _ _ _ h10
 have r8 := cell_of_row _ _ 8 _ _ _ h10
 have r9 := cell_of_row _ _ 9 _ _ _ h10
 have r10 := cell_of_row _ _ 10 _ _ _ h10
 exact bodyPost_ret (v := .agg #[.string f.name, .bool f.inner, .slice s0.a s0.n s0.c, .slice s1.a s1.n s1.c, .slice s2.a s2.n s2.c, .slice s3.a s3.n s3.c, .slice s4.a s4.n s4.c, .slice s5.a s5.n s5.c, .slice s6.a s6.n s6.c, .slice s7.a s7.n s7.c, .slice s8.a s8.n s8.c]) (by simp [results, Tryz.results32, go_sem, r0, r1, r2, r3, r4, r5, r6, r7, r8, r9, r10]) rfl ⟨⟨f.name, f.inner, s0, s1, s2, s3, s4, s5, s6, s7, s8⟩, rfl, (((((((((((HX.out.off (Off.set b (b + 1) 0 (.string f.name) _) (by omega) (by omega)).off (Off.set b (b + 1) 1 (.bool f.inner) _) (by omega) (by omega)).off (Off.set b (b + 1) 2 (.slice s0.a s0.n s0.c) _) (by omega) (by omega)).off (Off.set b (b + 1) 3 (.slice s1.a s1.n s1.c) _) (by omega) (by omega)).off (Off.set b (b + 1) 4 (.slice s2.a s2.n s2.c) _) (by omega) (by omega)).off (Off.set b (b + 1) 5 (.slice s3.a s3.n s3.c) _) (by omega) (by omega)).off (Off.set b (b + 1) 6 (.slice s4.a s4.n s4.c) _) (by omega) (by omega)).off (Off.set b (b + 1) 7 (.slice s5.a s5.n s5.c) _) (by omega) (by omega)).off (Off.set b (b + 1) 8 (.slice s6.a s6.n s6.c) _) (by omega) (by omega)).off (Off.set b (b + 1) 9 (.slice s7.a s7.n s7.c) _) (by omega) (by omega)).off (Off.set b (b + 1) 10 (.slice s8.a s8.n s8.c) _) (by omega) (by omega)), (((((((((((HBl.out.setCell (p := ⟨b + 1, 0, none⟩) (by show b ≤ b + 1; omega) (.string f.name)).setCell (p := ⟨b + 1, 1, none⟩) (by show b ≤ b + 1; omega) (.bool f.inner)).setCell (p := ⟨b + 1, 2, none⟩) (by show b ≤ b + 1; omega) (.slice s0.a s0.n s0.c)).setCell (p := ⟨b + 1, 3, none⟩) (by show b ≤ b + 1; omega) (.slice s1.a s1.n s1.c)).setCell (p := ⟨b + 1, 4, none⟩) (by show b ≤ b + 1; omega) (.slice s2.a s2.n s2.c)).setCell (p := ⟨b + 1, 5, none⟩) (by show b ≤ b + 1; omega) (.slice s3.a s3.n s3.c)).setCell (p := ⟨b + 1, 6, none⟩) (by show b ≤ b + 1; omega) (.slice s4.a s4.n s4.c)).setCell (p := ⟨b + 1, 7, none⟩) (by show b ≤ b + 1; omega) (.slice s5.a s5.n s5.c)).setCell (p := ⟨b + 1, 8, none⟩) (by show b ≤ b + 1; omega) (.slice s6.a s6.n s6.c)).setCell (p := ⟨b + 1, 9, none⟩) (by show b ≤ b + 1; omega) (.slice s7.a s7.n s7.c)).setCell (p := ⟨b + 1, 10, none⟩) (by show b ≤ b + 1; omega) (.slice s8.a s8.n s8.c))⟩
end Go.Proofs.YtdopheoedpldiaaGreatDoor
