/-
 (*reader).line: what a line does. Conditions: at most a million bytes; at most a million lines and functions; the library's variables are laid.
-/
import Derived.Test.YtfopelegobhegaaGreatDoorAsIns
set_option maxRecDepth 100000
namespace Go.Proofs.YtfopelegobhegaaGreatDoor
open Go.RowKit
structure EnC (q l : Nat) (Wc Wb : World) (s : Sl3) (us : List FnV) (v : FnV) (t : As.St) (x : Nat × Sl3) (D : Nat → Bool) (W : World) : Prop where
 off : Off q l Wb W
 ko : KeepsOthers Wc W
 kl : W.heap[l]? = Wc.heap[l]?
 box : W.heap[q]? = some (.cells (rdCells (if D 15 = true then x.2 else s) v true) 66 (0, 0))
 new : D 10 = true → D 11 = false → W.heap[x.1]? = some (.cells v.cells 35 (0, 0))
 o0 : D 11 = false → W.ownsRow Wb.heap.size 35 11 s.val us.length (fcs us)
 o1 : D 11 = true → W.ownsRow Wb.heap.size 35 11 x.2.val (us.length + 1) (fcs (us ++ [v]))
 olds : ∀ j, j < us.length → FnOwn W Wb.heap.size (us.getD j .zero) (t.done.getD j .zero)
 cur : FnOwn W Wb.heap.size v t.cur
 q0 : q < Wb.heap.size
 l0 : l < Wb.heap.size ∧ q ≠ l
section
variable {q l : Nat} {Wc Wb W : World} {s : Sl3} {us : List FnV} {v : FnV} {t : As.St} {x : Nat × Sl3} {D : Nat → Bool}
theorem EnC.up (h : EnC q l Wc Wb s us v t x D W) {i : Nat} (h1 : (10 == i) = false) (h2 : (11 == i) = false) (h3 : (15 == i) = false) : EnC q l Wc Wb s us v t x (add D i) W :=
 ⟨h.off, h.ko, h.kl, by rw [up_other h3]; exact h.box, by rw [up_other h1, up_other h2]; exact h.new, by rw [up_other h2]; exact h.o0, by rw [up_other h2]; exact h.o1, h.olds, h.cur, h.q0, h.l0⟩
theorem EnC.funcs (h : EnC q l Wc Wb s us v t x D W) (hs : D 15 = false) : W.cell? ⟨q, 0, none⟩ = some (.slice s.a s.n s.c) := by
 have := h.box
 rw [hs, if_neg (by decide)] at this
 exact cell_of_row W q 0 _ _ _ this
theorem EnC.ice (h : EnC q l Wc Wb s us v t x D W) : W.frozen? ⟨q, 0, none⟩ = false := by
 have := h.box
 simp [World.frozen?, this]
theorem EnC.func (h : EnC q l Wc Wb s us v t x D W) : W.cell? ⟨q, 1, none⟩ = some (.string v.name) ∧ W.cell? ⟨q, 2, none⟩ = some (.bool v.inner) ∧ W.cell? ⟨q, 3, none⟩ = some (.slice v.outer.a v.outer.n v.outer.c) ∧ W.cell? ⟨q, 4, none⟩ = some (.slice v.params.a v.params.n v.params.c) ∧ W.cell? ⟨q, 5, none⟩ = some (.slice v.results.a v.results.n v.results.c) ∧ W.cell? ⟨q, 6, none⟩ = some (.slice v.locals.a v.locals.n v.locals.c) ∧ W.cell? ⟨q, 7, none⟩ = some (.slice v.code.a v.code.n v.code.c) ∧ W.cell? ⟨q, 8, none⟩ = some (.slice v.lines.a v.lines.n v.lines.c) ∧ W.cell? ⟨q, 9, none⟩ = some (.slice v.nodes.a v.nodes.n v.nodes.c) ∧ W.cell? ⟨q, 10, none⟩ = some (.slice v.at_.a v.at_.n v.at_.c) ∧ W.cell? ⟨q, 11, none⟩ = some (.slice v.live.a v.live.n v.live.c) :=
 have c := fun k => cell_of_row W q k _ _ _ h.box
 ⟨c 1, c 2, c 3, c 4, c 5, c 6, c 7, c 8, c 9, c 10, c 11⟩
theorem EnC.newed (h : EnC q l Wc Wb s us v t x D W) (h11 : D 11 = false) : EnC q l Wc Wb s us v t (W.heap.size, x.2) (add D 10) (W.alloc (.cells v.cells 35)) := by
 have hb := (Below.refl W.heap.size W).alloc (Nat.le_refl _) (.cells v.cells 35)
 refine ⟨h.off.trans (Off.below hb), h.ko.trans (KeepsOthers.alloc _ _), (hb.block l (Nat.lt_of_lt_of_le h.l0.1 h.off.size)).trans h.kl, ?_, fun _ _ => heap_alloc_new W _, ?_, ?_, fun j hj => (h.olds j hj).below hb, h.cur.below hb, h.q0, h.l0⟩
 · rw [up_other rfl]
   exact (hb.block q (heap_lt h.box)).trans h.box
 · rw [up_other rfl]
   exact fun e => ownsRow_below (h.o0 e) hb
 · rw [up_other rfl, h11]
   intro e
   cases e
theorem EnC.appends (h : EnC q l Wc Wb s us v t x D W) (h10 : D 10 = true) (h11 : D 11 = false) (h15 : D 15 = false) (hu : us.length ≤ 1048576) :
   ∃ (r : Sl3) (W' : World), (Builtin.append_ #[40, 40] 40 #[.slice s.a s.n s.c, .slice (some ⟨x.1, 0, none⟩) 1 1]).run Tryz.prog W = .ok r.val W' ∧ EnC q l Wc Wb s us v t (x.1, r) (add D 11) W' := by
 obtain ⟨i0, hi, hz0, hz1, hz2⟩ := info_parts info_func
 have hO := h.o0 h11
 have hx := h.new h10 h11
 obtain ⟨r, W', hr, ho, hg, _⟩ := run_append_own (P := Tryz.prog) W Wb.heap.size 40 40 35 i0 (.agg FnV.zero.cells) 11 240 Tryz.underlying40 hi hz0 hz1 hz2 rfl (by decide) s.val us.length (fcs us) hO ⟨x.1, 0, none⟩ 1 1 (fcs [v]) rfl
   (by rw [show fcs [v] = v.cells.toList from List.append_nil _]; exact World.news_of_block hx) (fcs_one _) (by unfold maxLen; omega) (by omega) h.off.size
 obtain ⟨rc, rfl⟩ := own_sl ho
 refine ⟨rc, W', hr, off_row h.off hO (Nat.le_refl _) hg, h.ko.trans (ko_row hO hg), (hg.block l (Nat.lt_of_lt_of_le h.l0.1 h.off.size) (fun e => by have := (hO.lt l e.symm).1; have := h.l0; omega)).trans h.kl, ?_, ?_, ?_, ?_, fun j hj => (h.olds j hj).kept hg (row_funcs hO), h.cur.kept hg (row_funcs hO), h.q0, h.l0⟩
 · have hbx := h.box
   rw [h15, if_neg (by decide)] at hbx
   rw [up_other rfl, h15, if_neg (by decide)]
   exact (hg.block q (heap_lt hbx) (fun e => by have := (hO.lt q e.symm).1; have := h.q0; omega)).trans hbx
 · rw [up_self]
   intro _ e
   cases e
 · rw [up_self]
   intro e
   cases e
 · rw [fcs_append]
   exact fun _ => ho
theorem EnC.stored (h : EnC q l Wc Wb s us v t x D W) (h11 : D 11 = true) (h15 : D 15 = false) : EnC q l Wc Wb s us v t x (add D 15) (W.setCell ⟨q, 0, none⟩ x.2.val) := by
 have hg := Lib.grownBy_setB (World.grownBy.refl W (some q)) 0 x.2.val
 refine ⟨h.off.trans (Off.grown hg), h.ko.trans (KeepsOthers.setCell _ _ _), (hg.block l (Nat.lt_of_lt_of_le h.l0.1 h.off.size) (fun e => by injection e with e; exact h.l0.2 e.symm)).trans h.kl, ?_, ?_, ?_, ?_, fun j hj => (h.olds j hj).off (Off.grown (p := q) hg) h.q0 h.q0, h.cur.off (Off.grown (p := q) hg) h.q0 h.q0, h.q0, h.l0⟩
 · have hbx := h.box
   rw [h15, if_neg (by decide)] at hbx
   rw [up_self, if_pos rfl]
   exact mid_set (i := 0) hbx x.2.val
 · rw [up_other rfl, up_other rfl, h11]
   intro _ e
   cases e
 · rw [up_other rfl, h11]
   intro e
   cases e
 · rw [up_other rfl]
   exact fun e => row_off (h.o1 e) (Off.grown (p := q) hg) h.q0 h.q0
end
def endG (q : Nat) (s : Sl3) (v : FnV) (x : Nat × Sl3) : Nat → Value → Prop
 | 0, y => y = .pointer (some ⟨q, 0, none⟩)
 | 1, y => y = .pointer (some ⟨q, 0, none⟩)
 | 2, y => y = .pointer (some ⟨q, 0, none⟩)
 | 3, y => y = .pointer (some ⟨q, 0, none⟩)
 | 4, y => y = .pointer (some ⟨q, 0, none⟩)
 | 5, y => y = .slice s.a s.n s.c
 | 6, y => y = .pointer (some ⟨q, 0, none⟩)
 | 7, y => y = .pointer (some ⟨q, 0, none⟩)
 | 8, y => y = .pointer (some ⟨q, 1, none⟩)
 | 9, y => y = .agg #[.string v.name, .bool v.inner, .slice v.outer.a v.outer.n v.outer.c, .slice v.params.a v.params.n v.params.c, .slice v.results.a v.results.n v.results.c, .slice v.locals.a v.locals.n v.locals.c, .slice v.code.a v.code.n v.code.c, .slice v.lines.a v.lines.n v.lines.c, .slice v.nodes.a v.nodes.n v.nodes.c, .slice v.at_.a v.at_.n v.at_.c, .slice v.live.a v.live.n v.live.c]
 | 10, y => y = .slice (some ⟨x.1, 0, none⟩) 1 1
 | 11, y => y = x.2.val
 | 12, y => y = .pointer (some ⟨q, 0, none⟩)
 | 13, y => y = .pointer (some ⟨q, 0, none⟩)
 | 14, y => y = .pointer (some ⟨q, 0, none⟩)
 | _, _ => True
theorem en_new {q : Nat} {s : Sl3} {v : FnV} {x : Nat × Sl3} {D : Nat → Bool} {z : Nat} (h10 : D 10 = false) : ∀ j y, D j = true → endG q s v x j y → endG q s v (z, x.2) j y
 | 0, _, _, h => h
 | 1, _, _, h => h
 | 2, _, _, h => h
 | 3, _, _, h => h
 | 4, _, _, h => h
 | 5, _, _, h => h
 | 6, _, _, h => h
 | 7, _, _, h => h
 | 8, _, _, h => h
 | 9, _, _, h => h
 | 10, _, hj, _ => by rw [h10] at hj; cases hj
 | 11, _, _, h => h
 | 12, _, _, h => h
 | 13, _, _, h => h
 | 14, _, _, h => h
 | 15, _, _, h => h
 | _ + 16, _, _, h => h
theorem en_app {q : Nat} {s : Sl3} {v : FnV} {x : Nat × Sl3} {D : Nat → Bool} {z : Sl3} (h11 : D 11 = false) : ∀ j y, D j = true → endG q s v x j y → endG q s v (x.1, z) j y
 | 0, _, _, h => h
 | 1, _, _, h => h
 | 2, _, _, h => h
 | 3, _, _, h => h
 | 4, _, _, h => h
 | 5, _, _, h => h
 | 6, _, _, h => h
 | 7, _, _, h => h
 | 8, _, _, h => h
 | 9, _, _, h => h
 | 10, _, _, h => h
 | 11, _, hj, _ => by rw [h11] at hj; cases hj
 | 12, _, _, h => h
 | 13, _, _, h => h
 | 14, _, _, h => h
 | 15, _, _, h => h
 | _ + 16, _, _, h => h
set_option maxHeartbeats 16000000 in
theorem rdline_any (q l : Nat) (Wb : World) (t : As.St) (W : World) (h : RdAt q l Wb t W) (z : ByteArray) (hz : z.size ≤ 1048576) (hg : Glob W) (hnc : t.cur.code.length ≤ 1048576) (hnl : t.cur.lines.length ≤ 1048576) (hnd : t.done.length ≤ 1048576) :
   Calls Tryz.prog 29 #[.pointer (some ⟨q, 0, none⟩), .string z] W (RdP q l Wb (As.step t z).1 (As.step t z).2 W) := by
 by_cases ht : t.isOpen = true
 rotate_left
 · have ht : t.isOpen = false := by cases hx : t.isOpen; rfl; exact absurd hx ht
   rw [As.step_shut ht]
   have HHd := rdhead_any q l Wb t W h z hz
   obtain ⟨W0, s, us, v, h⟩ := h
   have c12 : W.cell? ⟨q, 12, none⟩ = some (.bool t.isOpen) := h.cell 12
   rw [ht] at c12
   unfold RdP at HHd
   clear h ht hz hg hnc hnl hnd
   go_enter Tryz.func29, Tryz.ntmps29
   go_wp2_with (go_at_call 50; refine HHd.mono ?_; clear HHd; rintro _ w1 ⟨rfl, h1⟩; have H1 := Lib.hid h1; clear h1)
   go_ret
   exact ⟨rfl, H1.out⟩
 by_cases he : z = As.end_
 rotate_left
 · rw [As.step_line ht he]
   have HIn := rdins_any q l Wb t W h ht z (by omega) hg hnc hnl
   obtain ⟨W0, s, us, v, h⟩ := h
   have c12 : W.cell? ⟨q, 12, none⟩ = some (.bool t.isOpen) := h.cell 12
   rw [ht] at c12
   unfold RdP at HIn
   have hz1 : (z.toList == [101, 110, 100]) = false := by
     rw [show ([101, 110, 100] : List UInt8) = As.end_.toList by kernel_rfl]
     exact (Lib.bytes_beq_false_iff _ _).2 he
   clear h ht hz hg hnc hnl hnd he
   go_enter Tryz.func29, Tryz.ntmps29
   go_wp2_with (go_at_call 51; refine HIn.mono ?_; clear HIn; rintro _ w1 ⟨rfl, h1⟩; have H1 := Lib.hid h1; clear h1)
   go_ret
   exact ⟨rfl, H1.out⟩
 rw [he, As.step_end ht]
 obtain ⟨W0, s, us, v, h⟩ := h
 have c12 : W.cell? ⟨q, 12, none⟩ = some (.bool t.isOpen) := h.cell 12
 rw [ht] at c12
 have hz1 : (z.toList == [101, 110, 100]) = true := by
   rw [show ([101, 110, 100] : List UInt8) = As.end_.toList by kernel_rfl, he]
   exact beq_self_eq_true _
 have hC : EnC q l W Wb s us v t (0, .nil) (fun _ => false) W.drew :=
   have h := h.below ((Below.refl _ _).drew)
   ⟨h.whole, KeepsOthers.drew _, rfl, by have := h.box; rw [ht] at this; exact this, (fun e => by cases e), fun _ => h.rowW, (fun e => by cases e), h.oldW, ((h.cur ht).1.base h.base), h.ql.1, h.ql.2⟩
 have hnd : us.length ≤ 1048576 := by have := h.len; omega
 have H := Lib.hid h
 have HT := Lib.hid ht
 rw [← he]
 clear h ht hz hg hnc hnl he
 go_enter Tryz.func29, Tryz.ntmps29
 go_wp2
 refine region_k ((0, .nil) : Nat × Sl3) 38 (fun x D W' => EnC q l W Wb s us v t x D W') (endG q s v) (by kernel_rfl) (by kernel_rfl) (by kernel_rfl) rfl rfl hC ?_ ?_
 · refine ⟨?_, ?_, ?_, ?_, ?_, ?_, ?_, ?_, ?_, ?_, ?_, ?_, ?_, ?_, ?_, ?_, trivial⟩
   · intro x D a w hI hdep hD0 K hK
     have e0 : a.eval (.tmp 0) = .pointer (some ⟨q, 0, none⟩) := hI.read 0 rfl
     refine ok_value (wanted_none rfl) (v := .pointer (some ⟨q, 0, none⟩)) ?_ (hK x _ _ (hI.world.up rfl rfl rfl) (fun _ _ _ h => h) rfl)
     obtain ⟨ec, ef⟩ := ecs a; clear hI hdep hK; generalize a.eval = ρ at e0 ec ef ⊢; go_simp
   · intro x D a w hI hdep hD0 K hK
     have e0 : a.eval (.tmp 0) = .pointer (some ⟨q, 0, none⟩) := hI.read 0 rfl
     refine ok_value (wanted_none rfl) (v := .pointer (some ⟨q, 0, none⟩)) ?_ (hK x _ _ (hI.world.up rfl rfl rfl) (fun _ _ _ h => h) rfl)
     obtain ⟨ec, ef⟩ := ecs a; clear hI hdep hK; generalize a.eval = ρ at e0 ec ef ⊢; go_simp
   · intro x D a w hI hdep hD0 K hK
     have e18 : a.eval (.tmp 18) = .pointer (some ⟨q, 0, none⟩) := hI.good 1 18 (dep_of hdep 1 rfl) rfl
     refine ok_value (wanted_none rfl) (v := .pointer (some ⟨q, 0, none⟩)) ?_ (hK x _ _ (hI.world.up rfl rfl rfl) (fun _ _ _ h => h) rfl)
     obtain ⟨ec, ef⟩ := ecs a; clear hI hdep hK; generalize a.eval = ρ at e18 ec ef ⊢; go_simp
   · intro x D a w hI hdep hD0 K hK
     have e19 : a.eval (.tmp 19) = .pointer (some ⟨q, 0, none⟩) := hI.good 2 19 (dep_of hdep 2 rfl) rfl
     refine ok_value (wanted_none rfl) (v := .pointer (some ⟨q, 0, none⟩)) ?_ (hK x _ _ (hI.world.up rfl rfl rfl) (fun _ _ _ h => h) rfl)
     obtain ⟨ec, ef⟩ := ecs a; clear hI hdep hK; generalize a.eval = ρ at e19 ec ef ⊢; go_simp
   · intro x D a w hI hdep hD0 K hK
     have e20 : a.eval (.tmp 20) = .pointer (some ⟨q, 0, none⟩) := hI.good 3 20 (dep_of hdep 3 rfl) rfl
     refine ok_value (wanted_none rfl) (v := .pointer (some ⟨q, 0, none⟩)) ?_ (hK x _ _ (hI.world.up rfl rfl rfl) (fun _ _ _ h => h) rfl)
     obtain ⟨ec, ef⟩ := ecs a; clear hI hdep hK; generalize a.eval = ρ at e20 ec ef ⊢; go_simp
   · intro x D a w hI hdep hD0 K hK
     have e21 : a.eval (.tmp 21) = .pointer (some ⟨q, 0, none⟩) := hI.good 4 21 (dep_of hdep 4 rfl) rfl
     have z0 : w.cell? ⟨q, 0, none⟩ = some (.slice s.a s.n s.c) := hI.world.funcs (hI.not_up hD0 15 rfl)
     refine ok_value (wanted_none rfl) (v := .slice s.a s.n s.c) ?_ (hK x _ _ (hI.world.up rfl rfl rfl) (fun _ _ _ h => h) rfl)
     obtain ⟨ec, ef⟩ := ecs a; clear hI hdep hK; generalize a.eval = ρ at e21 ec ef ⊢; go_simp
   · intro x D a w hI hdep hD0 K hK
     have e0 : a.eval (.tmp 0) = .pointer (some ⟨q, 0, none⟩) := hI.read 0 rfl
     refine ok_value (wanted_none rfl) (v := .pointer (some ⟨q, 0, none⟩)) ?_ (hK x _ _ (hI.world.up rfl rfl rfl) (fun _ _ _ h => h) rfl)
     obtain ⟨ec, ef⟩ := ecs a; clear hI hdep hK; generalize a.eval = ρ at e0 ec ef ⊢; go_simp
   · intro x D a w hI hdep hD0 K hK
     have e23 : a.eval (.tmp 23) = .pointer (some ⟨q, 0, none⟩) := hI.good 6 23 (dep_of hdep 6 rfl) rfl
     refine ok_value (wanted_none rfl) (v := .pointer (some ⟨q, 0, none⟩)) ?_ (hK x _ _ (hI.world.up rfl rfl rfl) (fun _ _ _ h => h) rfl)
     obtain ⟨ec, ef⟩ := ecs a; clear hI hdep hK; generalize a.eval = ρ at e23 ec ef ⊢; go_simp
   · intro x D a w hI hdep hD0 K hK
     have e24 : a.eval (.tmp 24) = .pointer (some ⟨q, 0, none⟩) := hI.good 7 24 (dep_of hdep 7 rfl) rfl
     refine ok_value (wanted_none rfl) (v := .pointer (some ⟨q, 1, none⟩)) ?_ (hK x _ _ (hI.world.up rfl rfl rfl) (fun _ _ _ h => h) rfl)
     obtain ⟨ec, ef⟩ := ecs a; clear hI hdep hK; generalize a.eval = ρ at e24 ec ef ⊢; go_simp
   · intro x D a w hI hdep hD0 K hK
     have e25 : a.eval (.tmp 25) = .pointer (some ⟨q, 1, none⟩) := hI.good 8 25 (dep_of hdep 8 rfl) rfl
     obtain ⟨k0, k1, k2, k3, k4, k5, k6, k7, k8, k9, k10⟩ := hI.world.func
     refine ok_value (wanted_none rfl) (v := .agg #[.string v.name, .bool v.inner, .slice v.outer.a v.outer.n v.outer.c, .slice v.params.a v.params.n v.params.c, .slice v.results.a v.results.n v.results.c, .slice v.locals.a v.locals.n v.locals.c, .slice v.code.a v.code.n v.code.c, .slice v.lines.a v.lines.n v.lines.c, .slice v.nodes.a v.nodes.n v.nodes.c, .slice v.at_.a v.at_.n v.at_.c, .slice v.live.a v.live.n v.live.c]) ?_ (hK x _ _ (hI.world.up rfl rfl rfl) (fun _ _ _ h => h) rfl)
     obtain ⟨ec, ef⟩ := ecs a; clear hI hdep hK; generalize a.eval = ρ at e25 ec ef ⊢; go_simp
   · intro x D a w hI hdep hD0 K hK
     have e26 : a.eval (.tmp 26) = .agg #[.string v.name, .bool v.inner, .slice v.outer.a v.outer.n v.outer.c, .slice v.params.a v.params.n v.params.c, .slice v.results.a v.results.n v.results.c, .slice v.locals.a v.locals.n v.locals.c, .slice v.code.a v.code.n v.code.c, .slice v.lines.a v.lines.n v.lines.c, .slice v.nodes.a v.nodes.n v.nodes.c, .slice v.at_.a v.at_.n v.at_.c, .slice v.live.a v.live.n v.live.c] := hI.good 9 26 (dep_of hdep 9 rfl) rfl
     refine ok_new (wanted_none rfl) (v := .slice (some ⟨w.heap.size, 0, none⟩) 1 1) (w' := w.alloc (.cells v.cells 35)) (by have ec : ∀ c, a.eval (.const c) = c := fun _ => rfl; generalize a.eval = ρ at e26 ec ⊢; simp only [FnV.cells, Sl3.val] at e26 ⊢; go_simp) ?_
     exact hK (w.heap.size, x.2) _ _ (hI.world.newed (hI.not_up hD0 11 rfl)) (en_new hD0) rfl
   · intro x D a w hI hdep hD0 K hK
     have e22 : a.eval (.tmp 22) = .slice s.a s.n s.c := hI.good 5 22 (dep_of hdep 5 rfl) rfl
     have e27 : a.eval (.tmp 27) = .slice (some ⟨x.1, 0, none⟩) 1 1 := hI.good 10 27 (dep_of hdep 10 rfl) rfl
     obtain ⟨r, W', hr, hC⟩ := hI.world.appends (dep_of hdep 10 rfl) hD0 (hI.not_up hD0 15 rfl) hnd
     exact ok_append (wanted_none rfl) (.tmp 22) (.tmp 27) 40 40 rfl (by rw [e22, e27]; exact hr) (hK (x.1, r) _ _ hC (en_app hD0) rfl)
   · intro x D a w hI hdep hD0 K hK
     have e17 : a.eval (.tmp 17) = .pointer (some ⟨q, 0, none⟩) := hI.good 0 17 (dep_of hdep 0 rfl) rfl
     refine ok_value (wanted_none rfl) (v := .pointer (some ⟨q, 0, none⟩)) ?_ (hK x _ _ (hI.world.up rfl rfl rfl) (fun _ _ _ h => h) rfl)
     obtain ⟨ec, ef⟩ := ecs a; clear hI hdep hK; generalize a.eval = ρ at e17 ec ef ⊢; go_simp
   · intro x D a w hI hdep hD0 K hK
     have e29 : a.eval (.tmp 29) = .pointer (some ⟨q, 0, none⟩) := hI.good 12 29 (dep_of hdep 12 rfl) rfl
     refine ok_value (wanted_none rfl) (v := .pointer (some ⟨q, 0, none⟩)) ?_ (hK x _ _ (hI.world.up rfl rfl rfl) (fun _ _ _ h => h) rfl)
     obtain ⟨ec, ef⟩ := ecs a; clear hI hdep hK; generalize a.eval = ρ at e29 ec ef ⊢; go_simp
   · intro x D a w hI hdep hD0 K hK
     have e30 : a.eval (.tmp 30) = .pointer (some ⟨q, 0, none⟩) := hI.good 13 30 (dep_of hdep 13 rfl) rfl
     refine ok_value (wanted_none rfl) (v := .pointer (some ⟨q, 0, none⟩)) ?_ (hK x _ _ (hI.world.up rfl rfl rfl) (fun _ _ _ h => h) rfl)
     obtain ⟨ec, ef⟩ := ecs a; clear hI hdep hK; generalize a.eval = ρ at e30 ec ef ⊢; go_simp
   · intro x D a w hI hdep hD0 K hK
     have e31 : a.eval (.tmp 31) = .pointer (some ⟨q, 0, none⟩) := hI.good 14 31 (dep_of hdep 14 rfl) rfl
     have e28 : a.eval (.tmp 28) = x.2.val := hI.good 11 28 (dep_of hdep 11 rfl) rfl
     have hc := dep_of hdep 11 rfl
     have z0 : w.cell? ⟨q, 0, none⟩ = some (.slice s.a s.n s.c) := hI.world.funcs hD0
     have z1 := hI.world.ice
     refine ok_store (wanted_none rfl) (w' := w.setCell ⟨q, 0, none⟩ x.2.val) ?_ (hK x undef _ (hI.world.stored hc hD0) (fun _ _ _ h => h) trivial)
     unfold Sl3.val at e28 ⊢
     obtain ⟨ec, ef⟩ := ecs a; clear hI hdep hK; generalize a.eval = ρ at e31 e28 ec ef ⊢; go_simp
 · intro x D a w8 hI hD
   have hfr := hI.frame [(17, .pointer (some ⟨q, 0, none⟩)), (18, .pointer (some ⟨q, 0, none⟩)), (19, .pointer (some ⟨q, 0, none⟩)), (20, .pointer (some ⟨q, 0, none⟩)), (21, .pointer (some ⟨q, 0, none⟩)), (22, .slice s.a s.n s.c), (23, .pointer (some ⟨q, 0, none⟩)), (24, .pointer (some ⟨q, 0, none⟩)), (25, .pointer (some ⟨q, 1, none⟩)), (26, .agg #[.string v.name, .bool v.inner, .slice v.outer.a v.outer.n v.outer.c, .slice v.params.a v.params.n v.params.c, .slice v.results.a v.results.n v.results.c, .slice v.locals.a v.locals.n v.locals.c, .slice v.code.a v.code.n v.code.c, .slice v.lines.a v.lines.n v.lines.c, .slice v.nodes.a v.nodes.n v.nodes.c, .slice v.at_.a v.at_.n v.at_.c, .slice v.live.a v.live.n v.live.c]), (27, .slice (some ⟨x.1, 0, none⟩) 1 1), (28, x.2.val), (29, .pointer (some ⟨q, 0, none⟩)), (30, .pointer (some ⟨q, 0, none⟩)), (31, .pointer (some ⟨q, 0, none⟩))] (all_cons (hI.good 0 17 (hD 0 (by decide)) rfl) (all_cons (hI.good 1 18 (hD 1 (by decide)) rfl) (all_cons (hI.good 2 19 (hD 2 (by decide)) rfl) (all_cons (hI.good 3 20 (hD 3 (by decide)) rfl) (all_cons (hI.good 4 21 (hD 4 (by decide)) rfl) (all_cons (hI.good 5 22 (hD 5 (by decide)) rfl) (all_cons (hI.good 6 23 (hD 6 (by decide)) rfl) (all_cons (hI.good 7 24 (hD 7 (by decide)) rfl) (all_cons (hI.good 8 25 (hD 8 (by decide)) rfl) (all_cons (hI.good 9 26 (hD 9 (by decide)) rfl) (all_cons (hI.good 10 27 (hD 10 (by decide)) rfl) (all_cons (hI.good 11 28 (hD 11 (by decide)) rfl) (all_cons (hI.good 12 29 (hD 12 (by decide)) rfl) (all_cons (hI.good 13 30 (hD 13 (by decide)) rfl) (all_cons (hI.good 14 31 (hD 14 (by decide)) rfl) all_nil))))))))))))))) rfl
   have hW := hI.world
   clear hI
   subst hfr
   simp only [List.foldl_cons, List.foldl_nil, List.setIfInBounds_toArray, List.set_cons_succ, List.set_cons_zero]
   have hb := hW.box
   rw [hD 15 (by decide), if_pos rfl] at hb
   have h12 : ∃ y, w8.cell? ⟨q, 12, none⟩ = some y := ⟨_, cell_of_row w8 q 12 _ _ _ hb⟩
   obtain ⟨y, hy⟩ := h12
   have hf : w8.frozen? ⟨q, 12, none⟩ = false := by simp [World.frozen?, hb]
   have HF := Lib.hid (show RdAt q l Wb ⟨t.done ++ [t.cur], t.cur, false⟩ (w8.setCell ⟨q, 12, none⟩ (.bool false)) ∧ KeepsOthers W (w8.setCell ⟨q, 12, none⟩ (.bool false)) ∧ (w8.setCell ⟨q, 12, none⟩ (.bool false)).heap[l]? = W.heap[l]? from by
     have h := H.out
     have hg := Lib.grownBy_setB (World.grownBy.refl w8 (some q)) 12 (.bool false)
     have ho := Off.grown (p := q) hg
     refine ⟨?_, hW.ko.trans (KeepsOthers.setCell _ _ _), (hg.block l (Nat.lt_of_lt_of_le hW.l0.1 hW.off.size) (fun e => by injection e with e; exact hW.l0.2 e.symm)).trans hW.kl⟩
     refine ⟨_, x.2, us ++ [v], v, mid_set (i := 12) hb (.bool false), OffC.refl _ _ _, hW.off.trans (Off.grown hg), (hW.off.trans (Off.grown hg)).size, by rw [List.length_append, List.length_append, h.len]; rfl, ?_, fun k hk => ?_, (fun e => by cases e), h.ql⟩
     · rw [List.length_append]
       exact row_off (hW.o1 (hD 11 (by decide))) ho hW.q0 hW.q0
     · rw [List.length_append, List.length_singleton] at hk
       by_cases hkl : k < us.length
       · rw [getD_init us v _ hkl, getD_init t.done t.cur _ (by rw [← h.len]; exact hkl)]
         exact (hW.olds k hkl).off ho hW.q0 hW.q0
       · obtain rfl : k = us.length := by omega
         rw [getD_last, h.len, getD_last]
         exact hW.cur.off ho hW.q0 hW.q0)
   clear hW hD hC hb
   go_wp2
   go_ret
   exact ⟨rfl, HF.out⟩
end Go.Proofs.YtfopelegobhegaaGreatDoor
