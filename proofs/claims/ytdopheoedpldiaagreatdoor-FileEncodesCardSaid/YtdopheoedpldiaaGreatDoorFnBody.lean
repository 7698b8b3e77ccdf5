/-
 The instructions of a function, taken one by one. Conditions: a cursor that a call made; no more than 2000 of them; none is there yet.
-/
import Derived.Test.YtdopheoedpldiaaGreatDoorFnPuk
set_option maxRecDepth 100000
namespace Go.Proofs.YtdopheoedpldiaaGreatDoor
open Go.RowKit
theorem info_code : (Tryz.prog.info? 68).map (fun i => (i.zero, i.size, i.bytes)) = some (some (.agg #[.int .i64 0, .int .i64 0]), 2, 16) := by kernel_rfl
structure BdC (g p q : Nat) (cs : Array Value) (W0 : World) (s s' : List Nat × Nat) (y1 y2 : Int) (u : Value) (C : Ru.Runs) (x : Nat × Value) (D : Nat → Bool) (W : World) : Prop where
 off : Off g p W0 W
 pt : PtAt q p W
 box : W.heap[p]? = some (.cells (if D 16 = true then cs.setIfInBounds 7 x.2 else cs) 157 (0, 0))
 cur : Cur W g (if D 10 = true then s' else s)
 new : D 11 = true → D 12 = false → W.heap[x.1]? = some (.cells #[.int .i64 y1, .int .i64 y2] 68 (0, 0))
 o0 : D 12 = false → W.ownsRow W0.heap.size 68 2 u C.length (ps C)
 o1 : D 12 = true → W.ownsRow W0.heap.size 68 2 x.2 (C.length + 1) (ps (C ++ [(y1, y2)]))
section
variable {g p q : Nat} {cs : Array Value} {W0 W : World} {s s' : List Nat × Nat} {y1 y2 : Int} {u : Value} {C : Ru.Runs} {x : Nat × Value} {D : Nat → Bool}
theorem BdC.up (h : BdC g p q cs W0 s s' y1 y2 u C x D W) {i : Nat} (h1 : (10 == i) = false) (h2 : (11 == i) = false) (h3 : (12 == i) = false) (h4 : (16 == i) = false) : BdC g p q cs W0 s s' y1 y2 u C x (add D i) W :=
 ⟨h.off, h.pt, by rw [up_other h4]; exact h.box, by rw [up_other h1]; exact h.cur, by rw [up_other h2, up_other h3]; exact h.new, by rw [up_other h3]; exact h.o0, by rw [up_other h3]; exact h.o1⟩
theorem BdC.ptr (h : BdC g p q cs W0 s s' y1 y2 u C x D W) : W.cell? ⟨q, 0, none⟩ = some (.pointer (some ⟨p, 0, none⟩)) := h.pt.cell
theorem BdC.cell (h : BdC g p q cs W0 s s' y1 y2 u C x D W) {j : Nat} (hj : 7 ≠ j) : W.cell? ⟨p, j, none⟩ = cs[j]? := by
 refine (cell_of_row W p j _ _ _ h.box).trans ?_
 split
 · rw [Array.getElem?_setIfInBounds_ne hj]
 · rfl
theorem BdC.old (h : BdC g p q cs W0 s s' y1 y2 u C x D W) (hs : D 16 = false) (j : Nat) : W.cell? ⟨p, j, none⟩ = cs[j]? := by
 refine (cell_of_row W p j _ _ _ h.box).trans ?_
 rw [hs, if_neg (by decide)]
theorem BdC.frozen (h : BdC g p q cs W0 s s' y1 y2 u C x D W) (j : Nat) : W.frozen? ⟨p, j, none⟩ = false := by
 have := h.box
 simp [World.frozen?, this]
theorem BdC.cur0 (h : BdC g p q cs W0 s s' y1 y2 u C x D W) (hc : D 10 = false) : Cur W g s := by
 have := h.cur
 rwa [hc, if_neg (by decide)] at this
theorem BdC.called (h : BdC g p q cs W0 s s' y1 y2 u C x D W) (hn : D 11 = false) (ha : D 12 = false) (hgz : g < W0.heap.size) (hgp : g ≠ p) (hqg : q ≠ g) {W' : World} (hc2 : Cur W' g s') (hg : W.grownBy W' (some g)) : BdC g p q cs W0 s s' y1 y2 u C x (add D 10) W' := by
 have ho := Off.grown (p := p) hg
 refine ⟨h.off.trans ho, (hg.block q h.pt.lt (fun e => by injection e with e; exact hqg e)).trans h.pt, ?_, ?_, ?_, ?_, ?_⟩
 · have hx := h.box
   rw [up_other rfl]
   exact (hg.block p (heap_lt hx) (fun e => by injection e with e; exact hgp e.symm)).trans hx
 · rw [up_self, if_pos rfl]
   exact hc2
 · rw [up_other rfl, hn]
   intro e
   cases e
 · rw [up_other rfl]
   exact fun e => own_grownG (h.o0 e) hg hgz
 · rw [up_other rfl, ha]
   intro e
   cases e
theorem BdC.newed (h : BdC g p q cs W0 s s' y1 y2 u C x D W) (ha : D 12 = false) : BdC g p q cs W0 s s' y1 y2 u C (W.heap.size, x.2) (add D 11) (W.alloc (.cells #[.int .i64 y1, .int .i64 y2] 68)) := by
 have hb := (Below.refl W.heap.size W).alloc (Nat.le_refl _) (.cells #[.int .i64 y1, .int .i64 y2] 68)
 refine ⟨h.off.trans (Off.below hb), (hb.block q h.pt.lt).trans h.pt, ?_, ?_, ?_, ?_, ?_⟩
 · rw [up_other rfl]
   exact (hb.block p (heap_lt h.box)).trans h.box
 · rw [up_other rfl]
   exact cur_grown h.cur hb
 · exact fun _ _ => heap_alloc_new W _
 · rw [up_other rfl]
   exact fun e => ownsRow_below (h.o0 e) hb
 · rw [up_other rfl, ha]
   intro e
   cases e
theorem BdC.appends (h : BdC g p q cs W0 s s' y1 y2 u C x D W) (hn : D 11 = true) (ha : D 12 = false) (hs : D 16 = false) (hgz : g < W0.heap.size) (hpz : p < W0.heap.size) (hqz : q < W0.heap.size) (hC : C.length ≤ 2000) :
   ∃ r W', (Builtin.append_ #[38, 38] 38 #[u, .slice (some ⟨x.1, 0, none⟩) 1 1]).run Tryz.prog W = .ok r W' ∧ BdC g p q cs W0 s s' y1 y2 u C (x.1, r) (add D 12) W' := by
 obtain ⟨i0, hi, hz0, hz1, hz2⟩ := info_parts info_code
 have hO := h.o0 ha
 have hx := h.new hn ha
 obtain ⟨r, W', hr, ho, hg, _⟩ := run_append_own (P := Tryz.prog) W W0.heap.size 38 38 68 i0 (.agg #[.int .i64 0, .int .i64 0]) 2 16 Tryz.underlying38 hi hz0 hz1 hz2 rfl (by decide) u C.length (ps C) hO ⟨x.1, 0, none⟩ 1 1 (ps [(y1, y2)]) rfl
   (World.news_of_block hx) (ps_one _) (by unfold maxLen; omega) (by omega) h.off.size
 have hk : ∀ b, u.ownBlock = some b → W0.heap.size ≤ b := fun b e => (hO.lt b e).1
 have hof : Off g p W0 W' := ⟨hg.os.trans h.off.os, hg.tape.trans h.off.tape, hg.output.trans h.off.output, Nat.le_trans h.off.size hg.size, fun j hj h1 h2 => (hg.block j (Nat.lt_of_lt_of_le hj h.off.size) (fun e => by have := hk j e.symm; omega)).trans (h.off.block j hj h1 h2)⟩
 refine ⟨r, W', hr, hof, (hg.block q h.pt.lt (fun e => by have := hk q e.symm; omega)).trans h.pt, ?_, ?_, ?_, ?_, ?_⟩
 · have hx := h.box
   rw [hs, if_neg (by decide)] at hx
   rw [up_other rfl, hs, if_neg (by decide)]
   exact (hg.block p (heap_lt hx) (fun e => by have := hk p e.symm; omega)).trans hx
 · rw [up_other rfl]
   exact h.cur.kept hg (fun b e => by have := hk b e; omega)
 · rw [up_self]
   intro _ e
   cases e
 · rw [up_self]
   intro e
   cases e
 · rw [ps_append]
   exact fun _ => ho
theorem BdC.stored (h : BdC g p q cs W0 s s' y1 y2 u C x D W) (ha : D 12 = true) (hs : D 16 = false) (hpz : p < W0.heap.size) (hqp : q ≠ p) (hgp : g < p) : BdC g p q cs W0 s s' y1 y2 u C x (add D 16) (W.setCell ⟨p, 7, none⟩ x.2) := by
 have ho := Off.set g p 7 x.2 W
 refine ⟨h.off.trans ho, (Below.heap_setCell W ⟨p, 7, none⟩ x.2 q hqp).trans h.pt, ?_, ?_, ?_, ?_, ?_⟩
 · rw [up_self, if_pos rfl]
   have hx := h.box
   rw [hs, if_neg (by decide)] at hx
   exact heap_set hx x.2
 · rw [up_other rfl]
   exact h.cur.kept (row := some p) (Lib.grownBy_setB (World.grownBy.refl _ _) _ _) (fun b hb => by injection hb with hb; omega)
 · rw [up_other rfl, up_other rfl, ha]
   intro _ e
   cases e
 · rw [up_other rfl, ha]
   intro e
   cases e
 · intro _
   have hO := h.o1 ha
   exact row_kept hO fun b e => Below.heap_setCell W ⟨p, 7, none⟩ x.2 b (by have := (hO.lt b e).1; show b ≠ p; omega)
end
def BdRel (g p q : Nat) (v : FnV) (t : Fn.St) (W0 : World) (i : Value) (wr : World) : Prop :=
 ∃ k : Nat, k ≤ t.many ∧ i = .int .i64 (k : Int) ∧ ∃ u : Sl3, Off g p W0 wr ∧ PtAt q p wr ∧ wr.heap[p]? = some (.cells (tkCells g { v with code := u } t.marks t.many) 157 (0, 0)) ∧ Cur wr g (In.insS k t.s) ∧ wr.ownsRow W0.heap.size 68 2 u.val k (ps (In.insV t.s k)) ∧ (k = 0 → u = v.code)
def bodyG (g p : Nat) (u : Sl3) (y1 y2 : Int) (x : Nat × Value) : Nat → Value → Prop
 | 0, v => v = .pointer (some ⟨p, 0, none⟩)
 | 1, v => v = .pointer (some ⟨p, 0, none⟩)
 | 2, v => v = .pointer (some ⟨p, 0, none⟩)
 | 3, v => v = .pointer (some ⟨p, 1, none⟩)
 | 4, v => v = .pointer (some ⟨p, 7, none⟩)
 | 5, v => v = .slice u.a u.n u.c
 | 6, v => v = .pointer (some ⟨p, 0, none⟩)
 | 7, v => v = .pointer (some ⟨p, 0, none⟩)
 | 8, v => v = .pointer (some ⟨p, 0, none⟩)
 | 9, v => v = .pointer (some ⟨g, 0, none⟩)
 | 10, v => v = .agg #[.int .i64 y1, .int .i64 y2]
 | 11, v => v = .slice (some ⟨x.1, 0, none⟩) 1 1
 | 12, v => v = x.2
 | 13, v => v = .pointer (some ⟨p, 0, none⟩)
 | 14, v => v = .pointer (some ⟨p, 1, none⟩)
 | 15, v => v = .pointer (some ⟨p, 7, none⟩)
 | _, _ => True
theorem body_new {g p : Nat} {u : Sl3} {y1 y2 : Int} {x : Nat × Value} {D : Nat → Bool} {z : Nat} (h11 : D 11 = false) : ∀ j v, D j = true → bodyG g p u y1 y2 x j v → bodyG g p u y1 y2 (z, x.2) j v
 | 0, _, _, h => h
 | 1, _, _, h => h
 | 2, _, _, h => h
 | 3, _, _, h => h
 | 4, _, _, h => h
 | 5, _, _, h => h
 | 6, _, _, h => h
 | 7, _, _, h => h
 | 8, _, _, h => h
 | 9, _, _, h => h
 | 10, _, _, h => h
 | 11, _, hj, _ => by rw [h11] at hj; cases hj
 | 12, _, _, h => h
 | 13, _, _, h => h
 | 14, _, _, h => h
 | 15, _, _, h => h
 | 16, _, _, h => h
 | _ + 17, _, _, h => h
theorem body_app {g p : Nat} {u : Sl3} {y1 y2 : Int} {x : Nat × Value} {D : Nat → Bool} {z : Value} (h12 : D 12 = false) : ∀ j v, D j = true → bodyG g p u y1 y2 x j v → bodyG g p u y1 y2 (x.1, z) j v
 | 0, _, _, h => h
 | 1, _, _, h => h
 | 2, _, _, h => h
 | 3, _, _, h => h
 | 4, _, _, h => h
 | 5, _, _, h => h
 | 6, _, _, h => h
 | 7, _, _, h => h
 | 8, _, _, h => h
 | 9, _, _, h => h
 | 10, _, _, h => h
 | 11, _, _, h => h
 | 12, _, hj, _ => by rw [h12] at hj; cases hj
 | 13, _, _, h => h
 | 14, _, _, h => h
 | 15, _, _, h => h
 | 16, _, _, h => h
 | _ + 17, _, _, h => h
set_option maxHeartbeats 8000000 in
theorem code_part (g p q : Nat) (v : FnV) (t : Fn.St) (W : World) (h : TkAt g p v t W) (hq : PtAt q p W) (hqg : q ≠ g) (hqp : q ≠ p) (hm : t.many ≤ 2000) (h0 : t.f.code = []) :
   Calls Tryz.prog 171 #[.pointer (some ⟨q, 0, none⟩)] W (PartP g p (Fn.pCode t) W) := by
 have hpg := h.gp
 have hgp : g ≠ p := by omega
 have hgz : g < W.heap.size := by have := h.lt; omega
 have hpz := h.lt
 have hqz := hq.lt
 have hv0 := h.code0 h0
 have HH := Lib.hid h
 have H0 := Lib.hid h0
 have HV0 := Lib.hid hv0
 have p0 := hq.cell
 have p13 : W.cell? ⟨p, 13, none⟩ = some (.int .i64 (t.many : Int)) := h.cell 13
 have HQ := Lib.hid hq
 clear h hq hv0 h0
 go_enter Tryz.func171, Tryz.ntmps171
 go_wp2
 go_loopw [5] (fun i wr => BdRel g p q v t W i wr) (fun i _ => t.many - (intOf i).toNat)
 case atStart => exact ⟨0, Nat.zero_le _, rfl, v.code, Off.refl _ _ _, HQ.out, HH.out.box, HH.out.cur, by rw [HV0.out]; exact World.ownsRow_nil _ _ _ _, fun _ => rfl⟩
 case round =>
   obtain ⟨k, hk, rfl, u, hof, hpt, hbx, hcu, hown, hu0⟩ := hrel
   by_cases hlt : k < t.many
   · have hlti : (k : Int) < (t.many : Int) := by omega
     have HS : Hid (In.insS (k + 1) t.s = (In.take (In.insS k t.s)).2) := Lib.hid rfl
     have HV : Hid (In.insV t.s (k + 1) = In.insV t.s k ++ [(In.take (In.insS k t.s)).1]) := Lib.hid rfl
     have hlen := In.insV_len t.s k
     have HK := Lib.hid (fun W' (hW : Cur W' g (In.insS k t.s)) => intake_cur g _ W' hW)
     unfold TakeI at HK
     generalize (In.take (In.insS k t.s)).2 = s' at *
     generalize hy : (In.take (In.insS k t.s)).1 = y at *
     obtain ⟨y1, y2⟩ := y
     generalize In.insV t.s k = C at *
     generalize In.insS k t.s = s at *
     rw [← hlen] at hown
     have hC2k : C.length ≤ 2000 := by omega
     have hC : BdC g p q (tkCells g { v with code := u } t.marks t.many) W s s' y1 y2 u.val C (0, undef) (fun _ => false) wr.drew :=
       ⟨hof.trans (Off.below (Below.refl _ _).drew), hpt, hbx, cur_grown hcu (Below.refl _ _).drew, (fun e => by cases e), fun _ => ownsRow_below hown (Below.refl _ _).drew, (fun e => by cases e)⟩
     have HN := Lib.hid hlen
     clear hof hpt hbx hcu hown hu0 hy hlen
     go_wp2
     refine region_k ((0, undef) : Nat × Value) 24 (fun x D W' => BdC g p q (tkCells g { v with code := u } t.marks t.many) W s s' y1 y2 u.val C x D W') (bodyG g p u y1 y2) (by kernel_rfl) (by kernel_rfl) (by kernel_rfl) rfl rfl hC ?_ ?_
     · refine ⟨?_, ?_, ?_, ?_, ?_, ?_, ?_, ?_, ?_, ?_, ?_, ?_, ?_, ?_, ?_, ?_, ?_, trivial⟩
       · intro x D a w hI hdep hD0 K hK
         have e0 : a.eval (.tmp 0) = .pointer (some ⟨q, 0, none⟩) := hI.read 0 rfl
         have z0 := hI.world.ptr
         refine ok_value (wanted_none rfl) (v := .pointer (some ⟨p, 0, none⟩)) ?_ (hK x _ _ (hI.world.up rfl rfl rfl rfl) (fun _ _ _ h => h) rfl)
         obtain ⟨ec, ef⟩ := ecs a; clear hI hdep hK; generalize a.eval = ρ at e0 ec ef ⊢; go_simp
       · intro x D a w hI hdep hD0 K hK
         have e0 : a.eval (.tmp 0) = .pointer (some ⟨q, 0, none⟩) := hI.read 0 rfl
         have z0 := hI.world.ptr
         refine ok_value (wanted_none rfl) (v := .pointer (some ⟨p, 0, none⟩)) ?_ (hK x _ _ (hI.world.up rfl rfl rfl rfl) (fun _ _ _ h => h) rfl)
         obtain ⟨ec, ef⟩ := ecs a; clear hI hdep hK; generalize a.eval = ρ at e0 ec ef ⊢; go_simp
       · intro x D a w hI hdep hD0 K hK
         have e8 : a.eval (.tmp 8) = .pointer (some ⟨p, 0, none⟩) := hI.good 1 8 (dep_of hdep 1 rfl) rfl
         refine ok_value (wanted_none rfl) (v := .pointer (some ⟨p, 0, none⟩)) ?_ (hK x _ _ (hI.world.up rfl rfl rfl rfl) (fun _ _ _ h => h) rfl)
         obtain ⟨ec, ef⟩ := ecs a; clear hI hdep hK; generalize a.eval = ρ at e8 ec ef ⊢; go_simp
       · intro x D a w hI hdep hD0 K hK
         have e9 : a.eval (.tmp 9) = .pointer (some ⟨p, 0, none⟩) := hI.good 2 9 (dep_of hdep 2 rfl) rfl
         refine ok_value (wanted_none rfl) (v := .pointer (some ⟨p, 1, none⟩)) ?_ (hK x _ _ (hI.world.up rfl rfl rfl rfl) (fun _ _ _ h => h) rfl)
         obtain ⟨ec, ef⟩ := ecs a; clear hI hdep hK; generalize a.eval = ρ at e9 ec ef ⊢; go_simp
       · intro x D a w hI hdep hD0 K hK
         have e10 : a.eval (.tmp 10) = .pointer (some ⟨p, 1, none⟩) := hI.good 3 10 (dep_of hdep 3 rfl) rfl
         refine ok_value (wanted_none rfl) (v := .pointer (some ⟨p, 7, none⟩)) ?_ (hK x _ _ (hI.world.up rfl rfl rfl rfl) (fun _ _ _ h => h) rfl)
         obtain ⟨ec, ef⟩ := ecs a; clear hI hdep hK; generalize a.eval = ρ at e10 ec ef ⊢; go_simp
       · intro x D a w hI hdep hD0 K hK
         have e11 : a.eval (.tmp 11) = .pointer (some ⟨p, 7, none⟩) := hI.good 4 11 (dep_of hdep 4 rfl) rfl
         have z0 : w.cell? ⟨p, 7, none⟩ = some (.slice u.a u.n u.c) := hI.world.old (hI.not_up (hI.not_up hD0 12 rfl) 16 rfl) 7
         refine ok_value (wanted_none rfl) (v := .slice u.a u.n u.c) ?_ (hK x _ _ (hI.world.up rfl rfl rfl rfl) (fun _ _ _ h => h) rfl)
         obtain ⟨ec, ef⟩ := ecs a; clear hI hdep hK; generalize a.eval = ρ at e11 ec ef ⊢; go_simp
       · intro x D a w hI hdep hD0 K hK
         have e0 : a.eval (.tmp 0) = .pointer (some ⟨q, 0, none⟩) := hI.read 0 rfl
         have z0 := hI.world.ptr
         refine ok_value (wanted_none rfl) (v := .pointer (some ⟨p, 0, none⟩)) ?_ (hK x _ _ (hI.world.up rfl rfl rfl rfl) (fun _ _ _ h => h) rfl)
         obtain ⟨ec, ef⟩ := ecs a; clear hI hdep hK; generalize a.eval = ρ at e0 ec ef ⊢; go_simp
       · intro x D a w hI hdep hD0 K hK
         have e13 : a.eval (.tmp 13) = .pointer (some ⟨p, 0, none⟩) := hI.good 6 13 (dep_of hdep 6 rfl) rfl
         refine ok_value (wanted_none rfl) (v := .pointer (some ⟨p, 0, none⟩)) ?_ (hK x _ _ (hI.world.up rfl rfl rfl rfl) (fun _ _ _ h => h) rfl)
         obtain ⟨ec, ef⟩ := ecs a; clear hI hdep hK; generalize a.eval = ρ at e13 ec ef ⊢; go_simp
       · intro x D a w hI hdep hD0 K hK
         have e14 : a.eval (.tmp 14) = .pointer (some ⟨p, 0, none⟩) := hI.good 7 14 (dep_of hdep 7 rfl) rfl
         refine ok_value (wanted_none rfl) (v := .pointer (some ⟨p, 0, none⟩)) ?_ (hK x _ _ (hI.world.up rfl rfl rfl rfl) (fun _ _ _ h => h) rfl)
         obtain ⟨ec, ef⟩ := ecs a; clear hI hdep hK; generalize a.eval = ρ at e14 ec ef ⊢; go_simp
       · intro x D a w hI hdep hD0 K hK
         have e15 : a.eval (.tmp 15) = .pointer (some ⟨p, 0, none⟩) := hI.good 8 15 (dep_of hdep 8 rfl) rfl
         have z0 : w.cell? ⟨p, 0, none⟩ = some (.pointer (some ⟨g, 0, none⟩)) := hI.world.cell (j := 0) (by decide)
         refine ok_value (wanted_none rfl) (v := .pointer (some ⟨g, 0, none⟩)) ?_ (hK x _ _ (hI.world.up rfl rfl rfl rfl) (fun _ _ _ h => h) rfl)
         obtain ⟨ec, ef⟩ := ecs a; clear hI hdep hK; generalize a.eval = ρ at e15 ec ef ⊢; go_simp
       · intro x D a w hI hdep hD0 K hK
         have e16 : a.eval (.tmp 16) = .pointer (some ⟨g, 0, none⟩) := hI.good 9 16 (dep_of hdep 9 rfl) rfl
         refine ok_call (wanted_none rfl) (f := 172) (args := #[.pointer (some ⟨g, 0, none⟩)]) ?_ (HK.out w (hI.world.cur0 hD0)) ?_
         · obtain ⟨ec, ef⟩ := ecs a; clear hI hdep hK; generalize a.eval = ρ at e16 ec ef ⊢; go_simp
         · rintro e w2 ⟨rfl, hc2, hg2⟩
           exact ⟨_, rfl, hK x _ _ (hI.world.called (hI.not_up hD0 11 rfl) (hI.not_up (hI.not_up hD0 11 rfl) 12 rfl) hgz hgp hqg hc2 hg2) (fun _ _ _ h => h) rfl⟩
       · intro x D a w hI hdep hD0 K hK
         have e17 : a.eval (.tmp 17) = .agg #[.int .i64 y1, .int .i64 y2] := hI.good 10 17 (dep_of hdep 10 rfl) rfl
         refine ok_new (wanted_none rfl) (v := .slice (some ⟨w.heap.size, 0, none⟩) 1 1) (w' := w.alloc (.cells #[.int .i64 y1, .int .i64 y2] 68)) (by have ec : ∀ c, a.eval (.const c) = c := fun _ => rfl; generalize a.eval = ρ at e17 ec ⊢; go_simp) ?_
         exact hK (w.heap.size, x.2) _ _ (hI.world.newed (hI.not_up hD0 12 rfl)) (body_new hD0) rfl
       · intro x D a w hI hdep hD0 K hK
         have e12 : a.eval (.tmp 12) = .slice u.a u.n u.c := hI.good 5 12 (dep_of hdep 5 rfl) rfl
         have e18 : a.eval (.tmp 18) = .slice (some ⟨x.1, 0, none⟩) 1 1 := hI.good 11 18 (dep_of hdep 11 rfl) rfl
         obtain ⟨r, W', hr, hC⟩ := hI.world.appends (dep_of hdep 11 rfl) hD0 (hI.not_up hD0 16 rfl) hgz hpz hqz hC2k
         exact ok_append (wanted_none rfl) (.tmp 12) (.tmp 18) 38 38 rfl (by rw [e12, e18]; exact hr) (hK (x.1, r) _ _ hC (body_app hD0) rfl)
       · intro x D a w hI hdep hD0 K hK
         have e7 : a.eval (.tmp 7) = .pointer (some ⟨p, 0, none⟩) := hI.good 0 7 (dep_of hdep 0 rfl) rfl
         refine ok_value (wanted_none rfl) (v := .pointer (some ⟨p, 0, none⟩)) ?_ (hK x _ _ (hI.world.up rfl rfl rfl rfl) (fun _ _ _ h => h) rfl)
         obtain ⟨ec, ef⟩ := ecs a; clear hI hdep hK; generalize a.eval = ρ at e7 ec ef ⊢; go_simp
       · intro x D a w hI hdep hD0 K hK
         have e20 : a.eval (.tmp 20) = .pointer (some ⟨p, 0, none⟩) := hI.good 13 20 (dep_of hdep 13 rfl) rfl
         refine ok_value (wanted_none rfl) (v := .pointer (some ⟨p, 1, none⟩)) ?_ (hK x _ _ (hI.world.up rfl rfl rfl rfl) (fun _ _ _ h => h) rfl)
         obtain ⟨ec, ef⟩ := ecs a; clear hI hdep hK; generalize a.eval = ρ at e20 ec ef ⊢; go_simp
       · intro x D a w hI hdep hD0 K hK
         have e21 : a.eval (.tmp 21) = .pointer (some ⟨p, 1, none⟩) := hI.good 14 21 (dep_of hdep 14 rfl) rfl
         refine ok_value (wanted_none rfl) (v := .pointer (some ⟨p, 7, none⟩)) ?_ (hK x _ _ (hI.world.up rfl rfl rfl rfl) (fun _ _ _ h => h) rfl)
         obtain ⟨ec, ef⟩ := ecs a; clear hI hdep hK; generalize a.eval = ρ at e21 ec ef ⊢; go_simp
       · intro x D a w hI hdep hD0 K hK
         have e22 : a.eval (.tmp 22) = .pointer (some ⟨p, 7, none⟩) := hI.good 15 22 (dep_of hdep 15 rfl) rfl
         have e19 : a.eval (.tmp 19) = x.2 := hI.good 12 19 (dep_of hdep 12 rfl) rfl
         have hc := dep_of hdep 12 rfl
         have z0 : w.cell? ⟨p, 7, none⟩ = some (.slice u.a u.n u.c) := hI.world.old hD0 7
         have z1 := hI.world.frozen 7
         refine ok_store (wanted_none rfl) (w' := w.setCell ⟨p, 7, none⟩ x.2) ?_ (hK x undef _ (hI.world.stored hc hD0 hpz hqp hpg) (fun _ _ _ h => h) trivial)
         obtain ⟨s0, hu⟩ := own_val (hI.world.o1 hc)
         unfold Sl3.val at hu
         rw [hu] at e19 ⊢
         clear hu
         obtain ⟨ec, ef⟩ := ecs a; clear hI hdep hK; generalize a.eval = ρ at e22 e19 ec ef ⊢; go_simp
     · intro x D a w2 hI hD
       have hfr := hI.frame [(7, .pointer (some ⟨p, 0, none⟩)), (8, .pointer (some ⟨p, 0, none⟩)), (9, .pointer (some ⟨p, 0, none⟩)), (10, .pointer (some ⟨p, 1, none⟩)), (11, .pointer (some ⟨p, 7, none⟩)), (12, .slice u.a u.n u.c), (13, .pointer (some ⟨p, 0, none⟩)), (14, .pointer (some ⟨p, 0, none⟩)), (15, .pointer (some ⟨p, 0, none⟩)), (16, .pointer (some ⟨g, 0, none⟩)), (17, .agg #[.int .i64 y1, .int .i64 y2]), (18, .slice (some ⟨x.1, 0, none⟩) 1 1), (19, x.2), (20, .pointer (some ⟨p, 0, none⟩)), (21, .pointer (some ⟨p, 1, none⟩)), (22, .pointer (some ⟨p, 7, none⟩))] (all_cons (hI.good 0 7 (hD 0 (by decide)) rfl) (all_cons (hI.good 1 8 (hD 1 (by decide)) rfl) (all_cons (hI.good 2 9 (hD 2 (by decide)) rfl) (all_cons (hI.good 3 10 (hD 3 (by decide)) rfl) (all_cons (hI.good 4 11 (hD 4 (by decide)) rfl) (all_cons (hI.good 5 12 (hD 5 (by decide)) rfl) (all_cons (hI.good 6 13 (hD 6 (by decide)) rfl) (all_cons (hI.good 7 14 (hD 7 (by decide)) rfl) (all_cons (hI.good 8 15 (hD 8 (by decide)) rfl) (all_cons (hI.good 9 16 (hD 9 (by decide)) rfl) (all_cons (hI.good 10 17 (hD 10 (by decide)) rfl) (all_cons (hI.good 11 18 (hD 11 (by decide)) rfl) (all_cons (hI.good 12 19 (hD 12 (by decide)) rfl) (all_cons (hI.good 13 20 (hD 13 (by decide)) rfl) (all_cons (hI.good 14 21 (hD 14 (by decide)) rfl) (all_cons (hI.good 15 22 (hD 15 (by decide)) rfl) all_nil)))))))))))))))) rfl
       have hW := hI.world
       clear hI
       subst hfr
       simp only [List.foldl_cons, List.foldl_nil, List.setIfInBounds_toArray, List.set_cons_succ, List.set_cons_zero]
       have H1 := Lib.hid (And.intro hW.off (And.intro hW.pt (And.intro hW.box (And.intro hW.cur (hW.o1 (hD 12 (by decide)))))))
       rw [hD 16 (by decide), hD 10 (by decide), if_pos rfl, if_pos rfl] at H1
       obtain ⟨u2, hu2⟩ := own_val (hW.o1 (hD 12 (by decide)))
       rw [hu2] at H1
       rw [hu2]
       clear hW hu2 hD hC HK
       go_wp2
       go_roundw
       case rel => exact ⟨k + 1, hlt, by go_num, u2, H1.out.1, H1.out.2.1, H1.out.2.2.1.trans rfl, by rw [HS.out]; exact H1.out.2.2.2.1, by rw [HV.out, ← HN.out]; exact H1.out.2.2.2.2, fun e => by cases e⟩
       case measure => simp [intOf]; omega
   · obtain rfl : k = t.many := by omega
     have hlti : ¬ (t.many : Int) < (t.many : Int) := by omega
     have hO : wr.ownsRow (p + 1) 68 2 u.val (t.f.code ++ In.insV t.s t.many).length (ps (t.f.code ++ In.insV t.s t.many)) := by
       rw [H0.out, List.nil_append, In.insV_len]
       exact ownsRow_base hown hpz
     have hw0 := HH.out.own.off hof (by omega) (by omega)
     have hw1 : FnOwn wr (p + 1) { v with code := u } (Fn.pCode t).f := { hw0 with code := hO }
     have hc0 : (Fn.pCode t).f.code = [] → u = .nil := fun e => by
       have e2 : (t.f.code ++ In.insV t.s t.many).length = 0 := by rw [show t.f.code ++ In.insV t.s t.many = [] from e]; rfl
       rw [List.length_append, In.insV_len] at e2
       rw [hu0 (by omega), HV0.out]
     have HF := Lib.hid (show (∃ v', TkAt g p v' (Fn.pCode t) wr) ∧ Off g p W wr from ⟨⟨{ v with code := u }, hbx, hcu, hw1, hpg, hc0⟩, hof⟩)
     clear hof hpt hbx hcu hown hu0
     go_wp2
     go_end0
     exact ⟨rfl, HF.out⟩
end Go.Proofs.YtdopheoedpldiaaGreatDoor
