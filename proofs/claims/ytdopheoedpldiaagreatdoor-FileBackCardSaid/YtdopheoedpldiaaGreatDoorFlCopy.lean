/-
 A program in new memory. Conditions: the functions can be read; at most a million of each list.
-/
import Derived.Test.YtdopheoedpldiaaGreatDoorFlR
import Derived.Test.YtdopheoedpldiaaGreatDoorFnCopyW
set_option maxRecDepth 100000
namespace Go.Proofs.YtdopheoedpldiaaGreatDoor
open Go.RowKit
structure CqC (p B b5 : Nat) (W0 : World) (v : FnV) (f : Fn.F) (u : Value) (us : List FnV) (gs : List Fn.F) (x : FnV × Nat × Value) (D : Nat → Bool) (W : World) : Prop where
 off : Off p p W0 W
 box : W.heap[p]? = some (.cells #[if D 7 = true then x.2.2 else u] 24 (0, 0))
 fn : D 5 = false → FnAt W b5 v
 cp : D 3 = true → FnOwn W B x.1 f
 new : D 4 = true → D 5 = false → W.heap[x.2.1]? = some (.cells x.1.cells 43 (0, 0))
 o0 : D 5 = false → W.ownsRow B 43 11 u us.length (fcs us)
 o1 : D 5 = true → W.ownsRow B 43 11 x.2.2 (us.length + 1) (fcs (us ++ [x.1]))
 olds : ∀ j, j < us.length → FnOwn W B (us.getD j .zero) (gs.getD j .zero)
 le : B ≤ W.heap.size
section
variable {p B b5 : Nat} {W0 W : World} {v : FnV} {f : Fn.F} {u : Value} {us : List FnV} {gs : List Fn.F} {x : FnV × Nat × Value} {D : Nat → Bool}
theorem CqC.up (h : CqC p B b5 W0 v f u us gs x D W) {i : Nat} (h1 : (3 == i) = false) (h2 : (4 == i) = false) (h3 : (5 == i) = false) (h4 : (7 == i) = false) : CqC p B b5 W0 v f u us gs x (add D i) W :=
 ⟨h.off, by rw [up_other h4]; exact h.box, by rw [up_other h3]; exact h.fn, by rw [up_other h1]; exact h.cp, by rw [up_other h2, up_other h3]; exact h.new, by rw [up_other h3]; exact h.o0, by rw [up_other h3]; exact h.o1, h.olds, h.le⟩
theorem CqC.old (h : CqC p B b5 W0 v f u us gs x D W) (hs : D 7 = false) : W.cell? ⟨p, 0, none⟩ = some u := by
 refine (cell_of_row W p 0 _ _ _ h.box).trans ?_
 rw [hs, if_neg (by decide)]
 rfl
theorem CqC.frozen (h : CqC p B b5 W0 v f u us gs x D W) : W.frozen? ⟨p, 0, none⟩ = false := by
 have := h.box
 simp [World.frozen?, this]
theorem CqC.called (h : CqC p B b5 W0 v f u us gs x D W) (h4 : D 4 = false) (h5 : D 5 = false) {W' : World} {v' : FnV} (hv : FnOwn W' (W.heap.size + 2) v' f) (hb : Below W.heap.size W W') : CqC p B b5 W0 v f u us gs (v', x.2) (add D 3) W' := by
 refine ⟨h.off.trans (Off.below hb), ?_, ?_, fun _ => hv.base (by have := h.le; omega), ?_, ?_, ?_, fun j hj => (h.olds j hj).below hb, Nat.le_trans h.le hb.size⟩
 · rw [up_other rfl]
   exact (hb.block p (heap_lt h.box)).trans h.box
 · rw [up_other rfl]
   exact fun e => (h.fn e).on hb
 · rw [up_other rfl, h4]
   intro e
   cases e
 · rw [up_other rfl]
   exact fun e => ownsRow_below (h.o0 e) hb
 · rw [up_other rfl, h5]
   intro e
   cases e
theorem CqC.newed (h : CqC p B b5 W0 v f u us gs x D W) (h5 : D 5 = false) : CqC p B b5 W0 v f u us gs (x.1, W.heap.size, x.2.2) (add D 4) (W.alloc (.cells x.1.cells 43)) := by
 have hb := (Below.refl W.heap.size W).alloc (Nat.le_refl _) (.cells x.1.cells 43)
 refine ⟨h.off.trans (Off.below hb), ?_, ?_, ?_, fun _ _ => heap_alloc_new W _, ?_, ?_, fun j hj => (h.olds j hj).below hb, Nat.le_trans h.le hb.size⟩
 · rw [up_other rfl]
   exact (hb.block p (heap_lt h.box)).trans h.box
 · rw [up_other rfl]
   exact fun e => (h.fn e).on hb
 · rw [up_other rfl]
   exact fun e => (h.cp e).below hb
 · rw [up_other rfl]
   exact fun e => ownsRow_below (h.o0 e) hb
 · rw [up_other rfl, h5]
   intro e
   cases e
theorem CqC.appends (h : CqC p B b5 W0 v f u us gs x D W) (hn : D 4 = true) (ha : D 5 = false) (hs : D 7 = false) (hpB : p < B) (hB : W0.heap.size = B) (hu : us.length ≤ 60) :
   ∃ r W', (Builtin.append_ #[22, 22] 22 #[u, .slice (some ⟨x.2.1, 0, none⟩) 1 1]).run Tryz.prog W = .ok r W' ∧ CqC p B b5 W0 v f u us gs (x.1, x.2.1, r) (add D 5) W' := by
 obtain ⟨i0, hi, hz0, hz1, hz2⟩ := info_parts info_func
 have hO := h.o0 ha
 have hx := h.new hn ha
 obtain ⟨r, W', hr, ho, hg, _⟩ := run_append_own (P := Tryz.prog) W B 22 22 43 i0 (.agg FnV.zero.cells) 11 240 Tryz.underlying22 hi hz0 hz1 hz2 rfl (by decide) u us.length (fcs us) hO ⟨x.2.1, 0, none⟩ 1 1 (fcs [x.1]) rfl
   (by rw [show fcs [x.1] = x.1.cells.toList from List.append_nil _]; exact World.news_of_block hx) (fcs_one _) (by unfold maxLen; omega) (by omega) h.le
 have hk : ∀ b, u.ownBlock = some b → B ≤ b := fun b e => (hO.lt b e).1
 have hof : Off p p W0 W' := ⟨hg.os.trans h.off.os, hg.tape.trans h.off.tape, hg.output.trans h.off.output, Nat.le_trans h.off.size hg.size, fun j hj h1 h2 => (hg.block j (Nat.lt_of_lt_of_le hj h.off.size) (fun e => by have := hk j e.symm; omega)).trans (h.off.block j hj h1 h2)⟩
 refine ⟨r, W', hr, hof, ?_, ?_, ?_, ?_, ?_, ?_, fun j hj => (h.olds j hj).kept hg (row_funcs hO), Nat.le_trans h.le hg.size⟩
 · have hx := h.box
   rw [hs, if_neg (by decide)] at hx
   rw [up_other rfl, hs, if_neg (by decide)]
   exact (hg.block p (heap_lt hx) (fun e => by have := hk p e.symm; omega)).trans hx
 · rw [up_self]
   intro e
   cases e
 · rw [up_other rfl]
   exact fun e => (h.cp e).kept hg (row_funcs hO)
 · rw [up_self]
   intro _ e
   cases e
 · rw [up_self]
   intro e
   cases e
 · rw [fcs_append]
   exact fun _ => ho
theorem CqC.stored (h : CqC p B b5 W0 v f u us gs x D W) (ha : D 5 = true) (hs : D 7 = false) : CqC p B b5 W0 v f u us gs x (add D 7) (W.setCell ⟨p, 0, none⟩ x.2.2) := by
 have ho := Off.set p p 0 x.2.2 W
 have hg := Lib.grownBy_setB (World.grownBy.refl W (some p)) 0 x.2.2
 have hr : ∀ b, some p = some b → ∃ C t m, W.heap[b]? = some (.cells C t m) ∧ Else t := fun b e => by injection e with e; subst e; exact ⟨_, _, _, h.box, else_program⟩
 refine ⟨h.off.trans ho, ?_, ?_, ?_, ?_, ?_, ?_, fun j hj => (h.olds j hj).kept hg hr, Nat.le_trans h.le ho.size⟩
 · rw [up_self, if_pos rfl]
   have hx := h.box
   rw [hs, if_neg (by decide)] at hx
   exact heap_set hx x.2.2
 · rw [up_other rfl, ha]
   intro e
   cases e
 · rw [up_other rfl]
   exact fun e => (h.cp e).kept hg hr
 · rw [up_other rfl, up_other rfl, ha]
   intro _ e
   cases e
 · rw [up_other rfl, ha]
   intro e
   cases e
 · rw [up_other rfl]
   exact fun _ => row_other (h.o1 ha) hg fun b e => by injection e with e; subst e; exact ⟨_, _, _, h.box, by decide⟩
end
def copyG (p : Nat) (u : Sl3) (v : FnV) (x : FnV × Nat × Value) : Nat → Value → Prop
 | 0, y => y = .pointer (some ⟨p, 0, none⟩)
 | 1, y => y = .slice u.a u.n u.c
 | 2, y => y = .agg #[.string v.name, .bool v.inner, .slice v.outer.a v.outer.n v.outer.c, .slice v.params.a v.params.n v.params.c, .slice v.results.a v.results.n v.results.c, .slice v.locals.a v.locals.n v.locals.c, .slice v.code.a v.code.n v.code.c, .slice v.lines.a v.lines.n v.lines.c, .slice v.nodes.a v.nodes.n v.nodes.c, .slice v.at_.a v.at_.n v.at_.c, .slice v.live.a v.live.n v.live.c]
 | 3, y => y = .agg x.1.cells
 | 4, y => y = .slice (some ⟨x.2.1, 0, none⟩) 1 1
 | 5, y => y = x.2.2
 | 6, y => y = .pointer (some ⟨p, 0, none⟩)
 | _, _ => True
theorem cp_call {p : Nat} {u : Sl3} {v : FnV} {x : FnV × Nat × Value} {D : Nat → Bool} {z : FnV} (h3 : D 3 = false) : ∀ j y, D j = true → copyG p u v x j y → copyG p u v (z, x.2) j y
 | 0, _, _, h => h
 | 1, _, _, h => h
 | 2, _, _, h => h
 | 3, _, hj, _ => by rw [h3] at hj; cases hj
 | 4, _, _, h => h
 | 5, _, _, h => h
 | 6, _, _, h => h
 | 7, _, _, h => h
 | _ + 8, _, _, h => h
theorem cp_new {p : Nat} {u : Sl3} {v : FnV} {x : FnV × Nat × Value} {D : Nat → Bool} {z : Nat} (h4 : D 4 = false) : ∀ j y, D j = true → copyG p u v x j y → copyG p u v (x.1, z, x.2.2) j y
 | 0, _, _, h => h
 | 1, _, _, h => h
 | 2, _, _, h => h
 | 3, _, _, h => h
 | 4, _, hj, _ => by rw [h4] at hj; cases hj
 | 5, _, _, h => h
 | 6, _, _, h => h
 | 7, _, _, h => h
 | _ + 8, _, _, h => h
theorem cp_app {p : Nat} {u : Sl3} {v : FnV} {x : FnV × Nat × Value} {D : Nat → Bool} {z : Value} (h5 : D 5 = false) : ∀ j y, D j = true → copyG p u v x j y → copyG p u v (x.1, x.2.1, z) j y
 | 0, _, _, h => h
 | 1, _, _, h => h
 | 2, _, _, h => h
 | 3, _, _, h => h
 | 4, _, _, h => h
 | 5, _, hj, _ => by rw [h5] at hj; cases hj
 | 6, _, _, h => h
 | 7, _, _, h => h
 | _ + 8, _, _, h => h
def CqRel (p : Nat) (W1 : World) (n : Nat) (fs : List Fn.F) (i : Value) (wr : World) : Prop :=
 ∃ (k : Nat) (u : Sl3) (us : List FnV), k ≤ n ∧ i = .int .i64 (k : Int) ∧ us.length = k ∧ Off p p W1 wr ∧ wr.heap[p]? = some (.cells #[u.val] 24 (0, 0)) ∧ wr.ownsRow W1.heap.size 43 11 u.val us.length (fcs us) ∧ ∀ j, j < us.length → FnOwn wr W1.heap.size (us.getD j .zero) (fs.getD j .zero)
theorem Off.low {p B : Nat} {w w' : World} (h : Off p p w w') (hp : B ≤ p) (hB : B ≤ w.heap.size) : Below B w w' := ⟨h.os, h.tape, h.output, h.size, fun j hj => h.block j (Nat.lt_of_lt_of_le hj hB) (by omega) (by omega)⟩
set_option maxHeartbeats 16000000 in
theorem flcopy_any (a : Option Addr) (n c : Nat) (vs : List FnV) (fs : List Fn.F) (w : World) (h : FnsAt w w.heap.size a n vs fs) (hn : n ≤ 50) (hl : ∀ k, k < n → ∀ s ∈ [(vs.getD k .zero).outer, (vs.getD k .zero).params, (vs.getD k .zero).results, (vs.getD k .zero).locals, (vs.getD k .zero).code, (vs.getD k .zero).lines, (vs.getD k .zero).nodes, (vs.getD k .zero).at_, (vs.getD k .zero).live], s.n ≤ 1048576) :
   Calls Tryz.prog 15 #[.agg #[.slice a n c]] w (ProgP fs w) := by
 have H := Lib.hid h
 have HL := Lib.hid hl
 have B1 := Lib.hid ((((Below.refl w.heap.size w).alloc (Nat.le_refl _) (.cells #[.slice a n c] 24)).alloc (by simp) (.cells #[.slice none 0 0] 24)).alloc (by simp; omega) (.cells #[.slice none 0 0] 24))
 have hbx := heap_alloc_new ((w.alloc (.cells #[.slice a n c] 24)).alloc (.cells #[.slice none 0 0] 24)) (.cells #[.slice none 0 0] 24)
 have hsz : (((w.alloc (.cells #[.slice a n c] 24)).alloc (.cells #[.slice none 0 0] 24)).alloc (.cells #[.slice none 0 0] 24)).heap.size = w.heap.size + 3 := by simp
 have hrs := (Below.heap_alloc ((w.alloc (.cells #[.slice a n c] 24)).alloc (.cells #[.slice none 0 0] 24)) (.cells #[.slice none 0 0] 24) (w.heap.size + 1) (by simp)).trans ((by simpa only [World.size_alloc] using heap_alloc_new (w.alloc (.cells #[.slice a n c] 24)) (.cells #[.slice none 0 0] 24)))
 simp only [World.size_alloc] at hbx
 have HBX := Lib.hid hbx
 have HSZ := Lib.hid hsz
 have HRS := Lib.hid hrs
 clear h hl hbx hsz hrs
 go_enter Tryz.func15, Tryz.ntmps15
 go_wp2
 generalize hw1 : ((w.alloc (.cells #[.slice a n c] 24)).alloc (.cells #[.slice none 0 0] 24)).alloc (.cells #[.slice none 0 0] 24) = W1 at *
 clear hw1
 go_loopw [5, 9] (fun _ i wr => CqRel (w.heap.size + 1 + 1) W1 n fs i wr) (fun _ i _ => n - (intOf i).toNat)
 case atStart => exact ⟨0, .nil, [], Nat.zero_le _, rfl, rfl, Off.refl _ _ _, HBX.out, World.ownsRow_nil _ _ _ _, fun j hj => absurd hj (Nat.not_lt_zero _)⟩
 case round =>
   obtain ⟨k, u, us, hk, rfl, hus, hof, hbx, hown, hold⟩ := hrel
   generalize hp : w.heap.size + 1 + 1 = p at *
   have hpB : p < W1.heap.size := by have := HSZ.out; omega
   have HBw := Lib.hid (B1.out.trans ((hof.low (show w.heap.size ≤ p by omega) (by have := HSZ.out; omega))))
   by_cases hlt : k < n
   · have hlL := HL.out k hlt
     obtain ⟨b, off, v, f, rfl, hltb, hv, hf, hok, hlen, hkl, d0, d1, d2, d3, d4, d5, d6, d7, d8, d9, d10⟩ := fns_cell (H.out.below HBw.out) hlt
     rw [hv] at hlL
     have hb1 := (Below.refl wr.heap.size wr).alloc (Nat.le_refl _) (.cells v.cells 43)
     have hC : CqC p W1.heap.size wr.heap.size W1 v f u.val us fs (.zero, 0, undef) (fun _ => false) (wr.alloc (.cells v.cells 43)).drew :=
       ⟨(hof.trans (Off.below hb1)).trans (Off.below (Below.refl _ _).drew), (hb1.block p (heap_lt hbx)).trans hbx, fun _ => FnAt.new wr v, (fun e => by cases e), (fun e => by cases e), fun _ => ownsRow_below (ownsRow_below hown hb1) (Below.refl _ _).drew, (fun e => by cases e), fun j hj => ((hold j hj).below hb1).below (Below.refl _ _).drew, Nat.le_trans hof.size hb1.size⟩
     have HC := Lib.hid (fun (W : World) (ho : Off p p W1 W) => fncopy_any v f W (((H.out.below (B1.out.trans (ho.low (show w.heap.size ≤ p by omega) (by have := HSZ.out; omega)))).ok k hlt |> fun z => by rw [hv, hf] at z; exact z.more (by have := HSZ.out; have := ho.size; omega))) hlL)
     have HF := Lib.hid hf
     have hu5 : us.length ≤ 60 := by omega
     have hB0 : W1.heap.size = W1.heap.size := rfl
     have HUS := Lib.hid hus
     clear hok hlen hof hbx hown hold hb1 hlL hf hv hus
     go_wp2
     simp only [FnV.cells, Sl3.val] at HC
     generalize hb5 : wr.heap.size = b5 at *
     refine region_k ((.zero, 0, undef) : FnV × Nat × Value) 22 (fun x D W' => CqC p W1.heap.size b5 W1 v f u.val us fs x D W') (copyG p u v) (by kernel_rfl) (by kernel_rfl) (by kernel_rfl) rfl rfl hC ?_ ?_
     · refine ⟨?_, ?_, ?_, ?_, ?_, ?_, ?_, ?_, trivial⟩
       · intro x D a w hI hdep hD0 K hK
         have e3 : a.eval (.tmp 3) = .pointer (some ⟨p, 0, none⟩) := hI.read 3 rfl
         refine ok_value (wanted_none rfl) (v := .pointer (some ⟨p, 0, none⟩)) ?_ (hK x _ _ (hI.world.up rfl rfl rfl rfl) (fun _ _ _ h => h) rfl)
         obtain ⟨ec, ef⟩ := ecs a; clear hI hdep hK; generalize a.eval = ρ at e3 ec ef ⊢; go_simp
       · intro x D a w hI hdep hD0 K hK
         have e13 : a.eval (.tmp 13) = .pointer (some ⟨p, 0, none⟩) := hI.good 0 13 (dep_of hdep 0 rfl) rfl
         have z0 : w.cell? ⟨p, 0, none⟩ = some (.slice u.a u.n u.c) := hI.world.old (hI.not_up (hI.not_up hD0 5 rfl) 7 rfl)
         refine ok_value (wanted_none rfl) (v := .slice u.a u.n u.c) ?_ (hK x _ _ (hI.world.up rfl rfl rfl rfl) (fun _ _ _ h => h) rfl)
         obtain ⟨ec, ef⟩ := ecs a; clear hI hdep hK; generalize a.eval = ρ at e13 ec ef ⊢; go_simp
       · intro x D a w hI hdep hD0 K hK
         have e5 : a.eval (.tmp 5) = .pointer (some ⟨b5, 0, none⟩) := hI.read 5 rfl
         have hA := hI.world.fn (hI.not_up (hI.not_up (hI.not_up hD0 3 rfl) 4 rfl) 5 rfl)
         obtain ⟨k0, k1, k2, k3, k4, k5, k6, k7, k8, k9, k10⟩ := hA.all
         refine ok_value (wanted_none rfl) (v := .agg #[.string v.name, .bool v.inner, .slice v.outer.a v.outer.n v.outer.c, .slice v.params.a v.params.n v.params.c, .slice v.results.a v.results.n v.results.c, .slice v.locals.a v.locals.n v.locals.c, .slice v.code.a v.code.n v.code.c, .slice v.lines.a v.lines.n v.lines.c, .slice v.nodes.a v.nodes.n v.nodes.c, .slice v.at_.a v.at_.n v.at_.c, .slice v.live.a v.live.n v.live.c]) ?_ (hK x _ _ (hI.world.up rfl rfl rfl rfl) (fun _ _ _ h => h) rfl)
         clear hA
         obtain ⟨ec, ef⟩ := ecs a; clear hI hdep hK; generalize a.eval = ρ at e5 ec ef ⊢; go_simp
       · intro x D a w hI hdep hD0 K hK
         have e15 : a.eval (.tmp 15) = .agg #[.string v.name, .bool v.inner, .slice v.outer.a v.outer.n v.outer.c, .slice v.params.a v.params.n v.params.c, .slice v.results.a v.results.n v.results.c, .slice v.locals.a v.locals.n v.locals.c, .slice v.code.a v.code.n v.code.c, .slice v.lines.a v.lines.n v.lines.c, .slice v.nodes.a v.nodes.n v.nodes.c, .slice v.at_.a v.at_.n v.at_.c, .slice v.live.a v.live.n v.live.c] := hI.good 2 15 (dep_of hdep 2 rfl) rfl
         refine ok_call (wanted_none rfl) (f := 32) (args := #[.agg #[.string v.name, .bool v.inner, .slice v.outer.a v.outer.n v.outer.c, .slice v.params.a v.params.n v.params.c, .slice v.results.a v.results.n v.results.c, .slice v.locals.a v.locals.n v.locals.c, .slice v.code.a v.code.n v.code.c, .slice v.lines.a v.lines.n v.lines.c, .slice v.nodes.a v.nodes.n v.nodes.c, .slice v.at_.a v.at_.n v.at_.c, .slice v.live.a v.live.n v.live.c]]) ?_ (HC.out w hI.world.off) ?_
         · obtain ⟨ec, ef⟩ := ecs a; clear hI hdep hK; generalize a.eval = ρ at e15 ec ef ⊢; go_simp
         · rintro e w2 ⟨v2, rfl, hv, hb2⟩
           exact ⟨_, rfl, hK (v2, x.2) _ _ (hI.world.called (hI.not_up hD0 4 rfl) (hI.not_up (hI.not_up hD0 4 rfl) 5 rfl) hv hb2) (cp_call hD0) rfl⟩
       · intro x D a w hI hdep hD0 K hK
         have e16 : a.eval (.tmp 16) = .agg x.1.cells := hI.good 3 16 (dep_of hdep 3 rfl) rfl
         refine ok_new (wanted_none rfl) (v := .slice (some ⟨w.heap.size, 0, none⟩) 1 1) (w' := w.alloc (.cells x.1.cells 43)) (by have ec : ∀ c, a.eval (.const c) = c := fun _ => rfl; generalize a.eval = ρ at e16 ec ⊢; simp only [FnV.cells, Sl3.val] at e16 ⊢; go_simp) ?_
         exact hK (x.1, w.heap.size, x.2.2) _ _ (hI.world.newed (hI.not_up hD0 5 rfl)) (cp_new hD0) rfl
       · intro x D a w hI hdep hD0 K hK
         have e14 : a.eval (.tmp 14) = .slice u.a u.n u.c := hI.good 1 14 (dep_of hdep 1 rfl) rfl
         have e17 : a.eval (.tmp 17) = .slice (some ⟨x.2.1, 0, none⟩) 1 1 := hI.good 4 17 (dep_of hdep 4 rfl) rfl
         obtain ⟨r, W', hr, hC⟩ := hI.world.appends (dep_of hdep 4 rfl) hD0 (hI.not_up hD0 7 rfl) hpB rfl hu5
         exact ok_append (wanted_none rfl) (.tmp 14) (.tmp 17) 22 22 rfl (by rw [e14, e17]; exact hr) (hK (x.1, x.2.1, r) _ _ hC (cp_app hD0) rfl)
       · intro x D a w hI hdep hD0 K hK
         have e3 : a.eval (.tmp 3) = .pointer (some ⟨p, 0, none⟩) := hI.read 3 rfl
         refine ok_value (wanted_none rfl) (v := .pointer (some ⟨p, 0, none⟩)) ?_ (hK x _ _ (hI.world.up rfl rfl rfl rfl) (fun _ _ _ h => h) rfl)
         obtain ⟨ec, ef⟩ := ecs a; clear hI hdep hK; generalize a.eval = ρ at e3 ec ef ⊢; go_simp
       · intro x D a w hI hdep hD0 K hK
         have e18 : a.eval (.tmp 18) = x.2.2 := hI.good 5 18 (dep_of hdep 5 rfl) rfl
         have e19 : a.eval (.tmp 19) = .pointer (some ⟨p, 0, none⟩) := hI.good 6 19 (dep_of hdep 6 rfl) rfl
         have hc := dep_of hdep 5 rfl
         have z0 : w.cell? ⟨p, 0, none⟩ = some (.slice u.a u.n u.c) := hI.world.old hD0
         have z1 := hI.world.frozen
         refine ok_store (wanted_none rfl) (w' := w.setCell ⟨p, 0, none⟩ x.2.2) ?_ (hK x undef _ (hI.world.stored hc hD0) (fun _ _ _ h => h) trivial)
         obtain ⟨s0, hu⟩ := own_val (hI.world.o1 hc)
         unfold Sl3.val at hu
         rw [hu] at e18 ⊢
         clear hu
         obtain ⟨ec, ef⟩ := ecs a; clear hI hdep hK; generalize a.eval = ρ at e18 e19 ec ef ⊢; go_simp
     · intro x D a w8 hI hD
       have hfr := hI.frame [(13, .pointer (some ⟨p, 0, none⟩)), (14, .slice u.a u.n u.c), (15, .agg #[.string v.name, .bool v.inner, .slice v.outer.a v.outer.n v.outer.c, .slice v.params.a v.params.n v.params.c, .slice v.results.a v.results.n v.results.c, .slice v.locals.a v.locals.n v.locals.c, .slice v.code.a v.code.n v.code.c, .slice v.lines.a v.lines.n v.lines.c, .slice v.nodes.a v.nodes.n v.nodes.c, .slice v.at_.a v.at_.n v.at_.c, .slice v.live.a v.live.n v.live.c]), (16, .agg x.1.cells), (17, .slice (some ⟨x.2.1, 0, none⟩) 1 1), (18, x.2.2), (19, .pointer (some ⟨p, 0, none⟩))] (all_cons (hI.good 0 13 (hD 0 (by decide)) rfl) (all_cons (hI.good 1 14 (hD 1 (by decide)) rfl) (all_cons (hI.good 2 15 (hD 2 (by decide)) rfl) (all_cons (hI.good 3 16 (hD 3 (by decide)) rfl) (all_cons (hI.good 4 17 (hD 4 (by decide)) rfl) (all_cons (hI.good 5 18 (hD 5 (by decide)) rfl) (all_cons (hI.good 6 19 (hD 6 (by decide)) rfl) all_nil))))))) rfl
       have hW := hI.world
       clear hI
       subst hfr
       simp only [List.foldl_cons, List.foldl_nil, List.setIfInBounds_toArray, List.set_cons_succ, List.set_cons_zero]
       have H1 := Lib.hid (And.intro hW.off (And.intro hW.box (And.intro (hW.o1 (hD 5 (by decide))) (And.intro (hW.cp (hD 3 (by decide))) hW.olds))))
       rw [hD 7 (by decide), if_pos rfl] at H1
       obtain ⟨u2, hu2⟩ := own_val (hW.o1 (hD 5 (by decide)))
       rw [hu2] at H1 ⊢
       clear hW hu2 hD hC HC
       go_wp2
       go_roundw
       case rel =>
         refine ⟨k + 1, u2, us ++ [x.1], hlt, by go_num, by rw [List.length_append, HUS.out]; rfl, H1.out.1, H1.out.2.1, by rw [List.length_append]; exact H1.out.2.2.1, fun j hj => ?_⟩
         rw [List.length_append, List.length_singleton] at hj
         by_cases hjl : j < us.length
         · rw [getD_init us x.1 _ hjl]; exact H1.out.2.2.2.2 j hjl
         · obtain rfl : j = us.length := by omega
           rw [getD_last, HUS.out, HF.out]
           exact H1.out.2.2.2.1
       case measure => simp [intOf]; omega
   · obtain rfl : k = n := by omega
     have hre := (hof.block (w.heap.size + 1) (by have := HSZ.out; omega) (by omega) (by omega)).trans HRS.out
     have q1 := (prog_cell hbx).1
     have q2 := (prog_cell hre).1
     have q3 := (prog_cell hre).2
     unfold Sl3.val at q1
     have HO := Lib.hid hown
     have HD := Lib.hid hold
     have HRE := Lib.hid hre
     have HUS := Lib.hid hus
     clear hof hbx hown hold hus hre
     have HOF := Lib.hid HBw.out
     have hse := heap_set (i := 0) HRE.out (.slice u.a u.n u.c)
     have r0 := (prog_cell (u := .slice u.a u.n u.c) hse).1
     have hg := Lib.grownBy_setB (World.grownBy.refl wr (some (w.heap.size + 1))) 0 (.slice u.a u.n u.c)
     have hr : ∀ b, some (w.heap.size + 1) = some b → ∃ C t m, wr.heap[b]? = some (.cells C t m) ∧ Else t := fun b e => by injection e with e; subst e; exact ⟨_, _, _, HRE.out, else_program⟩
     have ho2 := row_other HO.out hg fun b e => by injection e with e; subst e; exact ⟨_, _, _, HRE.out, by decide⟩
     have hd2 : ∀ j, j < us.length → FnOwn (wr.setCell ⟨w.heap.size + 1, 0, none⟩ (.slice u.a u.n u.c)) W1.heap.size (us.getD j .zero) (fs.getD j .zero) := fun j hj => (HD.out j hj).kept hg hr
     have hlf := H.out.lenf
     obtain ⟨e1, e2, e3⟩ := funcs_of_own ho2 hd2 (by rw [hlf, HUS.out]) H.out.names
     rw [← e1] at e2
     have HF := Lib.hid (show ProgP fs w (.returned (.agg #[.slice u.a u.n u.c])) (wr.setCell ⟨w.heap.size + 1, 0, none⟩ (.slice u.a u.n u.c)) from
       ⟨u, us, rfl, by rw [e1, hlf, HUS.out], e2, e3, HOF.out.setCell (show w.heap.size ≤ w.heap.size + 1 by omega) _⟩)
     clear hse hg hr ho2 hd2 hlf e1 e2 e3
     go_wp2
     exact bodyPost_ret (v := .agg #[.slice u.a u.n u.c]) (by simp [results, Tryz.results15, go_sem, r0]) rfl HF.out
end Go.Proofs.YtdopheoedpldiaaGreatDoor
