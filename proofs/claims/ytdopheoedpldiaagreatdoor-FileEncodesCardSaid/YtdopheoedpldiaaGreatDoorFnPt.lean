/-
 The parts of a function that are one call and a store. Conditions: a cursor that a call made; for the tables: no more than 2000 instructions, 2^20 slots, the table of bits is laid.
-/
import Derived.Test.YtdopheoedpldiaaGreatDoorFnTkP
import Derived.Test.YtdopheoedpldiaaGreatDoorFnCanX
import Derived.Test.YtdopheoedpldiaaGreatDoorMpTk
set_option maxRecDepth 100000
namespace Go.Proofs.YtdopheoedpldiaaGreatDoor
open Go.RowKit
def PartP (g p : Nat) (t' : Fn.St) (w : World) (e : Ending) (w' : World) : Prop := e = .returned (.tuple #[]) ∧ (∃ v', TkAt g p v' t' w') ∧ Off g p w w'
theorem part_done {g p k : Nat} {v v' : FnV} {t t' : Fn.St} {u : Value} {W W1 W2 : World} (h : TkAt g p v t W) (hg : W.grownBy W1 (some g)) (hc : Cur W1 g t'.s) (h2 : W2 = W1.setCell ⟨p, k, none⟩ u)
   (hb : W2.heap[p]? = some (.cells (tkCells g v' t'.marks t'.many) 157 (0, 0))) (ho : FnOwn W1 (p + 1) v' t'.f) (h0 : (t.f.code = [] → v.code = .nil) → t'.f.code = [] → v'.code = .nil := by exact fun h => h) : (∃ v', TkAt g p v' t' W2) ∧ Off g p W W2 := by
 subst h2
 have hs := Off.set g p k u W1
 have hgp := h.gp
 exact ⟨⟨v', hb, hc.kept (row := some p) (Lib.grownBy_setB (World.grownBy.refl _ _) _ _) (fun b hb => by injection hb with hb; omega), ho.off hs (by omega) (by omega), hgp, h0 h.code0⟩, (Off.grown hg).trans hs⟩
theorem own_val {w : World} {base n size : Nat} {e : TypeId} {v : Value} {xs : List Value} (h : w.ownsRow base e size v n xs) : ∃ s : Sl3, v = s.val := by
 rcases h.2 with ⟨hv, _⟩ | ⟨g, cap, cur, hv, _⟩
 · exact ⟨⟨_, _, _⟩, hv⟩
 · exact ⟨⟨_, _, _⟩, hv⟩
def nodes_part_G (g p : Nat) (_ : FnV) (_ : Fn.St) (x : Value × World) : Nat → Value → Prop
 | 0, u => u = .pointer (some ⟨p, 0, none⟩)
 | 1, u => u = .pointer (some ⟨p, 0, none⟩)
 | 2, u => u = .pointer (some ⟨p, 0, none⟩)
 | 3, u => u = .pointer (some ⟨p, 0, none⟩)
 | 4, u => u = .pointer (some ⟨g, 0, none⟩)
 | 5, u => u = x.1
 | 6, u => u = .pointer (some ⟨p, 0, none⟩)
 | 7, u => u = .pointer (some ⟨p, 1, none⟩)
 | 8, u => u = .pointer (some ⟨p, 9, none⟩)
 | _, _ => True
theorem nodes_part_mono (g p : Nat) (v : FnV) (t : Fn.St) {x y : Value × World} {D : Nat → Bool} (hm : D 5 = false) : ∀ j u, D j = true → nodes_part_G g p v t x j u → nodes_part_G g p v t y j u
 | 0, _, _, h => h
 | 1, _, _, h => h
 | 2, _, _, h => h
 | 3, _, _, h => h
 | 4, _, _, h => h
 | 5, _, hj, _ => by rw [hm] at hj; cases hj
 | 6, _, _, h => h
 | 7, _, _, h => h
 | 8, _, _, h => h
 | 9, _, _, h => h
 | _ + 10, _, _, h => h
set_option maxHeartbeats 4000000 in
theorem nodes_part (g p q : Nat) (v : FnV) (t : Fn.St) (W : World) (h : TkAt g p v t W) (hq : PtAt q p W) (hqg : q ≠ g) (hqp : q ≠ p) :
   Calls Tryz.prog 175 #[.pointer (some ⟨q, 0, none⟩)] W (PartP g p (Fn.pNodes t) W) := by
 have hgp : g ≠ p := by have := h.gp; omega
 have hgq : g ≠ q := fun e => hqg e.symm
 have HCu := Lib.hid h.cur
 have HK := Lib.hid (show ∀ W', Cur W' g t.s → Below W.heap.size W W' → Calls Tryz.prog 176 #[.pointer (some ⟨g, 0, none⟩)] W' (fun e w2 => ∃ s : Sl3, e = .returned s.val ∧ w2.ownsRow (p + 1) 104 7 s.val (Tr.take t.s).1.length (nds (Tr.take t.s).1) ∧ Cur w2 g (Tr.take t.s).2 ∧ W'.grownBy w2 (some g)) from fun W' hW hB => by
   have hlt := h.lt
   have hsz := hB.size
   refine (trtake_own g t.s W' hW).mono ?_
   rintro _ w2 ⟨⟨A, c, rfl, ho⟩, hc2, hg2⟩
   obtain ⟨s, hsv⟩ := own_val ho
   rw [hsv] at ho ⊢
   exact ⟨s, rfl, ownsRow_base ho (by omega), hc2, hg2⟩)
 have hH := Lib.hid h
 have hC := pc_start (ic := 5) (is := 9) (k := 9) (R := fun u W' => ∃ s : Sl3, u = s.val ∧ W'.ownsRow (p + 1) 104 7 s.val (Tr.take t.s).1.length (nds (Tr.take t.s).1) ∧ Cur W' g (Tr.take t.s).2) (g := g) (y := (undef, W)) hq h.box
 clear h hq
 go_enter Tryz.func175, Tryz.ntmps175
 refine region_k ((undef, W) : Value × World) 10 (fun x D W' => PcC 5 9 g p q 9 (tkCells g v t.marks t.many) W (fun u W' => ∃ s : Sl3, u = s.val ∧ W'.ownsRow (p + 1) 104 7 s.val (Tr.take t.s).1.length (nds (Tr.take t.s).1) ∧ Cur W' g (Tr.take t.s).2) x D W') (nodes_part_G g p v t) (by kernel_rfl) (by kernel_rfl) (by kernel_rfl) rfl rfl hC ?_ ?_
 · refine ⟨?_, ?_, ?_, ?_, ?_, ?_, ?_, ?_, ?_, ?_, trivial⟩
   · intro x D a w hI hdep hD0 K hK
     have e0 : a.eval (.tmp 0) = .pointer (some ⟨q, 0, none⟩) := hI.read 0 rfl
     have z0 := hI.world.ptr
     refine ok_value (wanted_none rfl) (v := .pointer (some ⟨p, 0, none⟩)) ?_ (hK x _ _ (hI.world.up rfl rfl) (fun _ _ _ h => h) rfl)
     obtain ⟨ec, ef⟩ := ecs a; clear hI hdep hK; generalize a.eval = ρ at e0 ec ef ⊢; go_simp
   · intro x D a w hI hdep hD0 K hK
     have e0 : a.eval (.tmp 0) = .pointer (some ⟨q, 0, none⟩) := hI.read 0 rfl
     have z0 := hI.world.ptr
     refine ok_value (wanted_none rfl) (v := .pointer (some ⟨p, 0, none⟩)) ?_ (hK x _ _ (hI.world.up rfl rfl) (fun _ _ _ h => h) rfl)
     obtain ⟨ec, ef⟩ := ecs a; clear hI hdep hK; generalize a.eval = ρ at e0 ec ef ⊢; go_simp
   · intro x D a w hI hdep hD0 K hK
     have e2 : a.eval (.tmp 2) = .pointer (some ⟨p, 0, none⟩) := hI.good 1 2 (dep_of hdep 1 rfl) rfl
     refine ok_value (wanted_none rfl) (v := .pointer (some ⟨p, 0, none⟩)) ?_ (hK x _ _ (hI.world.up rfl rfl) (fun _ _ _ h => h) rfl)
     obtain ⟨ec, ef⟩ := ecs a; clear hI hdep hK; generalize a.eval = ρ at e2 ec ef ⊢; go_simp
   · intro x D a w hI hdep hD0 K hK
     have e3 : a.eval (.tmp 3) = .pointer (some ⟨p, 0, none⟩) := hI.good 2 3 (dep_of hdep 2 rfl) rfl
     refine ok_value (wanted_none rfl) (v := .pointer (some ⟨p, 0, none⟩)) ?_ (hK x _ _ (hI.world.up rfl rfl) (fun _ _ _ h => h) rfl)
     obtain ⟨ec, ef⟩ := ecs a; clear hI hdep hK; generalize a.eval = ρ at e3 ec ef ⊢; go_simp
   · intro x D a w hI hdep hD0 K hK
     have e4 : a.eval (.tmp 4) = .pointer (some ⟨p, 0, none⟩) := hI.good 3 4 (dep_of hdep 3 rfl) rfl
     have z0 : w.cell? ⟨p, 0, none⟩ = some (.pointer (some ⟨g, 0, none⟩)) := hI.world.cell (j := 0) (by decide)
     refine ok_value (wanted_none rfl) (v := .pointer (some ⟨g, 0, none⟩)) ?_ (hK x _ _ (hI.world.up rfl rfl) (fun _ _ _ h => h) rfl)
     obtain ⟨ec, ef⟩ := ecs a; clear hI hdep hK; generalize a.eval = ρ at e4 ec ef ⊢; go_simp
   · intro x D a w hI hdep hD0 K hK
     have e5 : a.eval (.tmp 5) = .pointer (some ⟨g, 0, none⟩) := hI.good 4 5 (dep_of hdep 4 rfl) rfl
     refine ok_call (wanted_none rfl) (f := 176) (args := #[.pointer (some ⟨g, 0, none⟩)]) ?_ (HK.out w (cur_grown HCu.out (hI.world.pre hD0)) (hI.world.pre hD0)) ?_
     · obtain ⟨ec, ef⟩ := ecs a; clear hI hdep hK; generalize a.eval = ρ at e5 ec ef ⊢; go_simp
     · rintro e w2 ⟨s, rfl, ho, hc2, hg2⟩
       exact ⟨_, rfl, hK (s.val, w2) _ _ (hI.world.called hD0 (hI.not_up hD0 9 rfl) rfl hgp hgq ⟨s, rfl, ho, hc2⟩ hg2) (nodes_part_mono g p v t hD0) rfl⟩
   · intro x D a w hI hdep hD0 K hK
     have e1 : a.eval (.tmp 1) = .pointer (some ⟨p, 0, none⟩) := hI.good 0 1 (dep_of hdep 0 rfl) rfl
     refine ok_value (wanted_none rfl) (v := .pointer (some ⟨p, 0, none⟩)) ?_ (hK x _ _ (hI.world.up rfl rfl) (fun _ _ _ h => h) rfl)
     obtain ⟨ec, ef⟩ := ecs a; clear hI hdep hK; generalize a.eval = ρ at e1 ec ef ⊢; go_simp
   · intro x D a w hI hdep hD0 K hK
     have e7 : a.eval (.tmp 7) = .pointer (some ⟨p, 0, none⟩) := hI.good 6 7 (dep_of hdep 6 rfl) rfl
     refine ok_value (wanted_none rfl) (v := .pointer (some ⟨p, 1, none⟩)) ?_ (hK x _ _ (hI.world.up rfl rfl) (fun _ _ _ h => h) rfl)
     obtain ⟨ec, ef⟩ := ecs a; clear hI hdep hK; generalize a.eval = ρ at e7 ec ef ⊢; go_simp
   · intro x D a w hI hdep hD0 K hK
     have e8 : a.eval (.tmp 8) = .pointer (some ⟨p, 1, none⟩) := hI.good 7 8 (dep_of hdep 7 rfl) rfl
     refine ok_value (wanted_none rfl) (v := .pointer (some ⟨p, 9, none⟩)) ?_ (hK x _ _ (hI.world.up rfl rfl) (fun _ _ _ h => h) rfl)
     obtain ⟨ec, ef⟩ := ecs a; clear hI hdep hK; generalize a.eval = ρ at e8 ec ef ⊢; go_simp
   · intro x D a w hI hdep hD0 K hK
     have e9 : a.eval (.tmp 9) = .pointer (some ⟨p, 9, none⟩) := hI.good 8 9 (dep_of hdep 8 rfl) rfl
     have e6 : a.eval (.tmp 6) = x.1 := hI.good 5 6 (dep_of hdep 5 rfl) rfl
     have hc := dep_of hdep 5 rfl
     have z0 : w.cell? ⟨p, 9, none⟩ = some (.slice v.nodes.a v.nodes.n v.nodes.c) := hI.world.old hD0 9
     have z1 := hI.world.frozen 9
     refine ok_store (wanted_none rfl) (w' := w.setCell ⟨p, 9, none⟩ x.1) ?_ (hK x undef _ (hI.world.stored hc hD0 rfl hqp) (fun _ _ _ h => h) trivial)
     obtain ⟨s0, hu⟩ : ∃ s0 : Sl3, x.1 = .slice s0.a s0.n s0.c := (hI.world.post hc).1.elim (fun s h => ⟨s, h.1⟩)
     rw [hu] at e6 ⊢
     clear hu
     obtain ⟨ec, ef⟩ := ecs a; clear hI hdep hK; generalize a.eval = ρ at e9 e6 ec ef ⊢; go_simp
 · intro x D a w2 hI hD
   have hfr := hI.frame [(1, .pointer (some ⟨p, 0, none⟩)), (2, .pointer (some ⟨p, 0, none⟩)), (3, .pointer (some ⟨p, 0, none⟩)), (4, .pointer (some ⟨p, 0, none⟩)), (5, .pointer (some ⟨g, 0, none⟩)), (6, x.1), (7, .pointer (some ⟨p, 0, none⟩)), (8, .pointer (some ⟨p, 1, none⟩)), (9, .pointer (some ⟨p, 9, none⟩))] (all_cons (hI.good 0 1 (hD 0 (by decide)) rfl) (all_cons (hI.good 1 2 (hD 1 (by decide)) rfl) (all_cons (hI.good 2 3 (hD 2 (by decide)) rfl) (all_cons (hI.good 3 4 (hD 3 (by decide)) rfl) (all_cons (hI.good 4 5 (hD 4 (by decide)) rfl) (all_cons (hI.good 5 6 (hD 5 (by decide)) rfl) (all_cons (hI.good 6 7 (hD 6 (by decide)) rfl) (all_cons (hI.good 7 8 (hD 7 (by decide)) rfl) (all_cons (hI.good 8 9 (hD 8 (by decide)) rfl) all_nil))))))))) rfl
   have hW := hI.world
   clear hI
   subst hfr
   simp only [List.foldl_cons, List.foldl_nil, List.setIfInBounds_toArray, List.set_cons_succ, List.set_cons_zero]
   obtain ⟨⟨s, hu, ho, hc⟩, hg, hWW⟩ := hW.post (hD 5 (by decide))
   have hbx := hW.box
   rw [hD 9 (by decide), if_pos rfl] at hWW hbx
   rw [hu] at hbx
   have HF := Lib.hid (part_done (v' := { v with nodes := s }) (t' := (Fn.pNodes t)) hH.out hg hc hWW (hbx.trans rfl) { hH.out.own.off (Off.grown (p := p) hg) (by have := hH.out.gp; omega) (by omega) with nodes := ho })
   clear hW hbx hWW hg hc ho hD hH HCu HK
   go_wp2
   go_end0
   exact ⟨rfl, HF.out⟩
def lines_part_G (g p : Nat) (_ : FnV) (t : Fn.St) (x : Value × World) : Nat → Value → Prop
 | 0, u => u = .pointer (some ⟨p, 0, none⟩)
 | 1, u => u = .pointer (some ⟨p, 0, none⟩)
 | 2, u => u = .pointer (some ⟨p, 0, none⟩)
 | 3, u => u = .pointer (some ⟨p, 0, none⟩)
 | 4, u => u = .pointer (some ⟨g, 0, none⟩)
 | 5, u => u = .pointer (some ⟨p, 0, none⟩)
 | 6, u => u = .pointer (some ⟨p, 0, none⟩)
 | 7, u => u = .pointer (some ⟨p, 13, none⟩)
 | 8, u => u = .int .i64 (t.many : Int)
 | 9, u => u = x.1
 | 10, u => u = .pointer (some ⟨p, 0, none⟩)
 | 11, u => u = .pointer (some ⟨p, 1, none⟩)
 | 12, u => u = .pointer (some ⟨p, 8, none⟩)
 | _, _ => True
theorem lines_part_mono (g p : Nat) (v : FnV) (t : Fn.St) {x y : Value × World} {D : Nat → Bool} (hm : D 9 = false) : ∀ j u, D j = true → lines_part_G g p v t x j u → lines_part_G g p v t y j u
 | 0, _, _, h => h
 | 1, _, _, h => h
 | 2, _, _, h => h
 | 3, _, _, h => h
 | 4, _, _, h => h
 | 5, _, _, h => h
 | 6, _, _, h => h
 | 7, _, _, h => h
 | 8, _, _, h => h
 | 9, _, hj, _ => by rw [hm] at hj; cases hj
 | 10, _, _, h => h
 | 11, _, _, h => h
 | 12, _, _, h => h
 | 13, _, _, h => h
 | _ + 14, _, _, h => h
set_option maxHeartbeats 4000000 in
theorem lines_part (g p q : Nat) (v : FnV) (t : Fn.St) (W : World) (h : TkAt g p v t W) (hq : PtAt q p W) (hqg : q ≠ g) (hqp : q ≠ p) (hm : t.many ≤ 2000) :
   Calls Tryz.prog 173 #[.pointer (some ⟨q, 0, none⟩)] W (PartP g p (Fn.pLines t) W) := by
 have hgp : g ≠ p := by have := h.gp; omega
 have hgq : g ≠ q := fun e => hqg e.symm
 have HCu := Lib.hid h.cur
 have HK := Lib.hid (show ∀ W', Cur W' g t.s → Below W.heap.size W W' → Calls Tryz.prog 174 #[.pointer (some ⟨g, 0, none⟩), .int .i64 (t.many : Int)] W' (fun e w2 => ∃ s : Sl3, e = .returned s.val ∧ w2.ownsRow (p + 1) 3 1 s.val (takeA t.s (t.many : Int) 0 65535).1.length (vs (takeA t.s (t.many : Int) 0 65535).1) ∧ Cur w2 g (takeA t.s (t.many : Int) 0 65535).2 ∧ W'.grownBy w2 (some g)) from fun W' hW hB => by
   have hlt := h.lt
   have hsz := hB.size
   refine (litake_cur g t.s (t.many : Int) W' hW (by omega)).mono ?_
   rintro _ w2 ⟨v2, rfl, ho, hc2, hg2⟩
   obtain ⟨s, hsv⟩ := own_val ho
   rw [hsv] at ho ⊢
   exact ⟨s, rfl, ownsRow_base ho (by omega), hc2, hg2⟩)
 have hH := Lib.hid h
 have hC := pc_start (ic := 9) (is := 13) (k := 8) (R := fun u W' => ∃ s : Sl3, u = s.val ∧ W'.ownsRow (p + 1) 3 1 s.val (takeA t.s (t.many : Int) 0 65535).1.length (vs (takeA t.s (t.many : Int) 0 65535).1) ∧ Cur W' g (takeA t.s (t.many : Int) 0 65535).2) (g := g) (y := (undef, W)) hq h.box
 clear h hq
 go_enter Tryz.func173, Tryz.ntmps173
 refine region_k ((undef, W) : Value × World) 14 (fun x D W' => PcC 9 13 g p q 8 (tkCells g v t.marks t.many) W (fun u W' => ∃ s : Sl3, u = s.val ∧ W'.ownsRow (p + 1) 3 1 s.val (takeA t.s (t.many : Int) 0 65535).1.length (vs (takeA t.s (t.many : Int) 0 65535).1) ∧ Cur W' g (takeA t.s (t.many : Int) 0 65535).2) x D W') (lines_part_G g p v t) (by kernel_rfl) (by kernel_rfl) (by kernel_rfl) rfl rfl hC ?_ ?_
 · refine ⟨?_, ?_, ?_, ?_, ?_, ?_, ?_, ?_, ?_, ?_, ?_, ?_, ?_, ?_, trivial⟩
   · intro x D a w hI hdep hD0 K hK
     have e0 : a.eval (.tmp 0) = .pointer (some ⟨q, 0, none⟩) := hI.read 0 rfl
     have z0 := hI.world.ptr
     refine ok_value (wanted_none rfl) (v := .pointer (some ⟨p, 0, none⟩)) ?_ (hK x _ _ (hI.world.up rfl rfl) (fun _ _ _ h => h) rfl)
     obtain ⟨ec, ef⟩ := ecs a; clear hI hdep hK; generalize a.eval = ρ at e0 ec ef ⊢; go_simp
   · intro x D a w hI hdep hD0 K hK
     have e0 : a.eval (.tmp 0) = .pointer (some ⟨q, 0, none⟩) := hI.read 0 rfl
     have z0 := hI.world.ptr
     refine ok_value (wanted_none rfl) (v := .pointer (some ⟨p, 0, none⟩)) ?_ (hK x _ _ (hI.world.up rfl rfl) (fun _ _ _ h => h) rfl)
     obtain ⟨ec, ef⟩ := ecs a; clear hI hdep hK; generalize a.eval = ρ at e0 ec ef ⊢; go_simp
   · intro x D a w hI hdep hD0 K hK
     have e2 : a.eval (.tmp 2) = .pointer (some ⟨p, 0, none⟩) := hI.good 1 2 (dep_of hdep 1 rfl) rfl
     refine ok_value (wanted_none rfl) (v := .pointer (some ⟨p, 0, none⟩)) ?_ (hK x _ _ (hI.world.up rfl rfl) (fun _ _ _ h => h) rfl)
     obtain ⟨ec, ef⟩ := ecs a; clear hI hdep hK; generalize a.eval = ρ at e2 ec ef ⊢; go_simp
   · intro x D a w hI hdep hD0 K hK
     have e3 : a.eval (.tmp 3) = .pointer (some ⟨p, 0, none⟩) := hI.good 2 3 (dep_of hdep 2 rfl) rfl
     refine ok_value (wanted_none rfl) (v := .pointer (some ⟨p, 0, none⟩)) ?_ (hK x _ _ (hI.world.up rfl rfl) (fun _ _ _ h => h) rfl)
     obtain ⟨ec, ef⟩ := ecs a; clear hI hdep hK; generalize a.eval = ρ at e3 ec ef ⊢; go_simp
   · intro x D a w hI hdep hD0 K hK
     have e4 : a.eval (.tmp 4) = .pointer (some ⟨p, 0, none⟩) := hI.good 3 4 (dep_of hdep 3 rfl) rfl
     have z0 : w.cell? ⟨p, 0, none⟩ = some (.pointer (some ⟨g, 0, none⟩)) := hI.world.cell (j := 0) (by decide)
     refine ok_value (wanted_none rfl) (v := .pointer (some ⟨g, 0, none⟩)) ?_ (hK x _ _ (hI.world.up rfl rfl) (fun _ _ _ h => h) rfl)
     obtain ⟨ec, ef⟩ := ecs a; clear hI hdep hK; generalize a.eval = ρ at e4 ec ef ⊢; go_simp
   · intro x D a w hI hdep hD0 K hK
     have e0 : a.eval (.tmp 0) = .pointer (some ⟨q, 0, none⟩) := hI.read 0 rfl
     have z0 := hI.world.ptr
     refine ok_value (wanted_none rfl) (v := .pointer (some ⟨p, 0, none⟩)) ?_ (hK x _ _ (hI.world.up rfl rfl) (fun _ _ _ h => h) rfl)
     obtain ⟨ec, ef⟩ := ecs a; clear hI hdep hK; generalize a.eval = ρ at e0 ec ef ⊢; go_simp
   · intro x D a w hI hdep hD0 K hK
     have e6 : a.eval (.tmp 6) = .pointer (some ⟨p, 0, none⟩) := hI.good 5 6 (dep_of hdep 5 rfl) rfl
     refine ok_value (wanted_none rfl) (v := .pointer (some ⟨p, 0, none⟩)) ?_ (hK x _ _ (hI.world.up rfl rfl) (fun _ _ _ h => h) rfl)
     obtain ⟨ec, ef⟩ := ecs a; clear hI hdep hK; generalize a.eval = ρ at e6 ec ef ⊢; go_simp
   · intro x D a w hI hdep hD0 K hK
     have e7 : a.eval (.tmp 7) = .pointer (some ⟨p, 0, none⟩) := hI.good 6 7 (dep_of hdep 6 rfl) rfl
     refine ok_value (wanted_none rfl) (v := .pointer (some ⟨p, 13, none⟩)) ?_ (hK x _ _ (hI.world.up rfl rfl) (fun _ _ _ h => h) rfl)
     obtain ⟨ec, ef⟩ := ecs a; clear hI hdep hK; generalize a.eval = ρ at e7 ec ef ⊢; go_simp
   · intro x D a w hI hdep hD0 K hK
     have e8 : a.eval (.tmp 8) = .pointer (some ⟨p, 13, none⟩) := hI.good 7 8 (dep_of hdep 7 rfl) rfl
     have z0 : w.cell? ⟨p, 13, none⟩ = some (.int .i64 (t.many : Int)) := hI.world.cell (j := 13) (by decide)
     refine ok_value (wanted_none rfl) (v := .int .i64 (t.many : Int)) ?_ (hK x _ _ (hI.world.up rfl rfl) (fun _ _ _ h => h) rfl)
     obtain ⟨ec, ef⟩ := ecs a; clear hI hdep hK; generalize a.eval = ρ at e8 ec ef ⊢; go_simp
   · intro x D a w hI hdep hD0 K hK
     have e5 : a.eval (.tmp 5) = .pointer (some ⟨g, 0, none⟩) := hI.good 4 5 (dep_of hdep 4 rfl) rfl
     have e9 : a.eval (.tmp 9) = .int .i64 (t.many : Int) := hI.good 8 9 (dep_of hdep 8 rfl) rfl
     refine ok_call (wanted_none rfl) (f := 174) (args := #[.pointer (some ⟨g, 0, none⟩), .int .i64 (t.many : Int)]) ?_ (HK.out w (cur_grown HCu.out (hI.world.pre hD0)) (hI.world.pre hD0)) ?_
     · obtain ⟨ec, ef⟩ := ecs a; clear hI hdep hK; generalize a.eval = ρ at e5 e9 ec ef ⊢; go_simp
     · rintro e w2 ⟨s, rfl, ho, hc2, hg2⟩
       exact ⟨_, rfl, hK (s.val, w2) _ _ (hI.world.called hD0 (hI.not_up hD0 13 rfl) rfl hgp hgq ⟨s, rfl, ho, hc2⟩ hg2) (lines_part_mono g p v t hD0) rfl⟩
   · intro x D a w hI hdep hD0 K hK
     have e1 : a.eval (.tmp 1) = .pointer (some ⟨p, 0, none⟩) := hI.good 0 1 (dep_of hdep 0 rfl) rfl
     refine ok_value (wanted_none rfl) (v := .pointer (some ⟨p, 0, none⟩)) ?_ (hK x _ _ (hI.world.up rfl rfl) (fun _ _ _ h => h) rfl)
     obtain ⟨ec, ef⟩ := ecs a; clear hI hdep hK; generalize a.eval = ρ at e1 ec ef ⊢; go_simp
   · intro x D a w hI hdep hD0 K hK
     have e11 : a.eval (.tmp 11) = .pointer (some ⟨p, 0, none⟩) := hI.good 10 11 (dep_of hdep 10 rfl) rfl
     refine ok_value (wanted_none rfl) (v := .pointer (some ⟨p, 1, none⟩)) ?_ (hK x _ _ (hI.world.up rfl rfl) (fun _ _ _ h => h) rfl)
     obtain ⟨ec, ef⟩ := ecs a; clear hI hdep hK; generalize a.eval = ρ at e11 ec ef ⊢; go_simp
   · intro x D a w hI hdep hD0 K hK
     have e12 : a.eval (.tmp 12) = .pointer (some ⟨p, 1, none⟩) := hI.good 11 12 (dep_of hdep 11 rfl) rfl
     refine ok_value (wanted_none rfl) (v := .pointer (some ⟨p, 8, none⟩)) ?_ (hK x _ _ (hI.world.up rfl rfl) (fun _ _ _ h => h) rfl)
     obtain ⟨ec, ef⟩ := ecs a; clear hI hdep hK; generalize a.eval = ρ at e12 ec ef ⊢; go_simp
   · intro x D a w hI hdep hD0 K hK
     have e13 : a.eval (.tmp 13) = .pointer (some ⟨p, 8, none⟩) := hI.good 12 13 (dep_of hdep 12 rfl) rfl
     have e10 : a.eval (.tmp 10) = x.1 := hI.good 9 10 (dep_of hdep 9 rfl) rfl
     have hc := dep_of hdep 9 rfl
     have z0 : w.cell? ⟨p, 8, none⟩ = some (.slice v.lines.a v.lines.n v.lines.c) := hI.world.old hD0 8
     have z1 := hI.world.frozen 8
     refine ok_store (wanted_none rfl) (w' := w.setCell ⟨p, 8, none⟩ x.1) ?_ (hK x undef _ (hI.world.stored hc hD0 rfl hqp) (fun _ _ _ h => h) trivial)
     obtain ⟨s0, hu⟩ : ∃ s0 : Sl3, x.1 = .slice s0.a s0.n s0.c := (hI.world.post hc).1.elim (fun s h => ⟨s, h.1⟩)
     rw [hu] at e10 ⊢
     clear hu
     obtain ⟨ec, ef⟩ := ecs a; clear hI hdep hK; generalize a.eval = ρ at e13 e10 ec ef ⊢; go_simp
 · intro x D a w2 hI hD
   have hfr := hI.frame [(1, .pointer (some ⟨p, 0, none⟩)), (2, .pointer (some ⟨p, 0, none⟩)), (3, .pointer (some ⟨p, 0, none⟩)), (4, .pointer (some ⟨p, 0, none⟩)), (5, .pointer (some ⟨g, 0, none⟩)), (6, .pointer (some ⟨p, 0, none⟩)), (7, .pointer (some ⟨p, 0, none⟩)), (8, .pointer (some ⟨p, 13, none⟩)), (9, .int .i64 (t.many : Int)), (10, x.1), (11, .pointer (some ⟨p, 0, none⟩)), (12, .pointer (some ⟨p, 1, none⟩)), (13, .pointer (some ⟨p, 8, none⟩))] (all_cons (hI.good 0 1 (hD 0 (by decide)) rfl) (all_cons (hI.good 1 2 (hD 1 (by decide)) rfl) (all_cons (hI.good 2 3 (hD 2 (by decide)) rfl) (all_cons (hI.good 3 4 (hD 3 (by decide)) rfl) (all_cons (hI.good 4 5 (hD 4 (by decide)) rfl) (all_cons (hI.good 5 6 (hD 5 (by decide)) rfl) (all_cons (hI.good 6 7 (hD 6 (by decide)) rfl) (all_cons (hI.good 7 8 (hD 7 (by decide)) rfl) (all_cons (hI.good 8 9 (hD 8 (by decide)) rfl) (all_cons (hI.good 9 10 (hD 9 (by decide)) rfl) (all_cons (hI.good 10 11 (hD 10 (by decide)) rfl) (all_cons (hI.good 11 12 (hD 11 (by decide)) rfl) (all_cons (hI.good 12 13 (hD 12 (by decide)) rfl) all_nil))))))))))))) rfl
   have hW := hI.world
   clear hI
   subst hfr
   simp only [List.foldl_cons, List.foldl_nil, List.setIfInBounds_toArray, List.set_cons_succ, List.set_cons_zero]
   obtain ⟨⟨s, hu, ho, hc⟩, hg, hWW⟩ := hW.post (hD 9 (by decide))
   have hbx := hW.box
   rw [hD 13 (by decide), if_pos rfl] at hWW hbx
   rw [hu] at hbx
   have HF := Lib.hid (part_done (v' := { v with lines := s }) (t' := (Fn.pLines t)) hH.out hg hc hWW (hbx.trans rfl) { hH.out.own.off (Off.grown (p := p) hg) (by have := hH.out.gp; omega) (by omega) with lines := ho })
   clear hW hbx hWW hg hc ho hD hH HCu HK
   go_wp2
   go_end0
   exact ⟨rfl, HF.out⟩
def at_part_G (g p : Nat) (v : FnV) (t : Fn.St) (x : Value × World) : Nat → Value → Prop
 | 0, u => u = .pointer (some ⟨p, 0, none⟩)
 | 1, u => u = .pointer (some ⟨p, 0, none⟩)
 | 2, u => u = .pointer (some ⟨p, 0, none⟩)
 | 3, u => u = .pointer (some ⟨p, 0, none⟩)
 | 4, u => u = .pointer (some ⟨g, 0, none⟩)
 | 5, u => u = .pointer (some ⟨p, 0, none⟩)
 | 6, u => u = .pointer (some ⟨p, 0, none⟩)
 | 7, u => u = .pointer (some ⟨p, 13, none⟩)
 | 8, u => u = .int .i64 (t.many : Int)
 | 9, u => u = .pointer (some ⟨p, 0, none⟩)
 | 10, u => u = .pointer (some ⟨p, 0, none⟩)
 | 11, u => u = .pointer (some ⟨p, 1, none⟩)
 | 12, u => u = .agg #[.string v.name, .bool v.inner, .slice v.outer.a v.outer.n v.outer.c, .slice v.params.a v.params.n v.params.c, .slice v.results.a v.results.n v.results.c, .slice v.locals.a v.locals.n v.locals.c, .slice v.code.a v.code.n v.code.c, .slice v.lines.a v.lines.n v.lines.c, .slice v.nodes.a v.nodes.n v.nodes.c, .slice v.at_.a v.at_.n v.at_.c, .slice v.live.a v.live.n v.live.c]
 | 13, u => u = .int .i64 ((v.nodes.n : Int) - 1)
 | 14, u => u = x.1
 | 15, u => u = .pointer (some ⟨p, 0, none⟩)
 | 16, u => u = .pointer (some ⟨p, 1, none⟩)
 | 17, u => u = .pointer (some ⟨p, 10, none⟩)
 | _, _ => True
theorem at_part_mono (g p : Nat) (v : FnV) (t : Fn.St) {x y : Value × World} {D : Nat → Bool} (hm : D 14 = false) : ∀ j u, D j = true → at_part_G g p v t x j u → at_part_G g p v t y j u
 | 0, _, _, h => h
 | 1, _, _, h => h
 | 2, _, _, h => h
 | 3, _, _, h => h
 | 4, _, _, h => h
 | 5, _, _, h => h
 | 6, _, _, h => h
 | 7, _, _, h => h
 | 8, _, _, h => h
 | 9, _, _, h => h
 | 10, _, _, h => h
 | 11, _, _, h => h
 | 12, _, _, h => h
 | 13, _, _, h => h
 | 14, _, hj, _ => by rw [hm] at hj; cases hj
 | 15, _, _, h => h
 | 16, _, _, h => h
 | 17, _, _, h => h
 | 18, _, _, h => h
 | _ + 19, _, _, h => h
set_option maxHeartbeats 4000000 in
theorem at_part (g p q : Nat) (v : FnV) (t : Fn.St) (W : World) (h : TkAt g p v t W) (hq : PtAt q p W) (hqg : q ≠ g) (hqp : q ≠ p) (hm : t.many ≤ 2000) :
   Calls Tryz.prog 177 #[.pointer (some ⟨q, 0, none⟩)] W (PartP g p (Fn.pAt t) W) := by
 have hnl := (nil_own h.own.nodes).2
 have hnn : v.nodes.n = t.f.nodes.length := (nodes_of_own h.own.nodes).1
 have hgp : g ≠ p := by have := h.gp; omega
 have hgq : g ≠ q := fun e => hqg e.symm
 have HCu := Lib.hid h.cur
 have HK := Lib.hid (show ∀ W', Cur W' g t.s → Below W.heap.size W W' → Calls Tryz.prog 178 #[.pointer (some ⟨g, 0, none⟩), .int .i64 (t.many : Int), .int .i64 0, .int .i64 ((v.nodes.n : Int) - 1)] W' (fun e w2 => ∃ s : Sl3, e = .returned s.val ∧ w2.ownsRow (p + 1) 3 1 s.val (takeA t.s (t.many : Int) 0 ((t.f.nodes.length : Int) - 1)).1.length (vs (takeA t.s (t.many : Int) 0 ((t.f.nodes.length : Int) - 1)).1) ∧ Cur w2 g (takeA t.s (t.many : Int) 0 ((t.f.nodes.length : Int) - 1)).2 ∧ W'.grownBy w2 (some g)) from fun W' hW hB => by
   have hlt := h.lt
   have hsz := hB.size
   rw [hnn]
   refine (take_cur g t.s (t.many : Int) 0 ((t.f.nodes.length : Int) - 1) W' hW (by omega)).mono ?_
   rintro _ w2 ⟨v2, rfl, ho, hc2, hg2⟩
   obtain ⟨s, hsv⟩ := own_val ho
   rw [hsv] at ho ⊢
   exact ⟨s, rfl, ownsRow_base ho (by omega), hc2, hg2⟩)
 have hH := Lib.hid h
 have hC := pc_start (ic := 14) (is := 18) (k := 10) (R := fun u W' => ∃ s : Sl3, u = s.val ∧ W'.ownsRow (p + 1) 3 1 s.val (takeA t.s (t.many : Int) 0 ((t.f.nodes.length : Int) - 1)).1.length (vs (takeA t.s (t.many : Int) 0 ((t.f.nodes.length : Int) - 1)).1) ∧ Cur W' g (takeA t.s (t.many : Int) 0 ((t.f.nodes.length : Int) - 1)).2) (g := g) (y := (undef, W)) hq h.box
 clear h hq
 go_enter Tryz.func177, Tryz.ntmps177
 refine region_k ((undef, W) : Value × World) 19 (fun x D W' => PcC 14 18 g p q 10 (tkCells g v t.marks t.many) W (fun u W' => ∃ s : Sl3, u = s.val ∧ W'.ownsRow (p + 1) 3 1 s.val (takeA t.s (t.many : Int) 0 ((t.f.nodes.length : Int) - 1)).1.length (vs (takeA t.s (t.many : Int) 0 ((t.f.nodes.length : Int) - 1)).1) ∧ Cur W' g (takeA t.s (t.many : Int) 0 ((t.f.nodes.length : Int) - 1)).2) x D W') (at_part_G g p v t) (by kernel_rfl) (by kernel_rfl) (by kernel_rfl) rfl rfl hC ?_ ?_
 · refine ⟨?_, ?_, ?_, ?_, ?_, ?_, ?_, ?_, ?_, ?_, ?_, ?_, ?_, ?_, ?_, ?_, ?_, ?_, ?_, trivial⟩
   · intro x D a w hI hdep hD0 K hK
     have e0 : a.eval (.tmp 0) = .pointer (some ⟨q, 0, none⟩) := hI.read 0 rfl
     have z0 := hI.world.ptr
     refine ok_value (wanted_none rfl) (v := .pointer (some ⟨p, 0, none⟩)) ?_ (hK x _ _ (hI.world.up rfl rfl) (fun _ _ _ h => h) rfl)
     obtain ⟨ec, ef⟩ := ecs a; clear hI hdep hK; generalize a.eval = ρ at e0 ec ef ⊢; go_simp
   · intro x D a w hI hdep hD0 K hK
     have e0 : a.eval (.tmp 0) = .pointer (some ⟨q, 0, none⟩) := hI.read 0 rfl
     have z0 := hI.world.ptr
     refine ok_value (wanted_none rfl) (v := .pointer (some ⟨p, 0, none⟩)) ?_ (hK x _ _ (hI.world.up rfl rfl) (fun _ _ _ h => h) rfl)
     obtain ⟨ec, ef⟩ := ecs a; clear hI hdep hK; generalize a.eval = ρ at e0 ec ef ⊢; go_simp
   · intro x D a w hI hdep hD0 K hK
     have e2 : a.eval (.tmp 2) = .pointer (some ⟨p, 0, none⟩) := hI.good 1 2 (dep_of hdep 1 rfl) rfl
     refine ok_value (wanted_none rfl) (v := .pointer (some ⟨p, 0, none⟩)) ?_ (hK x _ _ (hI.world.up rfl rfl) (fun _ _ _ h => h) rfl)
     obtain ⟨ec, ef⟩ := ecs a; clear hI hdep hK; generalize a.eval = ρ at e2 ec ef ⊢; go_simp
   · intro x D a w hI hdep hD0 K hK
     have e3 : a.eval (.tmp 3) = .pointer (some ⟨p, 0, none⟩) := hI.good 2 3 (dep_of hdep 2 rfl) rfl
     refine ok_value (wanted_none rfl) (v := .pointer (some ⟨p, 0, none⟩)) ?_ (hK x _ _ (hI.world.up rfl rfl) (fun _ _ _ h => h) rfl)
     obtain ⟨ec, ef⟩ := ecs a; clear hI hdep hK; generalize a.eval = ρ at e3 ec ef ⊢; go_simp
   · intro x D a w hI hdep hD0 K hK
     have e4 : a.eval (.tmp 4) = .pointer (some ⟨p, 0, none⟩) := hI.good 3 4 (dep_of hdep 3 rfl) rfl
     have z0 : w.cell? ⟨p, 0, none⟩ = some (.pointer (some ⟨g, 0, none⟩)) := hI.world.cell (j := 0) (by decide)
     refine ok_value (wanted_none rfl) (v := .pointer (some ⟨g, 0, none⟩)) ?_ (hK x _ _ (hI.world.up rfl rfl) (fun _ _ _ h => h) rfl)
     obtain ⟨ec, ef⟩ := ecs a; clear hI hdep hK; generalize a.eval = ρ at e4 ec ef ⊢; go_simp
   · intro x D a w hI hdep hD0 K hK
     have e0 : a.eval (.tmp 0) = .pointer (some ⟨q, 0, none⟩) := hI.read 0 rfl
     have z0 := hI.world.ptr
     refine ok_value (wanted_none rfl) (v := .pointer (some ⟨p, 0, none⟩)) ?_ (hK x _ _ (hI.world.up rfl rfl) (fun _ _ _ h => h) rfl)
     obtain ⟨ec, ef⟩ := ecs a; clear hI hdep hK; generalize a.eval = ρ at e0 ec ef ⊢; go_simp
   · intro x D a w hI hdep hD0 K hK
     have e6 : a.eval (.tmp 6) = .pointer (some ⟨p, 0, none⟩) := hI.good 5 6 (dep_of hdep 5 rfl) rfl
     refine ok_value (wanted_none rfl) (v := .pointer (some ⟨p, 0, none⟩)) ?_ (hK x _ _ (hI.world.up rfl rfl) (fun _ _ _ h => h) rfl)
     obtain ⟨ec, ef⟩ := ecs a; clear hI hdep hK; generalize a.eval = ρ at e6 ec ef ⊢; go_simp
   · intro x D a w hI hdep hD0 K hK
     have e7 : a.eval (.tmp 7) = .pointer (some ⟨p, 0, none⟩) := hI.good 6 7 (dep_of hdep 6 rfl) rfl
     refine ok_value (wanted_none rfl) (v := .pointer (some ⟨p, 13, none⟩)) ?_ (hK x _ _ (hI.world.up rfl rfl) (fun _ _ _ h => h) rfl)
     obtain ⟨ec, ef⟩ := ecs a; clear hI hdep hK; generalize a.eval = ρ at e7 ec ef ⊢; go_simp
   · intro x D a w hI hdep hD0 K hK
     have e8 : a.eval (.tmp 8) = .pointer (some ⟨p, 13, none⟩) := hI.good 7 8 (dep_of hdep 7 rfl) rfl
     have z0 : w.cell? ⟨p, 13, none⟩ = some (.int .i64 (t.many : Int)) := hI.world.cell (j := 13) (by decide)
     refine ok_value (wanted_none rfl) (v := .int .i64 (t.many : Int)) ?_ (hK x _ _ (hI.world.up rfl rfl) (fun _ _ _ h => h) rfl)
     obtain ⟨ec, ef⟩ := ecs a; clear hI hdep hK; generalize a.eval = ρ at e8 ec ef ⊢; go_simp
   · intro x D a w hI hdep hD0 K hK
     have e0 : a.eval (.tmp 0) = .pointer (some ⟨q, 0, none⟩) := hI.read 0 rfl
     have z0 := hI.world.ptr
     refine ok_value (wanted_none rfl) (v := .pointer (some ⟨p, 0, none⟩)) ?_ (hK x _ _ (hI.world.up rfl rfl) (fun _ _ _ h => h) rfl)
     obtain ⟨ec, ef⟩ := ecs a; clear hI hdep hK; generalize a.eval = ρ at e0 ec ef ⊢; go_simp
   · intro x D a w hI hdep hD0 K hK
     have e10 : a.eval (.tmp 10) = .pointer (some ⟨p, 0, none⟩) := hI.good 9 10 (dep_of hdep 9 rfl) rfl
     refine ok_value (wanted_none rfl) (v := .pointer (some ⟨p, 0, none⟩)) ?_ (hK x _ _ (hI.world.up rfl rfl) (fun _ _ _ h => h) rfl)
     obtain ⟨ec, ef⟩ := ecs a; clear hI hdep hK; generalize a.eval = ρ at e10 ec ef ⊢; go_simp
   · intro x D a w hI hdep hD0 K hK
     have e11 : a.eval (.tmp 11) = .pointer (some ⟨p, 0, none⟩) := hI.good 10 11 (dep_of hdep 10 rfl) rfl
     refine ok_value (wanted_none rfl) (v := .pointer (some ⟨p, 1, none⟩)) ?_ (hK x _ _ (hI.world.up rfl rfl) (fun _ _ _ h => h) rfl)
     obtain ⟨ec, ef⟩ := ecs a; clear hI hdep hK; generalize a.eval = ρ at e11 ec ef ⊢; go_simp
   · intro x D a w hI hdep hD0 K hK
     have e12 : a.eval (.tmp 12) = .pointer (some ⟨p, 1, none⟩) := hI.good 11 12 (dep_of hdep 11 rfl) rfl
     have hst := Bool.eq_false_iff.2 (fun hq => absurd (hI.shut 13 12 (hI.shut 14 13 (hI.shut 18 14 hq rfl) rfl) rfl) (by rw [hD0]; decide))
     have z0 : w.cell? ⟨p, 1, none⟩ = some (.string v.name) := hI.world.old hst 1
     have z1 : w.cell? ⟨p, 2, none⟩ = some (.bool v.inner) := hI.world.old hst 2
     have z2 : w.cell? ⟨p, 3, none⟩ = some (.slice v.outer.a v.outer.n v.outer.c) := hI.world.old hst 3
     have z3 : w.cell? ⟨p, 4, none⟩ = some (.slice v.params.a v.params.n v.params.c) := hI.world.old hst 4
     have z4 : w.cell? ⟨p, 5, none⟩ = some (.slice v.results.a v.results.n v.results.c) := hI.world.old hst 5
     have z5 : w.cell? ⟨p, 6, none⟩ = some (.slice v.locals.a v.locals.n v.locals.c) := hI.world.old hst 6
     have z6 : w.cell? ⟨p, 7, none⟩ = some (.slice v.code.a v.code.n v.code.c) := hI.world.old hst 7
     have z7 : w.cell? ⟨p, 8, none⟩ = some (.slice v.lines.a v.lines.n v.lines.c) := hI.world.old hst 8
     have z8 : w.cell? ⟨p, 9, none⟩ = some (.slice v.nodes.a v.nodes.n v.nodes.c) := hI.world.old hst 9
     have z9 : w.cell? ⟨p, 10, none⟩ = some (.slice v.at_.a v.at_.n v.at_.c) := hI.world.old hst 10
     have z10 : w.cell? ⟨p, 11, none⟩ = some (.slice v.live.a v.live.n v.live.c) := hI.world.old hst 11
     refine ok_value (wanted_none rfl) (v := .agg #[.string v.name, .bool v.inner, .slice v.outer.a v.outer.n v.outer.c, .slice v.params.a v.params.n v.params.c, .slice v.results.a v.results.n v.results.c, .slice v.locals.a v.locals.n v.locals.c, .slice v.code.a v.code.n v.code.c, .slice v.lines.a v.lines.n v.lines.c, .slice v.nodes.a v.nodes.n v.nodes.c, .slice v.at_.a v.at_.n v.at_.c, .slice v.live.a v.live.n v.live.c]) ?_ (hK x _ _ (hI.world.up rfl rfl) (fun _ _ _ h => h) rfl)
     clear hst
     obtain ⟨ec, ef⟩ := ecs a; clear hI hdep hK; generalize a.eval = ρ at e12 ec ef ⊢; go_simp
   · intro x D a w hI hdep hD0 K hK
     have e13 : a.eval (.tmp 13) = .agg #[.string v.name, .bool v.inner, .slice v.outer.a v.outer.n v.outer.c, .slice v.params.a v.params.n v.params.c, .slice v.results.a v.results.n v.results.c, .slice v.locals.a v.locals.n v.locals.c, .slice v.code.a v.code.n v.code.c, .slice v.lines.a v.lines.n v.lines.c, .slice v.nodes.a v.nodes.n v.nodes.c, .slice v.at_.a v.at_.n v.at_.c, .slice v.live.a v.live.n v.live.c] := hI.good 12 13 (dep_of hdep 12 rfl) rfl
     refine ok_call (wanted_none rfl) (f := 118) (args := #[.agg #[.string v.name, .bool v.inner, .slice v.outer.a v.outer.n v.outer.c, .slice v.params.a v.params.n v.params.c, .slice v.results.a v.results.n v.results.c, .slice v.locals.a v.locals.n v.locals.c, .slice v.code.a v.code.n v.code.c, .slice v.lines.a v.lines.n v.lines.c, .slice v.nodes.a v.nodes.n v.nodes.c, .slice v.at_.a v.at_.n v.at_.c, .slice v.live.a v.live.n v.live.c]]) ?_ (fnlast_any v w hnl) ?_
     · obtain ⟨ec, ef⟩ := ecs a; clear hI hdep hK; generalize a.eval = ρ at e13 ec ef ⊢; go_simp
     · rintro e w2 ⟨rfl, hb2⟩
       exact ⟨_, rfl, hK x _ _ ((hI.world.below (hI.not_up hD0 14 rfl) hb2).up rfl rfl) (fun _ _ _ h => h) rfl⟩
   · intro x D a w hI hdep hD0 K hK
     have e5 : a.eval (.tmp 5) = .pointer (some ⟨g, 0, none⟩) := hI.good 4 5 (dep_of hdep 4 rfl) rfl
     have e9 : a.eval (.tmp 9) = .int .i64 (t.many : Int) := hI.good 8 9 (dep_of hdep 8 rfl) rfl
     have e14 : a.eval (.tmp 14) = .int .i64 ((v.nodes.n : Int) - 1) := hI.good 13 14 (dep_of hdep 13 rfl) rfl
     refine ok_call (wanted_none rfl) (f := 178) (args := #[.pointer (some ⟨g, 0, none⟩), .int .i64 (t.many : Int), .int .i64 0, .int .i64 ((v.nodes.n : Int) - 1)]) ?_ (HK.out w (cur_grown HCu.out (hI.world.pre hD0)) (hI.world.pre hD0)) ?_
     · obtain ⟨ec, ef⟩ := ecs a; clear hI hdep hK; generalize a.eval = ρ at e5 e9 e14 ec ef ⊢; go_simp
     · rintro e w2 ⟨s, rfl, ho, hc2, hg2⟩
       exact ⟨_, rfl, hK (s.val, w2) _ _ (hI.world.called hD0 (hI.not_up hD0 18 rfl) rfl hgp hgq ⟨s, rfl, ho, hc2⟩ hg2) (at_part_mono g p v t hD0) rfl⟩
   · intro x D a w hI hdep hD0 K hK
     have e1 : a.eval (.tmp 1) = .pointer (some ⟨p, 0, none⟩) := hI.good 0 1 (dep_of hdep 0 rfl) rfl
     refine ok_value (wanted_none rfl) (v := .pointer (some ⟨p, 0, none⟩)) ?_ (hK x _ _ (hI.world.up rfl rfl) (fun _ _ _ h => h) rfl)
     obtain ⟨ec, ef⟩ := ecs a; clear hI hdep hK; generalize a.eval = ρ at e1 ec ef ⊢; go_simp
   · intro x D a w hI hdep hD0 K hK
     have e16 : a.eval (.tmp 16) = .pointer (some ⟨p, 0, none⟩) := hI.good 15 16 (dep_of hdep 15 rfl) rfl
     refine ok_value (wanted_none rfl) (v := .pointer (some ⟨p, 1, none⟩)) ?_ (hK x _ _ (hI.world.up rfl rfl) (fun _ _ _ h => h) rfl)
     obtain ⟨ec, ef⟩ := ecs a; clear hI hdep hK; generalize a.eval = ρ at e16 ec ef ⊢; go_simp
   · intro x D a w hI hdep hD0 K hK
     have e17 : a.eval (.tmp 17) = .pointer (some ⟨p, 1, none⟩) := hI.good 16 17 (dep_of hdep 16 rfl) rfl
     refine ok_value (wanted_none rfl) (v := .pointer (some ⟨p, 10, none⟩)) ?_ (hK x _ _ (hI.world.up rfl rfl) (fun _ _ _ h => h) rfl)
     obtain ⟨ec, ef⟩ := ecs a; clear hI hdep hK; generalize a.eval = ρ at e17 ec ef ⊢; go_simp
   · intro x D a w hI hdep hD0 K hK
     have e18 : a.eval (.tmp 18) = .pointer (some ⟨p, 10, none⟩) := hI.good 17 18 (dep_of hdep 17 rfl) rfl
     have e15 : a.eval (.tmp 15) = x.1 := hI.good 14 15 (dep_of hdep 14 rfl) rfl
     have hc := dep_of hdep 14 rfl
     have z0 : w.cell? ⟨p, 10, none⟩ = some (.slice v.at_.a v.at_.n v.at_.c) := hI.world.old hD0 10
     have z1 := hI.world.frozen 10
     refine ok_store (wanted_none rfl) (w' := w.setCell ⟨p, 10, none⟩ x.1) ?_ (hK x undef _ (hI.world.stored hc hD0 rfl hqp) (fun _ _ _ h => h) trivial)
     obtain ⟨s0, hu⟩ : ∃ s0 : Sl3, x.1 = .slice s0.a s0.n s0.c := (hI.world.post hc).1.elim (fun s h => ⟨s, h.1⟩)
     rw [hu] at e15 ⊢
     clear hu
     obtain ⟨ec, ef⟩ := ecs a; clear hI hdep hK; generalize a.eval = ρ at e18 e15 ec ef ⊢; go_simp
 · intro x D a w2 hI hD
   have hfr := hI.frame [(1, .pointer (some ⟨p, 0, none⟩)), (2, .pointer (some ⟨p, 0, none⟩)), (3, .pointer (some ⟨p, 0, none⟩)), (4, .pointer (some ⟨p, 0, none⟩)), (5, .pointer (some ⟨g, 0, none⟩)), (6, .pointer (some ⟨p, 0, none⟩)), (7, .pointer (some ⟨p, 0, none⟩)), (8, .pointer (some ⟨p, 13, none⟩)), (9, .int .i64 (t.many : Int)), (10, .pointer (some ⟨p, 0, none⟩)), (11, .pointer (some ⟨p, 0, none⟩)), (12, .pointer (some ⟨p, 1, none⟩)), (13, .agg #[.string v.name, .bool v.inner, .slice v.outer.a v.outer.n v.outer.c, .slice v.params.a v.params.n v.params.c, .slice v.results.a v.results.n v.results.c, .slice v.locals.a v.locals.n v.locals.c, .slice v.code.a v.code.n v.code.c, .slice v.lines.a v.lines.n v.lines.c, .slice v.nodes.a v.nodes.n v.nodes.c, .slice v.at_.a v.at_.n v.at_.c, .slice v.live.a v.live.n v.live.c]), (14, .int .i64 ((v.nodes.n : Int) - 1)), (15, x.1), (16, .pointer (some ⟨p, 0, none⟩)), (17, .pointer (some ⟨p, 1, none⟩)), (18, .pointer (some ⟨p, 10, none⟩))] (all_cons (hI.good 0 1 (hD 0 (by decide)) rfl) (all_cons (hI.good 1 2 (hD 1 (by decide)) rfl) (all_cons (hI.good 2 3 (hD 2 (by decide)) rfl) (all_cons (hI.good 3 4 (hD 3 (by decide)) rfl) (all_cons (hI.good 4 5 (hD 4 (by decide)) rfl) (all_cons (hI.good 5 6 (hD 5 (by decide)) rfl) (all_cons (hI.good 6 7 (hD 6 (by decide)) rfl) (all_cons (hI.good 7 8 (hD 7 (by decide)) rfl) (all_cons (hI.good 8 9 (hD 8 (by decide)) rfl) (all_cons (hI.good 9 10 (hD 9 (by decide)) rfl) (all_cons (hI.good 10 11 (hD 10 (by decide)) rfl) (all_cons (hI.good 11 12 (hD 11 (by decide)) rfl) (all_cons (hI.good 12 13 (hD 12 (by decide)) rfl) (all_cons (hI.good 13 14 (hD 13 (by decide)) rfl) (all_cons (hI.good 14 15 (hD 14 (by decide)) rfl) (all_cons (hI.good 15 16 (hD 15 (by decide)) rfl) (all_cons (hI.good 16 17 (hD 16 (by decide)) rfl) (all_cons (hI.good 17 18 (hD 17 (by decide)) rfl) all_nil)))))))))))))))))) rfl
   have hW := hI.world
   clear hI
   subst hfr
   simp only [List.foldl_cons, List.foldl_nil, List.setIfInBounds_toArray, List.set_cons_succ, List.set_cons_zero]
   obtain ⟨⟨s, hu, ho, hc⟩, hg, hWW⟩ := hW.post (hD 14 (by decide))
   have hbx := hW.box
   rw [hD 18 (by decide), if_pos rfl] at hWW hbx
   rw [hu] at hbx
   have HF := Lib.hid (part_done (v' := { v with at_ := s }) (t' := (Fn.pAt t)) hH.out hg hc hWW (hbx.trans rfl) { hH.out.own.off (Off.grown (p := p) hg) (by have := hH.out.gp; omega) (by omega) with at_ := ho })
   clear hW hbx hWW hg hc ho hD hH HCu HK
   go_wp2
   go_end0
   exact ⟨rfl, HF.out⟩
def live_part_G (g p : Nat) (v : FnV) (t : Fn.St) (x : Value × World) : Nat → Value → Prop
 | 0, u => u = .pointer (some ⟨p, 0, none⟩)
 | 1, u => u = .pointer (some ⟨p, 0, none⟩)
 | 2, u => u = .pointer (some ⟨p, 0, none⟩)
 | 3, u => u = .pointer (some ⟨p, 0, none⟩)
 | 4, u => u = .pointer (some ⟨g, 0, none⟩)
 | 5, u => u = .pointer (some ⟨p, 0, none⟩)
 | 6, u => u = .pointer (some ⟨p, 0, none⟩)
 | 7, u => u = .pointer (some ⟨p, 13, none⟩)
 | 8, u => u = .int .i64 (t.many : Int)
 | 9, u => u = .pointer (some ⟨p, 0, none⟩)
 | 10, u => u = .pointer (some ⟨p, 0, none⟩)
 | 11, u => u = .pointer (some ⟨p, 1, none⟩)
 | 12, u => u = .agg #[.string v.name, .bool v.inner, .slice v.outer.a v.outer.n v.outer.c, .slice v.params.a v.params.n v.params.c, .slice v.results.a v.results.n v.results.c, .slice v.locals.a v.locals.n v.locals.c, .slice v.code.a v.code.n v.code.c, .slice v.lines.a v.lines.n v.lines.c, .slice v.nodes.a v.nodes.n v.nodes.c, .slice v.at_.a v.at_.n v.at_.c, .slice v.live.a v.live.n v.live.c]
 | 13, u => u = .int .i64 (t.f.slots : Int)
 | 14, u => u = x.1
 | 15, u => u = .pointer (some ⟨p, 0, none⟩)
 | 16, u => u = .pointer (some ⟨p, 1, none⟩)
 | 17, u => u = .pointer (some ⟨p, 11, none⟩)
 | _, _ => True
theorem live_part_mono (g p : Nat) (v : FnV) (t : Fn.St) {x y : Value × World} {D : Nat → Bool} (hm : D 14 = false) : ∀ j u, D j = true → live_part_G g p v t x j u → live_part_G g p v t y j u
 | 0, _, _, h => h
 | 1, _, _, h => h
 | 2, _, _, h => h
 | 3, _, _, h => h
 | 4, _, _, h => h
 | 5, _, _, h => h
 | 6, _, _, h => h
 | 7, _, _, h => h
 | 8, _, _, h => h
 | 9, _, _, h => h
 | 10, _, _, h => h
 | 11, _, _, h => h
 | 12, _, _, h => h
 | 13, _, _, h => h
 | 14, _, hj, _ => by rw [hm] at hj; cases hj
 | 15, _, _, h => h
 | 16, _, _, h => h
 | 17, _, _, h => h
 | 18, _, _, h => h
 | _ + 19, _, _, h => h
set_option maxHeartbeats 4000000 in
theorem live_part (g p q : Nat) (v : FnV) (t : Fn.St) (W : World) (h : TkAt g p v t W) (hq : PtAt q p W) (hqg : q ≠ g) (hqp : q ≠ p) (hm : t.many ≤ 2000) (hs : t.f.slots ≤ 1048576) (hT : Tab W) (hgT : 0 < W.heap.size) (hgn : g ≠ 0) :
   Calls Tryz.prog 179 #[.pointer (some ⟨q, 0, none⟩)] W (PartP g p (Fn.pLive t) W) := by
 have HSl := Lib.hid (fun W' (hB : Below W.heap.size W W') => fnslots_any v t.f W' (h.on hB).own.ok hs)
 have hgp : g ≠ p := by have := h.gp; omega
 have hgq : g ≠ q := fun e => hqg e.symm
 have HCu := Lib.hid h.cur
 have HK := Lib.hid (show ∀ W', Cur W' g t.s → Below W.heap.size W W' → Calls Tryz.prog 180 #[.pointer (some ⟨g, 0, none⟩), .int .i64 (t.many : Int), .int .i64 (t.f.slots : Int)] W' (fun e w2 => ∃ s : Sl3, e = .returned s.val ∧ w2.ownsRow (p + 1) 107 4 s.val (Mp.takeA t.s (t.many : Int) (t.f.slots : Int)).1.length (sets (Mp.takeA t.s (t.many : Int) (t.f.slots : Int)).1) ∧ Cur w2 g (Mp.takeA t.s (t.many : Int) (t.f.slots : Int)).2 ∧ W'.grownBy w2 (some g)) from fun W' hW hB => by
   have hlt := h.lt
   have hsz := hB.size
   refine (mptake_cur g t.s (t.many : Int) (t.f.slots : Int) W' hW (by omega) (tab_below hT hB hgT) (by omega) hgn).mono ?_
   rintro _ w2 ⟨v2, rfl, ho, hc2, hg2⟩
   obtain ⟨s, hsv⟩ := own_val ho
   rw [hsv] at ho ⊢
   exact ⟨s, rfl, ownsRow_base ho (by omega), hc2, hg2⟩)
 have hH := Lib.hid h
 have hC := pc_start (ic := 14) (is := 18) (k := 11) (R := fun u W' => ∃ s : Sl3, u = s.val ∧ W'.ownsRow (p + 1) 107 4 s.val (Mp.takeA t.s (t.many : Int) (t.f.slots : Int)).1.length (sets (Mp.takeA t.s (t.many : Int) (t.f.slots : Int)).1) ∧ Cur W' g (Mp.takeA t.s (t.many : Int) (t.f.slots : Int)).2) (g := g) (y := (undef, W)) hq h.box
 clear h hq
 go_enter Tryz.func179, Tryz.ntmps179
 refine region_k ((undef, W) : Value × World) 19 (fun x D W' => PcC 14 18 g p q 11 (tkCells g v t.marks t.many) W (fun u W' => ∃ s : Sl3, u = s.val ∧ W'.ownsRow (p + 1) 107 4 s.val (Mp.takeA t.s (t.many : Int) (t.f.slots : Int)).1.length (sets (Mp.takeA t.s (t.many : Int) (t.f.slots : Int)).1) ∧ Cur W' g (Mp.takeA t.s (t.many : Int) (t.f.slots : Int)).2) x D W') (live_part_G g p v t) (by kernel_rfl) (by kernel_rfl) (by kernel_rfl) rfl rfl hC ?_ ?_
 · refine ⟨?_, ?_, ?_, ?_, ?_, ?_, ?_, ?_, ?_, ?_, ?_, ?_, ?_, ?_, ?_, ?_, ?_, ?_, ?_, trivial⟩
   · intro x D a w hI hdep hD0 K hK
     have e0 : a.eval (.tmp 0) = .pointer (some ⟨q, 0, none⟩) := hI.read 0 rfl
     have z0 := hI.world.ptr
     refine ok_value (wanted_none rfl) (v := .pointer (some ⟨p, 0, none⟩)) ?_ (hK x _ _ (hI.world.up rfl rfl) (fun _ _ _ h => h) rfl)
     obtain ⟨ec, ef⟩ := ecs a; clear hI hdep hK; generalize a.eval = ρ at e0 ec ef ⊢; go_simp
   · intro x D a w hI hdep hD0 K hK
     have e0 : a.eval (.tmp 0) = .pointer (some ⟨q, 0, none⟩) := hI.read 0 rfl
     have z0 := hI.world.ptr
     refine ok_value (wanted_none rfl) (v := .pointer (some ⟨p, 0, none⟩)) ?_ (hK x _ _ (hI.world.up rfl rfl) (fun _ _ _ h => h) rfl)
     obtain ⟨ec, ef⟩ := ecs a; clear hI hdep hK; generalize a.eval = ρ at e0 ec ef ⊢; go_simp
   · intro x D a w hI hdep hD0 K hK
     have e2 : a.eval (.tmp 2) = .pointer (some ⟨p, 0, none⟩) := hI.good 1 2 (dep_of hdep 1 rfl) rfl
     refine ok_value (wanted_none rfl) (v := .pointer (some ⟨p, 0, none⟩)) ?_ (hK x _ _ (hI.world.up rfl rfl) (fun _ _ _ h => h) rfl)
     obtain ⟨ec, ef⟩ := ecs a; clear hI hdep hK; generalize a.eval = ρ at e2 ec ef ⊢; go_simp
   · intro x D a w hI hdep hD0 K hK
     have e3 : a.eval (.tmp 3) = .pointer (some ⟨p, 0, none⟩) := hI.good 2 3 (dep_of hdep 2 rfl) rfl
     refine ok_value (wanted_none rfl) (v := .pointer (some ⟨p, 0, none⟩)) ?_ (hK x _ _ (hI.world.up rfl rfl) (fun _ _ _ h => h) rfl)
     obtain ⟨ec, ef⟩ := ecs a; clear hI hdep hK; generalize a.eval = ρ at e3 ec ef ⊢; go_simp
   · intro x D a w hI hdep hD0 K hK
     have e4 : a.eval (.tmp 4) = .pointer (some ⟨p, 0, none⟩) := hI.good 3 4 (dep_of hdep 3 rfl) rfl
     have z0 : w.cell? ⟨p, 0, none⟩ = some (.pointer (some ⟨g, 0, none⟩)) := hI.world.cell (j := 0) (by decide)
     refine ok_value (wanted_none rfl) (v := .pointer (some ⟨g, 0, none⟩)) ?_ (hK x _ _ (hI.world.up rfl rfl) (fun _ _ _ h => h) rfl)
     obtain ⟨ec, ef⟩ := ecs a; clear hI hdep hK; generalize a.eval = ρ at e4 ec ef ⊢; go_simp
   · intro x D a w hI hdep hD0 K hK
     have e0 : a.eval (.tmp 0) = .pointer (some ⟨q, 0, none⟩) := hI.read 0 rfl
     have z0 := hI.world.ptr
     refine ok_value (wanted_none rfl) (v := .pointer (some ⟨p, 0, none⟩)) ?_ (hK x _ _ (hI.world.up rfl rfl) (fun _ _ _ h => h) rfl)
     obtain ⟨ec, ef⟩ := ecs a; clear hI hdep hK; generalize a.eval = ρ at e0 ec ef ⊢; go_simp
   · intro x D a w hI hdep hD0 K hK
     have e6 : a.eval (.tmp 6) = .pointer (some ⟨p, 0, none⟩) := hI.good 5 6 (dep_of hdep 5 rfl) rfl
     refine ok_value (wanted_none rfl) (v := .pointer (some ⟨p, 0, none⟩)) ?_ (hK x _ _ (hI.world.up rfl rfl) (fun _ _ _ h => h) rfl)
     obtain ⟨ec, ef⟩ := ecs a; clear hI hdep hK; generalize a.eval = ρ at e6 ec ef ⊢; go_simp
   · intro x D a w hI hdep hD0 K hK
     have e7 : a.eval (.tmp 7) = .pointer (some ⟨p, 0, none⟩) := hI.good 6 7 (dep_of hdep 6 rfl) rfl
     refine ok_value (wanted_none rfl) (v := .pointer (some ⟨p, 13, none⟩)) ?_ (hK x _ _ (hI.world.up rfl rfl) (fun _ _ _ h => h) rfl)
     obtain ⟨ec, ef⟩ := ecs a; clear hI hdep hK; generalize a.eval = ρ at e7 ec ef ⊢; go_simp
   · intro x D a w hI hdep hD0 K hK
     have e8 : a.eval (.tmp 8) = .pointer (some ⟨p, 13, none⟩) := hI.good 7 8 (dep_of hdep 7 rfl) rfl
     have z0 : w.cell? ⟨p, 13, none⟩ = some (.int .i64 (t.many : Int)) := hI.world.cell (j := 13) (by decide)
     refine ok_value (wanted_none rfl) (v := .int .i64 (t.many : Int)) ?_ (hK x _ _ (hI.world.up rfl rfl) (fun _ _ _ h => h) rfl)
     obtain ⟨ec, ef⟩ := ecs a; clear hI hdep hK; generalize a.eval = ρ at e8 ec ef ⊢; go_simp
   · intro x D a w hI hdep hD0 K hK
     have e0 : a.eval (.tmp 0) = .pointer (some ⟨q, 0, none⟩) := hI.read 0 rfl
     have z0 := hI.world.ptr
     refine ok_value (wanted_none rfl) (v := .pointer (some ⟨p, 0, none⟩)) ?_ (hK x _ _ (hI.world.up rfl rfl) (fun _ _ _ h => h) rfl)
     obtain ⟨ec, ef⟩ := ecs a; clear hI hdep hK; generalize a.eval = ρ at e0 ec ef ⊢; go_simp
   · intro x D a w hI hdep hD0 K hK
     have e10 : a.eval (.tmp 10) = .pointer (some ⟨p, 0, none⟩) := hI.good 9 10 (dep_of hdep 9 rfl) rfl
     refine ok_value (wanted_none rfl) (v := .pointer (some ⟨p, 0, none⟩)) ?_ (hK x _ _ (hI.world.up rfl rfl) (fun _ _ _ h => h) rfl)
     obtain ⟨ec, ef⟩ := ecs a; clear hI hdep hK; generalize a.eval = ρ at e10 ec ef ⊢; go_simp
   · intro x D a w hI hdep hD0 K hK
     have e11 : a.eval (.tmp 11) = .pointer (some ⟨p, 0, none⟩) := hI.good 10 11 (dep_of hdep 10 rfl) rfl
     refine ok_value (wanted_none rfl) (v := .pointer (some ⟨p, 1, none⟩)) ?_ (hK x _ _ (hI.world.up rfl rfl) (fun _ _ _ h => h) rfl)
     obtain ⟨ec, ef⟩ := ecs a; clear hI hdep hK; generalize a.eval = ρ at e11 ec ef ⊢; go_simp
   · intro x D a w hI hdep hD0 K hK
     have e12 : a.eval (.tmp 12) = .pointer (some ⟨p, 1, none⟩) := hI.good 11 12 (dep_of hdep 11 rfl) rfl
     have hst := Bool.eq_false_iff.2 (fun hq => absurd (hI.shut 13 12 (hI.shut 14 13 (hI.shut 18 14 hq rfl) rfl) rfl) (by rw [hD0]; decide))
     have z0 : w.cell? ⟨p, 1, none⟩ = some (.string v.name) := hI.world.old hst 1
     have z1 : w.cell? ⟨p, 2, none⟩ = some (.bool v.inner) := hI.world.old hst 2
     have z2 : w.cell? ⟨p, 3, none⟩ = some (.slice v.outer.a v.outer.n v.outer.c) := hI.world.old hst 3
     have z3 : w.cell? ⟨p, 4, none⟩ = some (.slice v.params.a v.params.n v.params.c) := hI.world.old hst 4
     have z4 : w.cell? ⟨p, 5, none⟩ = some (.slice v.results.a v.results.n v.results.c) := hI.world.old hst 5
     have z5 : w.cell? ⟨p, 6, none⟩ = some (.slice v.locals.a v.locals.n v.locals.c) := hI.world.old hst 6
     have z6 : w.cell? ⟨p, 7, none⟩ = some (.slice v.code.a v.code.n v.code.c) := hI.world.old hst 7
     have z7 : w.cell? ⟨p, 8, none⟩ = some (.slice v.lines.a v.lines.n v.lines.c) := hI.world.old hst 8
     have z8 : w.cell? ⟨p, 9, none⟩ = some (.slice v.nodes.a v.nodes.n v.nodes.c) := hI.world.old hst 9
     have z9 : w.cell? ⟨p, 10, none⟩ = some (.slice v.at_.a v.at_.n v.at_.c) := hI.world.old hst 10
     have z10 : w.cell? ⟨p, 11, none⟩ = some (.slice v.live.a v.live.n v.live.c) := hI.world.old hst 11
     refine ok_value (wanted_none rfl) (v := .agg #[.string v.name, .bool v.inner, .slice v.outer.a v.outer.n v.outer.c, .slice v.params.a v.params.n v.params.c, .slice v.results.a v.results.n v.results.c, .slice v.locals.a v.locals.n v.locals.c, .slice v.code.a v.code.n v.code.c, .slice v.lines.a v.lines.n v.lines.c, .slice v.nodes.a v.nodes.n v.nodes.c, .slice v.at_.a v.at_.n v.at_.c, .slice v.live.a v.live.n v.live.c]) ?_ (hK x _ _ (hI.world.up rfl rfl) (fun _ _ _ h => h) rfl)
     clear hst
     obtain ⟨ec, ef⟩ := ecs a; clear hI hdep hK; generalize a.eval = ρ at e12 ec ef ⊢; go_simp
   · intro x D a w hI hdep hD0 K hK
     have e13 : a.eval (.tmp 13) = .agg #[.string v.name, .bool v.inner, .slice v.outer.a v.outer.n v.outer.c, .slice v.params.a v.params.n v.params.c, .slice v.results.a v.results.n v.results.c, .slice v.locals.a v.locals.n v.locals.c, .slice v.code.a v.code.n v.code.c, .slice v.lines.a v.lines.n v.lines.c, .slice v.nodes.a v.nodes.n v.nodes.c, .slice v.at_.a v.at_.n v.at_.c, .slice v.live.a v.live.n v.live.c] := hI.good 12 13 (dep_of hdep 12 rfl) rfl
     refine ok_call (wanted_none rfl) (f := 113) (args := #[.agg #[.string v.name, .bool v.inner, .slice v.outer.a v.outer.n v.outer.c, .slice v.params.a v.params.n v.params.c, .slice v.results.a v.results.n v.results.c, .slice v.locals.a v.locals.n v.locals.c, .slice v.code.a v.code.n v.code.c, .slice v.lines.a v.lines.n v.lines.c, .slice v.nodes.a v.nodes.n v.nodes.c, .slice v.at_.a v.at_.n v.at_.c, .slice v.live.a v.live.n v.live.c]]) ?_ (HSl.out w (hI.world.pre (hI.not_up hD0 14 rfl))) ?_
     · obtain ⟨ec, ef⟩ := ecs a; clear hI hdep hK; generalize a.eval = ρ at e13 ec ef ⊢; go_simp
     · rintro e w2 ⟨rfl, hb2⟩
       exact ⟨_, rfl, hK x _ _ ((hI.world.below (hI.not_up hD0 14 rfl) hb2).up rfl rfl) (fun _ _ _ h => h) rfl⟩
   · intro x D a w hI hdep hD0 K hK
     have e5 : a.eval (.tmp 5) = .pointer (some ⟨g, 0, none⟩) := hI.good 4 5 (dep_of hdep 4 rfl) rfl
     have e9 : a.eval (.tmp 9) = .int .i64 (t.many : Int) := hI.good 8 9 (dep_of hdep 8 rfl) rfl
     have e14 : a.eval (.tmp 14) = .int .i64 (t.f.slots : Int) := hI.good 13 14 (dep_of hdep 13 rfl) rfl
     refine ok_call (wanted_none rfl) (f := 180) (args := #[.pointer (some ⟨g, 0, none⟩), .int .i64 (t.many : Int), .int .i64 (t.f.slots : Int)]) ?_ (HK.out w (cur_grown HCu.out (hI.world.pre hD0)) (hI.world.pre hD0)) ?_
     · obtain ⟨ec, ef⟩ := ecs a; clear hI hdep hK; generalize a.eval = ρ at e5 e9 e14 ec ef ⊢; go_simp
     · rintro e w2 ⟨s, rfl, ho, hc2, hg2⟩
       exact ⟨_, rfl, hK (s.val, w2) _ _ (hI.world.called hD0 (hI.not_up hD0 18 rfl) rfl hgp hgq ⟨s, rfl, ho, hc2⟩ hg2) (live_part_mono g p v t hD0) rfl⟩
   · intro x D a w hI hdep hD0 K hK
     have e1 : a.eval (.tmp 1) = .pointer (some ⟨p, 0, none⟩) := hI.good 0 1 (dep_of hdep 0 rfl) rfl
     refine ok_value (wanted_none rfl) (v := .pointer (some ⟨p, 0, none⟩)) ?_ (hK x _ _ (hI.world.up rfl rfl) (fun _ _ _ h => h) rfl)
     obtain ⟨ec, ef⟩ := ecs a; clear hI hdep hK; generalize a.eval = ρ at e1 ec ef ⊢; go_simp
   · intro x D a w hI hdep hD0 K hK
     have e16 : a.eval (.tmp 16) = .pointer (some ⟨p, 0, none⟩) := hI.good 15 16 (dep_of hdep 15 rfl) rfl
     refine ok_value (wanted_none rfl) (v := .pointer (some ⟨p, 1, none⟩)) ?_ (hK x _ _ (hI.world.up rfl rfl) (fun _ _ _ h => h) rfl)
     obtain ⟨ec, ef⟩ := ecs a; clear hI hdep hK; generalize a.eval = ρ at e16 ec ef ⊢; go_simp
   · intro x D a w hI hdep hD0 K hK
     have e17 : a.eval (.tmp 17) = .pointer (some ⟨p, 1, none⟩) := hI.good 16 17 (dep_of hdep 16 rfl) rfl
     refine ok_value (wanted_none rfl) (v := .pointer (some ⟨p, 11, none⟩)) ?_ (hK x _ _ (hI.world.up rfl rfl) (fun _ _ _ h => h) rfl)
     obtain ⟨ec, ef⟩ := ecs a; clear hI hdep hK; generalize a.eval = ρ at e17 ec ef ⊢; go_simp
   · intro x D a w hI hdep hD0 K hK
     have e18 : a.eval (.tmp 18) = .pointer (some ⟨p, 11, none⟩) := hI.good 17 18 (dep_of hdep 17 rfl) rfl
     have e15 : a.eval (.tmp 15) = x.1 := hI.good 14 15 (dep_of hdep 14 rfl) rfl
     have hc := dep_of hdep 14 rfl
     have z0 : w.cell? ⟨p, 11, none⟩ = some (.slice v.live.a v.live.n v.live.c) := hI.world.old hD0 11
     have z1 := hI.world.frozen 11
     refine ok_store (wanted_none rfl) (w' := w.setCell ⟨p, 11, none⟩ x.1) ?_ (hK x undef _ (hI.world.stored hc hD0 rfl hqp) (fun _ _ _ h => h) trivial)
     obtain ⟨s0, hu⟩ : ∃ s0 : Sl3, x.1 = .slice s0.a s0.n s0.c := (hI.world.post hc).1.elim (fun s h => ⟨s, h.1⟩)
     rw [hu] at e15 ⊢
     clear hu
     obtain ⟨ec, ef⟩ := ecs a; clear hI hdep hK; generalize a.eval = ρ at e18 e15 ec ef ⊢; go_simp
 · intro x D a w2 hI hD
   have hfr := hI.frame [(1, .pointer (some ⟨p, 0, none⟩)), (2, .pointer (some ⟨p, 0, none⟩)), (3, .pointer (some ⟨p, 0, none⟩)), (4, .pointer (some ⟨p, 0, none⟩)), (5, .pointer (some ⟨g, 0, none⟩)), (6, .pointer (some ⟨p, 0, none⟩)), (7, .pointer (some ⟨p, 0, none⟩)), (8, .pointer (some ⟨p, 13, none⟩)), (9, .int .i64 (t.many : Int)), (10, .pointer (some ⟨p, 0, none⟩)), (11, .pointer (some ⟨p, 0, none⟩)), (12, .pointer (some ⟨p, 1, none⟩)), (13, .agg #[.string v.name, .bool v.inner, .slice v.outer.a v.outer.n v.outer.c, .slice v.params.a v.params.n v.params.c, .slice v.results.a v.results.n v.results.c, .slice v.locals.a v.locals.n v.locals.c, .slice v.code.a v.code.n v.code.c, .slice v.lines.a v.lines.n v.lines.c, .slice v.nodes.a v.nodes.n v.nodes.c, .slice v.at_.a v.at_.n v.at_.c, .slice v.live.a v.live.n v.live.c]), (14, .int .i64 (t.f.slots : Int)), (15, x.1), (16, .pointer (some ⟨p, 0, none⟩)), (17, .pointer (some ⟨p, 1, none⟩)), (18, .pointer (some ⟨p, 11, none⟩))] (all_cons (hI.good 0 1 (hD 0 (by decide)) rfl) (all_cons (hI.good 1 2 (hD 1 (by decide)) rfl) (all_cons (hI.good 2 3 (hD 2 (by decide)) rfl) (all_cons (hI.good 3 4 (hD 3 (by decide)) rfl) (all_cons (hI.good 4 5 (hD 4 (by decide)) rfl) (all_cons (hI.good 5 6 (hD 5 (by decide)) rfl) (all_cons (hI.good 6 7 (hD 6 (by decide)) rfl) (all_cons (hI.good 7 8 (hD 7 (by decide)) rfl) (all_cons (hI.good 8 9 (hD 8 (by decide)) rfl) (all_cons (hI.good 9 10 (hD 9 (by decide)) rfl) (all_cons (hI.good 10 11 (hD 10 (by decide)) rfl) (all_cons (hI.good 11 12 (hD 11 (by decide)) rfl) (all_cons (hI.good 12 13 (hD 12 (by decide)) rfl) (all_cons (hI.good 13 14 (hD 13 (by decide)) rfl) (all_cons (hI.good 14 15 (hD 14 (by decide)) rfl) (all_cons (hI.good 15 16 (hD 15 (by decide)) rfl) (all_cons (hI.good 16 17 (hD 16 (by decide)) rfl) (all_cons (hI.good 17 18 (hD 17 (by decide)) rfl) all_nil)))))))))))))))))) rfl
   have hW := hI.world
   clear hI
   subst hfr
   simp only [List.foldl_cons, List.foldl_nil, List.setIfInBounds_toArray, List.set_cons_succ, List.set_cons_zero]
   obtain ⟨⟨s, hu, ho, hc⟩, hg, hWW⟩ := hW.post (hD 14 (by decide))
   have hbx := hW.box
   rw [hD 18 (by decide), if_pos rfl] at hWW hbx
   rw [hu] at hbx
   have HF := Lib.hid (part_done (v' := { v with live := s }) (t' := (Fn.pLive t)) hH.out hg hc hWW (hbx.trans rfl) { hH.out.own.off (Off.grown (p := p) hg) (by have := hH.out.gp; omega) (by omega) with live := ho })
   clear hW hbx hWW hg hc ho hD hH HCu HK
   go_wp2
   go_end0
   exact ⟨rfl, HF.out⟩
end Go.Proofs.YtdopheoedpldiaaGreatDoor
