/-
 A list of types taken into its place in the struct, by the function that types makes for it. Conditions: a cursor that a call made; no more than 2^20 types.
-/
import Derived.Test.YtdopheoedpldiaaGreatDoorFnPuk
import Derived.Test.YtdopheoedpldiaaGreatDoorSiTk
set_option maxRecDepth 100000
namespace Go.Proofs.YtdopheoedpldiaaGreatDoor
open Go.RowKit
def BoxV (b : Nat) (ty : TypeId) (u : Value) (W : World) : Prop := W.heap[b]? = some (.cells #[u] ty (0, 0))
structure PlC (g p q k bm bt : Nat) (most : Int) (cs : Array Value) (wd : World) (R : Value → World → Prop) (x : Value × World) (D : Nat → Bool) (W : World) : Prop where
 base : PcC 6 8 g p q k cs wd R x D W
 m : BoxV bm 3 (.int .i64 most) W
 t : BoxV bt 182 (.pointer (some ⟨p, k, none⟩)) W
section
variable {g p q k bm bt : Nat} {most : Int} {cs : Array Value} {wd W : World} {R : Value → World → Prop} {x : Value × World} {D : Nat → Bool}
theorem PlC.up (h : PlC g p q k bm bt most cs wd R x D W) {i : Nat} (h1 : (6 == i) = false) (h2 : (8 == i) = false) : PlC g p q k bm bt most cs wd R x (add D i) W := ⟨h.base.up h1 h2, h.m, h.t⟩
theorem PlC.mcell (h : PlC g p q k bm bt most cs wd R x D W) : W.cell? ⟨bm, 0, none⟩ = some (.int .i64 most) := cell_of_row W bm 0 _ _ _ h.m
theorem PlC.tcell (h : PlC g p q k bm bt most cs wd R x D W) : W.cell? ⟨bt, 0, none⟩ = some (.pointer (some ⟨p, k, none⟩)) := cell_of_row W bt 0 _ _ _ h.t
theorem PlC.called (h : PlC g p q k bm bt most cs wd R x D W) (hc : D 6 = false) (hs : D 8 = false) (hi : (8 == 6) = false) (hgp : g ≠ p) (hgq : g ≠ q) (hgm : g ≠ bm) (hgt : g ≠ bt) {v : Value} {W' : World} (hR : R v W') (hg : W.grownBy W' (some g)) : PlC g p q k bm bt most cs wd R (v, W') (add D 6) W' :=
 ⟨h.base.called hc hs hi hgp hgq hR hg, (hg.block bm (heap_lt h.m) (fun e => by injection e with e; exact hgm e.symm)).trans h.m, (hg.block bt (heap_lt h.t) (fun e => by injection e with e; exact hgt e.symm)).trans h.t⟩
theorem PlC.stored (h : PlC g p q k bm bt most cs wd R x D W) (hc : D 6 = true) (hs : D 8 = false) (hi : (6 == 8) = false) (hqp : q ≠ p) (hmp : bm ≠ p) (htp : bt ≠ p) : PlC g p q k bm bt most cs wd R x (add D 8) (W.setCell ⟨p, k, none⟩ x.1) :=
 ⟨h.base.stored hc hs hi hqp, (Below.heap_setCell W ⟨p, k, none⟩ x.1 bm hmp).trans h.m, (Below.heap_setCell W ⟨p, k, none⟩ x.1 bt htp).trans h.t⟩
theorem pl_start {y : Value × World} (hq : PtAt q p wd) (hb : wd.heap[p]? = some (.cells cs 157 (0, 0))) (hm : BoxV bm 3 (.int .i64 most) wd) (ht : BoxV bt 182 (.pointer (some ⟨p, k, none⟩)) wd) : PlC g p q k bm bt most cs wd R y (fun _ => false) wd.drew :=
 ⟨pc_start hq hb, hm, ht⟩
end
def list_G (g p k : Nat) (most : Int) (x : Value × World) : Nat → Value → Prop
 | 0, u => u = .pointer (some ⟨p, k, none⟩)
 | 1, u => u = .pointer (some ⟨p, 0, none⟩)
 | 2, u => u = .pointer (some ⟨p, 0, none⟩)
 | 3, u => u = .pointer (some ⟨p, 0, none⟩)
 | 4, u => u = .pointer (some ⟨g, 0, none⟩)
 | 5, u => u = .int .i64 most
 | 6, u => u = x.1
 | 7, u => u = .pointer (some ⟨p, k, none⟩)
 | _, _ => True
theorem list_mono (g p k : Nat) (most : Int) {x y : Value × World} {D : Nat → Bool} (hm : D 6 = false) : ∀ j u, D j = true → list_G g p k most x j u → list_G g p k most y j u
 | 0, _, _, h => h
 | 1, _, _, h => h
 | 2, _, _, h => h
 | 3, _, _, h => h
 | 4, _, _, h => h
 | 5, _, _, h => h
 | 6, _, hj, _ => by rw [hm] at hj; cases hj
 | 7, _, _, h => h
 | 8, _, _, h => h
 | _ + 9, _, _, h => h
set_option maxHeartbeats 4000000 in
theorem tklist_any (g p q k bm bt : Nat) (most : Int) (v : FnV) (t : Fn.St) (W : World) (h : TkAt g p v t W) (hq : PtAt q p W) (hqg : q ≠ g) (hqp : q ≠ p) (hm : BoxV bm 3 (.int .i64 most) W) (ht : BoxV bt 182 (.pointer (some ⟨p, k, none⟩)) W)
   (hgm : g ≠ bm) (hgt : g ≠ bt) (hmp : bm ≠ p) (htp : bt ≠ p) (hk0 : k ≠ 0) (a0 : Option Addr) (n0 c0 : Nat) (hka : (tkCells g v t.marks t.many)[k]? = some (.slice a0 n0 c0)) (h0 : 0 ≤ most) (h1 : most ≤ 1048576) :
   Calls Tryz.prog 167 #[.pointer (some ⟨q, 0, none⟩), .pointer (some ⟨bm, 0, none⟩), .pointer (some ⟨bt, 0, none⟩)] W fun e W' => e = .returned (.tuple #[]) ∧ ∃ (s : Sl3) (W1 : World), W1.ownsRow (p + 1) 99 1 s.val (Si.take t.s most).1.length (vs (Si.take t.s most).1) ∧ Cur W1 g (Si.take t.s most).2 ∧ W.grownBy W1 (some g) ∧ W' = W1.setCell ⟨p, k, none⟩ s.val := by
 have hgp : g ≠ p := by have := h.gp; omega
 have hgq : g ≠ q := fun e => hqg e.symm
 have HCu := Lib.hid h.cur
 have HK := Lib.hid (show ∀ W', Cur W' g t.s → Below W.heap.size W W' → Calls Tryz.prog 168 #[.pointer (some ⟨g, 0, none⟩), .int .i64 most] W' (fun e w2 => ∃ s : Sl3, e = .returned s.val ∧ w2.ownsRow (p + 1) 99 1 s.val (Si.take t.s most).1.length (vs (Si.take t.s most).1) ∧ Cur w2 g (Si.take t.s most).2 ∧ W'.grownBy w2 (some g)) from fun W' hW hB => by
   have hlt := h.lt
   have hsz := hB.size
   refine (sitake_cur g t.s most W' hW h0 h1).mono ?_
   rintro _ w2 ⟨v2, rfl, ho, hc2, hg2⟩
   obtain ⟨s, hsv⟩ := own_val ho
   rw [hsv] at ho ⊢
   exact ⟨s, rfl, ownsRow_base ho (by omega), hc2, hg2⟩)
 have hC := pl_start (g := g) (R := fun u W' => ∃ s : Sl3, u = s.val ∧ W'.ownsRow (p + 1) 99 1 s.val (Si.take t.s most).1.length (vs (Si.take t.s most).1) ∧ Cur W' g (Si.take t.s most).2) (y := (undef, W)) hq h.box hm ht
 clear h hq hm ht
 go_enter Tryz.func167, Tryz.ntmps167
 refine region_k ((undef, W) : Value × World) 11 (fun x D W' => PlC g p q k bm bt most (tkCells g v t.marks t.many) W (fun u W' => ∃ s : Sl3, u = s.val ∧ W'.ownsRow (p + 1) 99 1 s.val (Si.take t.s most).1.length (vs (Si.take t.s most).1) ∧ Cur W' g (Si.take t.s most).2) x D W') (list_G g p k most) (by kernel_rfl) (by kernel_rfl) (by kernel_rfl) rfl rfl hC ?_ ?_
 · refine ⟨?_, ?_, ?_, ?_, ?_, ?_, ?_, ?_, ?_, trivial⟩
   · intro x D a w hI hdep hD0 K hK
     have e2 : a.eval (.tmp 2) = .pointer (some ⟨bt, 0, none⟩) := hI.read 2 rfl
     have z0 := hI.world.tcell
     refine ok_value (wanted_none rfl) (v := .pointer (some ⟨p, k, none⟩)) ?_ (hK x _ _ (hI.world.up rfl rfl) (fun _ _ _ h => h) rfl)
     obtain ⟨ec, ef⟩ := ecs a; clear hI hdep hK; generalize a.eval = ρ at e2 ec ef ⊢; go_simp
   · intro x D a w hI hdep hD0 K hK
     have e0 : a.eval (.tmp 0) = .pointer (some ⟨q, 0, none⟩) := hI.read 0 rfl
     have z0 := hI.world.base.ptr
     refine ok_value (wanted_none rfl) (v := .pointer (some ⟨p, 0, none⟩)) ?_ (hK x _ _ (hI.world.up rfl rfl) (fun _ _ _ h => h) rfl)
     obtain ⟨ec, ef⟩ := ecs a; clear hI hdep hK; generalize a.eval = ρ at e0 ec ef ⊢; go_simp
   · intro x D a w hI hdep hD0 K hK
     have e4 : a.eval (.tmp 4) = .pointer (some ⟨p, 0, none⟩) := hI.good 1 4 (dep_of hdep 1 rfl) rfl
     refine ok_value (wanted_none rfl) (v := .pointer (some ⟨p, 0, none⟩)) ?_ (hK x _ _ (hI.world.up rfl rfl) (fun _ _ _ h => h) rfl)
     obtain ⟨ec, ef⟩ := ecs a; clear hI hdep hK; generalize a.eval = ρ at e4 ec ef ⊢; go_simp
   · intro x D a w hI hdep hD0 K hK
     have e5 : a.eval (.tmp 5) = .pointer (some ⟨p, 0, none⟩) := hI.good 2 5 (dep_of hdep 2 rfl) rfl
     refine ok_value (wanted_none rfl) (v := .pointer (some ⟨p, 0, none⟩)) ?_ (hK x _ _ (hI.world.up rfl rfl) (fun _ _ _ h => h) rfl)
     obtain ⟨ec, ef⟩ := ecs a; clear hI hdep hK; generalize a.eval = ρ at e5 ec ef ⊢; go_simp
   · intro x D a w hI hdep hD0 K hK
     have e6 : a.eval (.tmp 6) = .pointer (some ⟨p, 0, none⟩) := hI.good 3 6 (dep_of hdep 3 rfl) rfl
     have z0 : w.cell? ⟨p, 0, none⟩ = some (.pointer (some ⟨g, 0, none⟩)) := hI.world.base.cell (j := 0) hk0
     refine ok_value (wanted_none rfl) (v := .pointer (some ⟨g, 0, none⟩)) ?_ (hK x _ _ (hI.world.up rfl rfl) (fun _ _ _ h => h) rfl)
     obtain ⟨ec, ef⟩ := ecs a; clear hI hdep hK; generalize a.eval = ρ at e6 ec ef ⊢; go_simp
   · intro x D a w hI hdep hD0 K hK
     have e1 : a.eval (.tmp 1) = .pointer (some ⟨bm, 0, none⟩) := hI.read 1 rfl
     have z0 := hI.world.mcell
     refine ok_value (wanted_none rfl) (v := .int .i64 most) ?_ (hK x _ _ (hI.world.up rfl rfl) (fun _ _ _ h => h) rfl)
     obtain ⟨ec, ef⟩ := ecs a; clear hI hdep hK; generalize a.eval = ρ at e1 ec ef ⊢; go_simp
   · intro x D a w hI hdep hD0 K hK
     have e7 : a.eval (.tmp 7) = .pointer (some ⟨g, 0, none⟩) := hI.good 4 7 (dep_of hdep 4 rfl) rfl
     have e8 : a.eval (.tmp 8) = .int .i64 most := hI.good 5 8 (dep_of hdep 5 rfl) rfl
     refine ok_call (wanted_none rfl) (f := 168) (args := #[.pointer (some ⟨g, 0, none⟩), .int .i64 most]) ?_ (HK.out w (cur_grown HCu.out (hI.world.base.pre hD0)) (hI.world.base.pre hD0)) ?_
     · obtain ⟨ec, ef⟩ := ecs a; clear hI hdep hK; generalize a.eval = ρ at e7 e8 ec ef ⊢; go_simp
     · rintro e w2 ⟨s, rfl, ho, hc2, hg2⟩
       exact ⟨_, rfl, hK (s.val, w2) _ _ (hI.world.called hD0 (hI.not_up hD0 8 rfl) rfl hgp hgq hgm hgt ⟨s, rfl, ho, hc2⟩ hg2) (list_mono g p k most hD0) rfl⟩
   · intro x D a w hI hdep hD0 K hK
     have e3 : a.eval (.tmp 3) = .pointer (some ⟨p, k, none⟩) := hI.good 0 3 (dep_of hdep 0 rfl) rfl
     refine ok_value (wanted_none rfl) (v := .pointer (some ⟨p, k, none⟩)) ?_ (hK x _ _ (hI.world.up rfl rfl) (fun _ _ _ h => h) rfl)
     obtain ⟨ec, ef⟩ := ecs a; clear hI hdep hK; generalize a.eval = ρ at e3 ec ef ⊢; go_simp
   · intro x D a w hI hdep hD0 K hK
     have e10 : a.eval (.tmp 10) = .pointer (some ⟨p, k, none⟩) := hI.good 7 10 (dep_of hdep 7 rfl) rfl
     have e9 : a.eval (.tmp 9) = x.1 := hI.good 6 9 (dep_of hdep 6 rfl) rfl
     have hc := dep_of hdep 6 rfl
     have z0 : w.cell? ⟨p, k, none⟩ = some (.slice a0 n0 c0) := (hI.world.base.old hD0 k).trans hka
     have z1 := hI.world.base.frozen k
     refine ok_store (wanted_none rfl) (w' := w.setCell ⟨p, k, none⟩ x.1) ?_ (hK x undef _ (hI.world.stored hc hD0 rfl hqp hmp htp) (fun _ _ _ h => h) trivial)
     obtain ⟨s0, hu⟩ : ∃ s0 : Sl3, x.1 = .slice s0.a s0.n s0.c := (hI.world.base.post hc).1.elim (fun s h => ⟨s, h.1⟩)
     rw [hu] at e9 ⊢
     clear hu
     obtain ⟨ec, ef⟩ := ecs a; clear hI hdep hK; generalize a.eval = ρ at e10 e9 ec ef ⊢; go_simp
 · intro x D a w2 hI hD
   have hfr := hI.frame [(3, .pointer (some ⟨p, k, none⟩)), (4, .pointer (some ⟨p, 0, none⟩)), (5, .pointer (some ⟨p, 0, none⟩)), (6, .pointer (some ⟨p, 0, none⟩)), (7, .pointer (some ⟨g, 0, none⟩)), (8, .int .i64 most), (9, x.1), (10, .pointer (some ⟨p, k, none⟩))] (all_cons (hI.good 0 3 (hD 0 (by decide)) rfl) (all_cons (hI.good 1 4 (hD 1 (by decide)) rfl) (all_cons (hI.good 2 5 (hD 2 (by decide)) rfl) (all_cons (hI.good 3 6 (hD 3 (by decide)) rfl) (all_cons (hI.good 4 7 (hD 4 (by decide)) rfl) (all_cons (hI.good 5 8 (hD 5 (by decide)) rfl) (all_cons (hI.good 6 9 (hD 6 (by decide)) rfl) (all_cons (hI.good 7 10 (hD 7 (by decide)) rfl) all_nil)))))))) rfl
   have hW := hI.world
   clear hI
   subst hfr
   simp only [List.foldl_cons, List.foldl_nil, List.setIfInBounds_toArray, List.set_cons_succ, List.set_cons_zero]
   obtain ⟨⟨s, hu, ho, hc⟩, hg, hWW⟩ := hW.base.post (hD 6 (by decide))
   rw [hD 8 (by decide), if_pos rfl] at hWW
   rw [hu] at hWW
   have HF := Lib.hid (show ∃ (s : Sl3) (W1 : World), W1.ownsRow (p + 1) 99 1 s.val (Si.take t.s most).1.length (vs (Si.take t.s most).1) ∧ Cur W1 g (Si.take t.s most).2 ∧ W.grownBy W1 (some g) ∧ w2 = W1.setCell ⟨p, k, none⟩ s.val from ⟨s, x.2, ho, hc, hg, hWW⟩)
   clear hW hWW hg hc ho hD HCu HK hu
   go_wp2
   go_end0
   exact ⟨rfl, HF.out⟩
end Go.Proofs.YtdopheoedpldiaaGreatDoor
