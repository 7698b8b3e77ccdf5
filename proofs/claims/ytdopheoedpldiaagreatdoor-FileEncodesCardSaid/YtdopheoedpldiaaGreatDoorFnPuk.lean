/-
 The parts of a function that ask whether what was taken may be. Conditions: a cursor that a call made.
-/
import Derived.Test.YtdopheoedpldiaaGreatDoorFnPt
set_option maxRecDepth 100000
namespace Go.Proofs.YtdopheoedpldiaaGreatDoor
open Go.RowKit
structure PmC (ic g p q : Nat) (cs : Array Value) (wd : World) (R : World → Prop) (D : Nat → Bool) (W : World) : Prop where
 pre : D ic = false → Below wd.heap.size wd W
 post : D ic = true → R W ∧ wd.grownBy W (some g)
 pt : PtAt q p W
 box : W.heap[p]? = some (.cells cs 157 (0, 0))
section
variable {ic g p q : Nat} {cs : Array Value} {wd W : World} {R : World → Prop} {D : Nat → Bool}
theorem PmC.up (h : PmC ic g p q cs wd R D W) {i : Nat} (h1 : (ic == i) = false) : PmC ic g p q cs wd R (add D i) W :=
 ⟨by rw [up_other h1]; exact h.pre, by rw [up_other h1]; exact h.post, h.pt, h.box⟩
theorem PmC.ptr (h : PmC ic g p q cs wd R D W) : W.cell? ⟨q, 0, none⟩ = some (.pointer (some ⟨p, 0, none⟩)) := h.pt.cell
theorem PmC.cell (h : PmC ic g p q cs wd R D W) (j : Nat) : W.cell? ⟨p, j, none⟩ = cs[j]? := cell_of_row W p j _ _ _ h.box
theorem PmC.below (h : PmC ic g p q cs wd R D W) (hc : D ic = false) {W' : World} (hb : Below W.heap.size W W') : PmC ic g p q cs wd R D W' :=
 ⟨fun _ => below_self (h.pre hc) (hb.mono (Nat.le_refl _)), (fun e => by rw [hc] at e; cases e), (hb.block q h.pt.lt).trans h.pt, (hb.block p (heap_lt h.box)).trans h.box⟩
theorem PmC.called (h : PmC ic g p q cs wd R D W) (hc : D ic = false) (hgp : g ≠ p) (hgq : g ≠ q) {W' : World} (hR : R W') (hg : W.grownBy W' (some g)) : PmC ic g p q cs wd R (add D ic) W' := by
 have hb := h.pre hc
 refine ⟨(fun e => by rw [up_self] at e; cases e), fun _ => ⟨hR, Lib.grownBy_trans ⟨hb.os, hb.tape, hb.output, hb.size, fun j hj _ => hb.block j hj⟩ hg⟩, ?_, ?_⟩
 · exact (hg.block q h.pt.lt (fun e => by injection e with e; exact hgq e.symm)).trans h.pt
 · exact (hg.block p (heap_lt h.box) (fun e => by injection e with e; exact hgp e.symm)).trans h.box
theorem pm_start (hq : PtAt q p wd) (hb : wd.heap[p]? = some (.cells cs 157 (0, 0))) : PmC ic g p q cs wd R (fun _ => false) wd.drew :=
 ⟨fun _ => (Below.refl _ _).drew, (fun e => by cases e), hq, hb⟩
end
theorem part_at {g p k : Nat} {v v' : FnV} {t t' : Fn.St} {u : Value} {W W1 W2 : World} (h : TkAt g p v t W) (hg : W.grownBy W1 (some g)) (hc : Cur W1 g t'.s) (h2 : W2 = W1.setCell ⟨p, k, none⟩ u)
   (hb : W2.heap[p]? = some (.cells (tkCells g v' t'.marks t'.many) 157 (0, 0))) (ho : FnOwn W1 (p + 1) v' t'.f) (h0 : (t.f.code = [] → v.code = .nil) → t'.f.code = [] → v'.code = .nil := by exact fun h => h) : TkAt g p v' t' W2 ∧ Off g p W W2 := by
 subst h2
 have hs := Off.set g p k u W1
 have hgp := h.gp
 exact ⟨⟨hb, hc.kept (row := some p) (Lib.grownBy_setB (World.grownBy.refl _ _) _ _) (fun b hb => by injection hb with hb; omega), ho.off hs (by omega) (by omega), hgp, h0 h.code0⟩, (Off.grown hg).trans hs⟩
theorem textA_small (s : List Nat × Nat) : (textA s 12).1.size ≤ 12 := by
 have hn := num_most s (most := 12) (by decide)
 unfold textA textB
 simp only
 split
 · exact Nat.zero_le _
 · unfold str
   simp [ByteArray.size]
   omega
def name_G (g p : Nat) (x : Value × World) : Nat → Value → Prop
 | 0, u => u = .pointer (some ⟨p, 0, none⟩)
 | 1, u => u = .pointer (some ⟨p, 0, none⟩)
 | 2, u => u = .pointer (some ⟨p, 0, none⟩)
 | 3, u => u = .pointer (some ⟨p, 0, none⟩)
 | 4, u => u = .pointer (some ⟨g, 0, none⟩)
 | 5, u => u = x.1
 | 6, u => u = .pointer (some ⟨p, 0, none⟩)
 | 7, u => u = .pointer (some ⟨p, 1, none⟩)
 | 8, u => u = .pointer (some ⟨p, 1, none⟩)
 | _, _ => True
theorem name_mono (g p : Nat) {x y : Value × World} {D : Nat → Bool} (hm : D 5 = false) : ∀ j u, D j = true → name_G g p x j u → name_G g p y j u
 | 0, _, _, h => h
 | 1, _, _, h => h
 | 2, _, _, h => h
 | 3, _, _, h => h
 | 4, _, _, h => h
 | 5, _, hj, _ => by rw [hm] at hj; cases hj
 | 6, _, _, h => h
 | 7, _, _, h => h
 | 8, _, _, h => h
 | 9, _, _, h => h
 | _ + 10, _, _, h => h
def name2_G (p : Nat) (nm : ByteArray) (_ : Unit) : Nat → Value → Prop
 | 0, u => u = .pointer (some ⟨p, 0, none⟩)
 | 1, u => u = .pointer (some ⟨p, 0, none⟩)
 | 2, u => u = .pointer (some ⟨p, 0, none⟩)
 | 3, u => u = .pointer (some ⟨p, 1, none⟩)
 | 4, u => u = .pointer (some ⟨p, 1, none⟩)
 | 5, u => u = .string nm
 | 6, u => u = .bool (Nm.may nm)
 | 7, u => u = .tuple #[]
 | _, _ => True
set_option maxHeartbeats 4000000 in
theorem name_part (g p q : Nat) (v : FnV) (t : Fn.St) (W : World) (h : TkAt g p v t W) (hq : PtAt q p W) (hqg : q ≠ g) (hqp : q ≠ p) :
   Calls Tryz.prog 161 #[.pointer (some ⟨q, 0, none⟩)] W (PartP g p (Fn.pName t) W) := by
 have hgp : g ≠ p := by have := h.gp; omega
 have hgq : g ≠ q := fun e => hqg e.symm
 have HCu := Lib.hid h.cur
 have hsm := textA_small t.s
 have hP : Fn.pName t = { t with f := { t.f with name := (textA t.s 12).1 }, s := Fn.ask (Nm.may (textA t.s 12).1) 7 (textA t.s 12).2 } := rfl
 have HK := Lib.hid (fun W' (hW : Cur W' g t.s) => text_cur g t.s 12 W' hW (by decide) (by decide))
 rw [hP]
 clear hP
 obtain ⟨nm, s1, hns⟩ : ∃ nm s1, textA t.s 12 = (nm, s1) := ⟨_, _, rfl⟩
 rw [hns] at HK hsm ⊢
 dsimp only at HK hsm ⊢
 have hnm : nm.size ≤ 9223372036854775807 := by omega
 have hH := Lib.hid h
 have hC := pc_start (ic := 5) (is := 9) (k := 1) (R := fun u W' => u = .string nm ∧ Cur W' g s1) (g := g) (y := (undef, W)) hq h.box
 clear h hq hns hsm
 go_enter Tryz.func161, Tryz.ntmps161
 go_wp2
 refine region_k ((undef, W) : Value × World) 18 (fun x D W' => PcC 5 9 g p q 1 (tkCells g v t.marks t.many) W (fun u W' => u = .string nm ∧ Cur W' g s1) x D W') (name_G g p) (by kernel_rfl) (by kernel_rfl) (by kernel_rfl) rfl rfl hC ?_ ?_
 · refine ⟨?_, ?_, ?_, ?_, ?_, ?_, ?_, ?_, ?_, ?_, trivial⟩
   · intro x D a w hI hdep hD0 K hK
     have e0 : a.eval (.tmp 0) = .pointer (some ⟨q, 0, none⟩) := hI.read 0 rfl
     have z0 := hI.world.ptr
     refine ok_value (wanted_none rfl) (v := .pointer (some ⟨p, 0, none⟩)) ?_ (hK x _ _ (hI.world.up rfl rfl) (fun _ _ _ h => h) rfl)
     obtain ⟨ec, ef⟩ := ecs a; clear hI hdep hK; generalize a.eval = ρ at e0 ec ef ⊢; go_simp
   · intro x D a w hI hdep hD0 K hK
     have e0 : a.eval (.tmp 0) = .pointer (some ⟨q, 0, none⟩) := hI.read 0 rfl
     have z0 := hI.world.ptr
     refine ok_value (wanted_none rfl) (v := .pointer (some ⟨p, 0, none⟩)) ?_ (hK x _ _ (hI.world.up rfl rfl) (fun _ _ _ h => h) rfl)
     obtain ⟨ec, ef⟩ := ecs a; clear hI hdep hK; generalize a.eval = ρ at e0 ec ef ⊢; go_simp
   · intro x D a w hI hdep hD0 K hK
     have e2 : a.eval (.tmp 2) = .pointer (some ⟨p, 0, none⟩) := hI.good 1 2 (dep_of hdep 1 rfl) rfl
     refine ok_value (wanted_none rfl) (v := .pointer (some ⟨p, 0, none⟩)) ?_ (hK x _ _ (hI.world.up rfl rfl) (fun _ _ _ h => h) rfl)
     obtain ⟨ec, ef⟩ := ecs a; clear hI hdep hK; generalize a.eval = ρ at e2 ec ef ⊢; go_simp
   · intro x D a w hI hdep hD0 K hK
     have e3 : a.eval (.tmp 3) = .pointer (some ⟨p, 0, none⟩) := hI.good 2 3 (dep_of hdep 2 rfl) rfl
     refine ok_value (wanted_none rfl) (v := .pointer (some ⟨p, 0, none⟩)) ?_ (hK x _ _ (hI.world.up rfl rfl) (fun _ _ _ h => h) rfl)
     obtain ⟨ec, ef⟩ := ecs a; clear hI hdep hK; generalize a.eval = ρ at e3 ec ef ⊢; go_simp
   · intro x D a w hI hdep hD0 K hK
     have e4 : a.eval (.tmp 4) = .pointer (some ⟨p, 0, none⟩) := hI.good 3 4 (dep_of hdep 3 rfl) rfl
     have z0 : w.cell? ⟨p, 0, none⟩ = some (.pointer (some ⟨g, 0, none⟩)) := hI.world.cell (j := 0) (by decide)
     refine ok_value (wanted_none rfl) (v := .pointer (some ⟨g, 0, none⟩)) ?_ (hK x _ _ (hI.world.up rfl rfl) (fun _ _ _ h => h) rfl)
     obtain ⟨ec, ef⟩ := ecs a; clear hI hdep hK; generalize a.eval = ρ at e4 ec ef ⊢; go_simp
   · intro x D a w hI hdep hD0 K hK
     have e5 : a.eval (.tmp 5) = .pointer (some ⟨g, 0, none⟩) := hI.good 4 5 (dep_of hdep 4 rfl) rfl
     refine ok_call (wanted_none rfl) (f := 162) (args := #[.pointer (some ⟨g, 0, none⟩), .int .i64 12]) ?_ (HK.out w (cur_grown HCu.out (hI.world.pre hD0))) ?_
     · obtain ⟨ec, ef⟩ := ecs a; clear hI hdep hK; generalize a.eval = ρ at e5 ec ef ⊢; go_simp
     · rintro e w2 ⟨rfl, hc2, hg2⟩
       exact ⟨_, rfl, hK (.string nm, w2) _ _ (hI.world.called hD0 (hI.not_up hD0 9 rfl) rfl hgp hgq ⟨rfl, hc2⟩ hg2) (name_mono g p hD0) rfl⟩
   · intro x D a w hI hdep hD0 K hK
     have e1 : a.eval (.tmp 1) = .pointer (some ⟨p, 0, none⟩) := hI.good 0 1 (dep_of hdep 0 rfl) rfl
     refine ok_value (wanted_none rfl) (v := .pointer (some ⟨p, 0, none⟩)) ?_ (hK x _ _ (hI.world.up rfl rfl) (fun _ _ _ h => h) rfl)
     obtain ⟨ec, ef⟩ := ecs a; clear hI hdep hK; generalize a.eval = ρ at e1 ec ef ⊢; go_simp
   · intro x D a w hI hdep hD0 K hK
     have e7 : a.eval (.tmp 7) = .pointer (some ⟨p, 0, none⟩) := hI.good 6 7 (dep_of hdep 6 rfl) rfl
     refine ok_value (wanted_none rfl) (v := .pointer (some ⟨p, 1, none⟩)) ?_ (hK x _ _ (hI.world.up rfl rfl) (fun _ _ _ h => h) rfl)
     obtain ⟨ec, ef⟩ := ecs a; clear hI hdep hK; generalize a.eval = ρ at e7 ec ef ⊢; go_simp
   · intro x D a w hI hdep hD0 K hK
     have e8 : a.eval (.tmp 8) = .pointer (some ⟨p, 1, none⟩) := hI.good 7 8 (dep_of hdep 7 rfl) rfl
     refine ok_value (wanted_none rfl) (v := .pointer (some ⟨p, 1, none⟩)) ?_ (hK x _ _ (hI.world.up rfl rfl) (fun _ _ _ h => h) rfl)
     obtain ⟨ec, ef⟩ := ecs a; clear hI hdep hK; generalize a.eval = ρ at e8 ec ef ⊢; go_simp
   · intro x D a w hI hdep hD0 K hK
     have e9 : a.eval (.tmp 9) = .pointer (some ⟨p, 1, none⟩) := hI.good 8 9 (dep_of hdep 8 rfl) rfl
     have e6 : a.eval (.tmp 6) = x.1 := hI.good 5 6 (dep_of hdep 5 rfl) rfl
     have hc := dep_of hdep 5 rfl
     have z0 : w.cell? ⟨p, 1, none⟩ = some (.string v.name) := hI.world.old hD0 1
     have z1 := hI.world.frozen 1
     refine ok_store (wanted_none rfl) (w' := w.setCell ⟨p, 1, none⟩ x.1) ?_ (hK x undef _ (hI.world.stored hc hD0 rfl hqp) (fun _ _ _ h => h) trivial)
     have hu : x.1 = .string nm := (hI.world.post hc).1.1
     rw [hu] at e6 ⊢
     clear hu
     obtain ⟨ec, ef⟩ := ecs a; clear hI hdep hK; generalize a.eval = ρ at e9 e6 ec ef ⊢; go_simp
 · intro x D a w2 hI hD
   have hfr := hI.frame [(1, .pointer (some ⟨p, 0, none⟩)), (2, .pointer (some ⟨p, 0, none⟩)), (3, .pointer (some ⟨p, 0, none⟩)), (4, .pointer (some ⟨p, 0, none⟩)), (5, .pointer (some ⟨g, 0, none⟩)), (6, x.1), (7, .pointer (some ⟨p, 0, none⟩)), (8, .pointer (some ⟨p, 1, none⟩)), (9, .pointer (some ⟨p, 1, none⟩))] (all_cons (hI.good 0 1 (hD 0 (by decide)) rfl) (all_cons (hI.good 1 2 (hD 1 (by decide)) rfl) (all_cons (hI.good 2 3 (hD 2 (by decide)) rfl) (all_cons (hI.good 3 4 (hD 3 (by decide)) rfl) (all_cons (hI.good 4 5 (hD 4 (by decide)) rfl) (all_cons (hI.good 5 6 (hD 5 (by decide)) rfl) (all_cons (hI.good 6 7 (hD 6 (by decide)) rfl) (all_cons (hI.good 7 8 (hD 7 (by decide)) rfl) (all_cons (hI.good 8 9 (hD 8 (by decide)) rfl) all_nil))))))))) rfl
   have hW := hI.world
   clear hI
   subst hfr
   simp only [List.foldl_cons, List.foldl_nil, List.setIfInBounds_toArray, List.set_cons_succ, List.set_cons_zero]
   obtain ⟨⟨hu, hc⟩, hg, hWW⟩ := hW.post (hD 5 (by decide))
   have hbx := hW.box
   have HPt := Lib.hid hW.pt
   rw [hD 9 (by decide), if_pos rfl] at hWW hbx
   rw [hu] at hbx
   have HF := Lib.hid (part_at (v' := { v with name := nm }) (t' := { t with f := { t.f with name := nm }, s := s1 }) hH.out hg hc hWW (hbx.trans rfl) { hH.out.own.off (Off.grown (p := p) hg) (by have := hH.out.gp; omega) (by omega) with name := rfl })
   have hu1 := hu
   rw [hu1]
   clear hW hbx hWW hg hc hu hu1 hD hH HCu HK
   go_wp2
   have HMu := Lib.hid (fun W' (hB : Below w2.heap.size w2 W') => must_any g p _ _ (Nm.may nm) 7 W' (HF.out.1.on hB) (by decide))
   dsimp only at HMu
   have hC2 := pm_start (ic := 7) (g := g) (R := fun W' => Cur W' g (Fn.ask (Nm.may nm) 7 s1)) HPt.out HF.out.1.box
   refine region_k () 18 (fun _ D W' => PmC 7 g p q (tkCells g { v with name := nm } t.marks t.many) w2 (fun W' => Cur W' g (Fn.ask (Nm.may nm) 7 s1)) D W') (name2_G p nm) (by kernel_rfl) (by kernel_rfl) (by kernel_rfl) rfl rfl hC2 ?_ ?_
   · refine ⟨?_, ?_, ?_, ?_, ?_, ?_, ?_, ?_, trivial⟩
     · intro x D a w hI hdep hD0 K hK
       have e0 : a.eval (.tmp 0) = .pointer (some ⟨q, 0, none⟩) := hI.read 0 rfl
       have z0 := hI.world.ptr
       refine ok_value (wanted_none rfl) (v := .pointer (some ⟨p, 0, none⟩)) ?_ (hK x _ _ (hI.world.up rfl) (fun _ _ _ h => h) rfl)
       obtain ⟨ec, ef⟩ := ecs a; clear hI hdep hK; generalize a.eval = ρ at e0 ec ef ⊢; go_simp
     · intro x D a w hI hdep hD0 K hK
       have e0 : a.eval (.tmp 0) = .pointer (some ⟨q, 0, none⟩) := hI.read 0 rfl
       have z0 := hI.world.ptr
       refine ok_value (wanted_none rfl) (v := .pointer (some ⟨p, 0, none⟩)) ?_ (hK x _ _ (hI.world.up rfl) (fun _ _ _ h => h) rfl)
       obtain ⟨ec, ef⟩ := ecs a; clear hI hdep hK; generalize a.eval = ρ at e0 ec ef ⊢; go_simp
     · intro x D a w hI hdep hD0 K hK
       have e11 : a.eval (.tmp 11) = .pointer (some ⟨p, 0, none⟩) := hI.good 1 11 (dep_of hdep 1 rfl) rfl
       refine ok_value (wanted_none rfl) (v := .pointer (some ⟨p, 0, none⟩)) ?_ (hK x _ _ (hI.world.up rfl) (fun _ _ _ h => h) rfl)
       obtain ⟨ec, ef⟩ := ecs a; clear hI hdep hK; generalize a.eval = ρ at e11 ec ef ⊢; go_simp
     · intro x D a w hI hdep hD0 K hK
       have e12 : a.eval (.tmp 12) = .pointer (some ⟨p, 0, none⟩) := hI.good 2 12 (dep_of hdep 2 rfl) rfl
       refine ok_value (wanted_none rfl) (v := .pointer (some ⟨p, 1, none⟩)) ?_ (hK x _ _ (hI.world.up rfl) (fun _ _ _ h => h) rfl)
       obtain ⟨ec, ef⟩ := ecs a; clear hI hdep hK; generalize a.eval = ρ at e12 ec ef ⊢; go_simp
     · intro x D a w hI hdep hD0 K hK
       have e13 : a.eval (.tmp 13) = .pointer (some ⟨p, 1, none⟩) := hI.good 3 13 (dep_of hdep 3 rfl) rfl
       refine ok_value (wanted_none rfl) (v := .pointer (some ⟨p, 1, none⟩)) ?_ (hK x _ _ (hI.world.up rfl) (fun _ _ _ h => h) rfl)
       obtain ⟨ec, ef⟩ := ecs a; clear hI hdep hK; generalize a.eval = ρ at e13 ec ef ⊢; go_simp
     · intro x D a w hI hdep hD0 K hK
       have e14 : a.eval (.tmp 14) = .pointer (some ⟨p, 1, none⟩) := hI.good 4 14 (dep_of hdep 4 rfl) rfl
       have z0 : w.cell? ⟨p, 1, none⟩ = some (.string nm) := hI.world.cell 1
       refine ok_value (wanted_none rfl) (v := .string nm) ?_ (hK x _ _ (hI.world.up rfl) (fun _ _ _ h => h) rfl)
       obtain ⟨ec, ef⟩ := ecs a; clear hI hdep hK; generalize a.eval = ρ at e14 ec ef ⊢; go_simp
     · intro x D a w hI hdep hD0 K hK
       have e15 : a.eval (.tmp 15) = .string nm := hI.good 5 15 (dep_of hdep 5 rfl) rfl
       refine ok_call (wanted_none rfl) (f := 82) (args := #[.string nm]) ?_ (may_any nm w hnm) ?_
       · obtain ⟨ec, ef⟩ := ecs a; clear hI hdep hK; generalize a.eval = ρ at e15 ec ef ⊢; go_simp
       · rintro e w2 ⟨rfl, he⟩
         obtain rfl := he.symm
         exact ⟨_, rfl, hK x _ _ (hI.world.up rfl) (fun _ _ _ h => h) rfl⟩
     · intro x D a w hI hdep hD0 K hK
       have e10 : a.eval (.tmp 10) = .pointer (some ⟨p, 0, none⟩) := hI.good 0 10 (dep_of hdep 0 rfl) rfl
       have e16 : a.eval (.tmp 16) = .bool (Nm.may nm) := hI.good 6 16 (dep_of hdep 6 rfl) rfl
       refine ok_call (wanted_none rfl) (f := 163) (args := #[.pointer (some ⟨p, 0, none⟩), .bool (Nm.may nm), .int .i64 7]) ?_ (HMu.out w (hI.world.pre hD0)) ?_
       · obtain ⟨ec, ef⟩ := ecs a; clear hI hdep hK; generalize a.eval = ρ at e10 e16 ec ef ⊢; go_simp
       · rintro e w2 ⟨rfl, hc2, hg2⟩
         exact ⟨_, rfl, hK x _ _ (hI.world.called hD0 hgp hgq hc2 hg2) (fun _ _ _ h => h) rfl⟩
   · intro x D a w3 hI hD
     have hfr := hI.frame [(10, .pointer (some ⟨p, 0, none⟩)), (11, .pointer (some ⟨p, 0, none⟩)), (12, .pointer (some ⟨p, 0, none⟩)), (13, .pointer (some ⟨p, 1, none⟩)), (14, .pointer (some ⟨p, 1, none⟩)), (15, .string nm), (16, .bool (Nm.may nm)), (17, .tuple #[])] (all_cons (hI.good 0 10 (hD 0 (by decide)) rfl) (all_cons (hI.good 1 11 (hD 1 (by decide)) rfl) (all_cons (hI.good 2 12 (hD 2 (by decide)) rfl) (all_cons (hI.good 3 13 (hD 3 (by decide)) rfl) (all_cons (hI.good 4 14 (hD 4 (by decide)) rfl) (all_cons (hI.good 5 15 (hD 5 (by decide)) rfl) (all_cons (hI.good 6 16 (hD 6 (by decide)) rfl) (all_cons (hI.good 7 17 (hD 7 (by decide)) rfl) all_nil)))))))) rfl
     have hW := hI.world
     clear hI
     subst hfr
     simp only [List.foldl_cons, List.foldl_nil, List.setIfInBounds_toArray, List.set_cons_succ, List.set_cons_zero]
     obtain ⟨hc, hg⟩ := hW.post (hD 7 (by decide))
     have HE := Lib.hid (And.intro (HF.out.1.went hc hg) (HF.out.2.trans (Off.grown (p := p) hg)))
     clear hW hc hg hD HF HMu HPt hC2
     go_wp2
     go_end0
     exact ⟨rfl, ⟨_, HE.out.1⟩, HE.out.2⟩
def many_G (g p : Nat) (x : Value × World) : Nat → Value → Prop
 | 0, u => u = .pointer (some ⟨p, 0, none⟩)
 | 1, u => u = .pointer (some ⟨p, 0, none⟩)
 | 2, u => u = .pointer (some ⟨p, 0, none⟩)
 | 3, u => u = .pointer (some ⟨p, 0, none⟩)
 | 4, u => u = .pointer (some ⟨g, 0, none⟩)
 | 5, u => u = x.1
 | 6, u => u = .pointer (some ⟨p, 0, none⟩)
 | 7, u => u = .pointer (some ⟨p, 13, none⟩)
 | _, _ => True
theorem many_mono (g p : Nat) {x y : Value × World} {D : Nat → Bool} (hm : D 5 = false) : ∀ j u, D j = true → many_G g p x j u → many_G g p y j u
 | 0, _, _, h => h
 | 1, _, _, h => h
 | 2, _, _, h => h
 | 3, _, _, h => h
 | 4, _, _, h => h
 | 5, _, hj, _ => by rw [hm] at hj; cases hj
 | 6, _, _, h => h
 | 7, _, _, h => h
 | 8, _, _, h => h
 | _ + 9, _, _, h => h
def many2_G (p : Nat) (m : Nat) (_ : Unit) : Nat → Value → Prop
 | 0, u => u = .pointer (some ⟨p, 0, none⟩)
 | 1, u => u = .pointer (some ⟨p, 0, none⟩)
 | 2, u => u = .pointer (some ⟨p, 0, none⟩)
 | 3, u => u = .pointer (some ⟨p, 13, none⟩)
 | 4, u => u = .int .i64 (m : Int)
 | 5, u => u = .bool (decide ((0 : Int) < (m : Int)))
 | 6, u => u = .tuple #[]
 | _, _ => True
set_option maxHeartbeats 4000000 in
theorem many_part (g p q : Nat) (v : FnV) (t : Fn.St) (W : World) (h : TkAt g p v t W) (hq : PtAt q p W) (hqg : q ≠ g) (hqp : q ≠ p) :
   Calls Tryz.prog 170 #[.pointer (some ⟨q, 0, none⟩)] W (PartP g p (Fn.pMany t) W) := by
 have hgp : g ≠ p := by have := h.gp; omega
 have hgq : g ≠ q := fun e => hqg e.symm
 have HCu := Lib.hid h.cur
 have hP : Fn.pMany t = { t with many := (numA t.s 2000).1, s := Fn.ask (decide (0 < (numA t.s 2000).1)) 6 (numA t.s 2000).2 } := rfl
 have HK := Lib.hid (fun W' (hW : Cur W' g t.s) => num_cur g t.s 2000 W' hW (by decide) (by decide))
 rw [hP]
 clear hP
 obtain ⟨m, s1, hns⟩ : ∃ m s1, numA t.s 2000 = (m, s1) := ⟨_, _, rfl⟩
 rw [hns] at HK ⊢
 dsimp only at HK ⊢
 have hb : decide ((0 : Int) < (m : Int)) = decide (0 < m) := decide_eq_decide.2 (by omega)
 have HB := Lib.hid hb
 have hH := Lib.hid h
 have hC := pc_start (ic := 5) (is := 8) (k := 13) (R := fun u W' => u = .int .i64 (m : Int) ∧ Cur W' g s1) (g := g) (y := (undef, W)) hq h.box
 clear h hq hns hb
 go_enter Tryz.func170, Tryz.ntmps170
 go_wp2
 refine region_k ((undef, W) : Value × World) 16 (fun x D W' => PcC 5 8 g p q 13 (tkCells g v t.marks t.many) W (fun u W' => u = .int .i64 (m : Int) ∧ Cur W' g s1) x D W') (many_G g p) (by kernel_rfl) (by kernel_rfl) (by kernel_rfl) rfl rfl hC ?_ ?_
 · refine ⟨?_, ?_, ?_, ?_, ?_, ?_, ?_, ?_, ?_, trivial⟩
   · intro x D a w hI hdep hD0 K hK
     have e0 : a.eval (.tmp 0) = .pointer (some ⟨q, 0, none⟩) := hI.read 0 rfl
     have z0 := hI.world.ptr
     refine ok_value (wanted_none rfl) (v := .pointer (some ⟨p, 0, none⟩)) ?_ (hK x _ _ (hI.world.up rfl rfl) (fun _ _ _ h => h) rfl)
     obtain ⟨ec, ef⟩ := ecs a; clear hI hdep hK; generalize a.eval = ρ at e0 ec ef ⊢; go_simp
   · intro x D a w hI hdep hD0 K hK
     have e0 : a.eval (.tmp 0) = .pointer (some ⟨q, 0, none⟩) := hI.read 0 rfl
     have z0 := hI.world.ptr
     refine ok_value (wanted_none rfl) (v := .pointer (some ⟨p, 0, none⟩)) ?_ (hK x _ _ (hI.world.up rfl rfl) (fun _ _ _ h => h) rfl)
     obtain ⟨ec, ef⟩ := ecs a; clear hI hdep hK; generalize a.eval = ρ at e0 ec ef ⊢; go_simp
   · intro x D a w hI hdep hD0 K hK
     have e2 : a.eval (.tmp 2) = .pointer (some ⟨p, 0, none⟩) := hI.good 1 2 (dep_of hdep 1 rfl) rfl
     refine ok_value (wanted_none rfl) (v := .pointer (some ⟨p, 0, none⟩)) ?_ (hK x _ _ (hI.world.up rfl rfl) (fun _ _ _ h => h) rfl)
     obtain ⟨ec, ef⟩ := ecs a; clear hI hdep hK; generalize a.eval = ρ at e2 ec ef ⊢; go_simp
   · intro x D a w hI hdep hD0 K hK
     have e3 : a.eval (.tmp 3) = .pointer (some ⟨p, 0, none⟩) := hI.good 2 3 (dep_of hdep 2 rfl) rfl
     refine ok_value (wanted_none rfl) (v := .pointer (some ⟨p, 0, none⟩)) ?_ (hK x _ _ (hI.world.up rfl rfl) (fun _ _ _ h => h) rfl)
     obtain ⟨ec, ef⟩ := ecs a; clear hI hdep hK; generalize a.eval = ρ at e3 ec ef ⊢; go_simp
   · intro x D a w hI hdep hD0 K hK
     have e4 : a.eval (.tmp 4) = .pointer (some ⟨p, 0, none⟩) := hI.good 3 4 (dep_of hdep 3 rfl) rfl
     have z0 : w.cell? ⟨p, 0, none⟩ = some (.pointer (some ⟨g, 0, none⟩)) := hI.world.cell (j := 0) (by decide)
     refine ok_value (wanted_none rfl) (v := .pointer (some ⟨g, 0, none⟩)) ?_ (hK x _ _ (hI.world.up rfl rfl) (fun _ _ _ h => h) rfl)
     obtain ⟨ec, ef⟩ := ecs a; clear hI hdep hK; generalize a.eval = ρ at e4 ec ef ⊢; go_simp
   · intro x D a w hI hdep hD0 K hK
     have e5 : a.eval (.tmp 5) = .pointer (some ⟨g, 0, none⟩) := hI.good 4 5 (dep_of hdep 4 rfl) rfl
     refine ok_call (wanted_none rfl) (f := 106) (args := #[.pointer (some ⟨g, 0, none⟩), .int .i64 2000]) ?_ (HK.out w (cur_grown HCu.out (hI.world.pre hD0))) ?_
     · obtain ⟨ec, ef⟩ := ecs a; clear hI hdep hK; generalize a.eval = ρ at e5 ec ef ⊢; go_simp
     · rintro e w2 ⟨rfl, hc2, hg2⟩
       exact ⟨_, rfl, hK (.int .i64 (m : Int), w2) _ _ (hI.world.called hD0 (hI.not_up hD0 8 rfl) rfl hgp hgq ⟨rfl, hc2⟩ hg2) (many_mono g p hD0) rfl⟩
   · intro x D a w hI hdep hD0 K hK
     have e1 : a.eval (.tmp 1) = .pointer (some ⟨p, 0, none⟩) := hI.good 0 1 (dep_of hdep 0 rfl) rfl
     refine ok_value (wanted_none rfl) (v := .pointer (some ⟨p, 0, none⟩)) ?_ (hK x _ _ (hI.world.up rfl rfl) (fun _ _ _ h => h) rfl)
     obtain ⟨ec, ef⟩ := ecs a; clear hI hdep hK; generalize a.eval = ρ at e1 ec ef ⊢; go_simp
   · intro x D a w hI hdep hD0 K hK
     have e7 : a.eval (.tmp 7) = .pointer (some ⟨p, 0, none⟩) := hI.good 6 7 (dep_of hdep 6 rfl) rfl
     refine ok_value (wanted_none rfl) (v := .pointer (some ⟨p, 13, none⟩)) ?_ (hK x _ _ (hI.world.up rfl rfl) (fun _ _ _ h => h) rfl)
     obtain ⟨ec, ef⟩ := ecs a; clear hI hdep hK; generalize a.eval = ρ at e7 ec ef ⊢; go_simp
   · intro x D a w hI hdep hD0 K hK
     have e8 : a.eval (.tmp 8) = .pointer (some ⟨p, 13, none⟩) := hI.good 7 8 (dep_of hdep 7 rfl) rfl
     have e6 : a.eval (.tmp 6) = x.1 := hI.good 5 6 (dep_of hdep 5 rfl) rfl
     have hc := dep_of hdep 5 rfl
     have z0 : w.cell? ⟨p, 13, none⟩ = some (.int .i64 (t.many : Int)) := hI.world.old hD0 13
     have z1 := hI.world.frozen 13
     refine ok_store (wanted_none rfl) (w' := w.setCell ⟨p, 13, none⟩ x.1) ?_ (hK x undef _ (hI.world.stored hc hD0 rfl hqp) (fun _ _ _ h => h) trivial)
     have hu : x.1 = .int .i64 (m : Int) := (hI.world.post hc).1.1
     rw [hu] at e6 ⊢
     clear hu
     obtain ⟨ec, ef⟩ := ecs a; clear hI hdep hK; generalize a.eval = ρ at e8 e6 ec ef ⊢; go_simp
 · intro x D a w2 hI hD
   have hfr := hI.frame [(1, .pointer (some ⟨p, 0, none⟩)), (2, .pointer (some ⟨p, 0, none⟩)), (3, .pointer (some ⟨p, 0, none⟩)), (4, .pointer (some ⟨p, 0, none⟩)), (5, .pointer (some ⟨g, 0, none⟩)), (6, x.1), (7, .pointer (some ⟨p, 0, none⟩)), (8, .pointer (some ⟨p, 13, none⟩))] (all_cons (hI.good 0 1 (hD 0 (by decide)) rfl) (all_cons (hI.good 1 2 (hD 1 (by decide)) rfl) (all_cons (hI.good 2 3 (hD 2 (by decide)) rfl) (all_cons (hI.good 3 4 (hD 3 (by decide)) rfl) (all_cons (hI.good 4 5 (hD 4 (by decide)) rfl) (all_cons (hI.good 5 6 (hD 5 (by decide)) rfl) (all_cons (hI.good 6 7 (hD 6 (by decide)) rfl) (all_cons (hI.good 7 8 (hD 7 (by decide)) rfl) all_nil)))))))) rfl
   have hW := hI.world
   clear hI
   subst hfr
   simp only [List.foldl_cons, List.foldl_nil, List.setIfInBounds_toArray, List.set_cons_succ, List.set_cons_zero]
   obtain ⟨⟨hu, hc⟩, hg, hWW⟩ := hW.post (hD 5 (by decide))
   have hbx := hW.box
   have HPt := Lib.hid hW.pt
   rw [hD 8 (by decide), if_pos rfl] at hWW hbx
   rw [hu] at hbx
   have HF := Lib.hid (part_at (v' := v) (t' := { t with many := m, s := s1 }) hH.out hg hc hWW (hbx.trans rfl) (hH.out.own.off (Off.grown (p := p) hg) (by have := hH.out.gp; omega) (by omega)))
   have hu1 := hu
   rw [hu1]
   clear hW hbx hWW hg hc hu hu1 hD hH HCu HK
   go_wp2
   have HMu := Lib.hid (fun W' (hB : Below w2.heap.size w2 W') => must_any g p _ _ (decide ((0 : Int) < (m : Int))) 6 W' (HF.out.1.on hB) (by decide))
   dsimp only at HMu
   have hC2 := pm_start (ic := 6) (g := g) (R := fun W' => Cur W' g (Fn.ask (decide ((0 : Int) < (m : Int))) 6 s1)) HPt.out HF.out.1.box
   refine region_k () 16 (fun _ D W' => PmC 6 g p q (tkCells g v t.marks m) w2 (fun W' => Cur W' g (Fn.ask (decide ((0 : Int) < (m : Int))) 6 s1)) D W') (many2_G p m) (by kernel_rfl) (by kernel_rfl) (by kernel_rfl) rfl rfl hC2 ?_ ?_
   · refine ⟨?_, ?_, ?_, ?_, ?_, ?_, ?_, trivial⟩
     · intro x D a w hI hdep hD0 K hK
       have e0 : a.eval (.tmp 0) = .pointer (some ⟨q, 0, none⟩) := hI.read 0 rfl
       have z0 := hI.world.ptr
       refine ok_value (wanted_none rfl) (v := .pointer (some ⟨p, 0, none⟩)) ?_ (hK x _ _ (hI.world.up rfl) (fun _ _ _ h => h) rfl)
       obtain ⟨ec, ef⟩ := ecs a; clear hI hdep hK; generalize a.eval = ρ at e0 ec ef ⊢; go_simp
     · intro x D a w hI hdep hD0 K hK
       have e0 : a.eval (.tmp 0) = .pointer (some ⟨q, 0, none⟩) := hI.read 0 rfl
       have z0 := hI.world.ptr
       refine ok_value (wanted_none rfl) (v := .pointer (some ⟨p, 0, none⟩)) ?_ (hK x _ _ (hI.world.up rfl) (fun _ _ _ h => h) rfl)
       obtain ⟨ec, ef⟩ := ecs a; clear hI hdep hK; generalize a.eval = ρ at e0 ec ef ⊢; go_simp
     · intro x D a w hI hdep hD0 K hK
       have e10 : a.eval (.tmp 10) = .pointer (some ⟨p, 0, none⟩) := hI.good 1 10 (dep_of hdep 1 rfl) rfl
       refine ok_value (wanted_none rfl) (v := .pointer (some ⟨p, 0, none⟩)) ?_ (hK x _ _ (hI.world.up rfl) (fun _ _ _ h => h) rfl)
       obtain ⟨ec, ef⟩ := ecs a; clear hI hdep hK; generalize a.eval = ρ at e10 ec ef ⊢; go_simp
     · intro x D a w hI hdep hD0 K hK
       have e11 : a.eval (.tmp 11) = .pointer (some ⟨p, 0, none⟩) := hI.good 2 11 (dep_of hdep 2 rfl) rfl
       refine ok_value (wanted_none rfl) (v := .pointer (some ⟨p, 13, none⟩)) ?_ (hK x _ _ (hI.world.up rfl) (fun _ _ _ h => h) rfl)
       obtain ⟨ec, ef⟩ := ecs a; clear hI hdep hK; generalize a.eval = ρ at e11 ec ef ⊢; go_simp
     · intro x D a w hI hdep hD0 K hK
       have e12 : a.eval (.tmp 12) = .pointer (some ⟨p, 13, none⟩) := hI.good 3 12 (dep_of hdep 3 rfl) rfl
       have z0 : w.cell? ⟨p, 13, none⟩ = some (.int .i64 (m : Int)) := hI.world.cell 13
       refine ok_value (wanted_none rfl) (v := .int .i64 (m : Int)) ?_ (hK x _ _ (hI.world.up rfl) (fun _ _ _ h => h) rfl)
       obtain ⟨ec, ef⟩ := ecs a; clear hI hdep hK; generalize a.eval = ρ at e12 ec ef ⊢; go_simp
     · intro x D a w hI hdep hD0 K hK
       have e13 : a.eval (.tmp 13) = .int .i64 (m : Int) := hI.good 4 13 (dep_of hdep 4 rfl) rfl
       refine ok_value (wanted_none rfl) (v := .bool (decide ((0 : Int) < (m : Int)))) ?_ (hK x _ _ (hI.world.up rfl) (fun _ _ _ h => h) rfl)
       obtain ⟨ec, ef⟩ := ecs a; clear hI hdep hK; generalize a.eval = ρ at e13 ec ef ⊢; go_simp
     · intro x D a w hI hdep hD0 K hK
       have e9 : a.eval (.tmp 9) = .pointer (some ⟨p, 0, none⟩) := hI.good 0 9 (dep_of hdep 0 rfl) rfl
       have e14 : a.eval (.tmp 14) = .bool (decide ((0 : Int) < (m : Int))) := hI.good 5 14 (dep_of hdep 5 rfl) rfl
       refine ok_call (wanted_none rfl) (f := 163) (args := #[.pointer (some ⟨p, 0, none⟩), .bool (decide ((0 : Int) < (m : Int))), .int .i64 6]) ?_ (HMu.out w (hI.world.pre hD0)) ?_
       · obtain ⟨ec, ef⟩ := ecs a; clear hI hdep hK; generalize a.eval = ρ at e9 e14 ec ef ⊢; go_simp
       · rintro e w2 ⟨rfl, hc2, hg2⟩
         exact ⟨_, rfl, hK x _ _ (hI.world.called hD0 hgp hgq hc2 hg2) (fun _ _ _ h => h) rfl⟩
   · intro x D a w3 hI hD
     have hfr := hI.frame [(9, .pointer (some ⟨p, 0, none⟩)), (10, .pointer (some ⟨p, 0, none⟩)), (11, .pointer (some ⟨p, 0, none⟩)), (12, .pointer (some ⟨p, 13, none⟩)), (13, .int .i64 (m : Int)), (14, .bool (decide ((0 : Int) < (m : Int)))), (15, .tuple #[])] (all_cons (hI.good 0 9 (hD 0 (by decide)) rfl) (all_cons (hI.good 1 10 (hD 1 (by decide)) rfl) (all_cons (hI.good 2 11 (hD 2 (by decide)) rfl) (all_cons (hI.good 3 12 (hD 3 (by decide)) rfl) (all_cons (hI.good 4 13 (hD 4 (by decide)) rfl) (all_cons (hI.good 5 14 (hD 5 (by decide)) rfl) (all_cons (hI.good 6 15 (hD 6 (by decide)) rfl) all_nil))))))) rfl
     have hW := hI.world
     clear hI
     subst hfr
     simp only [List.foldl_cons, List.foldl_nil, List.setIfInBounds_toArray, List.set_cons_succ, List.set_cons_zero]
     obtain ⟨hc, hg⟩ := hW.post (hD 6 (by decide))
     rw [HB.out] at hc
     have HE := Lib.hid (And.intro (HF.out.1.went hc hg) (HF.out.2.trans (Off.grown (p := p) hg)))
     clear hW hc hg hD HF HMu HPt hC2
     go_wp2
     go_end0
     exact ⟨rfl, ⟨_, HE.out.1⟩, HE.out.2⟩
def fits2_G (p : Nat) (v : FnV) (t : Fn.St) (_ : Unit) : Nat → Value → Prop
 | 0, u => u = .pointer (some ⟨p, 0, none⟩)
 | 1, u => u = .pointer (some ⟨p, 0, none⟩)
 | 2, u => u = .pointer (some ⟨p, 0, none⟩)
 | 3, u => u = .pointer (some ⟨p, 1, none⟩)
 | 4, u => u = .agg #[.string v.name, .bool v.inner, .slice v.outer.a v.outer.n v.outer.c, .slice v.params.a v.params.n v.params.c, .slice v.results.a v.results.n v.results.c, .slice v.locals.a v.locals.n v.locals.c, .slice v.code.a v.code.n v.code.c, .slice v.lines.a v.lines.n v.lines.c, .slice v.nodes.a v.nodes.n v.nodes.c, .slice v.at_.a v.at_.n v.at_.c, .slice v.live.a v.live.n v.live.c]
 | 5, u => u = .bool (decide (t.f.slots ≤ 256))
 | 6, u => u = .tuple #[]
 | _, _ => True
set_option maxHeartbeats 4000000 in
theorem fits_part (g p q : Nat) (v : FnV) (t : Fn.St) (W : World) (h : TkAt g p v t W) (hq : PtAt q p W) (hqg : q ≠ g) (_ : q ≠ p) (hs : t.f.slots ≤ 1048576) :
   Calls Tryz.prog 169 #[.pointer (some ⟨q, 0, none⟩)] W (PartP g p (Fn.pFits t) W) := by
 have hgp : g ≠ p := by have := h.gp; omega
 have hgq : g ≠ q := fun e => hqg e.symm
 have HFi := Lib.hid (fun W' (hB : Below W.heap.size W W') => fnfits_any v t.f W' (h.on hB).own.ok hs)
 have HMu := Lib.hid (fun W' (hB : Below W.heap.size W W') => must_any g p _ _ (decide (t.f.slots ≤ 256)) 6 W' (h.on hB) (by decide))
 have hH := Lib.hid h
 have hC := pm_start (ic := 6) (g := g) (R := fun W' => Cur W' g (Fn.ask (decide (t.f.slots ≤ 256)) 6 t.s)) hq h.box
 clear h hq
 go_enter Tryz.func169, Tryz.ntmps169
 refine region_k () 8 (fun _ D W' => PmC 6 g p q (tkCells g v t.marks t.many) W (fun W' => Cur W' g (Fn.ask (decide (t.f.slots ≤ 256)) 6 t.s)) D W') (fits2_G p v t) (by kernel_rfl) (by kernel_rfl) (by kernel_rfl) rfl rfl hC ?_ ?_
 · refine ⟨?_, ?_, ?_, ?_, ?_, ?_, ?_, trivial⟩
   · intro x D a w hI hdep hD0 K hK
     have e0 : a.eval (.tmp 0) = .pointer (some ⟨q, 0, none⟩) := hI.read 0 rfl
     have z0 := hI.world.ptr
     refine ok_value (wanted_none rfl) (v := .pointer (some ⟨p, 0, none⟩)) ?_ (hK x _ _ (hI.world.up rfl) (fun _ _ _ h => h) rfl)
     obtain ⟨ec, ef⟩ := ecs a; clear hI hdep hK; generalize a.eval = ρ at e0 ec ef ⊢; go_simp
   · intro x D a w hI hdep hD0 K hK
     have e0 : a.eval (.tmp 0) = .pointer (some ⟨q, 0, none⟩) := hI.read 0 rfl
     have z0 := hI.world.ptr
     refine ok_value (wanted_none rfl) (v := .pointer (some ⟨p, 0, none⟩)) ?_ (hK x _ _ (hI.world.up rfl) (fun _ _ _ h => h) rfl)
     obtain ⟨ec, ef⟩ := ecs a; clear hI hdep hK; generalize a.eval = ρ at e0 ec ef ⊢; go_simp
   · intro x D a w hI hdep hD0 K hK
     have e2 : a.eval (.tmp 2) = .pointer (some ⟨p, 0, none⟩) := hI.good 1 2 (dep_of hdep 1 rfl) rfl
     refine ok_value (wanted_none rfl) (v := .pointer (some ⟨p, 0, none⟩)) ?_ (hK x _ _ (hI.world.up rfl) (fun _ _ _ h => h) rfl)
     obtain ⟨ec, ef⟩ := ecs a; clear hI hdep hK; generalize a.eval = ρ at e2 ec ef ⊢; go_simp
   · intro x D a w hI hdep hD0 K hK
     have e3 : a.eval (.tmp 3) = .pointer (some ⟨p, 0, none⟩) := hI.good 2 3 (dep_of hdep 2 rfl) rfl
     refine ok_value (wanted_none rfl) (v := .pointer (some ⟨p, 1, none⟩)) ?_ (hK x _ _ (hI.world.up rfl) (fun _ _ _ h => h) rfl)
     obtain ⟨ec, ef⟩ := ecs a; clear hI hdep hK; generalize a.eval = ρ at e3 ec ef ⊢; go_simp
   · intro x D a w hI hdep hD0 K hK
     have e4 : a.eval (.tmp 4) = .pointer (some ⟨p, 1, none⟩) := hI.good 3 4 (dep_of hdep 3 rfl) rfl
     have z0 : w.cell? ⟨p, 1, none⟩ = some (.string v.name) := hI.world.cell 1
     have z1 : w.cell? ⟨p, 2, none⟩ = some (.bool v.inner) := hI.world.cell 2
     have z2 : w.cell? ⟨p, 3, none⟩ = some (.slice v.outer.a v.outer.n v.outer.c) := hI.world.cell 3
     have z3 : w.cell? ⟨p, 4, none⟩ = some (.slice v.params.a v.params.n v.params.c) := hI.world.cell 4
     have z4 : w.cell? ⟨p, 5, none⟩ = some (.slice v.results.a v.results.n v.results.c) := hI.world.cell 5
     have z5 : w.cell? ⟨p, 6, none⟩ = some (.slice v.locals.a v.locals.n v.locals.c) := hI.world.cell 6
     have z6 : w.cell? ⟨p, 7, none⟩ = some (.slice v.code.a v.code.n v.code.c) := hI.world.cell 7
     have z7 : w.cell? ⟨p, 8, none⟩ = some (.slice v.lines.a v.lines.n v.lines.c) := hI.world.cell 8
     have z8 : w.cell? ⟨p, 9, none⟩ = some (.slice v.nodes.a v.nodes.n v.nodes.c) := hI.world.cell 9
     have z9 : w.cell? ⟨p, 10, none⟩ = some (.slice v.at_.a v.at_.n v.at_.c) := hI.world.cell 10
     have z10 : w.cell? ⟨p, 11, none⟩ = some (.slice v.live.a v.live.n v.live.c) := hI.world.cell 11
     refine ok_value (wanted_none rfl) (v := .agg #[.string v.name, .bool v.inner, .slice v.outer.a v.outer.n v.outer.c, .slice v.params.a v.params.n v.params.c, .slice v.results.a v.results.n v.results.c, .slice v.locals.a v.locals.n v.locals.c, .slice v.code.a v.code.n v.code.c, .slice v.lines.a v.lines.n v.lines.c, .slice v.nodes.a v.nodes.n v.nodes.c, .slice v.at_.a v.at_.n v.at_.c, .slice v.live.a v.live.n v.live.c]) ?_ (hK x _ _ (hI.world.up rfl) (fun _ _ _ h => h) rfl)
     obtain ⟨ec, ef⟩ := ecs a; clear hI hdep hK; generalize a.eval = ρ at e4 ec ef ⊢; go_simp
   · intro x D a w hI hdep hD0 K hK
     have e5 : a.eval (.tmp 5) = .agg #[.string v.name, .bool v.inner, .slice v.outer.a v.outer.n v.outer.c, .slice v.params.a v.params.n v.params.c, .slice v.results.a v.results.n v.results.c, .slice v.locals.a v.locals.n v.locals.c, .slice v.code.a v.code.n v.code.c, .slice v.lines.a v.lines.n v.lines.c, .slice v.nodes.a v.nodes.n v.nodes.c, .slice v.at_.a v.at_.n v.at_.c, .slice v.live.a v.live.n v.live.c] := hI.good 4 5 (dep_of hdep 4 rfl) rfl
     refine ok_call (wanted_none rfl) (f := 84) (args := #[.agg #[.string v.name, .bool v.inner, .slice v.outer.a v.outer.n v.outer.c, .slice v.params.a v.params.n v.params.c, .slice v.results.a v.results.n v.results.c, .slice v.locals.a v.locals.n v.locals.c, .slice v.code.a v.code.n v.code.c, .slice v.lines.a v.lines.n v.lines.c, .slice v.nodes.a v.nodes.n v.nodes.c, .slice v.at_.a v.at_.n v.at_.c, .slice v.live.a v.live.n v.live.c]]) ?_ (HFi.out w (hI.world.pre (hI.not_up hD0 6 rfl))) ?_
     · obtain ⟨ec, ef⟩ := ecs a; clear hI hdep hK; generalize a.eval = ρ at e5 ec ef ⊢; go_simp
     · rintro e w2 ⟨rfl, hb2⟩
       exact ⟨_, rfl, hK x _ _ ((hI.world.below (hI.not_up hD0 6 rfl) hb2).up rfl) (fun _ _ _ h => h) rfl⟩
   · intro x D a w hI hdep hD0 K hK
     have e1 : a.eval (.tmp 1) = .pointer (some ⟨p, 0, none⟩) := hI.good 0 1 (dep_of hdep 0 rfl) rfl
     have e6 : a.eval (.tmp 6) = .bool (decide (t.f.slots ≤ 256)) := hI.good 5 6 (dep_of hdep 5 rfl) rfl
     refine ok_call (wanted_none rfl) (f := 163) (args := #[.pointer (some ⟨p, 0, none⟩), .bool (decide (t.f.slots ≤ 256)), .int .i64 6]) ?_ (HMu.out w (hI.world.pre hD0)) ?_
     · obtain ⟨ec, ef⟩ := ecs a; clear hI hdep hK; generalize a.eval = ρ at e1 e6 ec ef ⊢; go_simp
     · rintro e w2 ⟨rfl, hc2, hg2⟩
       exact ⟨_, rfl, hK x _ _ (hI.world.called hD0 hgp hgq hc2 hg2) (fun _ _ _ h => h) rfl⟩
 · intro x D a w3 hI hD
   have hfr := hI.frame [(1, .pointer (some ⟨p, 0, none⟩)), (2, .pointer (some ⟨p, 0, none⟩)), (3, .pointer (some ⟨p, 0, none⟩)), (4, .pointer (some ⟨p, 1, none⟩)), (5, .agg #[.string v.name, .bool v.inner, .slice v.outer.a v.outer.n v.outer.c, .slice v.params.a v.params.n v.params.c, .slice v.results.a v.results.n v.results.c, .slice v.locals.a v.locals.n v.locals.c, .slice v.code.a v.code.n v.code.c, .slice v.lines.a v.lines.n v.lines.c, .slice v.nodes.a v.nodes.n v.nodes.c, .slice v.at_.a v.at_.n v.at_.c, .slice v.live.a v.live.n v.live.c]), (6, .bool (decide (t.f.slots ≤ 256))), (7, .tuple #[])] (all_cons (hI.good 0 1 (hD 0 (by decide)) rfl) (all_cons (hI.good 1 2 (hD 1 (by decide)) rfl) (all_cons (hI.good 2 3 (hD 2 (by decide)) rfl) (all_cons (hI.good 3 4 (hD 3 (by decide)) rfl) (all_cons (hI.good 4 5 (hD 4 (by decide)) rfl) (all_cons (hI.good 5 6 (hD 5 (by decide)) rfl) (all_cons (hI.good 6 7 (hD 6 (by decide)) rfl) all_nil))))))) rfl
   have hW := hI.world
   clear hI
   subst hfr
   simp only [List.foldl_cons, List.foldl_nil, List.setIfInBounds_toArray, List.set_cons_succ, List.set_cons_zero]
   obtain ⟨hc, hg⟩ := hW.post (hD 6 (by decide))
   have HE := Lib.hid (And.intro (hH.out.went hc hg) (Off.grown (p := p) hg))
   clear hW hc hg hD hH HMu HFi hC
   go_wp2
   go_end0
   exact ⟨rfl, ⟨_, HE.out.1⟩, HE.out.2⟩
end Go.Proofs.YtdopheoedpldiaaGreatDoor
namespace Go.Proofs.YtdopheoedpldiaaGreatDoor
open Go.RowKit
theorem and_u8 : ∀ m : Nat, m < 256 → (bits .and .u8 (m : Int) 1 != 0) = decide (m % 2 = 1) := by decide +kernel
def mark_G (g p : Nat) (x : Value × World) : Nat → Value → Prop
 | 0, u => u = .pointer (some ⟨p, 0, none⟩)
 | 1, u => u = .pointer (some ⟨p, 0, none⟩)
 | 2, u => u = .pointer (some ⟨p, 0, none⟩)
 | 3, u => u = .pointer (some ⟨p, 0, none⟩)
 | 4, u => u = .pointer (some ⟨g, 0, none⟩)
 | 5, u => u = x.1
 | 6, u => u = .pointer (some ⟨p, 0, none⟩)
 | 7, u => u = .pointer (some ⟨p, 12, none⟩)
 | _, _ => True
theorem mark_mono (g p : Nat) {x y : Value × World} {D : Nat → Bool} (hm : D 5 = false) : ∀ j u, D j = true → mark_G g p x j u → mark_G g p y j u
 | 0, _, _, h => h
 | 1, _, _, h => h
 | 2, _, _, h => h
 | 3, _, _, h => h
 | 4, _, _, h => h
 | 5, _, hj, _ => by rw [hm] at hj; cases hj
 | 6, _, _, h => h
 | 7, _, _, h => h
 | 8, _, _, h => h
 | _ + 9, _, _, h => h
def mark2_G (p : Nat) (m : Nat) (_ : Unit) : Nat → Value → Prop
 | 0, u => u = .pointer (some ⟨p, 0, none⟩)
 | 1, u => u = .pointer (some ⟨p, 0, none⟩)
 | 2, u => u = .pointer (some ⟨p, 0, none⟩)
 | 3, u => u = .pointer (some ⟨p, 12, none⟩)
 | 4, u => u = .int .u8 (m : Int)
 | 5, u => u = .bool (decide ((m : Int) ≤ 3))
 | 6, u => u = .tuple #[]
 | _, _ => True
def mark3_G (p m : Nat) (x : Value × World) : Nat → Value → Prop
 | 0, u => u = .pointer (some ⟨p, 0, none⟩)
 | 1, u => u = .pointer (some ⟨p, 0, none⟩)
 | 2, u => u = .pointer (some ⟨p, 0, none⟩)
 | 3, u => u = .pointer (some ⟨p, 12, none⟩)
 | 4, u => u = .int .u8 (m : Int)
 | 5, u => u = .int .u8 (bits .and .u8 (m : Int) 1)
 | 6, u => u = x.1
 | 7, u => u = .pointer (some ⟨p, 0, none⟩)
 | 8, u => u = .pointer (some ⟨p, 1, none⟩)
 | 9, u => u = .pointer (some ⟨p, 2, none⟩)
 | _, _ => True
theorem mark3_mono (p m : Nat) {x y : Value × World} {D : Nat → Bool} (hm : D 6 = false) : ∀ j u, D j = true → mark3_G p m x j u → mark3_G p m y j u
 | 0, _, _, h => h
 | 1, _, _, h => h
 | 2, _, _, h => h
 | 3, _, _, h => h
 | 4, _, _, h => h
 | 5, _, _, h => h
 | 6, _, hj, _ => by rw [hm] at hj; cases hj
 | 7, _, _, h => h
 | 8, _, _, h => h
 | 9, _, _, h => h
 | 10, _, _, h => h
 | _ + 11, _, _, h => h
set_option maxHeartbeats 4000000 in
theorem mark_part (g p q : Nat) (v : FnV) (t : Fn.St) (W : World) (h : TkAt g p v t W) (hq : PtAt q p W) (hqg : q ≠ g) (hqp : q ≠ p) :
   Calls Tryz.prog 164 #[.pointer (some ⟨q, 0, none⟩)] W (PartP g p (Fn.pMark t) W) := by
 have hgp : g ≠ p := by have := h.gp; omega
 have hgq : g ≠ q := fun e => hqg e.symm
 have HCu := Lib.hid h.cur
 have hm8 : (byteA t.s).1 < 256 := byteA_lt h.cur.byte
 have hP : Fn.pMark t = { t with f := { t.f with inner := decide ((byteA t.s).1 % 2 = 1) }, marks := (byteA t.s).1, s := Fn.ask (decide ((byteA t.s).1 ≤ 3)) 5 (byteA t.s).2 } := rfl
 have HK := Lib.hid (fun W' (hW : Cur W' g t.s) => byte_cur g t.s W' hW)
 rw [hP]
 clear hP
 obtain ⟨m, s1, hns⟩ : ∃ m s1, byteA t.s = (m, s1) := ⟨_, _, rfl⟩
 rw [hns] at HK hm8 ⊢
 dsimp only at HK hm8 ⊢
 have HB := Lib.hid (show decide ((m : Int) ≤ 3) = decide (m ≤ 3) from decide_eq_decide.2 (by omega))
 have HM := Lib.hid (and_u8 m hm8)
 have hH := Lib.hid h
 have hC := pc_start (ic := 5) (is := 8) (k := 12) (R := fun u W' => u = .int .u8 (m : Int) ∧ Cur W' g s1) (g := g) (y := (undef, W)) hq h.box
 clear h hq hns
 go_enter Tryz.func164, Tryz.ntmps164
 go_wp2
 refine region_k ((undef, W) : Value × World) 26 (fun x D W' => PcC 5 8 g p q 12 (tkCells g v t.marks t.many) W (fun u W' => u = .int .u8 (m : Int) ∧ Cur W' g s1) x D W') (mark_G g p) (by kernel_rfl) (by kernel_rfl) (by kernel_rfl) rfl rfl hC ?_ ?_
 · refine ⟨?_, ?_, ?_, ?_, ?_, ?_, ?_, ?_, ?_, trivial⟩
   · intro x D a w hI hdep hD0 K hK
     have e0 : a.eval (.tmp 0) = .pointer (some ⟨q, 0, none⟩) := hI.read 0 rfl
     have z0 := hI.world.ptr
     refine ok_value (wanted_none rfl) (v := .pointer (some ⟨p, 0, none⟩)) ?_ (hK x _ _ (hI.world.up rfl rfl) (fun _ _ _ h => h) rfl)
     obtain ⟨ec, ef⟩ := ecs a; clear hI hdep hK; generalize a.eval = ρ at e0 ec ef ⊢; go_simp
   · intro x D a w hI hdep hD0 K hK
     have e0 : a.eval (.tmp 0) = .pointer (some ⟨q, 0, none⟩) := hI.read 0 rfl
     have z0 := hI.world.ptr
     refine ok_value (wanted_none rfl) (v := .pointer (some ⟨p, 0, none⟩)) ?_ (hK x _ _ (hI.world.up rfl rfl) (fun _ _ _ h => h) rfl)
     obtain ⟨ec, ef⟩ := ecs a; clear hI hdep hK; generalize a.eval = ρ at e0 ec ef ⊢; go_simp
   · intro x D a w hI hdep hD0 K hK
     have e2 : a.eval (.tmp 2) = .pointer (some ⟨p, 0, none⟩) := hI.good 1 2 (dep_of hdep 1 rfl) rfl
     refine ok_value (wanted_none rfl) (v := .pointer (some ⟨p, 0, none⟩)) ?_ (hK x _ _ (hI.world.up rfl rfl) (fun _ _ _ h => h) rfl)
     obtain ⟨ec, ef⟩ := ecs a; clear hI hdep hK; generalize a.eval = ρ at e2 ec ef ⊢; go_simp
   · intro x D a w hI hdep hD0 K hK
     have e3 : a.eval (.tmp 3) = .pointer (some ⟨p, 0, none⟩) := hI.good 2 3 (dep_of hdep 2 rfl) rfl
     refine ok_value (wanted_none rfl) (v := .pointer (some ⟨p, 0, none⟩)) ?_ (hK x _ _ (hI.world.up rfl rfl) (fun _ _ _ h => h) rfl)
     obtain ⟨ec, ef⟩ := ecs a; clear hI hdep hK; generalize a.eval = ρ at e3 ec ef ⊢; go_simp
   · intro x D a w hI hdep hD0 K hK
     have e4 : a.eval (.tmp 4) = .pointer (some ⟨p, 0, none⟩) := hI.good 3 4 (dep_of hdep 3 rfl) rfl
     have z0 : w.cell? ⟨p, 0, none⟩ = some (.pointer (some ⟨g, 0, none⟩)) := hI.world.cell (j := 0) (by decide)
     refine ok_value (wanted_none rfl) (v := .pointer (some ⟨g, 0, none⟩)) ?_ (hK x _ _ (hI.world.up rfl rfl) (fun _ _ _ h => h) rfl)
     obtain ⟨ec, ef⟩ := ecs a; clear hI hdep hK; generalize a.eval = ρ at e4 ec ef ⊢; go_simp
   · intro x D a w hI hdep hD0 K hK
     have e5 : a.eval (.tmp 5) = .pointer (some ⟨g, 0, none⟩) := hI.good 4 5 (dep_of hdep 4 rfl) rfl
     refine ok_call (wanted_none rfl) (f := 165) (args := #[.pointer (some ⟨g, 0, none⟩)]) ?_ (HK.out w (cur_grown HCu.out (hI.world.pre hD0))) ?_
     · obtain ⟨ec, ef⟩ := ecs a; clear hI hdep hK; generalize a.eval = ρ at e5 ec ef ⊢; go_simp
     · rintro e w2 ⟨rfl, hc2, hg2⟩
       exact ⟨_, rfl, hK (.int .u8 (m : Int), w2) _ _ (hI.world.called hD0 (hI.not_up hD0 8 rfl) rfl hgp hgq ⟨rfl, hc2⟩ hg2) (mark_mono g p hD0) rfl⟩
   · intro x D a w hI hdep hD0 K hK
     have e1 : a.eval (.tmp 1) = .pointer (some ⟨p, 0, none⟩) := hI.good 0 1 (dep_of hdep 0 rfl) rfl
     refine ok_value (wanted_none rfl) (v := .pointer (some ⟨p, 0, none⟩)) ?_ (hK x _ _ (hI.world.up rfl rfl) (fun _ _ _ h => h) rfl)
     obtain ⟨ec, ef⟩ := ecs a; clear hI hdep hK; generalize a.eval = ρ at e1 ec ef ⊢; go_simp
   · intro x D a w hI hdep hD0 K hK
     have e7 : a.eval (.tmp 7) = .pointer (some ⟨p, 0, none⟩) := hI.good 6 7 (dep_of hdep 6 rfl) rfl
     refine ok_value (wanted_none rfl) (v := .pointer (some ⟨p, 12, none⟩)) ?_ (hK x _ _ (hI.world.up rfl rfl) (fun _ _ _ h => h) rfl)
     obtain ⟨ec, ef⟩ := ecs a; clear hI hdep hK; generalize a.eval = ρ at e7 ec ef ⊢; go_simp
   · intro x D a w hI hdep hD0 K hK
     have e8 : a.eval (.tmp 8) = .pointer (some ⟨p, 12, none⟩) := hI.good 7 8 (dep_of hdep 7 rfl) rfl
     have e6 : a.eval (.tmp 6) = x.1 := hI.good 5 6 (dep_of hdep 5 rfl) rfl
     have hc := dep_of hdep 5 rfl
     have z0 : w.cell? ⟨p, 12, none⟩ = some (.int .u8 (t.marks : Int)) := hI.world.old hD0 12
     have z1 := hI.world.frozen 12
     refine ok_store (wanted_none rfl) (w' := w.setCell ⟨p, 12, none⟩ x.1) ?_ (hK x undef _ (hI.world.stored hc hD0 rfl hqp) (fun _ _ _ h => h) trivial)
     have hu : x.1 = .int .u8 (m : Int) := (hI.world.post hc).1.1
     rw [hu] at e6 ⊢
     clear hu
     obtain ⟨ec, ef⟩ := ecs a; clear hI hdep hK; generalize a.eval = ρ at e8 e6 ec ef ⊢; go_simp
 · intro x D a w2 hI hD
   have hfr := hI.frame [(1, .pointer (some ⟨p, 0, none⟩)), (2, .pointer (some ⟨p, 0, none⟩)), (3, .pointer (some ⟨p, 0, none⟩)), (4, .pointer (some ⟨p, 0, none⟩)), (5, .pointer (some ⟨g, 0, none⟩)), (6, x.1), (7, .pointer (some ⟨p, 0, none⟩)), (8, .pointer (some ⟨p, 12, none⟩))] (all_cons (hI.good 0 1 (hD 0 (by decide)) rfl) (all_cons (hI.good 1 2 (hD 1 (by decide)) rfl) (all_cons (hI.good 2 3 (hD 2 (by decide)) rfl) (all_cons (hI.good 3 4 (hD 3 (by decide)) rfl) (all_cons (hI.good 4 5 (hD 4 (by decide)) rfl) (all_cons (hI.good 5 6 (hD 5 (by decide)) rfl) (all_cons (hI.good 6 7 (hD 6 (by decide)) rfl) (all_cons (hI.good 7 8 (hD 7 (by decide)) rfl) all_nil)))))))) rfl
   have hW := hI.world
   clear hI
   subst hfr
   simp only [List.foldl_cons, List.foldl_nil, List.setIfInBounds_toArray, List.set_cons_succ, List.set_cons_zero]
   obtain ⟨⟨hu, hc⟩, hg, hWW⟩ := hW.post (hD 5 (by decide))
   have hbx := hW.box
   have HPt := Lib.hid hW.pt
   rw [hD 8 (by decide), if_pos rfl] at hWW hbx
   rw [hu] at hbx
   have HF := Lib.hid (part_at (v' := v) (t' := { t with marks := m, s := s1 }) hH.out hg hc hWW (hbx.trans rfl) (hH.out.own.off (Off.grown (p := p) hg) (by have := hH.out.gp; omega) (by omega)))
   have hu1 := hu
   rw [hu1]
   clear hW hbx hWW hg hc hu hu1 hD hH HCu HK
   go_wp2
   have HMu := Lib.hid (fun W' (hB : Below w2.heap.size w2 W') => must_any g p _ _ (decide ((m : Int) ≤ 3)) 5 W' (HF.out.1.on hB) (by decide))
   dsimp only at HMu
   have hC2 := pm_start (ic := 6) (g := g) (R := fun W' => Cur W' g (Fn.ask (decide ((m : Int) ≤ 3)) 5 s1)) HPt.out HF.out.1.box
   refine region_k () 26 (fun _ D W' => PmC 6 g p q (tkCells g v m t.many) w2 (fun W' => Cur W' g (Fn.ask (decide ((m : Int) ≤ 3)) 5 s1)) D W') (mark2_G p m) (by kernel_rfl) (by kernel_rfl) (by kernel_rfl) rfl rfl hC2 ?_ ?_
   · refine ⟨?_, ?_, ?_, ?_, ?_, ?_, ?_, trivial⟩
     · intro x D a w hI hdep hD0 K hK
       have e0 : a.eval (.tmp 0) = .pointer (some ⟨q, 0, none⟩) := hI.read 0 rfl
       have z0 := hI.world.ptr
       refine ok_value (wanted_none rfl) (v := .pointer (some ⟨p, 0, none⟩)) ?_ (hK x _ _ (hI.world.up rfl) (fun _ _ _ h => h) rfl)
       obtain ⟨ec, ef⟩ := ecs a; clear hI hdep hK; generalize a.eval = ρ at e0 ec ef ⊢; go_simp
     · intro x D a w hI hdep hD0 K hK
       have e0 : a.eval (.tmp 0) = .pointer (some ⟨q, 0, none⟩) := hI.read 0 rfl
       have z0 := hI.world.ptr
       refine ok_value (wanted_none rfl) (v := .pointer (some ⟨p, 0, none⟩)) ?_ (hK x _ _ (hI.world.up rfl) (fun _ _ _ h => h) rfl)
       obtain ⟨ec, ef⟩ := ecs a; clear hI hdep hK; generalize a.eval = ρ at e0 ec ef ⊢; go_simp
     · intro x D a w hI hdep hD0 K hK
       have e10 : a.eval (.tmp 10) = .pointer (some ⟨p, 0, none⟩) := hI.good 1 10 (dep_of hdep 1 rfl) rfl
       refine ok_value (wanted_none rfl) (v := .pointer (some ⟨p, 0, none⟩)) ?_ (hK x _ _ (hI.world.up rfl) (fun _ _ _ h => h) rfl)
       obtain ⟨ec, ef⟩ := ecs a; clear hI hdep hK; generalize a.eval = ρ at e10 ec ef ⊢; go_simp
     · intro x D a w hI hdep hD0 K hK
       have e11 : a.eval (.tmp 11) = .pointer (some ⟨p, 0, none⟩) := hI.good 2 11 (dep_of hdep 2 rfl) rfl
       refine ok_value (wanted_none rfl) (v := .pointer (some ⟨p, 12, none⟩)) ?_ (hK x _ _ (hI.world.up rfl) (fun _ _ _ h => h) rfl)
       obtain ⟨ec, ef⟩ := ecs a; clear hI hdep hK; generalize a.eval = ρ at e11 ec ef ⊢; go_simp
     · intro x D a w hI hdep hD0 K hK
       have e12 : a.eval (.tmp 12) = .pointer (some ⟨p, 12, none⟩) := hI.good 3 12 (dep_of hdep 3 rfl) rfl
       have z0 : w.cell? ⟨p, 12, none⟩ = some (.int .u8 (m : Int)) := hI.world.cell 12
       refine ok_value (wanted_none rfl) (v := .int .u8 (m : Int)) ?_ (hK x _ _ (hI.world.up rfl) (fun _ _ _ h => h) rfl)
       obtain ⟨ec, ef⟩ := ecs a; clear hI hdep hK; generalize a.eval = ρ at e12 ec ef ⊢; go_simp
     · intro x D a w hI hdep hD0 K hK
       have e13 : a.eval (.tmp 13) = .int .u8 (m : Int) := hI.good 4 13 (dep_of hdep 4 rfl) rfl
       refine ok_value (wanted_none rfl) (v := .bool (decide ((m : Int) ≤ 3))) ?_ (hK x _ _ (hI.world.up rfl) (fun _ _ _ h => h) rfl)
       obtain ⟨ec, ef⟩ := ecs a; clear hI hdep hK; generalize a.eval = ρ at e13 ec ef ⊢; go_simp
     · intro x D a w hI hdep hD0 K hK
       have e9 : a.eval (.tmp 9) = .pointer (some ⟨p, 0, none⟩) := hI.good 0 9 (dep_of hdep 0 rfl) rfl
       have e14 : a.eval (.tmp 14) = .bool (decide ((m : Int) ≤ 3)) := hI.good 5 14 (dep_of hdep 5 rfl) rfl
       refine ok_call (wanted_none rfl) (f := 163) (args := #[.pointer (some ⟨p, 0, none⟩), .bool (decide ((m : Int) ≤ 3)), .int .i64 5]) ?_ (HMu.out w (hI.world.pre hD0)) ?_
       · obtain ⟨ec, ef⟩ := ecs a; clear hI hdep hK; generalize a.eval = ρ at e9 e14 ec ef ⊢; go_simp
       · rintro e w2 ⟨rfl, hc2, hg2⟩
         exact ⟨_, rfl, hK x _ _ (hI.world.called hD0 hgp hgq hc2 hg2) (fun _ _ _ h => h) rfl⟩
   · intro x D a w3 hI hD
     have hfr := hI.frame [(9, .pointer (some ⟨p, 0, none⟩)), (10, .pointer (some ⟨p, 0, none⟩)), (11, .pointer (some ⟨p, 0, none⟩)), (12, .pointer (some ⟨p, 12, none⟩)), (13, .int .u8 (m : Int)), (14, .bool (decide ((m : Int) ≤ 3))), (15, .tuple #[])] (all_cons (hI.good 0 9 (hD 0 (by decide)) rfl) (all_cons (hI.good 1 10 (hD 1 (by decide)) rfl) (all_cons (hI.good 2 11 (hD 2 (by decide)) rfl) (all_cons (hI.good 3 12 (hD 3 (by decide)) rfl) (all_cons (hI.good 4 13 (hD 4 (by decide)) rfl) (all_cons (hI.good 5 14 (hD 5 (by decide)) rfl) (all_cons (hI.good 6 15 (hD 6 (by decide)) rfl) all_nil))))))) rfl
     have hW := hI.world
     clear hI
     subst hfr
     simp only [List.foldl_cons, List.foldl_nil, List.setIfInBounds_toArray, List.set_cons_succ, List.set_cons_zero]
     obtain ⟨hc, hg⟩ := hW.post (hD 6 (by decide))
     have HPu := Lib.hid hW.pt
     have HCz := Lib.hid hc
     have HE := Lib.hid (And.intro (HF.out.1.went hc hg) (HF.out.2.trans (Off.grown (p := p) hg)))
     clear hW hc hg hD HF HMu HPt hC2
     go_wp2
     have hC3 := pc_start (ic := 6) (is := 10) (k := 2) (R := fun u W' => u = .bool (bits .and .u8 (m : Int) 1 != 0) ∧ Cur W' g (Fn.ask (decide ((m : Int) ≤ 3)) 5 s1)) (g := g) (y := (undef, w3)) HPu.out HE.out.1.box
     refine region_k ((undef, w3) : Value × World) 26 (fun x D W' => PcC 6 10 g p q 2 (tkCells g v m t.many) w3 (fun u W' => u = .bool (bits .and .u8 (m : Int) 1 != 0) ∧ Cur W' g (Fn.ask (decide ((m : Int) ≤ 3)) 5 s1)) x D W') (mark3_G p m) (by kernel_rfl) (by kernel_rfl) (by kernel_rfl) rfl rfl hC3 ?_ ?_
     · refine ⟨?_, ?_, ?_, ?_, ?_, ?_, ?_, ?_, ?_, ?_, ?_, trivial⟩
       · intro x D a w hI hdep hD0 K hK
         have e0 : a.eval (.tmp 0) = .pointer (some ⟨q, 0, none⟩) := hI.read 0 rfl
         have z0 := hI.world.ptr
         refine ok_value (wanted_none rfl) (v := .pointer (some ⟨p, 0, none⟩)) ?_ (hK x _ _ (hI.world.up rfl rfl) (fun _ _ _ h => h) rfl)
         obtain ⟨ec, ef⟩ := ecs a; clear hI hdep hK; generalize a.eval = ρ at e0 ec ef ⊢; go_simp
       · intro x D a w hI hdep hD0 K hK
         have e0 : a.eval (.tmp 0) = .pointer (some ⟨q, 0, none⟩) := hI.read 0 rfl
         have z0 := hI.world.ptr
         refine ok_value (wanted_none rfl) (v := .pointer (some ⟨p, 0, none⟩)) ?_ (hK x _ _ (hI.world.up rfl rfl) (fun _ _ _ h => h) rfl)
         obtain ⟨ec, ef⟩ := ecs a; clear hI hdep hK; generalize a.eval = ρ at e0 ec ef ⊢; go_simp
       · intro x D a w hI hdep hD0 K hK
         have e17 : a.eval (.tmp 17) = .pointer (some ⟨p, 0, none⟩) := hI.good 1 17 (dep_of hdep 1 rfl) rfl
         refine ok_value (wanted_none rfl) (v := .pointer (some ⟨p, 0, none⟩)) ?_ (hK x _ _ (hI.world.up rfl rfl) (fun _ _ _ h => h) rfl)
         obtain ⟨ec, ef⟩ := ecs a; clear hI hdep hK; generalize a.eval = ρ at e17 ec ef ⊢; go_simp
       · intro x D a w hI hdep hD0 K hK
         have e18 : a.eval (.tmp 18) = .pointer (some ⟨p, 0, none⟩) := hI.good 2 18 (dep_of hdep 2 rfl) rfl
         refine ok_value (wanted_none rfl) (v := .pointer (some ⟨p, 12, none⟩)) ?_ (hK x _ _ (hI.world.up rfl rfl) (fun _ _ _ h => h) rfl)
         obtain ⟨ec, ef⟩ := ecs a; clear hI hdep hK; generalize a.eval = ρ at e18 ec ef ⊢; go_simp
       · intro x D a w hI hdep hD0 K hK
         have e19 : a.eval (.tmp 19) = .pointer (some ⟨p, 12, none⟩) := hI.good 3 19 (dep_of hdep 3 rfl) rfl
         have z0 : w.cell? ⟨p, 12, none⟩ = some (.int .u8 (m : Int)) := hI.world.cell (j := 12) (by decide)
         refine ok_value (wanted_none rfl) (v := .int .u8 (m : Int)) ?_ (hK x _ _ (hI.world.up rfl rfl) (fun _ _ _ h => h) rfl)
         obtain ⟨ec, ef⟩ := ecs a; clear hI hdep hK; generalize a.eval = ρ at e19 ec ef ⊢; go_simp
       · intro x D a w hI hdep hD0 K hK
         have e20 : a.eval (.tmp 20) = .int .u8 (m : Int) := hI.good 4 20 (dep_of hdep 4 rfl) rfl
         refine ok_value (wanted_none rfl) (v := .int .u8 (bits .and .u8 (m : Int) 1)) ?_ (hK x _ _ (hI.world.up rfl rfl) (fun _ _ _ h => h) rfl)
         obtain ⟨ec, ef⟩ := ecs a; clear hI hdep hK; generalize a.eval = ρ at e20 ec ef ⊢; go_simp
       · intro x D a w hI hdep hD0 K hK
         have e21 : a.eval (.tmp 21) = .int .u8 (bits .and .u8 (m : Int) 1) := hI.good 5 21 (dep_of hdep 5 rfl) rfl
         refine ok_value (wanted_none rfl) (v := .bool (bits .and .u8 (m : Int) 1 != 0)) ?_ (hK (.bool (bits .and .u8 (m : Int) 1 != 0), w) _ _ (hI.world.called hD0 (hI.not_up hD0 10 rfl) rfl hgp hgq ⟨rfl, cur_grown HCz.out (hI.world.pre hD0)⟩ (World.grownBy.refl _ _)) (mark3_mono p m hD0) rfl)
         obtain ⟨ec, ef⟩ := ecs a; clear hI hdep hK; generalize a.eval = ρ at e21 ec ef ⊢; go_simp
       · intro x D a w hI hdep hD0 K hK
         have e16 : a.eval (.tmp 16) = .pointer (some ⟨p, 0, none⟩) := hI.good 0 16 (dep_of hdep 0 rfl) rfl
         refine ok_value (wanted_none rfl) (v := .pointer (some ⟨p, 0, none⟩)) ?_ (hK x _ _ (hI.world.up rfl rfl) (fun _ _ _ h => h) rfl)
         obtain ⟨ec, ef⟩ := ecs a; clear hI hdep hK; generalize a.eval = ρ at e16 ec ef ⊢; go_simp
       · intro x D a w hI hdep hD0 K hK
         have e23 : a.eval (.tmp 23) = .pointer (some ⟨p, 0, none⟩) := hI.good 7 23 (dep_of hdep 7 rfl) rfl
         refine ok_value (wanted_none rfl) (v := .pointer (some ⟨p, 1, none⟩)) ?_ (hK x _ _ (hI.world.up rfl rfl) (fun _ _ _ h => h) rfl)
         obtain ⟨ec, ef⟩ := ecs a; clear hI hdep hK; generalize a.eval = ρ at e23 ec ef ⊢; go_simp
       · intro x D a w hI hdep hD0 K hK
         have e24 : a.eval (.tmp 24) = .pointer (some ⟨p, 1, none⟩) := hI.good 8 24 (dep_of hdep 8 rfl) rfl
         refine ok_value (wanted_none rfl) (v := .pointer (some ⟨p, 2, none⟩)) ?_ (hK x _ _ (hI.world.up rfl rfl) (fun _ _ _ h => h) rfl)
         obtain ⟨ec, ef⟩ := ecs a; clear hI hdep hK; generalize a.eval = ρ at e24 ec ef ⊢; go_simp
       · intro x D a w hI hdep hD0 K hK
         have e25 : a.eval (.tmp 25) = .pointer (some ⟨p, 2, none⟩) := hI.good 9 25 (dep_of hdep 9 rfl) rfl
         have e22 : a.eval (.tmp 22) = x.1 := hI.good 6 22 (dep_of hdep 6 rfl) rfl
         have hc := dep_of hdep 6 rfl
         have z0 : w.cell? ⟨p, 2, none⟩ = some (.bool v.inner) := hI.world.old hD0 2
         have z1 := hI.world.frozen 2
         refine ok_store (wanted_none rfl) (w' := w.setCell ⟨p, 2, none⟩ x.1) ?_ (hK x undef _ (hI.world.stored hc hD0 rfl hqp) (fun _ _ _ h => h) trivial)
         have hu : x.1 = .bool (bits .and .u8 (m : Int) 1 != 0) := (hI.world.post hc).1.1
         rw [hu] at e22 ⊢
         clear hu
         obtain ⟨ec, ef⟩ := ecs a; clear hI hdep hK; generalize a.eval = ρ at e25 e22 ec ef ⊢; go_simp
     · intro x D a w4 hI hD
       have hfr := hI.frame [(16, .pointer (some ⟨p, 0, none⟩)), (17, .pointer (some ⟨p, 0, none⟩)), (18, .pointer (some ⟨p, 0, none⟩)), (19, .pointer (some ⟨p, 12, none⟩)), (20, .int .u8 (m : Int)), (21, .int .u8 (bits .and .u8 (m : Int) 1)), (22, x.1), (23, .pointer (some ⟨p, 0, none⟩)), (24, .pointer (some ⟨p, 1, none⟩)), (25, .pointer (some ⟨p, 2, none⟩))] (all_cons (hI.good 0 16 (hD 0 (by decide)) rfl) (all_cons (hI.good 1 17 (hD 1 (by decide)) rfl) (all_cons (hI.good 2 18 (hD 2 (by decide)) rfl) (all_cons (hI.good 3 19 (hD 3 (by decide)) rfl) (all_cons (hI.good 4 20 (hD 4 (by decide)) rfl) (all_cons (hI.good 5 21 (hD 5 (by decide)) rfl) (all_cons (hI.good 6 22 (hD 6 (by decide)) rfl) (all_cons (hI.good 7 23 (hD 7 (by decide)) rfl) (all_cons (hI.good 8 24 (hD 8 (by decide)) rfl) (all_cons (hI.good 9 25 (hD 9 (by decide)) rfl) all_nil)))))))))) rfl
       have hW := hI.world
       clear hI
       subst hfr
       simp only [List.foldl_cons, List.foldl_nil, List.setIfInBounds_toArray, List.set_cons_succ, List.set_cons_zero]
       obtain ⟨⟨hu, hc⟩, hg, hWW⟩ := hW.post (hD 6 (by decide))
       have hbx := hW.box
       rw [hD 10 (by decide), if_pos rfl] at hWW hbx
       rw [hu, HM.out] at hbx
       rw [HB.out] at hc
       have HL := Lib.hid (part_at (v' := { v with inner := decide (m % 2 = 1) }) (t' := { t with f := { t.f with inner := decide (m % 2 = 1) }, marks := m, s := Fn.ask (decide (m ≤ 3)) 5 s1 }) HE.out.1 hg hc hWW (hbx.trans rfl) { HE.out.1.own.off (Off.grown (p := p) hg) (by have := HE.out.1.gp; omega) (by omega) with inner := rfl })
       have HO := Lib.hid (HE.out.2.trans HL.out.2)
       have HT := Lib.hid HL.out.1
       rw [hu]
       clear hW hbx hWW hg hc hu hD HE HCz HPu HB HM HL
       go_wp2
       go_end0
       exact ⟨rfl, ⟨_, HT.out⟩, HO.out⟩
end Go.Proofs.YtdopheoedpldiaaGreatDoor
