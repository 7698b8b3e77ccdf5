/-
 What instr.Right tells. Conditions: none.
-/
import Derived.Test.YtmhmlhlplfkpaaaDoorSiOp
import Derived.Test.YtmhmlhlplfkpaaaDoorReg
set_option maxRecDepth 100000
namespace Go.Proofs.YtmhmlhlplfkpaaaDoor
open Go.RowKit
def RgG (p : Nat) (op a0 k : Int) (r : Bool) (_ : Unit) : Nat → Value → Prop
 | 0, v => v = .pointer (some ⟨p, 0, none⟩)
 | 1, v => v = .int .i64 op
 | 2, v => v = .bool true
 | 3, v => v = .bool true
 | 4, v => v = .pointer (some ⟨p, 0, none⟩)
 | 5, v => v = .int .i64 op
 | 6, v => v = .int .i64 k
 | 7, v => v = .func (.func (mayF k)) #[] #[]
 | 8, v => v = .agg #[.int .i64 op, .int .i64 a0]
 | 9, v => v = .bool r
 | 10, v => v = .bool r
 | 11, v => v = .bool r
 | _, _ => True
def RgF (p : Nat) (op : Int) (_ : Unit) : Nat → Value → Prop
 | 0, v => v = .pointer (some ⟨p, 0, none⟩)
 | 1, v => v = .int .i64 op
 | 2, v => v = .bool false
 | 3, v => v = .bool false
 | 4, v => v = undef
 | 5, v => v = undef
 | 6, v => v = undef
 | 7, v => v = undef
 | 8, v => v = undef
 | 9, v => v = undef
 | 10, v => v = .bool false
 | 11, v => v = .bool false
 | _, _ => True
theorem asks_enter (k : Int) (h : 0 ≤ k ∧ k ≤ 6) (args : Array Value) (w : World) : (callFunc (mayF k) args).run Tryd.prog w = .ok (.enter (mayF k) args) w := by
 obtain rfl | rfl | rfl | rfl | rfl | rfl | rfl : k = 0 ∨ k = 1 ∨ k = 2 ∨ k = 3 ∨ k = 4 ∨ k = 5 ∨ k = 6 := by omega
 all_goals kernel_rfl
set_option maxHeartbeats 1000000 in
theorem inright_any (op a0 : Int) (w : World) : Calls Tryd.prog 29 #[.agg #[.int .i64 op, .int .i64 a0]] w (BoolP (In.right op a0) w) := by
 have hkn := known_any op
 cases hc : In.known op with
 | false =>
   rw [hc] at hkn
   rw [show In.right op a0 = false by unfold In.right; rw [hc]; rfl]
   have HKn := Lib.hid hkn
   clear hkn hc
   go_enter Tryd.func29, Tryd.ntmps29
   go_wp2
   have hh := heap_alloc_new w (.cells #[.int .i64 op, .int .i64 a0] 52)
   have q0 := cell_of_row _ _ 0 _ _ _ hh
   have hlp : w.heap.size < (w.alloc (.cells #[.int .i64 op, .int .i64 a0] 52)).heap.size := by simp
   have HB := Lib.hid ((Below.refl w.heap.size w).alloc (Nat.le_refl _) (.cells #[.int .i64 op, .int .i64 a0] 52))
   clear hh
   generalize w.alloc (.cells #[.int .i64 op, .int .i64 a0] 52) = w1 at *
   generalize hp : w.heap.size = p at *
   refine region_k () 14 (fun _ _ W => Below w1.heap.size w1 W) (RgF p op) (by kernel_rfl) (by kernel_rfl) (by kernel_rfl) rfl rfl (Below.refl _ _).drew ?_ ?_
   · refine ⟨?_, ?_, ?_, ?_, ?_, ?_, ?_, ?_, ?_, ?_, ?_, ?_, trivial⟩
     · intro x D a w hI hdep hD0 K hK
       have e1 : a.eval (.tmp 1) = .pointer (some ⟨p, 0, none⟩) := hI.read 1 rfl
       refine ok_value (wanted_none rfl) (v := .pointer (some ⟨p, 0, none⟩)) ?_ (hK x _ _ (hI.world) (fun _ _ _ h => h) rfl)
       obtain ⟨ec, ef⟩ := ecs a; clear hI hdep hK; generalize a.eval = ρ at e1 ec ef ⊢; go_simp
     · intro x D a w hI hdep hD0 K hK
       have e3 : a.eval (.tmp 3) = .pointer (some ⟨p, 0, none⟩) := hI.good 0 3 (dep_of hdep 0 rfl) rfl
       have x0 := (hI.world.cell (p := ⟨p, 0, none⟩) hlp).trans q0
       refine ok_value (wanted_none rfl) (v := .int .i64 op) ?_ (hK x _ _ (hI.world) (fun _ _ _ h => h) rfl)
       obtain ⟨ec, ef⟩ := ecs a; clear hI hdep hK; generalize a.eval = ρ at e3 ec ef ⊢; go_simp
     · intro x D a w hI hdep hD0 K hK
       have e4 : a.eval (.tmp 4) = .int .i64 op := hI.good 1 4 (dep_of hdep 1 rfl) rfl
       refine ok_call (wanted_none rfl) (f := 41) (args := #[.int .i64 op]) ?_ (HKn.out w) ?_
       · obtain ⟨ec, ef⟩ := ecs a; clear hI hdep hK; generalize a.eval = ρ at e4 ec ef ⊢; go_simp
       · rintro e w2 ⟨rfl, he⟩
         obtain rfl := he.symm
         exact ⟨_, rfl, hK x _ _ hI.world (fun _ _ _ h => h) rfl⟩
     · intro x D a w hI hdep hD0 K hK
       have e5 : a.eval (.tmp 5) = .bool false := hI.good 2 5 (dep_of hdep 2 rfl) rfl
       refine ok_value (wanted_none rfl) (v := .bool false) ?_ (hK x _ _ (hI.world) (fun _ _ _ h => h) rfl)
       obtain ⟨ec, ef⟩ := ecs a; clear hI hdep hK; generalize a.eval = ρ at e5 ec ef ⊢; go_simp
     · intro x D a w hI hdep hD0 K hK
       have eg : a.eval (.tmp 6) = .bool false := hI.good 3 6 (dep_of hdep 3 rfl) rfl
       refine ok_not rfl rfl hI.size (by simp) eg (by decide) (hK x undef _ (hI.world) (fun _ _ _ h => h) rfl)
     · intro x D a w hI hdep hD0 K hK
       have eg : a.eval (.tmp 6) = .bool false := hI.good 3 6 (dep_of hdep 3 rfl) rfl
       refine ok_not rfl rfl hI.size (by simp) eg (by decide) (hK x undef _ (hI.world) (fun _ _ _ h => h) rfl)
     · intro x D a w hI hdep hD0 K hK
       have eg : a.eval (.tmp 6) = .bool false := hI.good 3 6 (dep_of hdep 3 rfl) rfl
       refine ok_not rfl rfl hI.size (by simp) eg (by decide) (hK x undef _ (hI.world) (fun _ _ _ h => h) rfl)
     · intro x D a w hI hdep hD0 K hK
       have eg : a.eval (.tmp 6) = .bool false := hI.good 3 6 (dep_of hdep 3 rfl) rfl
       refine ok_not rfl rfl hI.size (by simp) eg (by decide) (hK x undef _ (hI.world) (fun _ _ _ h => h) rfl)
     · intro x D a w hI hdep hD0 K hK
       have eg : a.eval (.tmp 6) = .bool false := hI.good 3 6 (dep_of hdep 3 rfl) rfl
       refine ok_not rfl rfl hI.size (by simp) eg (by decide) (hK x undef _ (hI.world) (fun _ _ _ h => h) rfl)
     · intro x D a w hI hdep hD0 K hK
       have eg : a.eval (.tmp 6) = .bool false := hI.good 3 6 (dep_of hdep 3 rfl) rfl
       refine ok_not rfl rfl hI.size (by simp) eg (by decide) (hK x undef _ (hI.world) (fun _ _ _ h => h) rfl)
     · intro x D a w hI hdep hD0 K hK
       have e6 : a.eval (.tmp 6) = .bool false := hI.good 3 6 (dep_of hdep 3 rfl) rfl
       refine ok_value (wanted_none rfl) (v := .bool false) ?_ (hK x _ _ (hI.world) (fun _ _ _ h => h) rfl)
       obtain ⟨ec, ef⟩ := ecs a; clear hI hdep hK; generalize a.eval = ρ at e6 ec ef ⊢; go_simp
     · intro x D a w hI hdep hD0 K hK
       have e13 : a.eval (.tmp 13) = .bool false := hI.good 10 13 (dep_of hdep 10 rfl) rfl
       refine ok_value (wanted_none rfl) (v := .bool false) ?_ (hK x _ _ (hI.world) (fun _ _ _ h => h) rfl)
       obtain ⟨ec, ef⟩ := ecs a; clear hI hdep hK; generalize a.eval = ρ at e13 ec ef ⊢; go_simp
   · intro x D a w hI hD
     have hfr := hI.frame [(3, .pointer (some ⟨p, 0, none⟩)), (4, .int .i64 op), (5, .bool false), (6, .bool false), (7, undef), (8, undef), (9, undef), (10, undef), (11, undef), (12, undef), (13, .bool false), (2, .bool false)] (all_cons (hI.good 0 3 (hD 0 (by decide)) rfl) (all_cons (hI.good 1 4 (hD 1 (by decide)) rfl) (all_cons (hI.good 2 5 (hD 2 (by decide)) rfl) (all_cons (hI.good 3 6 (hD 3 (by decide)) rfl) (all_cons (hI.good 4 7 (hD 4 (by decide)) rfl) (all_cons (hI.good 5 8 (hD 5 (by decide)) rfl) (all_cons (hI.good 6 9 (hD 6 (by decide)) rfl) (all_cons (hI.good 7 10 (hD 7 (by decide)) rfl) (all_cons (hI.good 8 11 (hD 8 (by decide)) rfl) (all_cons (hI.good 9 12 (hD 9 (by decide)) rfl) (all_cons (hI.good 10 13 (hD 10 (by decide)) rfl) (all_cons (hI.good 11 2 (hD 11 (by decide)) rfl) all_nil)))))))))))) rfl
     have hW := hI.world
     clear hI
     subst hfr
     simp only [List.foldl_cons, List.foldl_nil, List.setIfInBounds_toArray, List.set_cons_succ, List.set_cons_zero]
     have HB2 := Lib.hid (HB.out.trans (hW.mono (Nat.le_of_lt hlp)))
     clear hW hD q0
     go_wp2
     go_ret
     exact ⟨rfl, by rw [hp]; exact HB2.out⟩
 | true =>
   rw [hc] at hkn
   have hk := In.kind_in op
   have hop := operand_any op
   have has := asked_any (In.kind op) hk op a0
   rw [show In.right op a0 = In.fits (In.kind op) a0 by unfold In.right; rw [hc]; rfl]
   unfold In.kind at hk has ⊢
   generalize In.fits (Op.row op).operand a0 = r at *
   generalize (Op.row op).operand = k at *
   have HKn := Lib.hid hkn
   have HOp := Lib.hid hop
   have HAs := Lib.hid has
   clear hkn hop has hc
   go_enter Tryd.func29, Tryd.ntmps29
   go_wp2
   have hh := heap_alloc_new w (.cells #[.int .i64 op, .int .i64 a0] 52)
   have q0 := cell_of_row _ _ 0 _ _ _ hh
   have q1 := cell_of_row _ _ 1 _ _ _ hh
   have hlp : w.heap.size < (w.alloc (.cells #[.int .i64 op, .int .i64 a0] 52)).heap.size := by simp
   have HB := Lib.hid ((Below.refl w.heap.size w).alloc (Nat.le_refl _) (.cells #[.int .i64 op, .int .i64 a0] 52))
   clear hh
   generalize w.alloc (.cells #[.int .i64 op, .int .i64 a0] 52) = w1 at *
   generalize hp : w.heap.size = p at *
   refine region_k () 14 (fun _ _ W => Below w1.heap.size w1 W) (RgG p op a0 k r) (by kernel_rfl) (by kernel_rfl) (by kernel_rfl) rfl rfl (Below.refl _ _).drew ?_ ?_
   · refine ⟨?_, ?_, ?_, ?_, ?_, ?_, ?_, ?_, ?_, ?_, ?_, ?_, trivial⟩
     · intro x D a w hI hdep hD0 K hK
       have e1 : a.eval (.tmp 1) = .pointer (some ⟨p, 0, none⟩) := hI.read 1 rfl
       refine ok_value (wanted_none rfl) (v := .pointer (some ⟨p, 0, none⟩)) ?_ (hK x _ _ (hI.world) (fun _ _ _ h => h) rfl)
       obtain ⟨ec, ef⟩ := ecs a; clear hI hdep hK; generalize a.eval = ρ at e1 ec ef ⊢; go_simp
     · intro x D a w hI hdep hD0 K hK
       have e3 : a.eval (.tmp 3) = .pointer (some ⟨p, 0, none⟩) := hI.good 0 3 (dep_of hdep 0 rfl) rfl
       have x0 := (hI.world.cell (p := ⟨p, 0, none⟩) hlp).trans q0
       refine ok_value (wanted_none rfl) (v := .int .i64 op) ?_ (hK x _ _ (hI.world) (fun _ _ _ h => h) rfl)
       obtain ⟨ec, ef⟩ := ecs a; clear hI hdep hK; generalize a.eval = ρ at e3 ec ef ⊢; go_simp
     · intro x D a w hI hdep hD0 K hK
       have e4 : a.eval (.tmp 4) = .int .i64 op := hI.good 1 4 (dep_of hdep 1 rfl) rfl
       refine ok_call (wanted_none rfl) (f := 41) (args := #[.int .i64 op]) ?_ (HKn.out w) ?_
       · obtain ⟨ec, ef⟩ := ecs a; clear hI hdep hK; generalize a.eval = ρ at e4 ec ef ⊢; go_simp
       · rintro e w2 ⟨rfl, he⟩
         obtain rfl := he.symm
         exact ⟨_, rfl, hK x _ _ hI.world (fun _ _ _ h => h) rfl⟩
     · intro x D a w hI hdep hD0 K hK
       have e5 : a.eval (.tmp 5) = .bool true := hI.good 2 5 (dep_of hdep 2 rfl) rfl
       refine ok_value (wanted_none rfl) (v := .bool true) ?_ (hK x _ _ (hI.world) (fun _ _ _ h => h) rfl)
       obtain ⟨ec, ef⟩ := ecs a; clear hI hdep hK; generalize a.eval = ρ at e5 ec ef ⊢; go_simp
     · intro x D a w hI hdep hD0 K hK
       have eg : a.eval (.tmp 6) = .bool true := hI.good 3 6 (dep_of hdep 3 rfl) rfl
       have e1 : a.eval (.tmp 1) = .pointer (some ⟨p, 0, none⟩) := hI.read 1 rfl
       refine ok_value (wanted_is rfl rfl hI.size (by simp) eg) (v := .pointer (some ⟨p, 0, none⟩)) ?_ (hK x _ _ (hI.world) (fun _ _ _ h => h) rfl)
       obtain ⟨ec, ef⟩ := ecs a; clear hI hdep hK; generalize a.eval = ρ at eg e1 ec ef ⊢; go_simp
     · intro x D a w hI hdep hD0 K hK
       have eg : a.eval (.tmp 6) = .bool true := hI.good 3 6 (dep_of hdep 3 rfl) rfl
       have e7 : a.eval (.tmp 7) = .pointer (some ⟨p, 0, none⟩) := hI.good 4 7 (dep_of hdep 4 rfl) rfl
       have x0 := (hI.world.cell (p := ⟨p, 0, none⟩) hlp).trans q0
       refine ok_value (wanted_is rfl rfl hI.size (by simp) eg) (v := .int .i64 op) ?_ (hK x _ _ (hI.world) (fun _ _ _ h => h) rfl)
       obtain ⟨ec, ef⟩ := ecs a; clear hI hdep hK; generalize a.eval = ρ at eg e7 ec ef ⊢; go_simp
     · intro x D a w hI hdep hD0 K hK
       have eg : a.eval (.tmp 6) = .bool true := hI.good 3 6 (dep_of hdep 3 rfl) rfl
       have e8 : a.eval (.tmp 8) = .int .i64 op := hI.good 5 8 (dep_of hdep 5 rfl) rfl
       refine ok_call (wanted_is rfl rfl hI.size (by simp) eg) (f := 43) (args := #[.int .i64 op]) ?_ (HOp.out w) ?_
       · obtain ⟨ec, ef⟩ := ecs a; clear hI hdep hK; generalize a.eval = ρ at eg e8 ec ef ⊢; go_simp
       · rintro e w2 ⟨rfl, hb2⟩
         exact ⟨_, rfl, hK x _ _ (hI.world.trans (hb2.mono hI.world.size)) (fun _ _ _ h => h) rfl⟩
     · intro x D a w hI hdep hD0 K hK
       have eg : a.eval (.tmp 6) = .bool true := hI.good 3 6 (dep_of hdep 3 rfl) rfl
       have e9 : a.eval (.tmp 9) = .int .i64 k := hI.good 6 9 (dep_of hdep 6 rfl) rfl
       refine ok_call (wanted_is rfl rfl hI.size (by simp) eg) (f := 42) (args := #[.int .i64 k]) ?_ (inmay_any k hk w) ?_
       · obtain ⟨ec, ef⟩ := ecs a; clear hI hdep hK; generalize a.eval = ρ at eg e9 ec ef ⊢; go_simp
       · rintro e w2 ⟨rfl, he⟩
         obtain rfl := he.symm
         exact ⟨_, rfl, hK x _ _ hI.world (fun _ _ _ h => h) rfl⟩
     · intro x D a w hI hdep hD0 K hK
       have eg : a.eval (.tmp 6) = .bool true := hI.good 3 6 (dep_of hdep 3 rfl) rfl
       have e1 : a.eval (.tmp 1) = .pointer (some ⟨p, 0, none⟩) := hI.read 1 rfl
       have x0 := (hI.world.cell (p := ⟨p, 0, none⟩) hlp).trans q0
       have x1 := (hI.world.cell (p := ⟨p, 1, none⟩) hlp).trans q1
       refine ok_value (wanted_is rfl rfl hI.size (by simp) eg) (v := .agg #[.int .i64 op, .int .i64 a0]) ?_ (hK x _ _ (hI.world) (fun _ _ _ h => h) rfl)
       obtain ⟨ec, ef⟩ := ecs a; clear hI hdep hK; generalize a.eval = ρ at eg e1 ec ef ⊢; go_simp
     · intro x D a w hI hdep hD0 K hK
       have eg : a.eval (.tmp 6) = .bool true := hI.good 3 6 (dep_of hdep 3 rfl) rfl
       have e10 : a.eval (.tmp 10) = .func (.func (mayF k)) #[] #[] := hI.good 7 10 (dep_of hdep 7 rfl) rfl
       have e11 : a.eval (.tmp 11) = .agg #[.int .i64 op, .int .i64 a0] := hI.good 8 11 (dep_of hdep 8 rfl) rfl
       refine ok_call (wanted_is rfl rfl hI.size (by simp) eg) (f := mayF k) (args := #[.agg #[.int .i64 op, .int .i64 a0]]) ?_ (HAs.out w) ?_
       · obtain ⟨ec, ef⟩ := ecs a; clear hI hdep hK; generalize a.eval = ρ at eg e10 e11 ec ef ⊢; go_simp
         exact asks_enter k hk _ w
       · rintro e w2 ⟨rfl, hb2⟩
         exact ⟨_, rfl, hK x _ _ (hI.world.trans (hb2.mono hI.world.size)) (fun _ _ _ h => h) rfl⟩
     · intro x D a w hI hdep hD0 K hK
       have e6 : a.eval (.tmp 6) = .bool true := hI.good 3 6 (dep_of hdep 3 rfl) rfl
       have e12 : a.eval (.tmp 12) = .bool r := hI.good 9 12 (dep_of hdep 9 rfl) rfl
       refine ok_value (wanted_none rfl) (v := .bool r) ?_ (hK x _ _ (hI.world) (fun _ _ _ h => h) rfl)
       obtain ⟨ec, ef⟩ := ecs a; clear hI hdep hK; generalize a.eval = ρ at e6 e12 ec ef ⊢; go_simp
     · intro x D a w hI hdep hD0 K hK
       have e13 : a.eval (.tmp 13) = .bool r := hI.good 10 13 (dep_of hdep 10 rfl) rfl
       refine ok_value (wanted_none rfl) (v := .bool r) ?_ (hK x _ _ (hI.world) (fun _ _ _ h => h) rfl)
       obtain ⟨ec, ef⟩ := ecs a; clear hI hdep hK; generalize a.eval = ρ at e13 ec ef ⊢; go_simp
   · intro x D a w hI hD
     have hfr := hI.frame [(3, .pointer (some ⟨p, 0, none⟩)), (4, .int .i64 op), (5, .bool true), (6, .bool true), (7, .pointer (some ⟨p, 0, none⟩)), (8, .int .i64 op), (9, .int .i64 k), (10, .func (.func (mayF k)) #[] #[]), (11, .agg #[.int .i64 op, .int .i64 a0]), (12, .bool r), (13, .bool r), (2, .bool r)] (all_cons (hI.good 0 3 (hD 0 (by decide)) rfl) (all_cons (hI.good 1 4 (hD 1 (by decide)) rfl) (all_cons (hI.good 2 5 (hD 2 (by decide)) rfl) (all_cons (hI.good 3 6 (hD 3 (by decide)) rfl) (all_cons (hI.good 4 7 (hD 4 (by decide)) rfl) (all_cons (hI.good 5 8 (hD 5 (by decide)) rfl) (all_cons (hI.good 6 9 (hD 6 (by decide)) rfl) (all_cons (hI.good 7 10 (hD 7 (by decide)) rfl) (all_cons (hI.good 8 11 (hD 8 (by decide)) rfl) (all_cons (hI.good 9 12 (hD 9 (by decide)) rfl) (all_cons (hI.good 10 13 (hD 10 (by decide)) rfl) (all_cons (hI.good 11 2 (hD 11 (by decide)) rfl) all_nil)))))))))))) rfl
     have hW := hI.world
     clear hI
     subst hfr
     simp only [List.foldl_cons, List.foldl_nil, List.setIfInBounds_toArray, List.set_cons_succ, List.set_cons_zero]
     have HB2 := Lib.hid (HB.out.trans (hW.mono (Nat.le_of_lt hlp)))
     clear hW hD q0 q1
     go_wp2
     go_ret
     exact ⟨rfl, by rw [hp]; exact HB2.out⟩
end Go.Proofs.YtmhmlhlplfkpaaaDoor
