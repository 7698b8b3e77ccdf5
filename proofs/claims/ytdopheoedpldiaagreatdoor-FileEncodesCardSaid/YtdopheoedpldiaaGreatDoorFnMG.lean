/-
 The function that takes a list of types, as types makes it: its captured boxes. Conditions: none.
-/
import Derived.Test.YtdopheoedpldiaaGreatDoorFnPl
set_option maxRecDepth 100000
namespace Go.Proofs.YtdopheoedpldiaaGreatDoor
open Go.RowKit
theorem mklist_any (p k q : Nat) (most : Int) (W : World) : Calls Tryz.prog 166 #[.pointer (some ⟨p, k, none⟩), .int .i64 most, .pointer (some ⟨q, 0, none⟩)] W fun e W' =>
   ∃ bm bt, e = .returned (.func (.func 167) #[] #[.pointer (some ⟨q, 0, none⟩), .pointer (some ⟨bm, 0, none⟩), .pointer (some ⟨bt, 0, none⟩)]) ∧ W.heap.size ≤ bm ∧ W.heap.size ≤ bt ∧ BoxV bm 3 (.int .i64 most) W' ∧ BoxV bt 182 (.pointer (some ⟨p, k, none⟩)) W' ∧ Below W.heap.size W W' := by
 have HB := Lib.hid (((Below.refl W.heap.size W).alloc (Nat.le_refl _) (.cells #[.pointer (some ⟨p, k, none⟩)] 182)).alloc (by simp) (.cells #[.int .i64 most] 3))
 have HM := Lib.hid (show BoxV (W.heap.size + 1) 3 (.int .i64 most) ((W.alloc (.cells #[.pointer (some ⟨p, k, none⟩)] 182)).alloc (.cells #[.int .i64 most] 3)) from by have := heap_alloc_new (W.alloc (.cells #[.pointer (some ⟨p, k, none⟩)] 182)) (.cells #[.int .i64 most] 3); simpa [BoxV] using this)
 have HT := Lib.hid (show BoxV W.heap.size 182 (.pointer (some ⟨p, k, none⟩)) ((W.alloc (.cells #[.pointer (some ⟨p, k, none⟩)] 182)).alloc (.cells #[.int .i64 most] 3)) from by
   have h1 := heap_alloc_new W (.cells #[.pointer (some ⟨p, k, none⟩)] 182)
   exact (((Below.refl _ _).alloc (Nat.le_refl _) (.cells #[.int .i64 most] 3)).block W.heap.size (heap_lt h1)).trans h1)
 go_enter Tryz.func166, Tryz.ntmps166
 go_wp2
 go_ret
 exact ⟨_, _, rfl, by simp, by simp, HM.out, HT.out, HB.out⟩
end Go.Proofs.YtdopheoedpldiaaGreatDoor
namespace Go.Proofs.YtdopheoedpldiaaGreatDoor
open Go.RowKit
def partF (k : Nat) (q : Nat) : Value := .func (.func k) #[] #[.pointer (some ⟨q, 0, none⟩)]
def GroupP (p : Nat) (l : Nat → Array Value) (w : World) (e : Ending) (w' : World) : Prop :=
 ∃ q b, e = .returned (.slice (some ⟨b, 0, none⟩) (l q).size (l q).size) ∧ w.heap.size ≤ q ∧ w.heap.size ≤ b ∧ PtAt q p w' ∧ w'.heap[b]? = some (.cells (l q) 161 (0, 0)) ∧ Below w.heap.size w w'
theorem group_new (p : Nat) (l : Nat → Array Value) (w : World) : PtAt w.heap.size p ((w.alloc (.cells #[.pointer (some ⟨p, 0, none⟩)] 178)).alloc (.cells (l w.heap.size) 161)) ∧
   ((w.alloc (.cells #[.pointer (some ⟨p, 0, none⟩)] 178)).alloc (.cells (l w.heap.size) 161)).heap[w.heap.size + 1]? = some (.cells (l w.heap.size) 161 (0, 0)) ∧
   Below w.heap.size w ((w.alloc (.cells #[.pointer (some ⟨p, 0, none⟩)] 178)).alloc (.cells (l w.heap.size) 161)) := by
 have h1 := heap_alloc_new w (.cells #[.pointer (some ⟨p, 0, none⟩)] 178)
 refine ⟨(((Below.refl _ _).alloc (Nat.le_refl _) (.cells (l w.heap.size) 161)).block w.heap.size (heap_lt h1)).trans h1, ?_, ((Below.refl _ _).alloc (Nat.le_refl _) _).alloc (by simp) _⟩
 have := heap_alloc_new (w.alloc (.cells #[.pointer (some ⟨p, 0, none⟩)] 178)) (.cells (l w.heap.size) 161)
 simpa using this
theorem title_any (p : Nat) (W : World) : Calls Tryz.prog 136 #[.pointer (some ⟨p, 0, none⟩)] W (GroupP p (fun q => #[partF 161 q, partF 164 q]) W) := by
 have HG := Lib.hid (group_new p (fun q => #[partF 161 q, partF 164 q]) W)
 go_enter Tryz.func136, Tryz.ntmps136
 go_wp2
 go_ret
 exact ⟨W.heap.size, W.heap.size + 1, by simp [partF], Nat.le_refl _, by omega, HG.out.1, HG.out.2.1, HG.out.2.2⟩
theorem body_any (p : Nat) (W : World) : Calls Tryz.prog 138 #[.pointer (some ⟨p, 0, none⟩)] W (GroupP p (fun q => #[partF 170 q, partF 171 q, partF 173 q]) W) := by
 have HG := Lib.hid (group_new p (fun q => #[partF 170 q, partF 171 q, partF 173 q]) W)
 go_enter Tryz.func138, Tryz.ntmps138
 go_wp2
 go_ret
 exact ⟨W.heap.size, W.heap.size + 1, by simp [partF], Nat.le_refl _, by omega, HG.out.1, HG.out.2.1, HG.out.2.2⟩
theorem and2_u8 : ∀ m : Nat, m < 256 → (bits .and .u8 (m : Int) 2 == 0) = decide (m / 2 % 2 = 0) := by decide +kernel
theorem tables_any (g p : Nat) (v : FnV) (t : Fn.St) (W : World) (h : TkAt g p v t W) (hm : t.marks < 256) : Calls Tryz.prog 139 #[.pointer (some ⟨p, 0, none⟩)] W fun e W' =>
   (t.marks / 2 % 2 = 0 ∧ e = .returned (.slice none 0 0) ∧ Below W.heap.size W W') ∨
   (¬ t.marks / 2 % 2 = 0 ∧ GroupP p (fun q => #[partF 175 q, partF 177 q, partF 179 q]) W e W') := by
 have HG := Lib.hid (group_new p (fun q => #[partF 175 q, partF 177 q, partF 179 q]) W)
 have hb := (Below.refl W.heap.size W).alloc (Nat.le_refl _) (.cells #[.pointer (some ⟨p, 0, none⟩)] 178)
 have c12 : (W.alloc (.cells #[.pointer (some ⟨p, 0, none⟩)] 178)).cell? ⟨p, 12, none⟩ = some (.int .u8 (t.marks : Int)) := (h.on hb).cell 12
 have HB := Lib.hid hb
 have hx := and2_u8 t.marks hm
 generalize t.marks = m at *
 clear h hb hm
 by_cases h2 : m / 2 % 2 = 0
 · rw [decide_eq_true h2] at hx
   have H2 := Lib.hid h2
   clear h2 HG
   go_enter Tryz.func139, Tryz.ntmps139
   go_wp2
   go_ret
   exact .inl ⟨H2.out, rfl, HB.out⟩
 · rw [decide_eq_false h2] at hx
   have H2 := Lib.hid h2
   clear h2 HB
   go_enter Tryz.func139, Tryz.ntmps139
   go_wp2
   go_ret
   exact .inr ⟨H2.out, W.heap.size, W.heap.size + 1, by simp [partF], Nat.le_refl _, by omega, HG.out.1, HG.out.2.1, HG.out.2.2⟩
end Go.Proofs.YtdopheoedpldiaaGreatDoor
namespace Go.Proofs.YtdopheoedpldiaaGreatDoor
open Go.RowKit
structure ListAt (g p q bm bt k : Nat) (most : Int) (W : World) : Prop where
 pt : PtAt q p W
 qg : q ≠ g
 qp : q ≠ p
 bxm : BoxV bm 3 (.int .i64 most) W
 bxt : BoxV bt 182 (.pointer (some ⟨p, k, none⟩)) W
 gm : g ≠ bm
 gt : g ≠ bt
 mp : bm ≠ p
 tp : bt ≠ p
theorem outer_part (g p q bm bt : Nat) (v : FnV) (t : Fn.St) (W : World) (h : TkAt g p v t W) (hL : ListAt g p q bm bt 3 4 W) :
   Calls Tryz.prog 167 #[.pointer (some ⟨q, 0, none⟩), .pointer (some ⟨bm, 0, none⟩), .pointer (some ⟨bt, 0, none⟩)] W (PartP g p (Fn.pOuter t) W) := by
 refine (tklist_any g p q 3 bm bt 4 v t W h hL.pt hL.qg hL.qp hL.bxm hL.bxt hL.gm hL.gt hL.mp hL.tp (by decide) v.outer.a v.outer.n v.outer.c rfl (by decide) (by decide)).mono ?_
 rintro _ W' ⟨rfl, s, W1, ho, hc, hg, rfl⟩
 have hgp := h.gp
 have hbx := (hg.block p h.lt (fun e => by injection e with e; omega)).trans h.box
 exact ⟨rfl, part_done (k := 3) (v' := { v with outer := s }) (t' := Fn.pOuter t) h hg hc rfl ((heap_set hbx s.val).trans rfl) { h.own.off (Off.grown (p := p) hg) (by omega) (by omega) with outer := ho }⟩
theorem params_part (g p q bm bt : Nat) (v : FnV) (t : Fn.St) (W : World) (h : TkAt g p v t W) (hL : ListAt g p q bm bt 4 8 W) :
   Calls Tryz.prog 167 #[.pointer (some ⟨q, 0, none⟩), .pointer (some ⟨bm, 0, none⟩), .pointer (some ⟨bt, 0, none⟩)] W (PartP g p (Fn.pParams t) W) := by
 refine (tklist_any g p q 4 bm bt 8 v t W h hL.pt hL.qg hL.qp hL.bxm hL.bxt hL.gm hL.gt hL.mp hL.tp (by decide) v.params.a v.params.n v.params.c rfl (by decide) (by decide)).mono ?_
 rintro _ W' ⟨rfl, s, W1, ho, hc, hg, rfl⟩
 have hgp := h.gp
 have hbx := (hg.block p h.lt (fun e => by injection e with e; omega)).trans h.box
 exact ⟨rfl, part_done (k := 4) (v' := { v with params := s }) (t' := Fn.pParams t) h hg hc rfl ((heap_set hbx s.val).trans rfl) { h.own.off (Off.grown (p := p) hg) (by omega) (by omega) with params := ho }⟩
theorem results_part (g p q bm bt : Nat) (v : FnV) (t : Fn.St) (W : World) (h : TkAt g p v t W) (hL : ListAt g p q bm bt 5 4 W) :
   Calls Tryz.prog 167 #[.pointer (some ⟨q, 0, none⟩), .pointer (some ⟨bm, 0, none⟩), .pointer (some ⟨bt, 0, none⟩)] W (PartP g p (Fn.pResults t) W) := by
 refine (tklist_any g p q 5 bm bt 4 v t W h hL.pt hL.qg hL.qp hL.bxm hL.bxt hL.gm hL.gt hL.mp hL.tp (by decide) v.results.a v.results.n v.results.c rfl (by decide) (by decide)).mono ?_
 rintro _ W' ⟨rfl, s, W1, ho, hc, hg, rfl⟩
 have hgp := h.gp
 have hbx := (hg.block p h.lt (fun e => by injection e with e; omega)).trans h.box
 exact ⟨rfl, part_done (k := 5) (v' := { v with results := s }) (t' := Fn.pResults t) h hg hc rfl ((heap_set hbx s.val).trans rfl) { h.own.off (Off.grown (p := p) hg) (by omega) (by omega) with results := ho }⟩
theorem locals_part (g p q bm bt : Nat) (v : FnV) (t : Fn.St) (W : World) (h : TkAt g p v t W) (hL : ListAt g p q bm bt 6 256 W) :
   Calls Tryz.prog 167 #[.pointer (some ⟨q, 0, none⟩), .pointer (some ⟨bm, 0, none⟩), .pointer (some ⟨bt, 0, none⟩)] W (PartP g p (Fn.pLocals t) W) := by
 refine (tklist_any g p q 6 bm bt 256 v t W h hL.pt hL.qg hL.qp hL.bxm hL.bxt hL.gm hL.gt hL.mp hL.tp (by decide) v.locals.a v.locals.n v.locals.c rfl (by decide) (by decide)).mono ?_
 rintro _ W' ⟨rfl, s, W1, ho, hc, hg, rfl⟩
 have hgp := h.gp
 have hbx := (hg.block p h.lt (fun e => by injection e with e; omega)).trans h.box
 exact ⟨rfl, part_done (k := 6) (v' := { v with locals := s }) (t' := Fn.pLocals t) h hg hc rfl ((heap_set hbx s.val).trans rfl) { h.own.off (Off.grown (p := p) hg) (by omega) (by omega) with locals := ho }⟩
end Go.Proofs.YtdopheoedpldiaaGreatDoor
