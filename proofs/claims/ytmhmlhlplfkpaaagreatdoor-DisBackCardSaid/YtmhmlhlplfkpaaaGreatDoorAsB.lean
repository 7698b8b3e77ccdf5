/-
 (*reader).instruction: a line more. Conditions: the text is shorter than 2^32 - 15; at most a million lines; the library's variables are laid.
-/
import Derived.Test.YtmhmlhlplfkpaaaGreatDoorAsA
import Derived.RangeFuncBox
set_option maxRecDepth 100000
namespace Go.Proofs.YtmhmlhlplfkpaaaGreatDoor
open Go.RowKit
theorem info_ains : (Tryz.prog.info? 48).map (fun i => (i.zero, i.size, i.bytes)) = some (some (.agg #[.int .i64 0, .int .i64 0]), 2, 16) := by kernel_rfl
theorem info_aint : (Tryz.prog.info? 3).map (fun i => (i.zero, i.size, i.bytes)) = some (some (.int .i64 0), 1, 8) := by kernel_rfl
abbrev InX := Nat × Sl3 × Nat × Sl3
def vIn (c1 c2 : Bool) (x : InX) (v : FnV) : FnV := { v with code := if c1 then x.2.1 else v.code, lines := if c2 then x.2.2.2 else v.lines }
def fIn (c1 c2 : Bool) (p : Int × Int) (n : Int) (f : Fn.F) : Fn.F := { f with code := if c1 then f.code ++ [p] else f.code, lines := if c2 then f.lines ++ [n] else f.lines }
theorem nil_kept {w w' : World} {base n size : Nat} {e : TypeId} {s : Sl3} {xs : List Value} (h : w.ownsRow base e size s.val n xs) (hs : s = .nil) : w'.ownsRow base e size s.val n xs :=
 row_kept h fun g e => by rw [hs] at e; cases e
theorem row_apart {w w' : World} {base b2 n m size s2 : Nat} {e e2 : TypeId} {v v2 : Value} {xs ys : List Value} (h : w.ownsRow base e size v n xs) (h2 : w.ownsRow b2 e2 s2 v2 m ys) (hg : w.grownBy w' v2.ownBlock) (hne : e2 ≠ e) : w'.ownsRow base e size v n xs :=
 row_other h hg fun b hb => by
   obtain ⟨C, m, h⟩ := row_kind h2 b hb
   exact ⟨C, e2, m, h, hne⟩
theorem FnOwn.coded {w w' : World} {base : Nat} {v : FnV} {f : Fn.F} {rc : Sl3} {p : Int × Int} (h : FnOwn w base v f) (hb : v.Bare) (hg : w.grownBy w' v.code.val.ownBlock) (ho : w'.ownsRow base 48 2 rc.val (f.code.length + 1) (ps (f.code ++ [p]))) :
   FnOwn w' base { v with code := rc } { f with code := f.code ++ [p] } :=
 ⟨h.name, h.inner, row_apart h.outer h.code hg (by decide), row_apart h.params h.code hg (by decide), row_apart h.results h.code hg (by decide), row_apart h.locals h.code hg (by decide), by rw [List.length_append]; exact ho, row_apart h.lines h.code hg (by decide), nil_kept h.nodes hb.1, nil_kept h.at_ hb.2.1, nil_kept h.live hb.2.2⟩
theorem FnOwn.lined {w w' : World} {base : Nat} {v : FnV} {f : Fn.F} {rl : Sl3} {z : Int} (h : FnOwn w base v f) (hb : v.Bare) (hg : w.grownBy w' v.lines.val.ownBlock) (ho : w'.ownsRow base 3 1 rl.val (f.lines.length + 1) (vs (f.lines ++ [z]))) :
   FnOwn w' base { v with lines := rl } { f with lines := f.lines ++ [z] } :=
 ⟨h.name, h.inner, row_apart h.outer h.lines hg (by decide), row_apart h.params h.lines hg (by decide), row_apart h.results h.lines hg (by decide), row_apart h.locals h.lines hg (by decide), row_apart h.code h.lines hg (by decide), by rw [List.length_append]; exact ho, nil_kept h.nodes hb.1, nil_kept h.at_ hb.2.1, nil_kept h.live hb.2.2⟩
theorem own_sl {w : World} {base n size : Nat} {e : TypeId} {v : Value} {xs : List Value} (h : w.ownsRow base e size v n xs) : ∃ s : Sl3, v = s.val := by
 rcases h.2 with ⟨rfl, _⟩ | ⟨g, cap, cur, rfl, _⟩
 · exact ⟨⟨none, 0, 0⟩, rfl⟩
 · exact ⟨⟨_, _, _⟩, rfl⟩
theorem other_block {w w' : World} {base n size b : Nat} {e T : TypeId} {v : Value} {xs : List Value} {C : Array Value} {m : Nat × Nat} (h : w.ownsRow base e size v n xs) (hg : w.grownBy w' v.ownBlock) (hb : w.heap[b]? = some (.cells C T m)) (hne : T ≠ e) : w'.heap[b]? = some (.cells C T m) :=
 (hg.block b (heap_lt hb) fun e' => by
   obtain ⟨C2, m2, h2⟩ := row_kind h b e'.symm
   rw [hb] at h2
   injection h2 with h2
   injection h2 with _ h3
   exact hne h3).trans hb
structure InC (q l b5 : Nat) (Wc Wb W0 : World) (s : Sl3) (v : FnV) (f : Fn.F) (p : Int × Int) (n : Int) (x : InX) (D : Nat → Bool) (W : World) : Prop where
 off : OffC q l W0 W
 whole : Off q l Wb W
 ko : KeepsOthers Wc W
 kl : W.heap[l]? = Wc.heap[l]?
 box : W.heap[q]? = some (.cells (rdCells s (vIn (D 21) (D 25) x v) true) 80 (0, 0))
 own : FnOwn W W0.heap.size (vIn (D 9) (D 17) x v) (fIn (D 9) (D 17) p n f)
 bare : v.Bare
 ins : D 9 = false → Ins W b5 p.1 p.2
 nwc : D 8 = true → D 9 = false → W.heap[x.1]? = some (.cells #[.int .i64 p.1, .int .i64 p.2] 48 (0, 0))
 nwl : D 16 = true → D 17 = false → W.heap[x.2.2.1]? = some (.cells #[.int .i64 n] 3 (0, 0))
 q0 : q < W0.heap.size
 b0 : Wb.heap.size ≤ W0.heap.size
 l0 : l < Wb.heap.size ∧ q ≠ l
section
variable {q l b5 : Nat} {Wc Wb W0 W : World} {s : Sl3} {v : FnV} {f : Fn.F} {p : Int × Int} {n : Int} {x : InX} {D : Nat → Bool}
theorem InC.up (h : InC q l b5 Wc Wb W0 s v f p n x D W) {i : Nat} (h1 : (8 == i) = false) (h2 : (9 == i) = false) (h3 : (16 == i) = false) (h4 : (17 == i) = false) (h5 : (21 == i) = false) (h6 : (25 == i) = false) : InC q l b5 Wc Wb W0 s v f p n x (add D i) W :=
 ⟨h.off, h.whole, h.ko, h.kl, by rw [up_other h5, up_other h6]; exact h.box, by rw [up_other h2, up_other h4]; exact h.own, h.bare, by rw [up_other h2]; exact h.ins, by rw [up_other h1, up_other h2]; exact h.nwc, by rw [up_other h3, up_other h4]; exact h.nwl, h.q0, h.b0, h.l0⟩
theorem InC.there (h : InC q l b5 Wc Wb W0 s v f p n x D W) (k : Nat) (hk : k < 13) : ∃ y, W.cell? ⟨q, k, none⟩ = some y := by
 rw [cell_of_row W q k _ _ _ h.box, Array.getElem?_eq_getElem (show k < 13 from hk)]
 exact ⟨_, rfl⟩
theorem InC.ice (h : InC q l b5 Wc Wb W0 s v f p n x D W) (k : Nat) : W.frozen? ⟨q, k, none⟩ = false := by
 have := h.box
 simp [World.frozen?, this]
theorem InC.code (h : InC q l b5 Wc Wb W0 s v f p n x D W) (hs : D 21 = false) : W.cell? ⟨q, 7, none⟩ = some (.slice v.code.a v.code.n v.code.c) := by
 have := h.box
 rw [hs] at this
 exact cell_of_row W q 7 _ _ _ this
theorem InC.line (h : InC q l b5 Wc Wb W0 s v f p n x D W) (hs : D 25 = false) : W.cell? ⟨q, 8, none⟩ = some (.slice v.lines.a v.lines.n v.lines.c) := by
 have := h.box
 rw [hs] at this
 exact cell_of_row W q 8 _ _ _ this
theorem InC.newc (h : InC q l b5 Wc Wb W0 s v f p n x D W) (_ : D 9 = false) : InC q l b5 Wc Wb W0 s v f p n (W.heap.size, x.2) (add D 8) (W.alloc (.cells #[.int .i64 p.1, .int .i64 p.2] 48)) := by
 have hb := (Below.refl W.heap.size W).alloc (Nat.le_refl _) (.cells #[.int .i64 p.1, .int .i64 p.2] 48)
 refine ⟨h.off.on (Off.below hb), h.whole.trans (Off.below hb), h.ko.trans (KeepsOthers.alloc _ _), (hb.block l (Nat.lt_of_lt_of_le h.l0.1 h.whole.size)).trans h.kl, ?_, ?_, h.bare, ?_, fun _ _ => heap_alloc_new W _, ?_, h.q0, h.b0, h.l0⟩
 · rw [up_other rfl, up_other rfl]
   exact (hb.block q (heap_lt h.box)).trans h.box
 · rw [up_other rfl, up_other rfl]
   exact h.own.below hb
 · rw [up_other rfl]
   exact fun e => (h.ins e).on hb
 · rw [up_other rfl, up_other rfl]
   exact fun e1 e2 => (hb.block _ (heap_lt (h.nwl e1 e2))).trans (h.nwl e1 e2)
theorem InC.newl (h : InC q l b5 Wc Wb W0 s v f p n x D W) (_ : D 17 = false) : InC q l b5 Wc Wb W0 s v f p n (x.1, x.2.1, W.heap.size, x.2.2.2) (add D 16) (W.alloc (.cells #[.int .i64 n] 3)) := by
 have hb := (Below.refl W.heap.size W).alloc (Nat.le_refl _) (.cells #[.int .i64 n] 3)
 refine ⟨h.off.on (Off.below hb), h.whole.trans (Off.below hb), h.ko.trans (KeepsOthers.alloc _ _), (hb.block l (Nat.lt_of_lt_of_le h.l0.1 h.whole.size)).trans h.kl, ?_, ?_, h.bare, ?_, ?_, fun _ _ => heap_alloc_new W _, h.q0, h.b0, h.l0⟩
 · rw [up_other rfl, up_other rfl]
   exact (hb.block q (heap_lt h.box)).trans h.box
 · rw [up_other rfl, up_other rfl]
   exact h.own.below hb
 · rw [up_other rfl]
   exact fun e => (h.ins e).on hb
 · rw [up_other rfl, up_other rfl]
   exact fun e1 e2 => (hb.block _ (heap_lt (h.nwc e1 e2))).trans (h.nwc e1 e2)
theorem off_row {w W W' : World} {base n size : Nat} {e : TypeId} {u : Value} {xs : List Value} (ho : Off q l w W) (hO : W.ownsRow base e size u n xs) (hbase : w.heap.size ≤ base) (hg : W.grownBy W' u.ownBlock) : Off q l w W' :=
 ⟨hg.os.trans ho.os, hg.tape.trans ho.tape, hg.output.trans ho.output, Nat.le_trans ho.size hg.size, fun j hj h1 h2 => (hg.block j (Nat.lt_of_lt_of_le hj ho.size) (fun e => by have := (hO.lt j e.symm).1; omega)).trans (ho.block j hj h1 h2)⟩
theorem offC_row {w W W' : World} {base n size : Nat} {e : TypeId} {u : Value} {xs : List Value} (ho : OffC q l w W) (hO : W.ownsRow base e size u n xs) (hbase : w.heap.size ≤ base) (hg : W.grownBy W' u.ownBlock) : OffC q l w W' :=
 ⟨Nat.le_trans ho.size hg.size, fun j C T m e h1 h2 => by
   have h3 := ho.block j C T m e h1 h2
   exact (hg.block j (heap_lt h3) (fun e' => by have := (hO.lt j e'.symm).1; have := heap_lt e; omega)).trans h3⟩
theorem InC.appc (h : InC q l b5 Wc Wb W0 s v f p n x D W) (h8 : D 8 = true) (h9 : D 9 = false) (h21 : D 21 = false) (hn : f.code.length ≤ 1048576) :
   ∃ (r : Sl3) (W' : World), (Builtin.append_ #[23, 23] 23 #[.slice v.code.a v.code.n v.code.c, .slice (some ⟨x.1, 0, none⟩) 1 1]).run Tryz.prog W = .ok r.val W' ∧ InC q l b5 Wc Wb W0 s v f p n (x.1, r, x.2.2) (add D 9) W' := by
 obtain ⟨i0, hi, hz0, hz1, hz2⟩ := info_parts info_ains
 have hw := h.own
 rw [h9] at hw
 have hO : W.ownsRow W0.heap.size 48 2 v.code.val f.code.length (ps f.code) := hw.code
 have hx := h.nwc h8 h9
 obtain ⟨r, W', hr, ho, hg, _⟩ := run_append_own (P := Tryz.prog) W W0.heap.size 23 23 48 i0 (.agg #[.int .i64 0, .int .i64 0]) 2 16 Tryz.underlying23 hi hz0 hz1 hz2 rfl (by decide) v.code.val f.code.length (ps f.code) hO ⟨x.1, 0, none⟩ 1 1 (ps [p]) rfl
   (World.news_of_block hx) (ps_one _) (by unfold maxLen; omega) (by omega) h.off.size
 obtain ⟨rc, rfl⟩ := own_sl ho
 rw [← ps_append] at ho
 refine ⟨rc, W', hr, offC_row h.off hO (Nat.le_refl _) hg, off_row h.whole hO h.b0 hg, h.ko.trans (ko_row hO hg), (hg.block l (Nat.lt_of_lt_of_le h.l0.1 h.whole.size) (fun e => by have := (hO.lt l e.symm).1; have := h.l0; have := h.b0; omega)).trans h.kl, ?_, ?_, h.bare, ?_, ?_, ?_, h.q0, h.b0, h.l0⟩
 · have hbx := h.box
   rw [up_other rfl, up_other rfl]
   refine Eq.trans (hg.block q (heap_lt hbx) (fun e => by have := (hO.lt q e.symm).1; have := h.q0; omega)) (hbx.trans ?_)
   rw [h21]
   cases D 25 <;> rfl
 · rw [up_self, up_other rfl]
   have h1 := FnOwn.coded hw (by cases D 17 <;> exact h.bare) hg ho
   revert h1
   cases D 17 <;> exact id
 · rw [up_self]
   intro e
   cases e
 · rw [up_self]
   intro _ e
   cases e
 · rw [up_other rfl, up_other rfl]
   exact fun e1 e2 => other_block hO hg (h.nwl e1 e2) (by decide)
theorem InC.appl (h : InC q l b5 Wc Wb W0 s v f p n x D W) (h16 : D 16 = true) (h17 : D 17 = false) (h25 : D 25 = false) (hn : f.lines.length ≤ 1048576) :
   ∃ (r : Sl3) (W' : World), (Builtin.append_ #[24, 24] 24 #[.slice v.lines.a v.lines.n v.lines.c, .slice (some ⟨x.2.2.1, 0, none⟩) 1 1]).run Tryz.prog W = .ok r.val W' ∧ InC q l b5 Wc Wb W0 s v f p n (x.1, x.2.1, x.2.2.1, r) (add D 17) W' := by
 obtain ⟨i0, hi, hz0, hz1, hz2⟩ := info_parts info_aint
 have hw := h.own
 rw [h17] at hw
 have hO : W.ownsRow W0.heap.size 3 1 v.lines.val f.lines.length (vs f.lines) := hw.lines
 have hx := h.nwl h16 h17
 obtain ⟨r, W', hr, ho, hg, _⟩ := run_append_own (P := Tryz.prog) W W0.heap.size 24 24 3 i0 (.int .i64 0) 1 8 Tryz.underlying24 hi hz0 hz1 hz2 rfl (by decide) v.lines.val f.lines.length (vs f.lines) hO ⟨x.2.2.1, 0, none⟩ 1 1 (vs [n]) rfl
   (World.news_of_block hx) (vs_one _) (by unfold maxLen; omega) (by omega) h.off.size
 obtain ⟨rl, rfl⟩ := own_sl ho
 rw [← vs_append] at ho
 refine ⟨rl, W', hr, offC_row h.off hO (Nat.le_refl _) hg, off_row h.whole hO h.b0 hg, h.ko.trans (ko_row hO hg), (hg.block l (Nat.lt_of_lt_of_le h.l0.1 h.whole.size) (fun e => by have := (hO.lt l e.symm).1; have := h.l0; have := h.b0; omega)).trans h.kl, ?_, ?_, h.bare, ?_, ?_, ?_, h.q0, h.b0, h.l0⟩
 · have hbx := h.box
   rw [up_other rfl, up_other rfl]
   refine Eq.trans (hg.block q (heap_lt hbx) (fun e => by have := (hO.lt q e.symm).1; have := h.q0; omega)) (hbx.trans ?_)
   rw [h25]
   cases D 21 <;> rfl
 · rw [up_self, up_other rfl]
   have h1 := FnOwn.lined hw (by cases D 9 <;> exact h.bare) hg ho
   revert h1
   cases D 9 <;> exact id
 · rw [up_other rfl]
   exact fun e => other_block hO hg (h.ins e) (by decide)
 · rw [up_other rfl, up_other rfl]
   exact fun e1 e2 => other_block hO hg (h.nwc e1 e2) (by decide)
 · rw [up_self]
   intro _ e
   cases e
theorem InC.stc (h : InC q l b5 Wc Wb W0 s v f p n x D W) (h9 : D 9 = true) (h21 : D 21 = false) : InC q l b5 Wc Wb W0 s v f p n x (add D 21) (W.setCell ⟨q, 7, none⟩ x.2.1.val) := by
 have hg := Lib.grownBy_setB (World.grownBy.refl W (some q)) 7 x.2.1.val
 refine ⟨h.off.on (Off.grown hg), h.whole.trans (Off.grown hg), h.ko.trans (KeepsOthers.setCell _ _ _), (hg.block l (Nat.lt_of_lt_of_le h.l0.1 h.whole.size) (fun e => by injection e with e; exact h.l0.2 e.symm)).trans h.kl, ?_, ?_, h.bare, ?_, ?_, ?_, h.q0, h.b0, h.l0⟩
 · rw [up_self, up_other rfl]
   have hbx := h.box
   rw [h21] at hbx
   refine (mid_set (i := 7) hbx x.2.1.val).trans ?_
   cases D 25 <;> rfl
 · rw [up_other rfl, up_other rfl]
   exact h.own.off (Off.grown (p := q) hg) h.q0 h.q0
 · rw [up_other rfl, h9]
   intro e
   cases e
 · rw [up_other rfl, up_other rfl, h9]
   intro _ e
   cases e
 · rw [up_other rfl, up_other rfl]
   exact fun e1 e2 => (hg.block _ (heap_lt (h.nwl e1 e2)) (fun e => by injection e with e; have h2 := h.nwl e1 e2; rw [e, h.box] at h2; injection h2 with h2; injection h2 with _ h3; revert h3; decide)).trans (h.nwl e1 e2)
theorem InC.stl (h : InC q l b5 Wc Wb W0 s v f p n x D W) (h17 : D 17 = true) (h25 : D 25 = false) : InC q l b5 Wc Wb W0 s v f p n x (add D 25) (W.setCell ⟨q, 8, none⟩ x.2.2.2.val) := by
 have hg := Lib.grownBy_setB (World.grownBy.refl W (some q)) 8 x.2.2.2.val
 refine ⟨h.off.on (Off.grown hg), h.whole.trans (Off.grown hg), h.ko.trans (KeepsOthers.setCell _ _ _), (hg.block l (Nat.lt_of_lt_of_le h.l0.1 h.whole.size) (fun e => by injection e with e; exact h.l0.2 e.symm)).trans h.kl, ?_, ?_, h.bare, ?_, ?_, ?_, h.q0, h.b0, h.l0⟩
 · rw [up_self, up_other rfl]
   have hbx := h.box
   rw [h25] at hbx
   refine (mid_set (i := 8) hbx x.2.2.2.val).trans ?_
   cases D 21 <;> rfl
 · rw [up_other rfl, up_other rfl]
   exact h.own.off (Off.grown (p := q) hg) h.q0 h.q0
 · rw [up_other rfl]
   exact fun e1 => (hg.block _ (heap_lt (h.ins e1)) (fun e => by injection e with e; have h2 := h.ins e1; unfold Ins at h2; rw [e, h.box] at h2; injection h2 with h2; injection h2 with _ h3; revert h3; decide)).trans (h.ins e1)
 · rw [up_other rfl, up_other rfl]
   exact fun e1 e2 => (hg.block _ (heap_lt (h.nwc e1 e2)) (fun e => by injection e with e; have h2 := h.nwc e1 e2; rw [e, h.box] at h2; injection h2 with h2; injection h2 with _ h3; revert h3; decide)).trans (h.nwc e1 e2)
 · rw [up_other rfl, up_other rfl, h17]
   intro _ e
   cases e
end
def insG (q : Nat) (v : FnV) (p : Int × Int) (n : Int) (x : InX) : Nat → Value → Prop
 | 0, y => y = .pointer (some ⟨q, 0, none⟩)
 | 1, y => y = .pointer (some ⟨q, 0, none⟩)
 | 2, y => y = .pointer (some ⟨q, 0, none⟩)
 | 3, y => y = .pointer (some ⟨q, 0, none⟩)
 | 4, y => y = .pointer (some ⟨q, 1, none⟩)
 | 5, y => y = .pointer (some ⟨q, 7, none⟩)
 | 6, y => y = .slice v.code.a v.code.n v.code.c
 | 7, y => y = .agg #[.int .i64 p.1, .int .i64 p.2]
 | 8, y => y = .slice (some ⟨x.1, 0, none⟩) 1 1
 | 9, y => y = x.2.1.val
 | 10, y => y = .pointer (some ⟨q, 0, none⟩)
 | 11, y => y = .pointer (some ⟨q, 0, none⟩)
 | 12, y => y = .pointer (some ⟨q, 1, none⟩)
 | 13, y => y = .pointer (some ⟨q, 8, none⟩)
 | 14, y => y = .slice v.lines.a v.lines.n v.lines.c
 | 15, y => y = .int .i64 n
 | 16, y => y = .slice (some ⟨x.2.2.1, 0, none⟩) 1 1
 | 17, y => y = x.2.2.2.val
 | 18, y => y = .pointer (some ⟨q, 0, none⟩)
 | 19, y => y = .pointer (some ⟨q, 1, none⟩)
 | 20, y => y = .pointer (some ⟨q, 7, none⟩)
 | 22, y => y = .pointer (some ⟨q, 0, none⟩)
 | 23, y => y = .pointer (some ⟨q, 1, none⟩)
 | 24, y => y = .pointer (some ⟨q, 8, none⟩)
 | _, _ => True
theorem in_bc {q : Nat} {v : FnV} {p : Int × Int} {n : Int} {x : InX} {D : Nat → Bool} {z : Nat} (h8 : D 8 = false) : ∀ j y, D j = true → insG q v p n x j y → insG q v p n (z, x.2) j y
 | 0, _, _, h => h
 | 1, _, _, h => h
 | 2, _, _, h => h
 | 3, _, _, h => h
 | 4, _, _, h => h
 | 5, _, _, h => h
 | 6, _, _, h => h
 | 7, _, _, h => h
 | 8, _, hj, _ => by rw [h8] at hj; cases hj
 | 9, _, _, h => h
 | 10, _, _, h => h
 | 11, _, _, h => h
 | 12, _, _, h => h
 | 13, _, _, h => h
 | 14, _, _, h => h
 | 15, _, _, h => h
 | 16, _, _, h => h
 | 17, _, _, h => h
 | 18, _, _, h => h
 | 19, _, _, h => h
 | 20, _, _, h => h
 | 21, _, _, h => h
 | 22, _, _, h => h
 | 23, _, _, h => h
 | 24, _, _, h => h
 | 25, _, _, h => h
 | _ + 26, _, _, h => h
theorem in_rc {q : Nat} {v : FnV} {p : Int × Int} {n : Int} {x : InX} {D : Nat → Bool} {z : Sl3} (h9 : D 9 = false) : ∀ j y, D j = true → insG q v p n x j y → insG q v p n (x.1, z, x.2.2) j y
 | 0, _, _, h => h
 | 1, _, _, h => h
 | 2, _, _, h => h
 | 3, _, _, h => h
 | 4, _, _, h => h
 | 5, _, _, h => h
 | 6, _, _, h => h
 | 7, _, _, h => h
 | 8, _, _, h => h
 | 9, _, hj, _ => by rw [h9] at hj; cases hj
 | 10, _, _, h => h
 | 11, _, _, h => h
 | 12, _, _, h => h
 | 13, _, _, h => h
 | 14, _, _, h => h
 | 15, _, _, h => h
 | 16, _, _, h => h
 | 17, _, _, h => h
 | 18, _, _, h => h
 | 19, _, _, h => h
 | 20, _, _, h => h
 | 21, _, _, h => h
 | 22, _, _, h => h
 | 23, _, _, h => h
 | 24, _, _, h => h
 | 25, _, _, h => h
 | _ + 26, _, _, h => h
theorem in_bl {q : Nat} {v : FnV} {p : Int × Int} {n : Int} {x : InX} {D : Nat → Bool} {z : Nat} (h16 : D 16 = false) : ∀ j y, D j = true → insG q v p n x j y → insG q v p n (x.1, x.2.1, z, x.2.2.2) j y
 | 0, _, _, h => h
 | 1, _, _, h => h
 | 2, _, _, h => h
 | 3, _, _, h => h
 | 4, _, _, h => h
 | 5, _, _, h => h
 | 6, _, _, h => h
 | 7, _, _, h => h
 | 8, _, _, h => h
 | 9, _, _, h => h
 | 10, _, _, h => h
 | 11, _, _, h => h
 | 12, _, _, h => h
 | 13, _, _, h => h
 | 14, _, _, h => h
 | 15, _, _, h => h
 | 16, _, hj, _ => by rw [h16] at hj; cases hj
 | 17, _, _, h => h
 | 18, _, _, h => h
 | 19, _, _, h => h
 | 20, _, _, h => h
 | 21, _, _, h => h
 | 22, _, _, h => h
 | 23, _, _, h => h
 | 24, _, _, h => h
 | 25, _, _, h => h
 | _ + 26, _, _, h => h
theorem in_rl {q : Nat} {v : FnV} {p : Int × Int} {n : Int} {x : InX} {D : Nat → Bool} {z : Sl3} (h17 : D 17 = false) : ∀ j y, D j = true → insG q v p n x j y → insG q v p n (x.1, x.2.1, x.2.2.1, z) j y
 | 0, _, _, h => h
 | 1, _, _, h => h
 | 2, _, _, h => h
 | 3, _, _, h => h
 | 4, _, _, h => h
 | 5, _, _, h => h
 | 6, _, _, h => h
 | 7, _, _, h => h
 | 8, _, _, h => h
 | 9, _, _, h => h
 | 10, _, _, h => h
 | 11, _, _, h => h
 | 12, _, _, h => h
 | 13, _, _, h => h
 | 14, _, _, h => h
 | 15, _, _, h => h
 | 16, _, _, h => h
 | 17, _, hj, _ => by rw [h17] at hj; cases hj
 | 18, _, _, h => h
 | 19, _, _, h => h
 | 20, _, _, h => h
 | 21, _, _, h => h
 | 22, _, _, h => h
 | 23, _, _, h => h
 | 24, _, _, h => h
 | 25, _, _, h => h
 | _ + 26, _, _, h => h
set_option maxHeartbeats 16000000 in
theorem rdins_any (q l : Nat) (Wb : World) (t : As.St) (W : World) (h : RdAt q l Wb t W) (ht : t.isOpen = true) (z : ByteArray) (hz : z.size < 4294967281) (hg : Glob W) (hnc : t.cur.code.length ≤ 1048576) (hnl : t.cur.lines.length ≤ 1048576) :
   Calls Tryz.prog 74 #[.pointer (some ⟨q, 0, none⟩), .string z] W (RdP q l Wb ⟨t.done, As.more1 t.cur (As.line z).1.1 (As.line z).1.2, true⟩ (As.line z).2 W) := by
 have HLn := asline_any z hz W hg
 unfold LineP at HLn
 obtain ⟨o, ho⟩ : ∃ o, As.line z = o := ⟨_, rfl⟩
 rw [ho] at HLn ⊢
 obtain ⟨W0, s, us, v, h⟩ := h
 obtain ⟨td, f, tb⟩ := t
 simp only at ht hnc hnl
 subst ht
 have hql := h.ql
 have H := Lib.hid h
 clear h ho hz hg
 go_enter Tryz.func74, Tryz.ntmps74
 obtain ⟨⟨p, n⟩, er⟩ := o
 simp only at HLn
 go_wp2_with (go_at_call 101; refine HLn.mono ?_; rintro _ w1 ⟨rfl, hb1⟩; clear HLn; have HB1 := Lib.hid hb1; clear hb1)
 have hb2 := HB1.out.trans (((Below.refl w1.heap.size w1).alloc (Nat.le_refl _) (.cells #[.int .i64 p.1, .int .i64 p.2] 48)).mono HB1.out.size)
 have hb3 := below_drewN hb2 1
 have hC : InC q l w1.heap.size W Wb W0 s v f p n (0, .nil, 0, .nil) (fun _ => false) (w1.alloc (.cells #[.int .i64 p.1, .int .i64 p.2] 48)).drew := by
   have h := H.out.below hb2
   refine ⟨h.off.on (Off.below (Below.refl _ _).drew), h.whole.trans (Off.below (Below.refl _ _).drew), (ko_below hb2).trans (KeepsOthers.drew _), hb2.block l (Nat.lt_of_lt_of_le H.out.ql.2.1 H.out.size), h.box, ((h.cur rfl).1.below (Below.refl _ _).drew), (h.cur rfl).2, fun _ => Ins.new w1 p.1 p.2, (fun e => by cases e), (fun e => by cases e), Nat.lt_of_lt_of_le h.ql.1 h.base, h.base, h.ql.2⟩
 clear hb2 hb3
 generalize hb5 : w1.heap.size = b5 at *
 refine region_k ((0, .nil, 0, .nil) : InX) 39 (fun x D W' => InC q l b5 W Wb W0 s v f p n x D W') (insG q v p n) (by kernel_rfl) (by kernel_rfl) (by kernel_rfl) rfl rfl hC ?_ ?_
 · refine ⟨?_, ?_, ?_, ?_, ?_, ?_, ?_, ?_, ?_, ?_, ?_, ?_, ?_, ?_, ?_, ?_, ?_, ?_, ?_, ?_, ?_, ?_, ?_, ?_, ?_, ?_, trivial⟩
   · intro x D a w hI hdep hD0 K hK
     have e0 : a.eval (.tmp 0) = .pointer (some ⟨q, 0, none⟩) := hI.read 0 rfl
     refine ok_value (wanted_none rfl) (v := .pointer (some ⟨q, 0, none⟩)) ?_ (hK x _ _ (hI.world.up rfl rfl rfl rfl rfl rfl) (fun _ _ _ h => h) rfl)
     obtain ⟨ec, ef⟩ := ecs a; clear hI hdep hK; generalize a.eval = ρ at e0 ec ef ⊢; go_simp
   · intro x D a w hI hdep hD0 K hK
     have e0 : a.eval (.tmp 0) = .pointer (some ⟨q, 0, none⟩) := hI.read 0 rfl
     refine ok_value (wanted_none rfl) (v := .pointer (some ⟨q, 0, none⟩)) ?_ (hK x _ _ (hI.world.up rfl rfl rfl rfl rfl rfl) (fun _ _ _ h => h) rfl)
     obtain ⟨ec, ef⟩ := ecs a; clear hI hdep hK; generalize a.eval = ρ at e0 ec ef ⊢; go_simp
   · intro x D a w hI hdep hD0 K hK
     have e0 : a.eval (.tmp 0) = .pointer (some ⟨q, 0, none⟩) := hI.read 0 rfl
     refine ok_value (wanted_none rfl) (v := .pointer (some ⟨q, 0, none⟩)) ?_ (hK x _ _ (hI.world.up rfl rfl rfl rfl rfl rfl) (fun _ _ _ h => h) rfl)
     obtain ⟨ec, ef⟩ := ecs a; clear hI hdep hK; generalize a.eval = ρ at e0 ec ef ⊢; go_simp
   · intro x D a w hI hdep hD0 K hK
     have e16 : a.eval (.tmp 16) = .pointer (some ⟨q, 0, none⟩) := hI.good 2 16 (dep_of hdep 2 rfl) rfl
     refine ok_value (wanted_none rfl) (v := .pointer (some ⟨q, 0, none⟩)) ?_ (hK x _ _ (hI.world.up rfl rfl rfl rfl rfl rfl) (fun _ _ _ h => h) rfl)
     obtain ⟨ec, ef⟩ := ecs a; clear hI hdep hK; generalize a.eval = ρ at e16 ec ef ⊢; go_simp
   · intro x D a w hI hdep hD0 K hK
     have e17 : a.eval (.tmp 17) = .pointer (some ⟨q, 0, none⟩) := hI.good 3 17 (dep_of hdep 3 rfl) rfl
     refine ok_value (wanted_none rfl) (v := .pointer (some ⟨q, 1, none⟩)) ?_ (hK x _ _ (hI.world.up rfl rfl rfl rfl rfl rfl) (fun _ _ _ h => h) rfl)
     obtain ⟨ec, ef⟩ := ecs a; clear hI hdep hK; generalize a.eval = ρ at e17 ec ef ⊢; go_simp
   · intro x D a w hI hdep hD0 K hK
     have e18 : a.eval (.tmp 18) = .pointer (some ⟨q, 1, none⟩) := hI.good 4 18 (dep_of hdep 4 rfl) rfl
     refine ok_value (wanted_none rfl) (v := .pointer (some ⟨q, 7, none⟩)) ?_ (hK x _ _ (hI.world.up rfl rfl rfl rfl rfl rfl) (fun _ _ _ h => h) rfl)
     obtain ⟨ec, ef⟩ := ecs a; clear hI hdep hK; generalize a.eval = ρ at e18 ec ef ⊢; go_simp
   · intro x D a w hI hdep hD0 K hK
     have e19 : a.eval (.tmp 19) = .pointer (some ⟨q, 7, none⟩) := hI.good 5 19 (dep_of hdep 5 rfl) rfl
     have z0 : w.cell? ⟨q, 7, none⟩ = some (.slice v.code.a v.code.n v.code.c) := hI.world.code (hI.not_up hD0 21 rfl)
     refine ok_value (wanted_none rfl) (v := .slice v.code.a v.code.n v.code.c) ?_ (hK x _ _ (hI.world.up rfl rfl rfl rfl rfl rfl) (fun _ _ _ h => h) rfl)
     obtain ⟨ec, ef⟩ := ecs a; clear hI hdep hK; generalize a.eval = ρ at e19 ec ef ⊢; go_simp
   · intro x D a w hI hdep hD0 K hK
     have e5 : a.eval (.tmp 5) = .pointer (some ⟨b5, 0, none⟩) := hI.read 5 rfl
     have hA := hI.world.ins (hI.not_up (hI.not_up hD0 8 rfl) 9 rfl)
     have k0 := hA.c0; have k1 := hA.c1
     refine ok_value (wanted_none rfl) (v := .agg #[.int .i64 p.1, .int .i64 p.2]) ?_ (hK x _ _ (hI.world.up rfl rfl rfl rfl rfl rfl) (fun _ _ _ h => h) rfl)
     clear hA
     obtain ⟨ec, ef⟩ := ecs a; clear hI hdep hK; generalize a.eval = ρ at e5 ec ef ⊢; go_simp
   · intro x D a w hI hdep hD0 K hK
     have e21 : a.eval (.tmp 21) = .agg #[.int .i64 p.1, .int .i64 p.2] := hI.good 7 21 (dep_of hdep 7 rfl) rfl
     refine ok_new (wanted_none rfl) (v := .slice (some ⟨w.heap.size, 0, none⟩) 1 1) (w' := w.alloc (.cells #[.int .i64 p.1, .int .i64 p.2] 48)) (by have ec : ∀ c, a.eval (.const c) = c := fun _ => rfl; generalize a.eval = ρ at e21 ec ⊢; go_simp) ?_
     exact hK (w.heap.size, x.2) _ _ (hI.world.newc (hI.not_up hD0 9 rfl)) (in_bc hD0) rfl
   · intro x D a w hI hdep hD0 K hK
     have e20 : a.eval (.tmp 20) = .slice v.code.a v.code.n v.code.c := hI.good 6 20 (dep_of hdep 6 rfl) rfl
     have e22 : a.eval (.tmp 22) = .slice (some ⟨x.1, 0, none⟩) 1 1 := hI.good 8 22 (dep_of hdep 8 rfl) rfl
     obtain ⟨r, W', hr, hC⟩ := hI.world.appc (dep_of hdep 8 rfl) hD0 (hI.not_up hD0 21 rfl) hnc
     exact ok_append (wanted_none rfl) (.tmp 20) (.tmp 22) 23 23 rfl (by rw [e20, e22]; exact hr) (hK (x.1, r, x.2.2) _ _ hC (in_rc hD0) rfl)
   · intro x D a w hI hdep hD0 K hK
     have e0 : a.eval (.tmp 0) = .pointer (some ⟨q, 0, none⟩) := hI.read 0 rfl
     refine ok_value (wanted_none rfl) (v := .pointer (some ⟨q, 0, none⟩)) ?_ (hK x _ _ (hI.world.up rfl rfl rfl rfl rfl rfl) (fun _ _ _ h => h) rfl)
     obtain ⟨ec, ef⟩ := ecs a; clear hI hdep hK; generalize a.eval = ρ at e0 ec ef ⊢; go_simp
   · intro x D a w hI hdep hD0 K hK
     have e24 : a.eval (.tmp 24) = .pointer (some ⟨q, 0, none⟩) := hI.good 10 24 (dep_of hdep 10 rfl) rfl
     refine ok_value (wanted_none rfl) (v := .pointer (some ⟨q, 0, none⟩)) ?_ (hK x _ _ (hI.world.up rfl rfl rfl rfl rfl rfl) (fun _ _ _ h => h) rfl)
     obtain ⟨ec, ef⟩ := ecs a; clear hI hdep hK; generalize a.eval = ρ at e24 ec ef ⊢; go_simp
   · intro x D a w hI hdep hD0 K hK
     have e25 : a.eval (.tmp 25) = .pointer (some ⟨q, 0, none⟩) := hI.good 11 25 (dep_of hdep 11 rfl) rfl
     refine ok_value (wanted_none rfl) (v := .pointer (some ⟨q, 1, none⟩)) ?_ (hK x _ _ (hI.world.up rfl rfl rfl rfl rfl rfl) (fun _ _ _ h => h) rfl)
     obtain ⟨ec, ef⟩ := ecs a; clear hI hdep hK; generalize a.eval = ρ at e25 ec ef ⊢; go_simp
   · intro x D a w hI hdep hD0 K hK
     have e26 : a.eval (.tmp 26) = .pointer (some ⟨q, 1, none⟩) := hI.good 12 26 (dep_of hdep 12 rfl) rfl
     refine ok_value (wanted_none rfl) (v := .pointer (some ⟨q, 8, none⟩)) ?_ (hK x _ _ (hI.world.up rfl rfl rfl rfl rfl rfl) (fun _ _ _ h => h) rfl)
     obtain ⟨ec, ef⟩ := ecs a; clear hI hdep hK; generalize a.eval = ρ at e26 ec ef ⊢; go_simp
   · intro x D a w hI hdep hD0 K hK
     have e27 : a.eval (.tmp 27) = .pointer (some ⟨q, 8, none⟩) := hI.good 13 27 (dep_of hdep 13 rfl) rfl
     have z0 : w.cell? ⟨q, 8, none⟩ = some (.slice v.lines.a v.lines.n v.lines.c) := hI.world.line (hI.not_up hD0 25 rfl)
     refine ok_value (wanted_none rfl) (v := .slice v.lines.a v.lines.n v.lines.c) ?_ (hK x _ _ (hI.world.up rfl rfl rfl rfl rfl rfl) (fun _ _ _ h => h) rfl)
     obtain ⟨ec, ef⟩ := ecs a; clear hI hdep hK; generalize a.eval = ρ at e27 ec ef ⊢; go_simp
   · intro x D a w hI hdep hD0 K hK
     have e6 : a.eval (.tmp 6) = .int .i64 n := hI.read 6 rfl
     refine ok_value (wanted_none rfl) (v := .int .i64 n) ?_ (hK x _ _ (hI.world.up rfl rfl rfl rfl rfl rfl) (fun _ _ _ h => h) rfl)
     obtain ⟨ec, ef⟩ := ecs a; clear hI hdep hK; generalize a.eval = ρ at e6 ec ef ⊢; go_simp
   · intro x D a w hI hdep hD0 K hK
     have e29 : a.eval (.tmp 29) = .int .i64 n := hI.good 15 29 (dep_of hdep 15 rfl) rfl
     refine ok_new (wanted_none rfl) (v := .slice (some ⟨w.heap.size, 0, none⟩) 1 1) (w' := w.alloc (.cells #[.int .i64 n] 3)) (by have ec : ∀ c, a.eval (.const c) = c := fun _ => rfl; generalize a.eval = ρ at e29 ec ⊢; go_simp) ?_
     exact hK (x.1, x.2.1, w.heap.size, x.2.2.2) _ _ (hI.world.newl (hI.not_up hD0 17 rfl)) (in_bl hD0) rfl
   · intro x D a w hI hdep hD0 K hK
     have e28 : a.eval (.tmp 28) = .slice v.lines.a v.lines.n v.lines.c := hI.good 14 28 (dep_of hdep 14 rfl) rfl
     have e30 : a.eval (.tmp 30) = .slice (some ⟨x.2.2.1, 0, none⟩) 1 1 := hI.good 16 30 (dep_of hdep 16 rfl) rfl
     obtain ⟨r, W', hr, hC⟩ := hI.world.appl (dep_of hdep 16 rfl) hD0 (hI.not_up hD0 25 rfl) hnl
     exact ok_append (wanted_none rfl) (.tmp 28) (.tmp 30) 24 24 rfl (by rw [e28, e30]; exact hr) (hK (x.1, x.2.1, x.2.2.1, r) _ _ hC (in_rl hD0) rfl)
   · intro x D a w hI hdep hD0 K hK
     have e14 : a.eval (.tmp 14) = .pointer (some ⟨q, 0, none⟩) := hI.good 0 14 (dep_of hdep 0 rfl) rfl
     refine ok_value (wanted_none rfl) (v := .pointer (some ⟨q, 0, none⟩)) ?_ (hK x _ _ (hI.world.up rfl rfl rfl rfl rfl rfl) (fun _ _ _ h => h) rfl)
     obtain ⟨ec, ef⟩ := ecs a; clear hI hdep hK; generalize a.eval = ρ at e14 ec ef ⊢; go_simp
   · intro x D a w hI hdep hD0 K hK
     have e32 : a.eval (.tmp 32) = .pointer (some ⟨q, 0, none⟩) := hI.good 18 32 (dep_of hdep 18 rfl) rfl
     refine ok_value (wanted_none rfl) (v := .pointer (some ⟨q, 1, none⟩)) ?_ (hK x _ _ (hI.world.up rfl rfl rfl rfl rfl rfl) (fun _ _ _ h => h) rfl)
     obtain ⟨ec, ef⟩ := ecs a; clear hI hdep hK; generalize a.eval = ρ at e32 ec ef ⊢; go_simp
   · intro x D a w hI hdep hD0 K hK
     have e33 : a.eval (.tmp 33) = .pointer (some ⟨q, 1, none⟩) := hI.good 19 33 (dep_of hdep 19 rfl) rfl
     refine ok_value (wanted_none rfl) (v := .pointer (some ⟨q, 7, none⟩)) ?_ (hK x _ _ (hI.world.up rfl rfl rfl rfl rfl rfl) (fun _ _ _ h => h) rfl)
     obtain ⟨ec, ef⟩ := ecs a; clear hI hdep hK; generalize a.eval = ρ at e33 ec ef ⊢; go_simp
   · intro x D a w hI hdep hD0 K hK
     have e34 : a.eval (.tmp 34) = .pointer (some ⟨q, 7, none⟩) := hI.good 20 34 (dep_of hdep 20 rfl) rfl
     have e23 : a.eval (.tmp 23) = x.2.1.val := hI.good 9 23 (dep_of hdep 9 rfl) rfl
     have hc := dep_of hdep 9 rfl
     obtain ⟨y, z0⟩ := hI.world.there 7 (by decide)
     have z1 := hI.world.ice 7
     refine ok_store (wanted_none rfl) (w' := w.setCell ⟨q, 7, none⟩ x.2.1.val) ?_ (hK x undef _ (hI.world.stc hc hD0) (fun _ _ _ h => h) trivial)
     unfold Sl3.val at e23 ⊢
     obtain ⟨ec, ef⟩ := ecs a; clear hI hdep hK; generalize a.eval = ρ at e34 e23 ec ef ⊢; go_simp
   · intro x D a w hI hdep hD0 K hK
     have e15 : a.eval (.tmp 15) = .pointer (some ⟨q, 0, none⟩) := hI.good 1 15 (dep_of hdep 1 rfl) rfl
     refine ok_value (wanted_none rfl) (v := .pointer (some ⟨q, 0, none⟩)) ?_ (hK x _ _ (hI.world.up rfl rfl rfl rfl rfl rfl) (fun _ _ _ h => h) rfl)
     obtain ⟨ec, ef⟩ := ecs a; clear hI hdep hK; generalize a.eval = ρ at e15 ec ef ⊢; go_simp
   · intro x D a w hI hdep hD0 K hK
     have e35 : a.eval (.tmp 35) = .pointer (some ⟨q, 0, none⟩) := hI.good 22 35 (dep_of hdep 22 rfl) rfl
     refine ok_value (wanted_none rfl) (v := .pointer (some ⟨q, 1, none⟩)) ?_ (hK x _ _ (hI.world.up rfl rfl rfl rfl rfl rfl) (fun _ _ _ h => h) rfl)
     obtain ⟨ec, ef⟩ := ecs a; clear hI hdep hK; generalize a.eval = ρ at e35 ec ef ⊢; go_simp
   · intro x D a w hI hdep hD0 K hK
     have e36 : a.eval (.tmp 36) = .pointer (some ⟨q, 1, none⟩) := hI.good 23 36 (dep_of hdep 23 rfl) rfl
     refine ok_value (wanted_none rfl) (v := .pointer (some ⟨q, 8, none⟩)) ?_ (hK x _ _ (hI.world.up rfl rfl rfl rfl rfl rfl) (fun _ _ _ h => h) rfl)
     obtain ⟨ec, ef⟩ := ecs a; clear hI hdep hK; generalize a.eval = ρ at e36 ec ef ⊢; go_simp
   · intro x D a w hI hdep hD0 K hK
     have e37 : a.eval (.tmp 37) = .pointer (some ⟨q, 8, none⟩) := hI.good 24 37 (dep_of hdep 24 rfl) rfl
     have e31 : a.eval (.tmp 31) = x.2.2.2.val := hI.good 17 31 (dep_of hdep 17 rfl) rfl
     have hc := dep_of hdep 17 rfl
     obtain ⟨y, z0⟩ := hI.world.there 8 (by decide)
     have z1 := hI.world.ice 8
     refine ok_store (wanted_none rfl) (w' := w.setCell ⟨q, 8, none⟩ x.2.2.2.val) ?_ (hK x undef _ (hI.world.stl hc hD0) (fun _ _ _ h => h) trivial)
     unfold Sl3.val at e31 ⊢
     obtain ⟨ec, ef⟩ := ecs a; clear hI hdep hK; generalize a.eval = ρ at e37 e31 ec ef ⊢; go_simp
 · intro x D a w8 hI hD
   have hfr := hI.frame [(14, .pointer (some ⟨q, 0, none⟩)), (15, .pointer (some ⟨q, 0, none⟩)), (16, .pointer (some ⟨q, 0, none⟩)), (17, .pointer (some ⟨q, 0, none⟩)), (18, .pointer (some ⟨q, 1, none⟩)), (19, .pointer (some ⟨q, 7, none⟩)), (20, .slice v.code.a v.code.n v.code.c), (21, .agg #[.int .i64 p.1, .int .i64 p.2]), (22, .slice (some ⟨x.1, 0, none⟩) 1 1), (23, x.2.1.val), (24, .pointer (some ⟨q, 0, none⟩)), (25, .pointer (some ⟨q, 0, none⟩)), (26, .pointer (some ⟨q, 1, none⟩)), (27, .pointer (some ⟨q, 8, none⟩)), (28, .slice v.lines.a v.lines.n v.lines.c), (29, .int .i64 n), (30, .slice (some ⟨x.2.2.1, 0, none⟩) 1 1), (31, x.2.2.2.val), (32, .pointer (some ⟨q, 0, none⟩)), (33, .pointer (some ⟨q, 1, none⟩)), (34, .pointer (some ⟨q, 7, none⟩)), (35, .pointer (some ⟨q, 0, none⟩)), (36, .pointer (some ⟨q, 1, none⟩)), (37, .pointer (some ⟨q, 8, none⟩))] (all_cons (hI.good 0 14 (hD 0 (by decide)) rfl) (all_cons (hI.good 1 15 (hD 1 (by decide)) rfl) (all_cons (hI.good 2 16 (hD 2 (by decide)) rfl) (all_cons (hI.good 3 17 (hD 3 (by decide)) rfl) (all_cons (hI.good 4 18 (hD 4 (by decide)) rfl) (all_cons (hI.good 5 19 (hD 5 (by decide)) rfl) (all_cons (hI.good 6 20 (hD 6 (by decide)) rfl) (all_cons (hI.good 7 21 (hD 7 (by decide)) rfl) (all_cons (hI.good 8 22 (hD 8 (by decide)) rfl) (all_cons (hI.good 9 23 (hD 9 (by decide)) rfl) (all_cons (hI.good 10 24 (hD 10 (by decide)) rfl) (all_cons (hI.good 11 25 (hD 11 (by decide)) rfl) (all_cons (hI.good 12 26 (hD 12 (by decide)) rfl) (all_cons (hI.good 13 27 (hD 13 (by decide)) rfl) (all_cons (hI.good 14 28 (hD 14 (by decide)) rfl) (all_cons (hI.good 15 29 (hD 15 (by decide)) rfl) (all_cons (hI.good 16 30 (hD 16 (by decide)) rfl) (all_cons (hI.good 17 31 (hD 17 (by decide)) rfl) (all_cons (hI.good 18 32 (hD 18 (by decide)) rfl) (all_cons (hI.good 19 33 (hD 19 (by decide)) rfl) (all_cons (hI.good 20 34 (hD 20 (by decide)) rfl) (all_cons (hI.good 22 35 (hD 22 (by decide)) rfl) (all_cons (hI.good 23 36 (hD 23 (by decide)) rfl) (all_cons (hI.good 24 37 (hD 24 (by decide)) rfl) all_nil)))))))))))))))))))))))) rfl
   have hW := hI.world
   clear hI
   subst hfr
   simp only [List.foldl_cons, List.foldl_nil, List.setIfInBounds_toArray, List.set_cons_succ, List.set_cons_zero]
   have HF := Lib.hid (show RdAt q l Wb ⟨td, As.more1 f p n, true⟩ w8 ∧ KeepsOthers W w8 ∧ w8.heap[l]? = W.heap[l]? from by
     have h := H.out
     have hb := hW.box
     have ho := hW.own
     rw [hD 21 (by decide), hD 25 (by decide)] at hb
     rw [hD 9 (by decide), hD 17 (by decide)] at ho
     refine ⟨?_, hW.ko, hW.kl⟩
     exact ⟨W0, s, us, _, hb, hW.off, hW.whole, h.base, h.len, h.row, h.old, fun _ => ⟨ho, hW.bare⟩, h.ql⟩)
   clear hW hD hC
   go_wp2
   go_ret
   exact ⟨rfl, HF.out⟩
end Go.Proofs.YtmhmlhlplfkpaaaGreatDoor
namespace Go.Proofs.YtmhmlhlplfkpaaaGreatDoor
open Go.RowKit
structure EnC (q l : Nat) (Wc Wb : World) (s : Sl3) (us : List FnV) (v : FnV) (t : As.St) (x : Nat × Sl3) (D : Nat → Bool) (W : World) : Prop where
 off : Off q l Wb W
 ko : KeepsOthers Wc W
 kl : W.heap[l]? = Wc.heap[l]?
 box : W.heap[q]? = some (.cells (rdCells (if D 15 = true then x.2 else s) v true) 80 (0, 0))
 new : D 10 = true → D 11 = false → W.heap[x.1]? = some (.cells v.cells 28 (0, 0))
 o0 : D 11 = false → W.ownsRow Wb.heap.size 28 11 s.val us.length (fcs us)
 o1 : D 11 = true → W.ownsRow Wb.heap.size 28 11 x.2.val (us.length + 1) (fcs (us ++ [v]))
 olds : ∀ j, j < us.length → FnOwn W Wb.heap.size (us.getD j .zero) (t.done.getD j .zero)
 cur : FnOwn W Wb.heap.size v t.cur
 q0 : q < Wb.heap.size
 l0 : l < Wb.heap.size ∧ q ≠ l
section
variable {q l : Nat} {Wc Wb W : World} {s : Sl3} {us : List FnV} {v : FnV} {t : As.St} {x : Nat × Sl3} {D : Nat → Bool}
theorem EnC.up (h : EnC q l Wc Wb s us v t x D W) {i : Nat} (h1 : (10 == i) = false) (h2 : (11 == i) = false) (h3 : (15 == i) = false) : EnC q l Wc Wb s us v t x (add D i) W :=
 ⟨h.off, h.ko, h.kl, by rw [up_other h3]; exact h.box, by rw [up_other h1, up_other h2]; exact h.new, by rw [up_other h2]; exact h.o0, by rw [up_other h2]; exact h.o1, h.olds, h.cur, h.q0, h.l0⟩
theorem EnC.funcs (h : EnC q l Wc Wb s us v t x D W) (hs : D 15 = false) : W.cell? ⟨q, 0, none⟩ = some (.slice s.a s.n s.c) := by
 have := h.box
 rw [hs, if_neg (by decide)] at this
 exact cell_of_row W q 0 _ _ _ this
theorem EnC.ice (h : EnC q l Wc Wb s us v t x D W) : W.frozen? ⟨q, 0, none⟩ = false := by
 have := h.box
 simp [World.frozen?, this]
theorem EnC.func (h : EnC q l Wc Wb s us v t x D W) : W.cell? ⟨q, 1, none⟩ = some (.string v.name) ∧ W.cell? ⟨q, 2, none⟩ = some (.bool v.inner) ∧ W.cell? ⟨q, 3, none⟩ = some (.slice v.outer.a v.outer.n v.outer.c) ∧ W.cell? ⟨q, 4, none⟩ = some (.slice v.params.a v.params.n v.params.c) ∧ W.cell? ⟨q, 5, none⟩ = some (.slice v.results.a v.results.n v.results.c) ∧ W.cell? ⟨q, 6, none⟩ = some (.slice v.locals.a v.locals.n v.locals.c) ∧ W.cell? ⟨q, 7, none⟩ = some (.slice v.code.a v.code.n v.code.c) ∧ W.cell? ⟨q, 8, none⟩ = some (.slice v.lines.a v.lines.n v.lines.c) ∧ W.cell? ⟨q, 9, none⟩ = some (.slice v.nodes.a v.nodes.n v.nodes.c) ∧ W.cell? ⟨q, 10, none⟩ = some (.slice v.at_.a v.at_.n v.at_.c) ∧ W.cell? ⟨q, 11, none⟩ = some (.slice v.live.a v.live.n v.live.c) :=
 have c := fun k => cell_of_row W q k _ _ _ h.box
 ⟨c 1, c 2, c 3, c 4, c 5, c 6, c 7, c 8, c 9, c 10, c 11⟩
theorem EnC.newed (h : EnC q l Wc Wb s us v t x D W) (h11 : D 11 = false) : EnC q l Wc Wb s us v t (W.heap.size, x.2) (add D 10) (W.alloc (.cells v.cells 28)) := by
 have hb := (Below.refl W.heap.size W).alloc (Nat.le_refl _) (.cells v.cells 28)
 refine ⟨h.off.trans (Off.below hb), h.ko.trans (KeepsOthers.alloc _ _), (hb.block l (Nat.lt_of_lt_of_le h.l0.1 h.off.size)).trans h.kl, ?_, fun _ _ => heap_alloc_new W _, ?_, ?_, fun j hj => (h.olds j hj).below hb, h.cur.below hb, h.q0, h.l0⟩
 · rw [up_other rfl]
   exact (hb.block q (heap_lt h.box)).trans h.box
 · rw [up_other rfl]
   exact fun e => ownsRow_below (h.o0 e) hb
 · rw [up_other rfl, h11]
   intro e
   cases e
theorem EnC.appends (h : EnC q l Wc Wb s us v t x D W) (h10 : D 10 = true) (h11 : D 11 = false) (h15 : D 15 = false) (hu : us.length ≤ 1048576) :
   ∃ (r : Sl3) (W' : World), (Builtin.append_ #[34, 34] 34 #[.slice s.a s.n s.c, .slice (some ⟨x.1, 0, none⟩) 1 1]).run Tryz.prog W = .ok r.val W' ∧ EnC q l Wc Wb s us v t (x.1, r) (add D 11) W' := by
 obtain ⟨i0, hi, hz0, hz1, hz2⟩ := info_parts info_func
 have hO := h.o0 h11
 have hx := h.new h10 h11
 obtain ⟨r, W', hr, ho, hg, _⟩ := run_append_own (P := Tryz.prog) W Wb.heap.size 34 34 28 i0 (.agg FnV.zero.cells) 11 240 Tryz.underlying34 hi hz0 hz1 hz2 rfl (by decide) s.val us.length (fcs us) hO ⟨x.1, 0, none⟩ 1 1 (fcs [v]) rfl
   (by rw [show fcs [v] = v.cells.toList from List.append_nil _]; exact World.news_of_block hx) (fcs_one _) (by unfold maxLen; omega) (by omega) h.off.size
 obtain ⟨rc, rfl⟩ := own_sl ho
 refine ⟨rc, W', hr, off_row h.off hO (Nat.le_refl _) hg, h.ko.trans (ko_row hO hg), (hg.block l (Nat.lt_of_lt_of_le h.l0.1 h.off.size) (fun e => by have := (hO.lt l e.symm).1; have := h.l0; omega)).trans h.kl, ?_, ?_, ?_, ?_, fun j hj => (h.olds j hj).kept hg (row_funcs hO), h.cur.kept hg (row_funcs hO), h.q0, h.l0⟩
 · have hbx := h.box
   rw [h15, if_neg (by decide)] at hbx
   rw [up_other rfl, h15, if_neg (by decide)]
   exact (hg.block q (heap_lt hbx) (fun e => by have := (hO.lt q e.symm).1; have := h.q0; omega)).trans hbx
 · rw [up_self]
   intro _ e
   cases e
 · rw [up_self]
   intro e
   cases e
 · rw [fcs_append]
   exact fun _ => ho
theorem EnC.stored (h : EnC q l Wc Wb s us v t x D W) (h11 : D 11 = true) (h15 : D 15 = false) : EnC q l Wc Wb s us v t x (add D 15) (W.setCell ⟨q, 0, none⟩ x.2.val) := by
 have hg := Lib.grownBy_setB (World.grownBy.refl W (some q)) 0 x.2.val
 refine ⟨h.off.trans (Off.grown hg), h.ko.trans (KeepsOthers.setCell _ _ _), (hg.block l (Nat.lt_of_lt_of_le h.l0.1 h.off.size) (fun e => by injection e with e; exact h.l0.2 e.symm)).trans h.kl, ?_, ?_, ?_, ?_, fun j hj => (h.olds j hj).off (Off.grown (p := q) hg) h.q0 h.q0, h.cur.off (Off.grown (p := q) hg) h.q0 h.q0, h.q0, h.l0⟩
 · have hbx := h.box
   rw [h15, if_neg (by decide)] at hbx
   rw [up_self, if_pos rfl]
   exact mid_set (i := 0) hbx x.2.val
 · rw [up_other rfl, up_other rfl, h11]
   intro _ e
   cases e
 · rw [up_other rfl, h11]
   intro e
   cases e
 · rw [up_other rfl]
   exact fun e => row_off (h.o1 e) (Off.grown (p := q) hg) h.q0 h.q0
end
def endG (q : Nat) (s : Sl3) (v : FnV) (x : Nat × Sl3) : Nat → Value → Prop
 | 0, y => y = .pointer (some ⟨q, 0, none⟩)
 | 1, y => y = .pointer (some ⟨q, 0, none⟩)
 | 2, y => y = .pointer (some ⟨q, 0, none⟩)
 | 3, y => y = .pointer (some ⟨q, 0, none⟩)
 | 4, y => y = .pointer (some ⟨q, 0, none⟩)
 | 5, y => y = .slice s.a s.n s.c
 | 6, y => y = .pointer (some ⟨q, 0, none⟩)
 | 7, y => y = .pointer (some ⟨q, 0, none⟩)
 | 8, y => y = .pointer (some ⟨q, 1, none⟩)
 | 9, y => y = .agg #[.string v.name, .bool v.inner, .slice v.outer.a v.outer.n v.outer.c, .slice v.params.a v.params.n v.params.c, .slice v.results.a v.results.n v.results.c, .slice v.locals.a v.locals.n v.locals.c, .slice v.code.a v.code.n v.code.c, .slice v.lines.a v.lines.n v.lines.c, .slice v.nodes.a v.nodes.n v.nodes.c, .slice v.at_.a v.at_.n v.at_.c, .slice v.live.a v.live.n v.live.c]
 | 10, y => y = .slice (some ⟨x.1, 0, none⟩) 1 1
 | 11, y => y = x.2.val
 | 12, y => y = .pointer (some ⟨q, 0, none⟩)
 | 13, y => y = .pointer (some ⟨q, 0, none⟩)
 | 14, y => y = .pointer (some ⟨q, 0, none⟩)
 | _, _ => True
theorem en_new {q : Nat} {s : Sl3} {v : FnV} {x : Nat × Sl3} {D : Nat → Bool} {z : Nat} (h10 : D 10 = false) : ∀ j y, D j = true → endG q s v x j y → endG q s v (z, x.2) j y
 | 0, _, _, h => h
 | 1, _, _, h => h
 | 2, _, _, h => h
 | 3, _, _, h => h
 | 4, _, _, h => h
 | 5, _, _, h => h
 | 6, _, _, h => h
 | 7, _, _, h => h
 | 8, _, _, h => h
 | 9, _, _, h => h
 | 10, _, hj, _ => by rw [h10] at hj; cases hj
 | 11, _, _, h => h
 | 12, _, _, h => h
 | 13, _, _, h => h
 | 14, _, _, h => h
 | 15, _, _, h => h
 | _ + 16, _, _, h => h
theorem en_app {q : Nat} {s : Sl3} {v : FnV} {x : Nat × Sl3} {D : Nat → Bool} {z : Sl3} (h11 : D 11 = false) : ∀ j y, D j = true → endG q s v x j y → endG q s v (x.1, z) j y
 | 0, _, _, h => h
 | 1, _, _, h => h
 | 2, _, _, h => h
 | 3, _, _, h => h
 | 4, _, _, h => h
 | 5, _, _, h => h
 | 6, _, _, h => h
 | 7, _, _, h => h
 | 8, _, _, h => h
 | 9, _, _, h => h
 | 10, _, _, h => h
 | 11, _, hj, _ => by rw [h11] at hj; cases hj
 | 12, _, _, h => h
 | 13, _, _, h => h
 | 14, _, _, h => h
 | 15, _, _, h => h
 | _ + 16, _, _, h => h
set_option maxHeartbeats 16000000 in
theorem rdline_any (q l : Nat) (Wb : World) (t : As.St) (W : World) (h : RdAt q l Wb t W) (z : ByteArray) (hz : z.size ≤ 1048576) (hg : Glob W) (hnc : t.cur.code.length ≤ 1048576) (hnl : t.cur.lines.length ≤ 1048576) (hnd : t.done.length ≤ 1048576) :
   Calls Tryz.prog 45 #[.pointer (some ⟨q, 0, none⟩), .string z] W (RdP q l Wb (As.step t z).1 (As.step t z).2 W) := by
 by_cases ht : t.isOpen = true
 rotate_left
 · have ht : t.isOpen = false := by cases hx : t.isOpen; rfl; exact absurd hx ht
   rw [As.step_shut ht]
   have HHd := rdhead_any q l Wb t W h z hz
   obtain ⟨W0, s, us, v, h⟩ := h
   have c12 : W.cell? ⟨q, 12, none⟩ = some (.bool t.isOpen) := h.cell 12
   rw [ht] at c12
   unfold RdP at HHd
   clear h ht hz hg hnc hnl hnd
   go_enter Tryz.func45, Tryz.ntmps45
   go_wp2_with (go_at_call 73; refine HHd.mono ?_; clear HHd; rintro _ w1 ⟨rfl, h1⟩; have H1 := Lib.hid h1; clear h1)
   go_ret
   exact ⟨rfl, H1.out⟩
 by_cases he : z = As.end_
 rotate_left
 · rw [As.step_line ht he]
   have HIn := rdins_any q l Wb t W h ht z (by omega) hg hnc hnl
   obtain ⟨W0, s, us, v, h⟩ := h
   have c12 : W.cell? ⟨q, 12, none⟩ = some (.bool t.isOpen) := h.cell 12
   rw [ht] at c12
   unfold RdP at HIn
   have hz1 : (z.toList == [101, 110, 100]) = false := by
     rw [show ([101, 110, 100] : List UInt8) = As.end_.toList by kernel_rfl]
     exact (Lib.bytes_beq_false_iff _ _).2 he
   clear h ht hz hg hnc hnl hnd he
   go_enter Tryz.func45, Tryz.ntmps45
   go_wp2_with (go_at_call 74; refine HIn.mono ?_; clear HIn; rintro _ w1 ⟨rfl, h1⟩; have H1 := Lib.hid h1; clear h1)
   go_ret
   exact ⟨rfl, H1.out⟩
 rw [he, As.step_end ht]
 obtain ⟨W0, s, us, v, h⟩ := h
 have c12 : W.cell? ⟨q, 12, none⟩ = some (.bool t.isOpen) := h.cell 12
 rw [ht] at c12
 have hz1 : (z.toList == [101, 110, 100]) = true := by
   rw [show ([101, 110, 100] : List UInt8) = As.end_.toList by kernel_rfl, he]
   exact beq_self_eq_true _
 have hC : EnC q l W Wb s us v t (0, .nil) (fun _ => false) W.drew :=
   have h := h.below ((Below.refl _ _).drew)
   ⟨h.whole, KeepsOthers.drew _, rfl, by have := h.box; rw [ht] at this; exact this, (fun e => by cases e), fun _ => h.rowW, (fun e => by cases e), h.oldW, ((h.cur ht).1.base h.base), h.ql.1, h.ql.2⟩
 have hnd : us.length ≤ 1048576 := by have := h.len; omega
 have H := Lib.hid h
 have HT := Lib.hid ht
 rw [← he]
 clear h ht hz hg hnc hnl he
 go_enter Tryz.func45, Tryz.ntmps45
 go_wp2
 refine region_k ((0, .nil) : Nat × Sl3) 38 (fun x D W' => EnC q l W Wb s us v t x D W') (endG q s v) (by kernel_rfl) (by kernel_rfl) (by kernel_rfl) rfl rfl hC ?_ ?_
 · refine ⟨?_, ?_, ?_, ?_, ?_, ?_, ?_, ?_, ?_, ?_, ?_, ?_, ?_, ?_, ?_, ?_, trivial⟩
   · intro x D a w hI hdep hD0 K hK
     have e0 : a.eval (.tmp 0) = .pointer (some ⟨q, 0, none⟩) := hI.read 0 rfl
     refine ok_value (wanted_none rfl) (v := .pointer (some ⟨q, 0, none⟩)) ?_ (hK x _ _ (hI.world.up rfl rfl rfl) (fun _ _ _ h => h) rfl)
     obtain ⟨ec, ef⟩ := ecs a; clear hI hdep hK; generalize a.eval = ρ at e0 ec ef ⊢; go_simp
   · intro x D a w hI hdep hD0 K hK
     have e0 : a.eval (.tmp 0) = .pointer (some ⟨q, 0, none⟩) := hI.read 0 rfl
     refine ok_value (wanted_none rfl) (v := .pointer (some ⟨q, 0, none⟩)) ?_ (hK x _ _ (hI.world.up rfl rfl rfl) (fun _ _ _ h => h) rfl)
     obtain ⟨ec, ef⟩ := ecs a; clear hI hdep hK; generalize a.eval = ρ at e0 ec ef ⊢; go_simp
   · intro x D a w hI hdep hD0 K hK
     have e18 : a.eval (.tmp 18) = .pointer (some ⟨q, 0, none⟩) := hI.good 1 18 (dep_of hdep 1 rfl) rfl
     refine ok_value (wanted_none rfl) (v := .pointer (some ⟨q, 0, none⟩)) ?_ (hK x _ _ (hI.world.up rfl rfl rfl) (fun _ _ _ h => h) rfl)
     obtain ⟨ec, ef⟩ := ecs a; clear hI hdep hK; generalize a.eval = ρ at e18 ec ef ⊢; go_simp
   · intro x D a w hI hdep hD0 K hK
     have e19 : a.eval (.tmp 19) = .pointer (some ⟨q, 0, none⟩) := hI.good 2 19 (dep_of hdep 2 rfl) rfl
     refine ok_value (wanted_none rfl) (v := .pointer (some ⟨q, 0, none⟩)) ?_ (hK x _ _ (hI.world.up rfl rfl rfl) (fun _ _ _ h => h) rfl)
     obtain ⟨ec, ef⟩ := ecs a; clear hI hdep hK; generalize a.eval = ρ at e19 ec ef ⊢; go_simp
   · intro x D a w hI hdep hD0 K hK
     have e20 : a.eval (.tmp 20) = .pointer (some ⟨q, 0, none⟩) := hI.good 3 20 (dep_of hdep 3 rfl) rfl
     refine ok_value (wanted_none rfl) (v := .pointer (some ⟨q, 0, none⟩)) ?_ (hK x _ _ (hI.world.up rfl rfl rfl) (fun _ _ _ h => h) rfl)
     obtain ⟨ec, ef⟩ := ecs a; clear hI hdep hK; generalize a.eval = ρ at e20 ec ef ⊢; go_simp
   · intro x D a w hI hdep hD0 K hK
     have e21 : a.eval (.tmp 21) = .pointer (some ⟨q, 0, none⟩) := hI.good 4 21 (dep_of hdep 4 rfl) rfl
     have z0 : w.cell? ⟨q, 0, none⟩ = some (.slice s.a s.n s.c) := hI.world.funcs (hI.not_up hD0 15 rfl)
     refine ok_value (wanted_none rfl) (v := .slice s.a s.n s.c) ?_ (hK x _ _ (hI.world.up rfl rfl rfl) (fun _ _ _ h => h) rfl)
     obtain ⟨ec, ef⟩ := ecs a; clear hI hdep hK; generalize a.eval = ρ at e21 ec ef ⊢; go_simp
   · intro x D a w hI hdep hD0 K hK
     have e0 : a.eval (.tmp 0) = .pointer (some ⟨q, 0, none⟩) := hI.read 0 rfl
     refine ok_value (wanted_none rfl) (v := .pointer (some ⟨q, 0, none⟩)) ?_ (hK x _ _ (hI.world.up rfl rfl rfl) (fun _ _ _ h => h) rfl)
     obtain ⟨ec, ef⟩ := ecs a; clear hI hdep hK; generalize a.eval = ρ at e0 ec ef ⊢; go_simp
   · intro x D a w hI hdep hD0 K hK
     have e23 : a.eval (.tmp 23) = .pointer (some ⟨q, 0, none⟩) := hI.good 6 23 (dep_of hdep 6 rfl) rfl
     refine ok_value (wanted_none rfl) (v := .pointer (some ⟨q, 0, none⟩)) ?_ (hK x _ _ (hI.world.up rfl rfl rfl) (fun _ _ _ h => h) rfl)
     obtain ⟨ec, ef⟩ := ecs a; clear hI hdep hK; generalize a.eval = ρ at e23 ec ef ⊢; go_simp
   · intro x D a w hI hdep hD0 K hK
     have e24 : a.eval (.tmp 24) = .pointer (some ⟨q, 0, none⟩) := hI.good 7 24 (dep_of hdep 7 rfl) rfl
     refine ok_value (wanted_none rfl) (v := .pointer (some ⟨q, 1, none⟩)) ?_ (hK x _ _ (hI.world.up rfl rfl rfl) (fun _ _ _ h => h) rfl)
     obtain ⟨ec, ef⟩ := ecs a; clear hI hdep hK; generalize a.eval = ρ at e24 ec ef ⊢; go_simp
   · intro x D a w hI hdep hD0 K hK
     have e25 : a.eval (.tmp 25) = .pointer (some ⟨q, 1, none⟩) := hI.good 8 25 (dep_of hdep 8 rfl) rfl
     obtain ⟨k0, k1, k2, k3, k4, k5, k6, k7, k8, k9, k10⟩ := hI.world.func
     refine ok_value (wanted_none rfl) (v := .agg #[.string v.name, .bool v.inner, .slice v.outer.a v.outer.n v.outer.c, .slice v.params.a v.params.n v.params.c, .slice v.results.a v.results.n v.results.c, .slice v.locals.a v.locals.n v.locals.c, .slice v.code.a v.code.n v.code.c, .slice v.lines.a v.lines.n v.lines.c, .slice v.nodes.a v.nodes.n v.nodes.c, .slice v.at_.a v.at_.n v.at_.c, .slice v.live.a v.live.n v.live.c]) ?_ (hK x _ _ (hI.world.up rfl rfl rfl) (fun _ _ _ h => h) rfl)
     obtain ⟨ec, ef⟩ := ecs a; clear hI hdep hK; generalize a.eval = ρ at e25 ec ef ⊢; go_simp
   · intro x D a w hI hdep hD0 K hK
     have e26 : a.eval (.tmp 26) = .agg #[.string v.name, .bool v.inner, .slice v.outer.a v.outer.n v.outer.c, .slice v.params.a v.params.n v.params.c, .slice v.results.a v.results.n v.results.c, .slice v.locals.a v.locals.n v.locals.c, .slice v.code.a v.code.n v.code.c, .slice v.lines.a v.lines.n v.lines.c, .slice v.nodes.a v.nodes.n v.nodes.c, .slice v.at_.a v.at_.n v.at_.c, .slice v.live.a v.live.n v.live.c] := hI.good 9 26 (dep_of hdep 9 rfl) rfl
     refine ok_new (wanted_none rfl) (v := .slice (some ⟨w.heap.size, 0, none⟩) 1 1) (w' := w.alloc (.cells v.cells 28)) (by have ec : ∀ c, a.eval (.const c) = c := fun _ => rfl; generalize a.eval = ρ at e26 ec ⊢; simp only [FnV.cells, Sl3.val] at e26 ⊢; go_simp) ?_
     exact hK (w.heap.size, x.2) _ _ (hI.world.newed (hI.not_up hD0 11 rfl)) (en_new hD0) rfl
   · intro x D a w hI hdep hD0 K hK
     have e22 : a.eval (.tmp 22) = .slice s.a s.n s.c := hI.good 5 22 (dep_of hdep 5 rfl) rfl
     have e27 : a.eval (.tmp 27) = .slice (some ⟨x.1, 0, none⟩) 1 1 := hI.good 10 27 (dep_of hdep 10 rfl) rfl
     obtain ⟨r, W', hr, hC⟩ := hI.world.appends (dep_of hdep 10 rfl) hD0 (hI.not_up hD0 15 rfl) hnd
     exact ok_append (wanted_none rfl) (.tmp 22) (.tmp 27) 34 34 rfl (by rw [e22, e27]; exact hr) (hK (x.1, r) _ _ hC (en_app hD0) rfl)
   · intro x D a w hI hdep hD0 K hK
     have e17 : a.eval (.tmp 17) = .pointer (some ⟨q, 0, none⟩) := hI.good 0 17 (dep_of hdep 0 rfl) rfl
     refine ok_value (wanted_none rfl) (v := .pointer (some ⟨q, 0, none⟩)) ?_ (hK x _ _ (hI.world.up rfl rfl rfl) (fun _ _ _ h => h) rfl)
     obtain ⟨ec, ef⟩ := ecs a; clear hI hdep hK; generalize a.eval = ρ at e17 ec ef ⊢; go_simp
   · intro x D a w hI hdep hD0 K hK
     have e29 : a.eval (.tmp 29) = .pointer (some ⟨q, 0, none⟩) := hI.good 12 29 (dep_of hdep 12 rfl) rfl
     refine ok_value (wanted_none rfl) (v := .pointer (some ⟨q, 0, none⟩)) ?_ (hK x _ _ (hI.world.up rfl rfl rfl) (fun _ _ _ h => h) rfl)
     obtain ⟨ec, ef⟩ := ecs a; clear hI hdep hK; generalize a.eval = ρ at e29 ec ef ⊢; go_simp
   · intro x D a w hI hdep hD0 K hK
     have e30 : a.eval (.tmp 30) = .pointer (some ⟨q, 0, none⟩) := hI.good 13 30 (dep_of hdep 13 rfl) rfl
     refine ok_value (wanted_none rfl) (v := .pointer (some ⟨q, 0, none⟩)) ?_ (hK x _ _ (hI.world.up rfl rfl rfl) (fun _ _ _ h => h) rfl)
     obtain ⟨ec, ef⟩ := ecs a; clear hI hdep hK; generalize a.eval = ρ at e30 ec ef ⊢; go_simp
   · intro x D a w hI hdep hD0 K hK
     have e31 : a.eval (.tmp 31) = .pointer (some ⟨q, 0, none⟩) := hI.good 14 31 (dep_of hdep 14 rfl) rfl
     have e28 : a.eval (.tmp 28) = x.2.val := hI.good 11 28 (dep_of hdep 11 rfl) rfl
     have hc := dep_of hdep 11 rfl
     have z0 : w.cell? ⟨q, 0, none⟩ = some (.slice s.a s.n s.c) := hI.world.funcs hD0
     have z1 := hI.world.ice
     refine ok_store (wanted_none rfl) (w' := w.setCell ⟨q, 0, none⟩ x.2.val) ?_ (hK x undef _ (hI.world.stored hc hD0) (fun _ _ _ h => h) trivial)
     unfold Sl3.val at e28 ⊢
     obtain ⟨ec, ef⟩ := ecs a; clear hI hdep hK; generalize a.eval = ρ at e31 e28 ec ef ⊢; go_simp
 · intro x D a w8 hI hD
   have hfr := hI.frame [(17, .pointer (some ⟨q, 0, none⟩)), (18, .pointer (some ⟨q, 0, none⟩)), (19, .pointer (some ⟨q, 0, none⟩)), (20, .pointer (some ⟨q, 0, none⟩)), (21, .pointer (some ⟨q, 0, none⟩)), (22, .slice s.a s.n s.c), (23, .pointer (some ⟨q, 0, none⟩)), (24, .pointer (some ⟨q, 0, none⟩)), (25, .pointer (some ⟨q, 1, none⟩)), (26, .agg #[.string v.name, .bool v.inner, .slice v.outer.a v.outer.n v.outer.c, .slice v.params.a v.params.n v.params.c, .slice v.results.a v.results.n v.results.c, .slice v.locals.a v.locals.n v.locals.c, .slice v.code.a v.code.n v.code.c, .slice v.lines.a v.lines.n v.lines.c, .slice v.nodes.a v.nodes.n v.nodes.c, .slice v.at_.a v.at_.n v.at_.c, .slice v.live.a v.live.n v.live.c]), (27, .slice (some ⟨x.1, 0, none⟩) 1 1), (28, x.2.val), (29, .pointer (some ⟨q, 0, none⟩)), (30, .pointer (some ⟨q, 0, none⟩)), (31, .pointer (some ⟨q, 0, none⟩))] (all_cons (hI.good 0 17 (hD 0 (by decide)) rfl) (all_cons (hI.good 1 18 (hD 1 (by decide)) rfl) (all_cons (hI.good 2 19 (hD 2 (by decide)) rfl) (all_cons (hI.good 3 20 (hD 3 (by decide)) rfl) (all_cons (hI.good 4 21 (hD 4 (by decide)) rfl) (all_cons (hI.good 5 22 (hD 5 (by decide)) rfl) (all_cons (hI.good 6 23 (hD 6 (by decide)) rfl) (all_cons (hI.good 7 24 (hD 7 (by decide)) rfl) (all_cons (hI.good 8 25 (hD 8 (by decide)) rfl) (all_cons (hI.good 9 26 (hD 9 (by decide)) rfl) (all_cons (hI.good 10 27 (hD 10 (by decide)) rfl) (all_cons (hI.good 11 28 (hD 11 (by decide)) rfl) (all_cons (hI.good 12 29 (hD 12 (by decide)) rfl) (all_cons (hI.good 13 30 (hD 13 (by decide)) rfl) (all_cons (hI.good 14 31 (hD 14 (by decide)) rfl) all_nil))))))))))))))) rfl
   have hW := hI.world
   clear hI
   subst hfr
   simp only [List.foldl_cons, List.foldl_nil, List.setIfInBounds_toArray, List.set_cons_succ, List.set_cons_zero]
   have hb := hW.box
   rw [hD 15 (by decide), if_pos rfl] at hb
   have h12 : ∃ y, w8.cell? ⟨q, 12, none⟩ = some y := ⟨_, cell_of_row w8 q 12 _ _ _ hb⟩
   obtain ⟨y, hy⟩ := h12
   have hf : w8.frozen? ⟨q, 12, none⟩ = false := by simp [World.frozen?, hb]
   have HF := Lib.hid (show RdAt q l Wb ⟨t.done ++ [t.cur], t.cur, false⟩ (w8.setCell ⟨q, 12, none⟩ (.bool false)) ∧ KeepsOthers W (w8.setCell ⟨q, 12, none⟩ (.bool false)) ∧ (w8.setCell ⟨q, 12, none⟩ (.bool false)).heap[l]? = W.heap[l]? from by
     have h := H.out
     have hg := Lib.grownBy_setB (World.grownBy.refl w8 (some q)) 12 (.bool false)
     have ho := Off.grown (p := q) hg
     refine ⟨?_, hW.ko.trans (KeepsOthers.setCell _ _ _), (hg.block l (Nat.lt_of_lt_of_le hW.l0.1 hW.off.size) (fun e => by injection e with e; exact hW.l0.2 e.symm)).trans hW.kl⟩
     refine ⟨_, x.2, us ++ [v], v, mid_set (i := 12) hb (.bool false), OffC.refl _ _ _, hW.off.trans (Off.grown hg), (hW.off.trans (Off.grown hg)).size, by rw [List.length_append, List.length_append, h.len]; rfl, ?_, fun k hk => ?_, (fun e => by cases e), h.ql⟩
     · rw [List.length_append]
       exact row_off (hW.o1 (hD 11 (by decide))) ho hW.q0 hW.q0
     · rw [List.length_append, List.length_singleton] at hk
       by_cases hkl : k < us.length
       · rw [getD_init us v _ hkl, getD_init t.done t.cur _ (by rw [← h.len]; exact hkl)]
         exact (hW.olds k hkl).off ho hW.q0 hW.q0
       · obtain rfl : k = us.length := by omega
         rw [getD_last, h.len, getD_last]
         exact hW.cur.off ho hW.q0 hW.q0)
   clear hW hD hC hb
   go_wp2
   go_ret
   exact ⟨rfl, HF.out⟩
end Go.Proofs.YtmhmlhlplfkpaaaGreatDoor
namespace Go.Proofs.YtmhmlhlplfkpaaaGreatDoor
open Go.RowKit Go.Shelf
attribute [local go_sem] Oper.semAt_some
namespace As
def Left (s : ByteArray) (pre : List (Nat × ByteArray)) (r : ByteArray) (b : Bool) (k : Nat) : Prop := lines s = pre ++ (if b then numbered k (words 10 r) else []) ∧ k + (if b then r.size + 1 else 0) ≤ s.size + 2 ∧ r.size ≤ s.size
theorem Left.first (s : ByteArray) : Left s [] s true 1 := ⟨rfl, by rw [if_pos rfl]; omega, Nat.le_refl _⟩
theorem numbered_cut (k : Nat) (r : ByteArray) : numbered k (words 10 r) = (if (ahead 10 r).size = 0 then [] else [(k, ahead 10 r)]) ++ (if more 10 r then numbered (k + 1) (words 10 (behind 10 r)) else []) := by
 rw [words_cut]
 conv => lhs; unfold numbered
 by_cases h : (ahead 10 r).size = 0
 · rw [if_pos h, if_pos h]
   cases more 10 r <;> rfl
 · rw [if_neg h, if_neg h]
   cases more 10 r <;> rfl
theorem Left.next {s r : ByteArray} {pre : List (Nat × ByteArray)} {k : Nat} (h : Left s pre r true k) : Left s (pre ++ (if (ahead 10 r).size = 0 then [] else [(k, ahead 10 r)])) (behind 10 r) (more 10 r) (k + 1) := by
 obtain ⟨h1, h2, h3⟩ := h
 rw [if_pos rfl, numbered_cut] at h1
 rw [if_pos rfl] at h2
 have h4 := behind_le 10 r
 refine ⟨by rw [h1, List.append_assoc], ?_, by omega⟩
 cases hm : more 10 r with
 | true => have := behind_size hm; rw [if_pos rfl]; omega
 | false => rw [if_neg (by decide)]; omega
theorem Left.begins {s r : ByteArray} {pre : List (Nat × ByteArray)} {b : Bool} {k : Nat} (h : Left s pre r b k) : pre <+: lines s := ⟨_, h.1.symm⟩
end As
abbrev LnT := { x : Nat × ByteArray // x.2.size ≤ 1048576 }
def LnRel (s : ByteArray) (J : List LnT → World → Prop) (u m n : Value) (wr : World) : Prop :=
 ∃ (pre : List LnT) (r : ByteArray) (b : Bool) (k : Nat), u = .string r ∧ m = .bool b ∧ n = .int .i64 (k : Int) ∧ As.Left s (pre.map (·.1)) r b k ∧ J pre wr
def leftOf (u m : Value) : Nat := match u, m with
 | .string r, .bool b => if b then r.size + 1 else 0
 | _, _ => 0
theorem abides_drew {β : Type} {B : Nat} {J : β → World → Prop} (h : AbidesFrom B J) {s : β} {W : World} (hJ : J s W) (n : Nat) : J s (W.drewN n) :=
 h s W _ none hJ ⟨rfl, rfl, rfl, Nat.le_refl _, fun _ _ _ => rfl⟩ (fun r e => by cases e)
set_option maxHeartbeats 4000000 in
theorem lines1_in (n : Nat) (hn : 1 ≤ n) (l Bs : Nat) (s : ByteArray) (hs : s.size ≤ 1048576) (J Jx : List LnT → World → Prop) (B : Nat) (hJ : AbidesFrom B J)
   (hY : ∀ pre x W, J pre W → pre.length < (As.lines s).length → YieldAt Fence.wide (n - 1) Tryz.prog l (encN x.1) W fun e W' =>
     (e = .returned (.bool true) ∧ J (pre ++ [x]) W' ∧ True) ∨ (e = .returned (.bool false) ∧ Jx (pre ++ [x]) W'))
   (W : World) (hB : Boxed W Bs 9 (.string s)) (h0 : J [] W) :
   CallsIn Fence.wide n Tryz.prog 71 #[.func (.yield l) #[] #[], .pointer (some ⟨Bs, 0, none⟩)] W fun e W' => (∃ v, e = .returned v) ∧
     ((∃ ys : List LnT, ys.map (·.1) = As.lines s ∧ J ys W') ∨ (∃ pre : List LnT, pre.map (·.1) <+: As.lines s ∧ Jx pre W')) := by
 have c0 := hB.cell
 have HY := Lib.hid hY
 have HJ := Lib.hid hJ
 clear hY hJ hB
 refine callsIn_of_wp Tryz.func71 rfl trivial ?_ rfl
 simp only [Tryz.ntmps71, List.size_toArray, List.length_cons, List.length_nil, Nat.reduceAdd, Nat.reduceSub, Array.replicate_succ, Array.replicate_zero, List.push_toArray, List.append_toArray, List.nil_append, List.cons_append]
 gi_wp2
 clear c0
 gi_loopw [3, 4, 5, 6] (fun u m k _ wr => LnRel s J u m k wr) (fun u m _ _ _ => leftOf u m)
 case atStart => exact ⟨[], s, true, 1, rfl, rfl, rfl, As.Left.first s, h0⟩
 case round =>
   obtain ⟨pre, r, b, k, rfl, rfl, rfl, hL, hJr⟩ := hrel
   have HL := Lib.hid hL
   have HJR := Lib.hid hJr
   clear hL hJr
   cases b with
   | false =>
     have HE : Hid (pre.map (·.1) = As.lines s) := Lib.hid (by have := HL.out.1; rw [if_neg (by decide), List.append_nil] at this; exact this.symm)
     gi_wp2
     go_end0
     exact ⟨⟨_, rfl⟩, .inl ⟨pre, HE.out, HJR.out⟩⟩
   | true =>
     have HNx := Lib.hid HL.out.next
     have hk : (k : Int) ≤ 1048578 := by have := HL.out.2.1; rw [if_pos rfl] at this; omega
     have HC := ascut_line r (by have := HL.out.2.2; omega) wr
     have HAz := Lib.hid (Nat.le_trans (As.ahead_size 10 r) HL.out.2.2)
     have HSz := Lib.hid (fun h : As.more 10 r = true => As.behind_size h)
     obtain ⟨a, ha⟩ : ∃ a, As.ahead 10 r = a := ⟨_, rfl⟩
     obtain ⟨t, htl⟩ : ∃ t, As.behind 10 r = t := ⟨_, rfl⟩
     obtain ⟨m, hm⟩ : ∃ m, As.more 10 r = m := ⟨_, rfl⟩
     rw [ha, htl, hm] at HC HNx
     rw [ha] at HAz
     rw [htl, hm] at HSz
     clear ha htl hm
     by_cases hz : a.size = 0
     · rw [if_pos hz, List.append_nil] at HNx
       obtain rfl := empty_of hz
       clear hz
       gi_wp2_with (refine ⟨trivial, ?_⟩; gi_at_call 72; refine (callsIn_wide.2 HC).mono ?_; clear HC; rintro e w1 ⟨rfl, j, rfl⟩; have HJ2 := Lib.hid (abides_drew HJ.out HJR.out j))
       refine ⟨fun _ h => (by cases h), ?_⟩
       gi_wp2
       go_roundw
       case rel => exact ⟨pre, t, m, k + 1, rfl, rfl, by go_num, HNx.out, HJ2.out⟩
       case measure =>
         cases m with
         | true => have := HSz.out rfl; simp [leftOf]; omega
         | false => simp [leftOf]
     · rw [if_neg hz] at HNx
       have hz2 := not_empty hz
       have HLt : Hid (pre.length < (As.lines s).length) := Lib.hid (by
         have := HNx.out.begins.length_le
         rw [List.length_append, List.length_singleton, List.length_map] at this
         omega)
       have hsz : a.size ≤ 1048576 := by have := HAz.out; omega
       clear hz
       gi_wp2_with (refine ⟨trivial, ?_⟩; gi_at_call 72; refine (callsIn_wide.2 HC).mono ?_; clear HC; rintro e w1 ⟨rfl, j, rfl⟩; have HJ2 := Lib.hid (abides_drew HJ.out HJR.out j); obtain ⟨fn, tmps, assign, body, hy, hR⟩ := HY.out pre ⟨(k, a), hsz⟩ (wr.drewN j) HJ2.out HLt.out; dsimp only [encN] at hy)
       refine hR.mono ?_
       rintro e W3 (⟨rfl, hJ3, _⟩ | ⟨rfl, hJx3⟩)
       · have HJ3 := Lib.hid hJ3
         clear hJ3
         gi_wp2
         go_roundw
         case rel => exact ⟨pre ++ [⟨(k, a), hsz⟩], t, m, k + 1, rfl, rfl, by go_num, by rw [List.map_append]; exact HNx.out, HJ3.out⟩
         case measure =>
           cases m with
           | true => have := HSz.out rfl; simp [leftOf]; omega
           | false => simp [leftOf]
       · gi_wp2
         refine bodyPost_ret (results_none rfl _ _ _) rfl ?_
         exact ⟨⟨_, rfl⟩, .inr ⟨_, by rw [List.map_append]; exact HNx.out.begins, hJx3⟩⟩
theorem lines_stops (n : Nat) (hn : 1 ≤ n) (Bs : Nat) (s : ByteArray) (hs : s.size ≤ 1048576) (w : World) (hB : Boxed w Bs 9 (.string s)) :
   SeqStopsK Fence.wide n Tryz.prog 71 #[.pointer (some ⟨Bs, 0, none⟩)] (fun x : LnT => encN x.1) (fun _ _ => True) (fun ys => ys.map (·.1) = As.lines s) (fun pre => pre.map (·.1) <+: As.lines s) (As.lines s).length w :=
 fun l J Jx W hW hJ _ hY h0 => lines1_in n hn l Bs s hs J Jx W.heap.size hJ hY W ((hW.block Bs hB.lt).trans hB) h0
set_option maxHeartbeats 1000000 in
theorem aslines_in (n : Nat) (s : ByteArray) (w : World) :
   CallsIn Fence.wide n Tryz.prog 44 #[.string s] w fun e w' => e = .returned (.func (.func 71) #[] #[.pointer (some ⟨w.heap.size, 0, none⟩)]) ∧ w' = w.alloc (.cells #[.string s] 9) := by
 refine callsIn_of_wp Tryz.func44 rfl trivial ?_ rfl
 simp only [Tryz.ntmps44, List.size_toArray, List.length_cons, List.length_nil, Nat.reduceAdd, Nat.reduceSub, Array.replicate_succ, Array.replicate_zero, List.push_toArray, List.append_toArray, List.nil_append, List.cons_append]
 gi_wp2
 go_ret
 exact ⟨rfl, rfl⟩
end Go.Proofs.YtmhmlhlplfkpaaaGreatDoor
namespace Go.Proofs.YtmhmlhlplfkpaaaGreatDoor
open Go.RowKit Go.Shelf
attribute [local go_sem] Oper.semAt_some
def AsReadP (x : ByteArray) (w : World) (e : Ending) (w' : World) : Prop := ∃ (s : Sl3) (us : List FnV), e = .returned (.tuple #[.agg #[s.val], .int .i64 ((As.read x).1.2 : Int), .int .i64 ((As.read x).2 : Int)]) ∧ s.n = (As.read x).1.1.length ∧ FnsAt w' w'.heap.size s.a s.n us (As.read x).1.1 ∧ s.nilOk ∧ Below w.heap.size w w'
def Box1 (W : World) (b : Nat) (T : TypeId) (v : Value) : Prop := W.heap[b]? = some (.cells #[v] T (0, 0))
section
variable {W W' : World} {b : Nat} {T : TypeId} {v : Value}
theorem Box1.cell (h : Box1 W b T v) : W.cell? ⟨b, 0, none⟩ = some v := cell_of_row _ _ 0 _ _ _ h
theorem Box1.ice (h : Box1 W b T v) : W.frozen? ⟨b, 0, none⟩ = false := by unfold Box1 at h; simp [World.frozen?, h]
theorem Box1.lt (h : Box1 W b T v) : b < W.heap.size := heap_lt h
theorem Box1.set (h : Box1 W b T v) (y : Value) : Box1 (W.setCell ⟨b, 0, none⟩ y) b T y := mid_set h y
theorem Box1.past {p : Nat} (h : Box1 W b T v) (hp : b ≠ p) (i : Nat) (y : Value) : Box1 (W.setCell ⟨p, i, none⟩ y) b T v := (Below.heap_setCell W ⟨p, i, none⟩ y b hp).trans h
theorem Box1.at (h : Box1 W b T v) (e : W'.heap[b]? = W.heap[b]?) : Box1 W' b T v := e.trans h
theorem Box1.marked (h : Box1 W b T v) {row : Option Nat} (hg : W.grownBy W' row) (hr : ∀ r, row = some r → ∃ o, W.heap[r]? = some o ∧ o.isCells = false) : Box1 W' b T v :=
 (hg.block b (heap_lt h) fun e => by
   obtain ⟨o, h3, h4⟩ := hr b e.symm
   unfold Box1 at h
   rw [h] at h3
   injection h3 with h3
   subst h3
   cases h4).trans h
end
def raw (pre : List LnT) : List (Nat × ByteArray) := pre.map (·.1)
theorem raw_snoc (pre : List LnT) (x : LnT) : raw (pre ++ [x]) = raw pre ++ [x.1] := List.map_append
def ReadI (q l : Nat) (Wb : World) (pre : List LnT) (W : World) : Prop :=
 (As.after (raw pre)).2 = 0 ∧ As.Fits (As.after (raw pre)).1.1 pre.length ∧ RdAt q l Wb (As.after (raw pre)).1.1 W ∧ Box1 W l 3 (.int .i64 ((As.after (raw pre)).1.2 : Int))
def ReadX (w : World) (c : Code) (pre : List LnT) (W : World) : Prop :=
 c = .ret ∧ (As.after (raw pre)).2 ≠ 0 ∧ Box1 W w.heap.size 36 (.slice none 0 0) ∧ Box1 W (w.heap.size + 1) 3 (.int .i64 ((As.after (raw pre)).1.2 : Int)) ∧ Box1 W (w.heap.size + 2) 30 (.int .i64 ((As.after (raw pre)).2 : Int)) ∧ Below w.heap.size w W
theorem readI_own (q l : Nat) (Wb : World) : OwnFrom Wb.heap.size (ReadI q l Wb) := fun pre W W' row hs hg hr => by
 obtain ⟨h0, h1, ⟨W0, s, us, v, h2⟩, h3⟩ := hs
 exact ⟨h0, h1, ⟨W0, s, us, v, h2.marked hg hr⟩, h3.marked hg fun r e => (hr r e).2⟩
theorem readX_own (w : World) (c : Code) {B : Nat} (hB : w.heap.size ≤ B) : OwnFrom B (ReadX w c) := fun pre W W' row hs hg hr => by
 obtain ⟨h0, h1, h2, h3, h4, h5⟩ := hs
 exact ⟨h0, h1, h2.marked hg fun r e => (hr r e).2, h3.marked hg fun r e => (hr r e).2, h4.marked hg fun r e => (hr r e).2, h5.grown hg h5.size (fun k e => Nat.le_trans hB (hr k e).1)⟩
theorem RdAt.last {q l : Nat} {Wb W : World} {t : As.St} (h : RdAt q l Wb t W) (y : Value) : RdAt q l Wb t (W.setCell ⟨l, 0, none⟩ y) := by
 obtain ⟨W0, s, us, v, h⟩ := h
 have hg := Lib.grownBy_setB (World.grownBy.refl W (some l)) 0 y
 have hq := h.ql
 have ho : Off q l W (W.setCell ⟨l, 0, none⟩ y) := Off.set q l 0 y W
 exact ⟨W0, s, us, v, (Below.heap_setCell W ⟨l, 0, none⟩ y q hq.2.2).trans h.box, h.off.on ho, h.whole.trans ho, h.base, h.len, h.row, h.old, fun e => ⟨(h.cur e).1.off ho (Nat.lt_of_lt_of_le hq.1 h.base) (Nat.lt_of_lt_of_le hq.2.1 h.base), (h.cur e).2⟩, hq⟩
structure RdW (w : World) (x : ByteArray) (Wb : World) : Prop where
 size : Wb.heap.size = w.heap.size + 1 + 1 + 1 + 1 + 1 + 1
 b0 : Box1 Wb w.heap.size 36 (.slice none 0 0)
 b1 : Box1 Wb (w.heap.size + 1) 3 (.int .i64 0)
 b2 : Box1 Wb (w.heap.size + 1 + 1) 30 (.int .i64 0)
 q : Wb.heap[w.heap.size + 1 + 1 + 1]? = some (.cells (rdCells .nil .zero false) 80 (0, 0))
 l : Box1 Wb (w.heap.size + 1 + 1 + 1 + 1) 3 (.int .i64 1)
 t : Box1 Wb (w.heap.size + 1 + 1 + 1 + 1 + 1) 9 (.string x)
 below : Below w.heap.size w Wb
theorem alloc_last {w : World} {o : Obj} {n : Nat} (h : w.heap.size = n) : (w.alloc o).heap[n]? = some o := by subst h; exact World.alloc_heap_new w o
theorem alloc_elder {w : World} {o y : Obj} {j : Nat} (h : w.heap[j]? = some y) : (w.alloc o).heap[j]? = some y := (Below.heap_alloc w o j (heap_lt h)).trans h
theorem rdW_is (w : World) (x : ByteArray) : RdW w x ((((((w.alloc (.cells #[.slice none 0 0] 36)).alloc (.cells #[.int .i64 0] 3)).alloc (.cells #[.int .i64 0] 30)).alloc (.cells #[.slice none 0 0, .string ⟨#[]⟩, .bool false, .slice none 0 0, .slice none 0 0, .slice none 0 0, .slice none 0 0, .slice none 0 0, .slice none 0 0, .slice none 0 0, .slice none 0 0, .slice none 0 0, .bool false] 80)).alloc (.cells #[.int .i64 1] 3)).alloc (.cells #[.string x] 9)) := by
 refine ⟨by simp only [World.size_alloc], ?_, ?_, ?_, ?_, ?_, ?_, ?_⟩
 · exact alloc_elder (alloc_elder (alloc_elder (alloc_elder (alloc_elder (alloc_last rfl)))))
 · exact alloc_elder (alloc_elder (alloc_elder (alloc_elder (alloc_last (by simp only [World.size_alloc])))))
 · exact alloc_elder (alloc_elder (alloc_elder (alloc_last (by simp only [World.size_alloc]))))
 · exact alloc_elder (alloc_elder (alloc_last (by simp only [World.size_alloc])))
 · exact alloc_elder (alloc_last (by simp only [World.size_alloc]))
 · exact alloc_last (by simp only [World.size_alloc])
 · exact ((((((Below.refl _ w).alloc (Nat.le_refl _) _).alloc (by simp) _).alloc (by simp; omega) _).alloc (by simp; omega) _).alloc (by simp; omega) _).alloc (by simp; omega) _
theorem RdIs.told {q l : Nat} {Wb W0 W W' : World} {s : Sl3} {us : List FnV} {v : FnV} {t : As.St} {n : Nat} (h : RdIs q l Wb W0 s us v t W) (hf : As.Fits t n) (hk : ∀ (j : Nat) (C : Array Value) (T : TypeId) (m : Nat × Nat), Wb.heap.size ≤ j → W.heap[j]? = some (Obj.cells C T m) → W'.heap[j]? = some (Obj.cells C T m)) :
   s.n = t.done.length ∧ FnsAt W' W'.heap.size s.a s.n us t.done ∧ s.nilOk := by
 have kr : ∀ {e : TypeId} {size n : Nat} {u : Value} {xs : List Value}, W.ownsRow Wb.heap.size e size u n xs → W'.ownsRow Wb.heap.size e size u n xs := fun ho => row_kept ho fun g hg => by
   obtain ⟨C, m, h2⟩ := row_kind ho g hg
   exact (hk g C _ m (ho.lt g hg).1 h2).trans h2.symm
 have ko : ∀ k, k < us.length → FnOwn W' Wb.heap.size (us.getD k .zero) (t.done.getD k .zero) := fun k hkl =>
   have a := h.oldW k hkl
   ⟨a.name, a.inner, kr a.outer, kr a.params, kr a.results, kr a.locals, kr a.code, kr a.lines, kr a.nodes, kr a.at_, kr a.live⟩
 obtain ⟨e1, e2, e3⟩ := funcs_of_own (kr h.rowW) ko h.len.symm (fun f hfm => by have := (hf.done f hfm).name; omega)
 rw [← e1] at e2
 exact ⟨e1.trans h.len, e2, e3⟩
set_option maxHeartbeats 16000000 in
theorem asread_any (x : ByteArray) (hx : x.size ≤ 1048576) (w : World) (hg : Glob w) (hT : Tab w) (hgt : 0 < w.heap.size) : Calls Tryz.prog 17 #[.string x] w (AsReadP x w) := by
 have HG := Lib.hid hg
 have HT := Lib.hid (And.intro hT hgt)
 clear hg hT hgt
 refine (callsIn_wide (n := 5)).1 ?_
 refine callsIn_of_wp_marks Tryz.func17 rfl trivial ?_ rfl
 simp only [Tryz.ntmps17, List.size_toArray, List.length_cons, List.length_nil, Nat.reduceAdd, Nat.reduceSub, Array.replicate_succ, Array.replicate_zero, List.push_toArray, List.append_toArray, List.nil_append, List.cons_append]
 gi_wp2_with (refine ⟨trivial, ?_⟩; gi_at_call 44; refine (aslines_in _ _ _).mono ?_; rintro e w' ⟨rfl, rfl⟩)
 have HW := Lib.hid (rdW_is w x)
 have HRd : Hid (As.read x = As.readOf (As.after (As.lines x))) := Lib.hid rfl
 generalize ((((((w.alloc (.cells #[.slice none 0 0] 36)).alloc (.cells #[.int .i64 0] 3)).alloc (.cells #[.int .i64 0] 30)).alloc (.cells #[.slice none 0 0, .string ⟨#[]⟩, .bool false, .slice none 0 0, .slice none 0 0, .slice none 0 0, .slice none 0 0, .slice none 0 0, .slice none 0 0, .slice none 0 0, .slice none 0 0, .slice none 0 0, .bool false] 80)).alloc (.cells #[.int .i64 1] 3)).alloc (.cells #[.string x] 9)) = Wb at *
 generalize hq : w.heap.size + 1 + 1 + 1 = q at *
 have HQ := Lib.hid hq
 refine wpIn_rangeFunc_ownF rfl (by omega) (gf := 71) (lb := #[.pointer (some ⟨q + 1 + 1, 0, none⟩)]) rfl trivial (enters_of Tryz.func71 (by kernel_rfl) rfl)
   (lines_stops _ (by omega) (q + 1 + 1) x hx Wb (by rw [← hq]; exact HW.out.t)) (fun _ _ => trivial) (fun _ _ _ _ _ _ _ _ => trivial) (Below.refl _ _) (fun _ => rfl)
   (ReadI q (q + 1) Wb) (ReadX w) (readI_own q (q + 1) Wb) (fun c => readX_own w c HW.out.below.size) ?init
   (fun y : LnT => { tmps := #[.string x, undef, .pointer (some ⟨w.heap.size, 0, none⟩), .pointer (some ⟨w.heap.size + 1, 0, none⟩), .pointer (some ⟨w.heap.size + 1 + 1, 0, none⟩), .pointer (some ⟨q, 0, none⟩), .pointer (some ⟨q + 1, 0, none⟩), .int .i64 (y.1.1 : Int), .string y.1.2, undef, undef, .string x, .func (.func 71) #[] #[.pointer (some ⟨q + 1 + 1, 0, none⟩)], .int .i64 (y.1.1 : Int), .string y.1.2, undef, undef, undef, undef, undef, undef, undef, undef, undef, undef, undef, undef, undef, undef, undef, undef, undef, undef, undef, undef, undef], defers := [] }) ?assign ?body ?done ?stop
 case init =>
   refine ⟨rfl, As.Fits.first, ⟨Wb, .nil, [], .zero, by rw [← hq]; exact HW.out.q, OffC.refl _ _ _, Off.refl _ _ _, Nat.le_refl _, rfl, World.ownsRow_nil _ _ _ _, fun k hk => absurd hk (Nat.not_lt_zero _), (fun e => by cases e), ?_⟩, by rw [← hq]; exact HW.out.l⟩
   have := HW.out.size
   omega
 case assign =>
   intro l y W K hK
   simp only [encN]
   gi_wp2
   exact hK
 case body =>
   rintro l pre y W ⟨h0, hF, hR, hl⟩ hlen
   have HBw := Lib.hid (fun (W : World) (ho : Off q (q + 1) Wb W) => show Below w.heap.size w W from HW.out.below.trans ⟨ho.os, ho.tape, ho.output, ho.size, fun j hj => ho.block j (by have := HW.out.size; omega) (by omega) (by omega)⟩)
   have HBx := Lib.hid (fun (W : World) (ho : Off q (q + 1) Wb W) => show Box1 W w.heap.size 36 (.slice none 0 0) ∧ Box1 W (w.heap.size + 1) 3 (.int .i64 0) ∧ Box1 W (w.heap.size + 1 + 1) 30 (.int .i64 0) from
     ⟨HW.out.b0.at (ho.block _ HW.out.b0.lt (by omega) (by omega)), HW.out.b1.at (ho.block _ HW.out.b1.lt (by omega) (by omega)), HW.out.b2.at (ho.block _ HW.out.b2.lt (by omega) (by omega))⟩)
   obtain ⟨⟨n, z⟩, hz⟩ := y
   have hN := Nat.le_trans (As.numbered_len (As.words 10 x) 1) (As.words_len 10 x.size x (Nat.le_refl _))
   have hlen2 : pre.length ≤ 1048576 := by unfold As.lines at hlen; omega
   have HNx := Lib.hid (As.after_snoc h0 (n, z))
   obtain ⟨t, ht⟩ : ∃ t, (As.after (raw pre)).1.1 = t := ⟨_, rfl⟩
   rw [ht] at hF hR HNx
   have HLn := rdline_any q (q + 1) Wb t W hR z hz (HG.out.below (HBw.out W hR.off)) (Nat.le_trans hF.len.2.1 hlen2) (Nat.le_trans hF.len.2.2 hlen2) (Nat.le_trans hF.len.1 hlen2)
   unfold RdP at HLn
   have HF2 := Lib.hid (hF.step hz)
   simp only at HNx
   obtain ⟨o, ho⟩ : ∃ o, As.step t z = o := ⟨_, rfl⟩
   rw [ho] at HLn HNx HF2
   have HL := Lib.hid hl
   have HSn := Lib.hid (raw_snoc pre ⟨(n, z), hz⟩)
   clear hF hR hl hlen hlen2 hN ht ho h0
   by_cases he : o.2 = 0
   · have hd : ((o.2 : Int) != 0) = false := by rw [he]; rfl
     have HE := Lib.hid he
     clear he
     gi_wp2_with (refine ⟨trivial, ?_⟩; gi_at_call 45; refine (CallsIn.inRound l (callsIn_wide.2 HLn)).mono ?_; clear HLn; rintro e w1 ⟨rfl, h1, hko, hkl⟩; have hbl := Box1.at HL.out hkl; have cl := hbl.cell; have fl := hbl.ice; have H1 := Lib.hid (And.intro h1 (And.intro hko hbl)); clear h1 hko hkl hbl)
     refine ⟨H1.out.2.1.trans (KeepsOthers.setCell _ _ _), trivial, ?_⟩
     unfold ReadI
     rw [HSn.out, HNx.out]
     exact ⟨HE.out, by rw [List.length_append]; exact HF2.out, H1.out.1.last _, H1.out.2.2.set _⟩
   · have hd : ((o.2 : Int) != 0) = true := by rw [bne_iff_ne]; omega
     have HE := Lib.hid he
     clear he
     gi_wp2_with (refine ⟨trivial, ?_⟩; gi_at_call 45; refine (CallsIn.inRound l (callsIn_wide.2 HLn)).mono ?_; clear HLn; rintro e w1 ⟨rfl, h1, hko, _⟩; obtain ⟨e0, e1, e2⟩ := HBx.out w1 h1.off; have c0 := e0.cell; have f0 := e0.ice; have c1 := e1.cell; have f1 := e1.ice; have c2 := e2.cell; have f2 := e2.ice; have H1 := Lib.hid (And.intro (HBw.out w1 h1.off) (And.intro hko (And.intro e0 (And.intro e1 e2)))); clear h1 hko e0 e1 e2)
     refine ⟨((H1.out.2.1.trans (KeepsOthers.setCell _ _ _)).trans (KeepsOthers.setCell _ _ _)).trans (KeepsOthers.setCell _ _ _), ?_⟩
     unfold ReadX
     rw [HSn.out, HNx.out]
     exact ⟨rfl, HE.out, ((H1.out.2.2.1.set _).past (by omega) _ _).past (by omega) _ _, ((H1.out.2.2.2.1.past (by omega) _ _).set _).past (by omega) _ _, ((H1.out.2.2.2.2.past (by omega) _ _).past (by omega) _ _).set _, ((H1.out.1.setCell (by simp) _).setCell (by simp) _).setCell (by simp; omega) _⟩
 case done =>
   rintro D ys W hD hys ⟨h0, hF, hR, hl⟩ hK
   have HRead : Hid (As.read x = As.readOf (As.after (raw ys))) := Lib.hid (by rw [HRd.out, ← hys]; rfl)
   obtain ⟨⟨⟨t, last⟩, er⟩, ho⟩ : ∃ o, As.after (raw ys) = o := ⟨_, rfl⟩
   rw [ho] at HRead h0 hF hR hl
   simp only at h0 hF hR hl
   subst h0
   have HBw := Lib.hid (show Below w.heap.size w W from HW.out.below.trans ⟨hR.off.os, hR.off.tape, hR.off.output, hR.off.size, fun j hj => hR.off.block j (by have := HW.out.size; omega) (by omega) (by omega)⟩)
   have hbx : Box1 W w.heap.size 36 (.slice none 0 0) ∧ Box1 W (w.heap.size + 1) 3 (.int .i64 0) ∧ Box1 W (w.heap.size + 1 + 1) 30 (.int .i64 0) :=
     ⟨HW.out.b0.at (hR.off.block _ HW.out.b0.lt (by omega) (by omega)), HW.out.b1.at (hR.off.block _ HW.out.b1.lt (by omega) (by omega)), HW.out.b2.at (hR.off.block _ HW.out.b2.lt (by omega) (by omega))⟩
   have HWh := rdwhole_any q (q + 1) Wb t W hR
   have HBX := Lib.hid hbx
   have HL := Lib.hid hl
   have HR := Lib.hid hR
   have HF := Lib.hid hF
   have HK := Lib.hid hK
   have HD := Lib.hid (Nat.le_trans HW.out.below.size hD)
   clear ho hys hF hR hl hbx
   by_cases hw : t.isOpen = false ∧ 0 < t.done.length
   rotate_left
   · have hb : (!t.isOpen && decide (0 < t.done.length)) = false := by
       cases ht : t.isOpen with
       | true => rfl
       | false => simp only [Bool.not_false, Bool.true_and]; exact decide_eq_false (fun h => hw ⟨ht, h⟩)
     rw [hb] at HWh
     have HO : Hid (As.read x = (([], last), 3)) := Lib.hid (by
       rw [HRead.out]
       unfold As.readOf
       rw [if_neg (by simp), if_pos]
       cases ht : t.isOpen with
       | true => exact .inl rfl
       | false => exact .inr (Nat.eq_zero_of_not_pos fun h => hw ⟨ht, h⟩))
     obtain ⟨e0, e1, e2⟩ := HBX.out
     have c0 := e0.cell; have f0 := e0.ice; have c1 := e1.cell; have f1 := e1.ice; have c2 := e2.cell; have f2 := e2.ice
     have cl := HL.out.cell
     clear hw hb e0 e1 e2
     gi_wp2_with (refine ⟨trivial, ?_⟩; gi_at_call 46; refine (callsIn_wide.2 HWh).mono ?_; clear HWh; rintro e w1 ⟨rfl, he⟩; obtain rfl := he.symm)
     refine wpIn_wide.2 ?_
     go_region
     have hko := (((KeepsOthers.setCell W ⟨w.heap.size, 0, none⟩ (.slice none 0 0)).trans (KeepsOthers.setCell _ ⟨w.heap.size + 1, 0, none⟩ (.int .i64 (last : Int)))).trans (KeepsOthers.setCell _ ⟨w.heap.size + 1 + 1, 0, none⟩ (.int .i64 3))).trans (KeepsOthers.drew _)
     have hK2 := hko.same D _ HK.out rfl
     have b0 : Box1 (((W.setCell ⟨w.heap.size, 0, none⟩ (.slice none 0 0)).setCell ⟨w.heap.size + 1, 0, none⟩ (.int .i64 (last : Int))).setCell ⟨w.heap.size + 1 + 1, 0, none⟩ (.int .i64 3)).drew w.heap.size 36 (.slice none 0 0) := ((HBX.out.1.set _).past (by omega) _ _).past (by omega) _ _
     have b1 : Box1 (((W.setCell ⟨w.heap.size, 0, none⟩ (.slice none 0 0)).setCell ⟨w.heap.size + 1, 0, none⟩ (.int .i64 (last : Int))).setCell ⟨w.heap.size + 1 + 1, 0, none⟩ (.int .i64 3)).drew (w.heap.size + 1) 3 (.int .i64 (last : Int)) := ((HBX.out.2.1.past (by omega) _ _).set _).past (by omega) _ _
     have b2 : Box1 (((W.setCell ⟨w.heap.size, 0, none⟩ (.slice none 0 0)).setCell ⟨w.heap.size + 1, 0, none⟩ (.int .i64 (last : Int))).setCell ⟨w.heap.size + 1 + 1, 0, none⟩ (.int .i64 3)).drew (w.heap.size + 1 + 1) 30 (.int .i64 3) := ((HBX.out.2.2.past (by omega) _ _).past (by omega) _ _).set _
     have hB := (((HBw.out.setCell (p := ⟨w.heap.size, 0, none⟩) (by simp) (.slice none 0 0)).setCell (p := ⟨w.heap.size + 1, 0, none⟩) (by simp) (.int .i64 (last : Int))).setCell (p := ⟨w.heap.size + 1 + 1, 0, none⟩) (by simp; omega) (.int .i64 3)).drew
     clear c0 c1 c2 f0 f1 f2 cl hko
     generalize (((W.setCell ⟨w.heap.size, 0, none⟩ (.slice none 0 0)).setCell ⟨w.heap.size + 1, 0, none⟩ (.int .i64 (last : Int))).setCell ⟨w.heap.size + 1 + 1, 0, none⟩ (.int .i64 3)).drew = w7 at *
     have hm : ∀ r, some D = some r → ∃ o, w7.heap[r]? = some o ∧ o.isCells = false := fun r e => by cases e; exact ⟨_, hK2, rfl⟩
     have g := grownBy_putObj' w7 D (.deferred none)
     have c0 := (b0.marked g hm).cell
     have c1 := (b1.marked g hm).cell
     have c2 := (b2.marked g hm).cell
     have HB := Lib.hid (hB.trans (belowK_b (w := w) (Nat.le_refl _) w7 D _ (.deferred none) HD.out hK2 rfl rfl))
     clear b0 b1 b2 hB hm g
     gi_wp2
     refine ⟨by simp, .inl ⟨_, _, rfl, run_takeDeferred hK2, ?_⟩⟩
     refine ⟨.tuple #[.agg #[.slice none 0 0], .int .i64 (last : Int), .int .i64 3], ?_, ?_⟩
     · simp [results, Tryz.f17, go_sem, c0, c1, c2]
     · unfold AsReadP
       rw [HO.out]
       exact ⟨.nil, [], rfl, rfl, fns_nil _ _, fun _ => rfl, HB.out⟩
   have hb : (!t.isOpen && decide (0 < t.done.length)) = true := by rw [hw.1, decide_eq_true hw.2]; rfl
   rw [hb] at HWh
   obtain ⟨W0, s, us, v, h⟩ := HR.out
   have hfs := h.told (W' := W) HF.out (fun _ _ _ _ _ e => e)
   have hT := tab_below HT.out.1 HBw.out HT.out.2
   have HCn := flcan_any s.a s.n s.c us t.done W hfs.2.1 (fun f hf => (HF.out.done f hf).wf) hT (Nat.lt_of_lt_of_le HT.out.2 HBw.out.size)
   obtain ⟨cn, hcn⟩ : ∃ cn, Fl.can t.done = cn := ⟨_, rfl⟩
   rw [hcn] at HCn
   unfold ErrP at HCn
   have cq : W.cell? ⟨q, 0, none⟩ = some (.slice s.a s.n s.c) := h.cell 0
   have HH := Lib.hid h
   have HO : Hid (As.read x = if cn ≠ 0 then (([], 0), cn) else ((t.done, 0), 0)) := Lib.hid (by
     rw [HRead.out, ← hcn]
     unfold As.readOf
     rw [if_neg (by simp), if_neg (by simp only [hw.1]; rintro (h | h); exact absurd h (by decide); have := hw.2; omega)])
   clear h hfs hT hcn hb hw
   have HBX2 := Lib.hid (fun (W2 : World) (hb : Below W.heap.size W W2) => show Box1 W2 w.heap.size 36 (.slice none 0 0) ∧ Box1 W2 (w.heap.size + 1) 3 (.int .i64 0) ∧ Box1 W2 (w.heap.size + 1 + 1) 30 (.int .i64 0) from
     ⟨HBX.out.1.at (hb.block _ HBX.out.1.lt), HBX.out.2.1.at (hb.block _ HBX.out.2.1.lt), HBX.out.2.2.at (hb.block _ HBX.out.2.2.lt)⟩)
   by_cases hc : cn = 0
   · subst hc
     have HO : Hid (As.read x = ((t.done, 0), 0)) := Lib.hid (HO.out.trans (if_neg (by simp)))
     gi_wp2_with (first
       | (refine ⟨trivial, ?_⟩; gi_at_call 46; refine (callsIn_wide.2 HWh).mono ?_; clear HWh; rintro e w1 ⟨rfl, he⟩; obtain rfl := he.symm)
       | (refine ⟨trivial, ?_⟩; gi_at_call 47; refine (callsIn_wide.2 HCn).mono ?_; clear HCn; rintro e w1 ⟨rfl, hb1⟩; obtain ⟨e0, e1, e2⟩ := HBX2.out w1 hb1; have c0 := e0.cell; have f0 := e0.ice; have c1 := e1.cell; have f1 := e1.ice; have c2 := e2.cell; have f2 := e2.ice; have cq1 := (hb1.cell (p := ⟨q, 0, none⟩) HH.out.lt).trans cq; have H1 := Lib.hid (And.intro hb1 (And.intro e0 (And.intro e1 e2))); clear hb1 e0 e1 e2 cq))
     have hko := (((ko_below H1.out.1).trans (KeepsOthers.setCell w1 ⟨w.heap.size, 0, none⟩ (.slice s.a s.n s.c))).trans (KeepsOthers.setCell _ ⟨w.heap.size + 1, 0, none⟩ (.int .i64 0))).trans (KeepsOthers.setCell _ ⟨w.heap.size + 1 + 1, 0, none⟩ (.int .i64 0))
     have hK2 := hko.same D _ HK.out rfl
     have b0 : Box1 (((w1.setCell ⟨w.heap.size, 0, none⟩ (.slice s.a s.n s.c)).setCell ⟨w.heap.size + 1, 0, none⟩ (.int .i64 0)).setCell ⟨w.heap.size + 1 + 1, 0, none⟩ (.int .i64 0)) w.heap.size 36 (.slice s.a s.n s.c) := ((H1.out.2.1.set _).past (by omega) _ _).past (by omega) _ _
     have b1 : Box1 (((w1.setCell ⟨w.heap.size, 0, none⟩ (.slice s.a s.n s.c)).setCell ⟨w.heap.size + 1, 0, none⟩ (.int .i64 0)).setCell ⟨w.heap.size + 1 + 1, 0, none⟩ (.int .i64 0)) (w.heap.size + 1) 3 (.int .i64 0) := ((H1.out.2.2.1.past (by omega) _ _).set _).past (by omega) _ _
     have b2 : Box1 (((w1.setCell ⟨w.heap.size, 0, none⟩ (.slice s.a s.n s.c)).setCell ⟨w.heap.size + 1, 0, none⟩ (.int .i64 0)).setCell ⟨w.heap.size + 1 + 1, 0, none⟩ (.int .i64 0)) (w.heap.size + 1 + 1) 30 (.int .i64 0) := ((H1.out.2.2.2.past (by omega) _ _).past (by omega) _ _).set _
     have hB := (((HBw.out.trans (H1.out.1.mono HBw.out.size)).setCell (p := ⟨w.heap.size, 0, none⟩) (by simp) (.slice s.a s.n s.c)).setCell (p := ⟨w.heap.size + 1, 0, none⟩) (by simp) (.int .i64 0)).setCell (p := ⟨w.heap.size + 1 + 1, 0, none⟩) (by simp; omega) (.int .i64 0)
     have hcl : ∀ (j : Nat) (C : Array Value) (T : TypeId) (m : Nat × Nat), Wb.heap.size ≤ j → W.heap[j]? = some (Obj.cells C T m) → (((w1.setCell ⟨w.heap.size, 0, none⟩ (.slice s.a s.n s.c)).setCell ⟨w.heap.size + 1, 0, none⟩ (.int .i64 0)).setCell ⟨w.heap.size + 1 + 1, 0, none⟩ (.int .i64 0)).heap[j]? = some (Obj.cells C T m) := fun j C T m hj e => by
       have hz := HW.out.size
       rw [Below.heap_setCell _ _ _ _ (by simp only; omega), Below.heap_setCell _ _ _ _ (by simp only; omega), Below.heap_setCell _ _ _ _ (by simp only; omega)]
       exact (H1.out.1.block j (heap_lt e)).trans e
     clear c0 c1 c2 f0 f1 f2 cq1 hko
     generalize ((w1.setCell ⟨w.heap.size, 0, none⟩ (.slice s.a s.n s.c)).setCell ⟨w.heap.size + 1, 0, none⟩ (.int .i64 0)).setCell ⟨w.heap.size + 1 + 1, 0, none⟩ (.int .i64 0) = w7 at *
     have hm : ∀ r, some D = some r → ∃ o, w7.heap[r]? = some o ∧ o.isCells = false := fun r e => by cases e; exact ⟨_, hK2, rfl⟩
     have g := grownBy_putObj' w7 D (.deferred none)
     have c0 := (b0.marked g hm).cell
     have c1 := (b1.marked g hm).cell
     have c2 := (b2.marked g hm).cell
     have HB := Lib.hid (hB.trans (belowK_b (w := w) (Nat.le_refl _) w7 D _ (.deferred none) HD.out hK2 rfl rfl))
     have HTd := Lib.hid (HH.out.told (W' := w7.putObj D (.deferred none)) HF.out (fun j C T m hj e => (g.block j (heap_lt (hcl j C T m hj e)) (fun e' => by
       injection e' with e'
       have h3 := hcl j C T m hj e
       rw [e', hK2] at h3
       cases h3)).trans (hcl j C T m hj e)))
     clear b0 b1 b2 hB hm g hcl
     refine ⟨by simp, .inl ⟨_, _, rfl, run_takeDeferred hK2, ?_⟩⟩
     refine ⟨.tuple #[.agg #[(.slice s.a s.n s.c)], .int .i64 0, .int .i64 0], ?_, ?_⟩
     · simp [results, Tryz.f17, go_sem, c0, c1, c2]
     · unfold AsReadP
       rw [HO.out]
       exact ⟨s, us, rfl, HTd.out.1, HTd.out.2.1, HTd.out.2.2, HB.out⟩
   · have hd : ((cn : Int) != 0) = true := by rw [bne_iff_ne]; omega
     have HO : Hid (As.read x = (([], 0), cn)) := Lib.hid (HO.out.trans (if_pos hc))
     clear hc
     gi_wp2_with (first
       | (refine ⟨trivial, ?_⟩; gi_at_call 46; refine (callsIn_wide.2 HWh).mono ?_; clear HWh; rintro e w1 ⟨rfl, he⟩; obtain rfl := he.symm)
       | (refine ⟨trivial, ?_⟩; gi_at_call 47; refine (callsIn_wide.2 HCn).mono ?_; clear HCn; rintro e w1 ⟨rfl, hb1⟩; obtain ⟨e0, e1, e2⟩ := HBX2.out w1 hb1; have c0 := e0.cell; have f0 := e0.ice; have c1 := e1.cell; have f1 := e1.ice; have c2 := e2.cell; have f2 := e2.ice; have cq1 := (hb1.cell (p := ⟨q, 0, none⟩) HH.out.lt).trans cq; have H1 := Lib.hid (And.intro hb1 (And.intro e0 (And.intro e1 e2))); clear hb1 e0 e1 e2 cq))
     have hko := (((ko_below H1.out.1).trans (KeepsOthers.setCell w1 ⟨w.heap.size, 0, none⟩ (.slice none 0 0))).trans (KeepsOthers.setCell _ ⟨w.heap.size + 1, 0, none⟩ (.int .i64 0))).trans (KeepsOthers.setCell _ ⟨w.heap.size + 1 + 1, 0, none⟩ (.int .i64 (cn : Int)))
     have hK2 := hko.same D _ HK.out rfl
     have b0 : Box1 (((w1.setCell ⟨w.heap.size, 0, none⟩ (.slice none 0 0)).setCell ⟨w.heap.size + 1, 0, none⟩ (.int .i64 0)).setCell ⟨w.heap.size + 1 + 1, 0, none⟩ (.int .i64 (cn : Int))) w.heap.size 36 (.slice none 0 0) := ((H1.out.2.1.set _).past (by omega) _ _).past (by omega) _ _
     have b1 : Box1 (((w1.setCell ⟨w.heap.size, 0, none⟩ (.slice none 0 0)).setCell ⟨w.heap.size + 1, 0, none⟩ (.int .i64 0)).setCell ⟨w.heap.size + 1 + 1, 0, none⟩ (.int .i64 (cn : Int))) (w.heap.size + 1) 3 (.int .i64 0) := ((H1.out.2.2.1.past (by omega) _ _).set _).past (by omega) _ _
     have b2 : Box1 (((w1.setCell ⟨w.heap.size, 0, none⟩ (.slice none 0 0)).setCell ⟨w.heap.size + 1, 0, none⟩ (.int .i64 0)).setCell ⟨w.heap.size + 1 + 1, 0, none⟩ (.int .i64 (cn : Int))) (w.heap.size + 1 + 1) 30 (.int .i64 (cn : Int)) := ((H1.out.2.2.2.past (by omega) _ _).past (by omega) _ _).set _
     have hB := (((HBw.out.trans (H1.out.1.mono HBw.out.size)).setCell (p := ⟨w.heap.size, 0, none⟩) (by simp) (.slice none 0 0)).setCell (p := ⟨w.heap.size + 1, 0, none⟩) (by simp) (.int .i64 0)).setCell (p := ⟨w.heap.size + 1 + 1, 0, none⟩) (by simp; omega) (.int .i64 (cn : Int))
     have hcl : ∀ (j : Nat) (C : Array Value) (T : TypeId) (m : Nat × Nat), Wb.heap.size ≤ j → W.heap[j]? = some (Obj.cells C T m) → (((w1.setCell ⟨w.heap.size, 0, none⟩ (.slice none 0 0)).setCell ⟨w.heap.size + 1, 0, none⟩ (.int .i64 0)).setCell ⟨w.heap.size + 1 + 1, 0, none⟩ (.int .i64 (cn : Int))).heap[j]? = some (Obj.cells C T m) := fun j C T m hj e => by
       have hz := HW.out.size
       rw [Below.heap_setCell _ _ _ _ (by simp only; omega), Below.heap_setCell _ _ _ _ (by simp only; omega), Below.heap_setCell _ _ _ _ (by simp only; omega)]
       exact (H1.out.1.block j (heap_lt e)).trans e
     clear c0 c1 c2 f0 f1 f2 cq1 hko
     generalize ((w1.setCell ⟨w.heap.size, 0, none⟩ (.slice none 0 0)).setCell ⟨w.heap.size + 1, 0, none⟩ (.int .i64 0)).setCell ⟨w.heap.size + 1 + 1, 0, none⟩ (.int .i64 (cn : Int)) = w7 at *
     have hm : ∀ r, some D = some r → ∃ o, w7.heap[r]? = some o ∧ o.isCells = false := fun r e => by cases e; exact ⟨_, hK2, rfl⟩
     have g := grownBy_putObj' w7 D (.deferred none)
     have c0 := (b0.marked g hm).cell
     have c1 := (b1.marked g hm).cell
     have c2 := (b2.marked g hm).cell
     have HB := Lib.hid (hB.trans (belowK_b (w := w) (Nat.le_refl _) w7 D _ (.deferred none) HD.out hK2 rfl rfl))
     have HTd := Lib.hid (HH.out.told (W' := w7.putObj D (.deferred none)) HF.out (fun j C T m hj e => (g.block j (heap_lt (hcl j C T m hj e)) (fun e' => by
       injection e' with e'
       have h3 := hcl j C T m hj e
       rw [e', hK2] at h3
       cases h3)).trans (hcl j C T m hj e)))
     clear b0 b1 b2 hB hm g hcl
     refine ⟨by simp, .inl ⟨_, _, rfl, run_takeDeferred hK2, ?_⟩⟩
     refine ⟨.tuple #[.agg #[(.slice none 0 0)], .int .i64 0, .int .i64 (cn : Int)], ?_, ?_⟩
     · simp [results, Tryz.f17, go_sem, c0, c1, c2]
     · unfold AsReadP
       rw [HO.out]
       exact ⟨.nil, [], rfl, rfl, fns_nil _ _, fun _ => rfl, HB.out⟩
 case stop =>
   rintro D c pre W hD hpre ⟨rfl, h0, b0, b1, b2, hB⟩ hK
   have HO : Hid (As.read x = (([], (As.after (raw pre)).1.2), (As.after (raw pre)).2)) := Lib.hid (by
     rw [HRd.out, As.after_stop hpre h0]
     exact if_pos h0)
   have hm : ∀ r, some D = some r → ∃ o, W.heap[r]? = some o ∧ o.isCells = false := fun r e => by cases e; exact ⟨_, hK, rfl⟩
   have g := grownBy_putObj' W D (.deferred none)
   have c0 := (b0.marked g hm).cell
   have c1 := (b1.marked g hm).cell
   have c2 := (b2.marked g hm).cell
   have HB := Lib.hid (hB.trans (belowK_b (w := w) (Nat.le_refl _) W D _ (.deferred none) (Nat.le_trans HW.out.below.size hD) hK rfl rfl))
   clear hpre h0 b0 b1 b2 hB hm g
   generalize (As.after (raw pre)).1.2 = n at *
   generalize (As.after (raw pre)).2 = er at *
   gi_wp2
   refine ⟨by simp, .inl ⟨_, _, rfl, run_takeDeferred hK, ?_⟩⟩
   refine ⟨.tuple #[.agg #[.slice none 0 0], .int .i64 (n : Int), .int .i64 (er : Int)], ?_, ?_⟩
   · simp [results, Tryz.f17, go_sem, c0, c1, c2]
   · unfold AsReadP
     rw [HO.out]
     exact ⟨.nil, [], rfl, rfl, fns_nil _ _, fun _ => rfl, HB.out⟩
end Go.Proofs.YtmhmlhlplfkpaaaGreatDoor
