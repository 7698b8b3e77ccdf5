/-
 (*reader).instruction: a line more. Conditions: the text is shorter than 2^32 - 15; at most a million lines; the library's variables are laid.
-/
import Derived.Test.YtfopelegobhegaaGreatDoorAsR
set_option maxRecDepth 100000
namespace Go.Proofs.YtfopelegobhegaaGreatDoor
open Go.RowKit
theorem info_ains : (Tryz.prog.info? 25).map (fun i => (i.zero, i.size, i.bytes)) = some (some (.agg #[.int .i64 0, .int .i64 0]), 2, 16) := by kernel_rfl
theorem info_aint : (Tryz.prog.info? 3).map (fun i => (i.zero, i.size, i.bytes)) = some (some (.int .i64 0), 1, 8) := by kernel_rfl
abbrev InX := Nat × Sl3 × Nat × Sl3
def vIn (c1 c2 : Bool) (x : InX) (v : FnV) : FnV := { v with code := if c1 then x.2.1 else v.code, lines := if c2 then x.2.2.2 else v.lines }
def fIn (c1 c2 : Bool) (p : Int × Int) (n : Int) (f : Fn.F) : Fn.F := { f with code := if c1 then f.code ++ [p] else f.code, lines := if c2 then f.lines ++ [n] else f.lines }
theorem nil_kept {w w' : World} {base n size : Nat} {e : TypeId} {s : Sl3} {xs : List Value} (h : w.ownsRow base e size s.val n xs) (hs : s = .nil) : w'.ownsRow base e size s.val n xs :=
 row_kept h fun g e => by rw [hs] at e; cases e
theorem row_apart {w w' : World} {base b2 n m size s2 : Nat} {e e2 : TypeId} {v v2 : Value} {xs ys : List Value} (h : w.ownsRow base e size v n xs) (h2 : w.ownsRow b2 e2 s2 v2 m ys) (hg : w.grownBy w' v2.ownBlock) (hne : e2 ≠ e) : w'.ownsRow base e size v n xs :=
 row_other h hg fun b hb => by
   obtain ⟨C, m, h⟩ := row_kind h2 b hb
   exact ⟨C, e2, m, h, hne⟩
theorem FnOwn.coded {w w' : World} {base : Nat} {v : FnV} {f : Fn.F} {rc : Sl3} {p : Int × Int} (h : FnOwn w base v f) (hb : v.Bare) (hg : w.grownBy w' v.code.val.ownBlock) (ho : w'.ownsRow base 25 2 rc.val (f.code.length + 1) (ps (f.code ++ [p]))) :
   FnOwn w' base { v with code := rc } { f with code := f.code ++ [p] } :=
 ⟨h.name, h.inner, row_apart h.outer h.code hg (by decide), row_apart h.params h.code hg (by decide), row_apart h.results h.code hg (by decide), row_apart h.locals h.code hg (by decide), by rw [List.length_append]; exact ho, row_apart h.lines h.code hg (by decide), nil_kept h.nodes hb.1, nil_kept h.at_ hb.2.1, nil_kept h.live hb.2.2⟩
theorem FnOwn.lined {w w' : World} {base : Nat} {v : FnV} {f : Fn.F} {rl : Sl3} {z : Int} (h : FnOwn w base v f) (hb : v.Bare) (hg : w.grownBy w' v.lines.val.ownBlock) (ho : w'.ownsRow base 3 1 rl.val (f.lines.length + 1) (vs (f.lines ++ [z]))) :
   FnOwn w' base { v with lines := rl } { f with lines := f.lines ++ [z] } :=
 ⟨h.name, h.inner, row_apart h.outer h.lines hg (by decide), row_apart h.params h.lines hg (by decide), row_apart h.results h.lines hg (by decide), row_apart h.locals h.lines hg (by decide), row_apart h.code h.lines hg (by decide), by rw [List.length_append]; exact ho, nil_kept h.nodes hb.1, nil_kept h.at_ hb.2.1, nil_kept h.live hb.2.2⟩
theorem own_sl {w : World} {base n size : Nat} {e : TypeId} {v : Value} {xs : List Value} (h : w.ownsRow base e size v n xs) : ∃ s : Sl3, v = s.val := by
 rcases h.2 with ⟨rfl, _⟩ | ⟨g, cap, cur, rfl, _⟩
 · exact ⟨⟨none, 0, 0⟩, rfl⟩
 · exact ⟨⟨_, _, _⟩, rfl⟩
theorem other_block {w w' : World} {base n size b : Nat} {e T : TypeId} {v : Value} {xs : List Value} {C : Array Value} {m : Nat × Nat} (h : w.ownsRow base e size v n xs) (hg : w.grownBy w' v.ownBlock) (hb : w.heap[b]? = some (.cells C T m)) (hne : T ≠ e) : w'.heap[b]? = some (.cells C T m) :=
 (hg.block b (heap_lt hb) fun e' => by
   obtain ⟨C2, m2, h2⟩ := row_kind h b e'.symm
   rw [hb] at h2
   injection h2 with h2
   injection h2 with _ h3
   exact hne h3).trans hb
structure InC (q l b5 : Nat) (Wc Wb W0 : World) (s : Sl3) (v : FnV) (f : Fn.F) (p : Int × Int) (n : Int) (x : InX) (D : Nat → Bool) (W : World) : Prop where
 off : OffC q l W0 W
 whole : Off q l Wb W
 ko : KeepsOthers Wc W
 kl : W.heap[l]? = Wc.heap[l]?
 box : W.heap[q]? = some (.cells (rdCells s (vIn (D 21) (D 25) x v) true) 66 (0, 0))
 own : FnOwn W W0.heap.size (vIn (D 9) (D 17) x v) (fIn (D 9) (D 17) p n f)
 bare : v.Bare
 ins : D 9 = false → Ins W b5 p.1 p.2
 nwc : D 8 = true → D 9 = false → W.heap[x.1]? = some (.cells #[.int .i64 p.1, .int .i64 p.2] 25 (0, 0))
 nwl : D 16 = true → D 17 = false → W.heap[x.2.2.1]? = some (.cells #[.int .i64 n] 3 (0, 0))
 q0 : q < W0.heap.size
 b0 : Wb.heap.size ≤ W0.heap.size
 l0 : l < Wb.heap.size ∧ q ≠ l
section
variable {q l b5 : Nat} {Wc Wb W0 W : World} {s : Sl3} {v : FnV} {f : Fn.F} {p : Int × Int} {n : Int} {x : InX} {D : Nat → Bool}
theorem InC.up (h : InC q l b5 Wc Wb W0 s v f p n x D W) {i : Nat} (h1 : (8 == i) = false) (h2 : (9 == i) = false) (h3 : (16 == i) = false) (h4 : (17 == i) = false) (h5 : (21 == i) = false) (h6 : (25 == i) = false) : InC q l b5 Wc Wb W0 s v f p n x (add D i) W :=
 ⟨h.off, h.whole, h.ko, h.kl, by rw [up_other h5, up_other h6]; exact h.box, by rw [up_other h2, up_other h4]; exact h.own, h.bare, by rw [up_other h2]; exact h.ins, by rw [up_other h1, up_other h2]; exact h.nwc, by rw [up_other h3, up_other h4]; exact h.nwl, h.q0, h.b0, h.l0⟩
theorem InC.there (h : InC q l b5 Wc Wb W0 s v f p n x D W) (k : Nat) (hk : k < 13) : ∃ y, W.cell? ⟨q, k, none⟩ = some y := by
 rw [cell_of_row W q k _ _ _ h.box, Array.getElem?_eq_getElem (show k < 13 from hk)]
 exact ⟨_, rfl⟩
theorem InC.ice (h : InC q l b5 Wc Wb W0 s v f p n x D W) (k : Nat) : W.frozen? ⟨q, k, none⟩ = false := by
 have := h.box
 simp [World.frozen?, this]
theorem InC.code (h : InC q l b5 Wc Wb W0 s v f p n x D W) (hs : D 21 = false) : W.cell? ⟨q, 7, none⟩ = some (.slice v.code.a v.code.n v.code.c) := by
 have := h.box
 rw [hs] at this
 exact cell_of_row W q 7 _ _ _ this
theorem InC.line (h : InC q l b5 Wc Wb W0 s v f p n x D W) (hs : D 25 = false) : W.cell? ⟨q, 8, none⟩ = some (.slice v.lines.a v.lines.n v.lines.c) := by
 have := h.box
 rw [hs] at this
 exact cell_of_row W q 8 _ _ _ this
theorem InC.newc (h : InC q l b5 Wc Wb W0 s v f p n x D W) (_ : D 9 = false) : InC q l b5 Wc Wb W0 s v f p n (W.heap.size, x.2) (add D 8) (W.alloc (.cells #[.int .i64 p.1, .int .i64 p.2] 25)) := by
 have hb := (Below.refl W.heap.size W).alloc (Nat.le_refl _) (.cells #[.int .i64 p.1, .int .i64 p.2] 25)
 refine ⟨h.off.on (Off.below hb), h.whole.trans (Off.below hb), h.ko.trans (KeepsOthers.alloc _ _), (hb.block l (Nat.lt_of_lt_of_le h.l0.1 h.whole.size)).trans h.kl, ?_, ?_, h.bare, ?_, fun _ _ => heap_alloc_new W _, ?_, h.q0, h.b0, h.l0⟩
 · rw [up_other rfl, up_other rfl]
   exact (hb.block q (heap_lt h.box)).trans h.box
 · rw [up_other rfl, up_other rfl]
   exact h.own.below hb
 · rw [up_other rfl]
   exact fun e => (h.ins e).on hb
 · rw [up_other rfl, up_other rfl]
   exact fun e1 e2 => (hb.block _ (heap_lt (h.nwl e1 e2))).trans (h.nwl e1 e2)
theorem InC.newl (h : InC q l b5 Wc Wb W0 s v f p n x D W) (_ : D 17 = false) : InC q l b5 Wc Wb W0 s v f p n (x.1, x.2.1, W.heap.size, x.2.2.2) (add D 16) (W.alloc (.cells #[.int .i64 n] 3)) := by
 have hb := (Below.refl W.heap.size W).alloc (Nat.le_refl _) (.cells #[.int .i64 n] 3)
 refine ⟨h.off.on (Off.below hb), h.whole.trans (Off.below hb), h.ko.trans (KeepsOthers.alloc _ _), (hb.block l (Nat.lt_of_lt_of_le h.l0.1 h.whole.size)).trans h.kl, ?_, ?_, h.bare, ?_, ?_, fun _ _ => heap_alloc_new W _, h.q0, h.b0, h.l0⟩
 · rw [up_other rfl, up_other rfl]
   exact (hb.block q (heap_lt h.box)).trans h.box
 · rw [up_other rfl, up_other rfl]
   exact h.own.below hb
 · rw [up_other rfl]
   exact fun e => (h.ins e).on hb
 · rw [up_other rfl, up_other rfl]
   exact fun e1 e2 => (hb.block _ (heap_lt (h.nwc e1 e2))).trans (h.nwc e1 e2)
theorem off_row {w W W' : World} {base n size : Nat} {e : TypeId} {u : Value} {xs : List Value} (ho : Off q l w W) (hO : W.ownsRow base e size u n xs) (hbase : w.heap.size ≤ base) (hg : W.grownBy W' u.ownBlock) : Off q l w W' :=
 ⟨hg.os.trans ho.os, hg.tape.trans ho.tape, hg.output.trans ho.output, Nat.le_trans ho.size hg.size, fun j hj h1 h2 => (hg.block j (Nat.lt_of_lt_of_le hj ho.size) (fun e => by have := (hO.lt j e.symm).1; omega)).trans (ho.block j hj h1 h2)⟩
theorem offC_row {w W W' : World} {base n size : Nat} {e : TypeId} {u : Value} {xs : List Value} (ho : OffC q l w W) (hO : W.ownsRow base e size u n xs) (hbase : w.heap.size ≤ base) (hg : W.grownBy W' u.ownBlock) : OffC q l w W' :=
 ⟨Nat.le_trans ho.size hg.size, fun j C T m e h1 h2 => by
   have h3 := ho.block j C T m e h1 h2
   exact (hg.block j (heap_lt h3) (fun e' => by have := (hO.lt j e'.symm).1; have := heap_lt e; omega)).trans h3⟩
theorem InC.appc (h : InC q l b5 Wc Wb W0 s v f p n x D W) (h8 : D 8 = true) (h9 : D 9 = false) (h21 : D 21 = false) (hn : f.code.length ≤ 1048576) :
   ∃ (r : Sl3) (W' : World), (Builtin.append_ #[30, 30] 30 #[.slice v.code.a v.code.n v.code.c, .slice (some ⟨x.1, 0, none⟩) 1 1]).run Tryz.prog W = .ok r.val W' ∧ InC q l b5 Wc Wb W0 s v f p n (x.1, r, x.2.2) (add D 9) W' := by
 obtain ⟨i0, hi, hz0, hz1, hz2⟩ := info_parts info_ains
 have hw := h.own
 rw [h9] at hw
 have hO : W.ownsRow W0.heap.size 25 2 v.code.val f.code.length (ps f.code) := hw.code
 have hx := h.nwc h8 h9
 obtain ⟨r, W', hr, ho, hg, _⟩ := run_append_own (P := Tryz.prog) W W0.heap.size 30 30 25 i0 (.agg #[.int .i64 0, .int .i64 0]) 2 16 Tryz.underlying30 hi hz0 hz1 hz2 rfl (by decide) v.code.val f.code.length (ps f.code) hO ⟨x.1, 0, none⟩ 1 1 (ps [p]) rfl
   (World.news_of_block hx) (ps_one _) (by unfold maxLen; omega) (by omega) h.off.size
 obtain ⟨rc, rfl⟩ := own_sl ho
 rw [← ps_append] at ho
 refine ⟨rc, W', hr, offC_row h.off hO (Nat.le_refl _) hg, off_row h.whole hO h.b0 hg, h.ko.trans (ko_row hO hg), (hg.block l (Nat.lt_of_lt_of_le h.l0.1 h.whole.size) (fun e => by have := (hO.lt l e.symm).1; have := h.l0; have := h.b0; omega)).trans h.kl, ?_, ?_, h.bare, ?_, ?_, ?_, h.q0, h.b0, h.l0⟩
 · have hbx := h.box
   rw [up_other rfl, up_other rfl]
   refine Eq.trans (hg.block q (heap_lt hbx) (fun e => by have := (hO.lt q e.symm).1; have := h.q0; omega)) (hbx.trans ?_)
   rw [h21]
   cases D 25 <;> rfl
 · rw [up_self, up_other rfl]
   have h1 := FnOwn.coded hw (by cases D 17 <;> exact h.bare) hg ho
   revert h1
   cases D 17 <;> exact id
 · rw [up_self]
   intro e
   cases e
 · rw [up_self]
   intro _ e
   cases e
 · rw [up_other rfl, up_other rfl]
   exact fun e1 e2 => other_block hO hg (h.nwl e1 e2) (by decide)
theorem InC.appl (h : InC q l b5 Wc Wb W0 s v f p n x D W) (h16 : D 16 = true) (h17 : D 17 = false) (h25 : D 25 = false) (hn : f.lines.length ≤ 1048576) :
   ∃ (r : Sl3) (W' : World), (Builtin.append_ #[31, 31] 31 #[.slice v.lines.a v.lines.n v.lines.c, .slice (some ⟨x.2.2.1, 0, none⟩) 1 1]).run Tryz.prog W = .ok r.val W' ∧ InC q l b5 Wc Wb W0 s v f p n (x.1, x.2.1, x.2.2.1, r) (add D 17) W' := by
 obtain ⟨i0, hi, hz0, hz1, hz2⟩ := info_parts info_aint
 have hw := h.own
 rw [h17] at hw
 have hO : W.ownsRow W0.heap.size 3 1 v.lines.val f.lines.length (vs f.lines) := hw.lines
 have hx := h.nwl h16 h17
 obtain ⟨r, W', hr, ho, hg, _⟩ := run_append_own (P := Tryz.prog) W W0.heap.size 31 31 3 i0 (.int .i64 0) 1 8 Tryz.underlying31 hi hz0 hz1 hz2 rfl (by decide) v.lines.val f.lines.length (vs f.lines) hO ⟨x.2.2.1, 0, none⟩ 1 1 (vs [n]) rfl
   (World.news_of_block hx) (vs_one _) (by unfold maxLen; omega) (by omega) h.off.size
 obtain ⟨rl, rfl⟩ := own_sl ho
 rw [← vs_append] at ho
 refine ⟨rl, W', hr, offC_row h.off hO (Nat.le_refl _) hg, off_row h.whole hO h.b0 hg, h.ko.trans (ko_row hO hg), (hg.block l (Nat.lt_of_lt_of_le h.l0.1 h.whole.size) (fun e => by have := (hO.lt l e.symm).1; have := h.l0; have := h.b0; omega)).trans h.kl, ?_, ?_, h.bare, ?_, ?_, ?_, h.q0, h.b0, h.l0⟩
 · have hbx := h.box
   rw [up_other rfl, up_other rfl]
   refine Eq.trans (hg.block q (heap_lt hbx) (fun e => by have := (hO.lt q e.symm).1; have := h.q0; omega)) (hbx.trans ?_)
   rw [h25]
   cases D 21 <;> rfl
 · rw [up_self, up_other rfl]
   have h1 := FnOwn.lined hw (by cases D 9 <;> exact h.bare) hg ho
   revert h1
   cases D 9 <;> exact id
 · rw [up_other rfl]
   exact fun e => other_block hO hg (h.ins e) (by decide)
 · rw [up_other rfl, up_other rfl]
   exact fun e1 e2 => other_block hO hg (h.nwc e1 e2) (by decide)
 · rw [up_self]
   intro _ e
   cases e
theorem InC.stc (h : InC q l b5 Wc Wb W0 s v f p n x D W) (h9 : D 9 = true) (h21 : D 21 = false) : InC q l b5 Wc Wb W0 s v f p n x (add D 21) (W.setCell ⟨q, 7, none⟩ x.2.1.val) := by
 have hg := Lib.grownBy_setB (World.grownBy.refl W (some q)) 7 x.2.1.val
 refine ⟨h.off.on (Off.grown hg), h.whole.trans (Off.grown hg), h.ko.trans (KeepsOthers.setCell _ _ _), (hg.block l (Nat.lt_of_lt_of_le h.l0.1 h.whole.size) (fun e => by injection e with e; exact h.l0.2 e.symm)).trans h.kl, ?_, ?_, h.bare, ?_, ?_, ?_, h.q0, h.b0, h.l0⟩
 · rw [up_self, up_other rfl]
   have hbx := h.box
   rw [h21] at hbx
   refine (mid_set (i := 7) hbx x.2.1.val).trans ?_
   cases D 25 <;> rfl
 · rw [up_other rfl, up_other rfl]
   exact h.own.off (Off.grown (p := q) hg) h.q0 h.q0
 · rw [up_other rfl, h9]
   intro e
   cases e
 · rw [up_other rfl, up_other rfl, h9]
   intro _ e
   cases e
 · rw [up_other rfl, up_other rfl]
   exact fun e1 e2 => (hg.block _ (heap_lt (h.nwl e1 e2)) (fun e => by injection e with e; have h2 := h.nwl e1 e2; rw [e, h.box] at h2; injection h2 with h2; injection h2 with _ h3; revert h3; decide)).trans (h.nwl e1 e2)
theorem InC.stl (h : InC q l b5 Wc Wb W0 s v f p n x D W) (h17 : D 17 = true) (h25 : D 25 = false) : InC q l b5 Wc Wb W0 s v f p n x (add D 25) (W.setCell ⟨q, 8, none⟩ x.2.2.2.val) := by
 have hg := Lib.grownBy_setB (World.grownBy.refl W (some q)) 8 x.2.2.2.val
 refine ⟨h.off.on (Off.grown hg), h.whole.trans (Off.grown hg), h.ko.trans (KeepsOthers.setCell _ _ _), (hg.block l (Nat.lt_of_lt_of_le h.l0.1 h.whole.size) (fun e => by injection e with e; exact h.l0.2 e.symm)).trans h.kl, ?_, ?_, h.bare, ?_, ?_, ?_, h.q0, h.b0, h.l0⟩
 · rw [up_self, up_other rfl]
   have hbx := h.box
   rw [h25] at hbx
   refine (mid_set (i := 8) hbx x.2.2.2.val).trans ?_
   cases D 21 <;> rfl
 · rw [up_other rfl, up_other rfl]
   exact h.own.off (Off.grown (p := q) hg) h.q0 h.q0
 · rw [up_other rfl]
   exact fun e1 => (hg.block _ (heap_lt (h.ins e1)) (fun e => by injection e with e; have h2 := h.ins e1; unfold Ins at h2; rw [e, h.box] at h2; injection h2 with h2; injection h2 with _ h3; revert h3; decide)).trans (h.ins e1)
 · rw [up_other rfl, up_other rfl]
   exact fun e1 e2 => (hg.block _ (heap_lt (h.nwc e1 e2)) (fun e => by injection e with e; have h2 := h.nwc e1 e2; rw [e, h.box] at h2; injection h2 with h2; injection h2 with _ h3; revert h3; decide)).trans (h.nwc e1 e2)
 · rw [up_other rfl, up_other rfl, h17]
   intro _ e
   cases e
end
def insG (q : Nat) (v : FnV) (p : Int × Int) (n : Int) (x : InX) : Nat → Value → Prop
 | 0, y => y = .pointer (some ⟨q, 0, none⟩)
 | 1, y => y = .pointer (some ⟨q, 0, none⟩)
 | 2, y => y = .pointer (some ⟨q, 0, none⟩)
 | 3, y => y = .pointer (some ⟨q, 0, none⟩)
 | 4, y => y = .pointer (some ⟨q, 1, none⟩)
 | 5, y => y = .pointer (some ⟨q, 7, none⟩)
 | 6, y => y = .slice v.code.a v.code.n v.code.c
 | 7, y => y = .agg #[.int .i64 p.1, .int .i64 p.2]
 | 8, y => y = .slice (some ⟨x.1, 0, none⟩) 1 1
 | 9, y => y = x.2.1.val
 | 10, y => y = .pointer (some ⟨q, 0, none⟩)
 | 11, y => y = .pointer (some ⟨q, 0, none⟩)
 | 12, y => y = .pointer (some ⟨q, 1, none⟩)
 | 13, y => y = .pointer (some ⟨q, 8, none⟩)
 | 14, y => y = .slice v.lines.a v.lines.n v.lines.c
 | 15, y => y = .int .i64 n
 | 16, y => y = .slice (some ⟨x.2.2.1, 0, none⟩) 1 1
 | 17, y => y = x.2.2.2.val
 | 18, y => y = .pointer (some ⟨q, 0, none⟩)
 | 19, y => y = .pointer (some ⟨q, 1, none⟩)
 | 20, y => y = .pointer (some ⟨q, 7, none⟩)
 | 22, y => y = .pointer (some ⟨q, 0, none⟩)
 | 23, y => y = .pointer (some ⟨q, 1, none⟩)
 | 24, y => y = .pointer (some ⟨q, 8, none⟩)
 | _, _ => True
theorem in_bc {q : Nat} {v : FnV} {p : Int × Int} {n : Int} {x : InX} {D : Nat → Bool} {z : Nat} (h8 : D 8 = false) : ∀ j y, D j = true → insG q v p n x j y → insG q v p n (z, x.2) j y
 | 0, _, _, h => h
 | 1, _, _, h => h
 | 2, _, _, h => h
 | 3, _, _, h => h
 | 4, _, _, h => h
 | 5, _, _, h => h
 | 6, _, _, h => h
 | 7, _, _, h => h
 | 8, _, hj, _ => by rw [h8] at hj; cases hj
 | 9, _, _, h => h
 | 10, _, _, h => h
 | 11, _, _, h => h
 | 12, _, _, h => h
 | 13, _, _, h => h
 | 14, _, _, h => h
 | 15, _, _, h => h
 | 16, _, _, h => h
 | 17, _, _, h => h
 | 18, _, _, h => h
 | 19, _, _, h => h
 | 20, _, _, h => h
 | 21, _, _, h => h
 | 22, _, _, h => h
 | 23, _, _, h => h
 | 24, _, _, h => h
 | 25, _, _, h => h
 | _ + 26, _, _, h => h
theorem in_rc {q : Nat} {v : FnV} {p : Int × Int} {n : Int} {x : InX} {D : Nat → Bool} {z : Sl3} (h9 : D 9 = false) : ∀ j y, D j = true → insG q v p n x j y → insG q v p n (x.1, z, x.2.2) j y
 | 0, _, _, h => h
 | 1, _, _, h => h
 | 2, _, _, h => h
 | 3, _, _, h => h
 | 4, _, _, h => h
 | 5, _, _, h => h
 | 6, _, _, h => h
 | 7, _, _, h => h
 | 8, _, _, h => h
 | 9, _, hj, _ => by rw [h9] at hj; cases hj
 | 10, _, _, h => h
 | 11, _, _, h => h
 | 12, _, _, h => h
 | 13, _, _, h => h
 | 14, _, _, h => h
 | 15, _, _, h => h
 | 16, _, _, h => h
 | 17, _, _, h => h
 | 18, _, _, h => h
 | 19, _, _, h => h
 | 20, _, _, h => h
 | 21, _, _, h => h
 | 22, _, _, h => h
 | 23, _, _, h => h
 | 24, _, _, h => h
 | 25, _, _, h => h
 | _ + 26, _, _, h => h
theorem in_bl {q : Nat} {v : FnV} {p : Int × Int} {n : Int} {x : InX} {D : Nat → Bool} {z : Nat} (h16 : D 16 = false) : ∀ j y, D j = true → insG q v p n x j y → insG q v p n (x.1, x.2.1, z, x.2.2.2) j y
 | 0, _, _, h => h
 | 1, _, _, h => h
 | 2, _, _, h => h
 | 3, _, _, h => h
 | 4, _, _, h => h
 | 5, _, _, h => h
 | 6, _, _, h => h
 | 7, _, _, h => h
 | 8, _, _, h => h
 | 9, _, _, h => h
 | 10, _, _, h => h
 | 11, _, _, h => h
 | 12, _, _, h => h
 | 13, _, _, h => h
 | 14, _, _, h => h
 | 15, _, _, h => h
 | 16, _, hj, _ => by rw [h16] at hj; cases hj
 | 17, _, _, h => h
 | 18, _, _, h => h
 | 19, _, _, h => h
 | 20, _, _, h => h
 | 21, _, _, h => h
 | 22, _, _, h => h
 | 23, _, _, h => h
 | 24, _, _, h => h
 | 25, _, _, h => h
 | _ + 26, _, _, h => h
theorem in_rl {q : Nat} {v : FnV} {p : Int × Int} {n : Int} {x : InX} {D : Nat → Bool} {z : Sl3} (h17 : D 17 = false) : ∀ j y, D j = true → insG q v p n x j y → insG q v p n (x.1, x.2.1, x.2.2.1, z) j y
 | 0, _, _, h => h
 | 1, _, _, h => h
 | 2, _, _, h => h
 | 3, _, _, h => h
 | 4, _, _, h => h
 | 5, _, _, h => h
 | 6, _, _, h => h
 | 7, _, _, h => h
 | 8, _, _, h => h
 | 9, _, _, h => h
 | 10, _, _, h => h
 | 11, _, _, h => h
 | 12, _, _, h => h
 | 13, _, _, h => h
 | 14, _, _, h => h
 | 15, _, _, h => h
 | 16, _, _, h => h
 | 17, _, hj, _ => by rw [h17] at hj; cases hj
 | 18, _, _, h => h
 | 19, _, _, h => h
 | 20, _, _, h => h
 | 21, _, _, h => h
 | 22, _, _, h => h
 | 23, _, _, h => h
 | 24, _, _, h => h
 | 25, _, _, h => h
 | _ + 26, _, _, h => h
set_option maxHeartbeats 16000000 in
theorem rdins_any (q l : Nat) (Wb : World) (t : As.St) (W : World) (h : RdAt q l Wb t W) (ht : t.isOpen = true) (z : ByteArray) (hz : z.size < 4294967281) (hg : Glob W) (hnc : t.cur.code.length ≤ 1048576) (hnl : t.cur.lines.length ≤ 1048576) :
   Calls Tryz.prog 51 #[.pointer (some ⟨q, 0, none⟩), .string z] W (RdP q l Wb ⟨t.done, As.more1 t.cur (As.line z).1.1 (As.line z).1.2, true⟩ (As.line z).2 W) := by
 have HLn := asline_any z hz W hg
 unfold LineP at HLn
 obtain ⟨o, ho⟩ : ∃ o, As.line z = o := ⟨_, rfl⟩
 rw [ho] at HLn ⊢
 obtain ⟨W0, s, us, v, h⟩ := h
 obtain ⟨td, f, tb⟩ := t
 simp only at ht hnc hnl
 subst ht
 have hql := h.ql
 have H := Lib.hid h
 clear h ho hz hg
 go_enter Tryz.func51, Tryz.ntmps51
 obtain ⟨⟨p, n⟩, er⟩ := o
 simp only at HLn
 go_wp2_with (go_at_call 5; refine HLn.mono ?_; rintro _ w1 ⟨rfl, hb1⟩; clear HLn; have HB1 := Lib.hid hb1; clear hb1)
 have hb2 := HB1.out.trans (((Below.refl w1.heap.size w1).alloc (Nat.le_refl _) (.cells #[.int .i64 p.1, .int .i64 p.2] 25)).mono HB1.out.size)
 have hb3 := below_drewN hb2 1
 have hC : InC q l w1.heap.size W Wb W0 s v f p n (0, .nil, 0, .nil) (fun _ => false) (w1.alloc (.cells #[.int .i64 p.1, .int .i64 p.2] 25)).drew := by
   have h := H.out.below hb2
   refine ⟨h.off.on (Off.below (Below.refl _ _).drew), h.whole.trans (Off.below (Below.refl _ _).drew), (ko_below hb2).trans (KeepsOthers.drew _), hb2.block l (Nat.lt_of_lt_of_le H.out.ql.2.1 H.out.size), h.box, ((h.cur rfl).1.below (Below.refl _ _).drew), (h.cur rfl).2, fun _ => Ins.new w1 p.1 p.2, (fun e => by cases e), (fun e => by cases e), Nat.lt_of_lt_of_le h.ql.1 h.base, h.base, h.ql.2⟩
 clear hb2 hb3
 generalize hb5 : w1.heap.size = b5 at *
 refine region_k ((0, .nil, 0, .nil) : InX) 39 (fun x D W' => InC q l b5 W Wb W0 s v f p n x D W') (insG q v p n) (by kernel_rfl) (by kernel_rfl) (by kernel_rfl) rfl rfl hC ?_ ?_
 · refine ⟨?_, ?_, ?_, ?_, ?_, ?_, ?_, ?_, ?_, ?_, ?_, ?_, ?_, ?_, ?_, ?_, ?_, ?_, ?_, ?_, ?_, ?_, ?_, ?_, ?_, ?_, trivial⟩
   · intro x D a w hI hdep hD0 K hK
     have e0 : a.eval (.tmp 0) = .pointer (some ⟨q, 0, none⟩) := hI.read 0 rfl
     refine ok_value (wanted_none rfl) (v := .pointer (some ⟨q, 0, none⟩)) ?_ (hK x _ _ (hI.world.up rfl rfl rfl rfl rfl rfl) (fun _ _ _ h => h) rfl)
     obtain ⟨ec, ef⟩ := ecs a; clear hI hdep hK; generalize a.eval = ρ at e0 ec ef ⊢; go_simp
   · intro x D a w hI hdep hD0 K hK
     have e0 : a.eval (.tmp 0) = .pointer (some ⟨q, 0, none⟩) := hI.read 0 rfl
     refine ok_value (wanted_none rfl) (v := .pointer (some ⟨q, 0, none⟩)) ?_ (hK x _ _ (hI.world.up rfl rfl rfl rfl rfl rfl) (fun _ _ _ h => h) rfl)
     obtain ⟨ec, ef⟩ := ecs a; clear hI hdep hK; generalize a.eval = ρ at e0 ec ef ⊢; go_simp
   · intro x D a w hI hdep hD0 K hK
     have e0 : a.eval (.tmp 0) = .pointer (some ⟨q, 0, none⟩) := hI.read 0 rfl
     refine ok_value (wanted_none rfl) (v := .pointer (some ⟨q, 0, none⟩)) ?_ (hK x _ _ (hI.world.up rfl rfl rfl rfl rfl rfl) (fun _ _ _ h => h) rfl)
     obtain ⟨ec, ef⟩ := ecs a; clear hI hdep hK; generalize a.eval = ρ at e0 ec ef ⊢; go_simp
   · intro x D a w hI hdep hD0 K hK
     have e16 : a.eval (.tmp 16) = .pointer (some ⟨q, 0, none⟩) := hI.good 2 16 (dep_of hdep 2 rfl) rfl
     refine ok_value (wanted_none rfl) (v := .pointer (some ⟨q, 0, none⟩)) ?_ (hK x _ _ (hI.world.up rfl rfl rfl rfl rfl rfl) (fun _ _ _ h => h) rfl)
     obtain ⟨ec, ef⟩ := ecs a; clear hI hdep hK; generalize a.eval = ρ at e16 ec ef ⊢; go_simp
   · intro x D a w hI hdep hD0 K hK
     have e17 : a.eval (.tmp 17) = .pointer (some ⟨q, 0, none⟩) := hI.good 3 17 (dep_of hdep 3 rfl) rfl
     refine ok_value (wanted_none rfl) (v := .pointer (some ⟨q, 1, none⟩)) ?_ (hK x _ _ (hI.world.up rfl rfl rfl rfl rfl rfl) (fun _ _ _ h => h) rfl)
     obtain ⟨ec, ef⟩ := ecs a; clear hI hdep hK; generalize a.eval = ρ at e17 ec ef ⊢; go_simp
   · intro x D a w hI hdep hD0 K hK
     have e18 : a.eval (.tmp 18) = .pointer (some ⟨q, 1, none⟩) := hI.good 4 18 (dep_of hdep 4 rfl) rfl
     refine ok_value (wanted_none rfl) (v := .pointer (some ⟨q, 7, none⟩)) ?_ (hK x _ _ (hI.world.up rfl rfl rfl rfl rfl rfl) (fun _ _ _ h => h) rfl)
     obtain ⟨ec, ef⟩ := ecs a; clear hI hdep hK; generalize a.eval = ρ at e18 ec ef ⊢; go_simp
   · intro x D a w hI hdep hD0 K hK
     have e19 : a.eval (.tmp 19) = .pointer (some ⟨q, 7, none⟩) := hI.good 5 19 (dep_of hdep 5 rfl) rfl
     have z0 : w.cell? ⟨q, 7, none⟩ = some (.slice v.code.a v.code.n v.code.c) := hI.world.code (hI.not_up hD0 21 rfl)
     refine ok_value (wanted_none rfl) (v := .slice v.code.a v.code.n v.code.c) ?_ (hK x _ _ (hI.world.up rfl rfl rfl rfl rfl rfl) (fun _ _ _ h => h) rfl)
     obtain ⟨ec, ef⟩ := ecs a; clear hI hdep hK; generalize a.eval = ρ at e19 ec ef ⊢; go_simp
   · intro x D a w hI hdep hD0 K hK
     have e5 : a.eval (.tmp 5) = .pointer (some ⟨b5, 0, none⟩) := hI.read 5 rfl
     have hA := hI.world.ins (hI.not_up (hI.not_up hD0 8 rfl) 9 rfl)
     have k0 := hA.c0; have k1 := hA.c1
     refine ok_value (wanted_none rfl) (v := .agg #[.int .i64 p.1, .int .i64 p.2]) ?_ (hK x _ _ (hI.world.up rfl rfl rfl rfl rfl rfl) (fun _ _ _ h => h) rfl)
     clear hA
     obtain ⟨ec, ef⟩ := ecs a; clear hI hdep hK; generalize a.eval = ρ at e5 ec ef ⊢; go_simp
   · intro x D a w hI hdep hD0 K hK
     have e21 : a.eval (.tmp 21) = .agg #[.int .i64 p.1, .int .i64 p.2] := hI.good 7 21 (dep_of hdep 7 rfl) rfl
     refine ok_new (wanted_none rfl) (v := .slice (some ⟨w.heap.size, 0, none⟩) 1 1) (w' := w.alloc (.cells #[.int .i64 p.1, .int .i64 p.2] 25)) (by have ec : ∀ c, a.eval (.const c) = c := fun _ => rfl; generalize a.eval = ρ at e21 ec ⊢; go_simp) ?_
     exact hK (w.heap.size, x.2) _ _ (hI.world.newc (hI.not_up hD0 9 rfl)) (in_bc hD0) rfl
   · intro x D a w hI hdep hD0 K hK
     have e20 : a.eval (.tmp 20) = .slice v.code.a v.code.n v.code.c := hI.good 6 20 (dep_of hdep 6 rfl) rfl
     have e22 : a.eval (.tmp 22) = .slice (some ⟨x.1, 0, none⟩) 1 1 := hI.good 8 22 (dep_of hdep 8 rfl) rfl
     obtain ⟨r, W', hr, hC⟩ := hI.world.appc (dep_of hdep 8 rfl) hD0 (hI.not_up hD0 21 rfl) hnc
     exact ok_append (wanted_none rfl) (.tmp 20) (.tmp 22) 30 30 rfl (by rw [e20, e22]; exact hr) (hK (x.1, r, x.2.2) _ _ hC (in_rc hD0) rfl)
   · intro x D a w hI hdep hD0 K hK
     have e0 : a.eval (.tmp 0) = .pointer (some ⟨q, 0, none⟩) := hI.read 0 rfl
     refine ok_value (wanted_none rfl) (v := .pointer (some ⟨q, 0, none⟩)) ?_ (hK x _ _ (hI.world.up rfl rfl rfl rfl rfl rfl) (fun _ _ _ h => h) rfl)
     obtain ⟨ec, ef⟩ := ecs a; clear hI hdep hK; generalize a.eval = ρ at e0 ec ef ⊢; go_simp
   · intro x D a w hI hdep hD0 K hK
     have e24 : a.eval (.tmp 24) = .pointer (some ⟨q, 0, none⟩) := hI.good 10 24 (dep_of hdep 10 rfl) rfl
     refine ok_value (wanted_none rfl) (v := .pointer (some ⟨q, 0, none⟩)) ?_ (hK x _ _ (hI.world.up rfl rfl rfl rfl rfl rfl) (fun _ _ _ h => h) rfl)
     obtain ⟨ec, ef⟩ := ecs a; clear hI hdep hK; generalize a.eval = ρ at e24 ec ef ⊢; go_simp
   · intro x D a w hI hdep hD0 K hK
     have e25 : a.eval (.tmp 25) = .pointer (some ⟨q, 0, none⟩) := hI.good 11 25 (dep_of hdep 11 rfl) rfl
     refine ok_value (wanted_none rfl) (v := .pointer (some ⟨q, 1, none⟩)) ?_ (hK x _ _ (hI.world.up rfl rfl rfl rfl rfl rfl) (fun _ _ _ h => h) rfl)
     obtain ⟨ec, ef⟩ := ecs a; clear hI hdep hK; generalize a.eval = ρ at e25 ec ef ⊢; go_simp
   · intro x D a w hI hdep hD0 K hK
     have e26 : a.eval (.tmp 26) = .pointer (some ⟨q, 1, none⟩) := hI.good 12 26 (dep_of hdep 12 rfl) rfl
     refine ok_value (wanted_none rfl) (v := .pointer (some ⟨q, 8, none⟩)) ?_ (hK x _ _ (hI.world.up rfl rfl rfl rfl rfl rfl) (fun _ _ _ h => h) rfl)
     obtain ⟨ec, ef⟩ := ecs a; clear hI hdep hK; generalize a.eval = ρ at e26 ec ef ⊢; go_simp
   · intro x D a w hI hdep hD0 K hK
     have e27 : a.eval (.tmp 27) = .pointer (some ⟨q, 8, none⟩) := hI.good 13 27 (dep_of hdep 13 rfl) rfl
     have z0 : w.cell? ⟨q, 8, none⟩ = some (.slice v.lines.a v.lines.n v.lines.c) := hI.world.line (hI.not_up hD0 25 rfl)
     refine ok_value (wanted_none rfl) (v := .slice v.lines.a v.lines.n v.lines.c) ?_ (hK x _ _ (hI.world.up rfl rfl rfl rfl rfl rfl) (fun _ _ _ h => h) rfl)
     obtain ⟨ec, ef⟩ := ecs a; clear hI hdep hK; generalize a.eval = ρ at e27 ec ef ⊢; go_simp
   · intro x D a w hI hdep hD0 K hK
     have e6 : a.eval (.tmp 6) = .int .i64 n := hI.read 6 rfl
     refine ok_value (wanted_none rfl) (v := .int .i64 n) ?_ (hK x _ _ (hI.world.up rfl rfl rfl rfl rfl rfl) (fun _ _ _ h => h) rfl)
     obtain ⟨ec, ef⟩ := ecs a; clear hI hdep hK; generalize a.eval = ρ at e6 ec ef ⊢; go_simp
   · intro x D a w hI hdep hD0 K hK
     have e29 : a.eval (.tmp 29) = .int .i64 n := hI.good 15 29 (dep_of hdep 15 rfl) rfl
     refine ok_new (wanted_none rfl) (v := .slice (some ⟨w.heap.size, 0, none⟩) 1 1) (w' := w.alloc (.cells #[.int .i64 n] 3)) (by have ec : ∀ c, a.eval (.const c) = c := fun _ => rfl; generalize a.eval = ρ at e29 ec ⊢; go_simp) ?_
     exact hK (x.1, x.2.1, w.heap.size, x.2.2.2) _ _ (hI.world.newl (hI.not_up hD0 17 rfl)) (in_bl hD0) rfl
   · intro x D a w hI hdep hD0 K hK
     have e28 : a.eval (.tmp 28) = .slice v.lines.a v.lines.n v.lines.c := hI.good 14 28 (dep_of hdep 14 rfl) rfl
     have e30 : a.eval (.tmp 30) = .slice (some ⟨x.2.2.1, 0, none⟩) 1 1 := hI.good 16 30 (dep_of hdep 16 rfl) rfl
     obtain ⟨r, W', hr, hC⟩ := hI.world.appl (dep_of hdep 16 rfl) hD0 (hI.not_up hD0 25 rfl) hnl
     exact ok_append (wanted_none rfl) (.tmp 28) (.tmp 30) 31 31 rfl (by rw [e28, e30]; exact hr) (hK (x.1, x.2.1, x.2.2.1, r) _ _ hC (in_rl hD0) rfl)
   · intro x D a w hI hdep hD0 K hK
     have e14 : a.eval (.tmp 14) = .pointer (some ⟨q, 0, none⟩) := hI.good 0 14 (dep_of hdep 0 rfl) rfl
     refine ok_value (wanted_none rfl) (v := .pointer (some ⟨q, 0, none⟩)) ?_ (hK x _ _ (hI.world.up rfl rfl rfl rfl rfl rfl) (fun _ _ _ h => h) rfl)
     obtain ⟨ec, ef⟩ := ecs a; clear hI hdep hK; generalize a.eval = ρ at e14 ec ef ⊢; go_simp
   · intro x D a w hI hdep hD0 K hK
     have e32 : a.eval (.tmp 32) = .pointer (some ⟨q, 0, none⟩) := hI.good 18 32 (dep_of hdep 18 rfl) rfl
     refine ok_value (wanted_none rfl) (v := .pointer (some ⟨q, 1, none⟩)) ?_ (hK x _ _ (hI.world.up rfl rfl rfl rfl rfl rfl) (fun _ _ _ h => h) rfl)
     obtain ⟨ec, ef⟩ := ecs a; clear hI hdep hK; generalize a.eval = ρ at e32 ec ef ⊢; go_simp
   · intro x D a w hI hdep hD0 K hK
     have e33 : a.eval (.tmp 33) = .pointer (some ⟨q, 1, none⟩) := hI.good 19 33 (dep_of hdep 19 rfl) rfl
     refine ok_value (wanted_none rfl) (v := .pointer (some ⟨q, 7, none⟩)) ?_ (hK x _ _ (hI.world.up rfl rfl rfl rfl rfl rfl) (fun _ _ _ h => h) rfl)
     obtain ⟨ec, ef⟩ := ecs a; clear hI hdep hK; generalize a.eval = ρ at e33 ec ef ⊢; go_simp
   · intro x D a w hI hdep hD0 K hK
     have e34 : a.eval (.tmp 34) = .pointer (some ⟨q, 7, none⟩) := hI.good 20 34 (dep_of hdep 20 rfl) rfl
     have e23 : a.eval (.tmp 23) = x.2.1.val := hI.good 9 23 (dep_of hdep 9 rfl) rfl
     have hc := dep_of hdep 9 rfl
     obtain ⟨y, z0⟩ := hI.world.there 7 (by decide)
     have z1 := hI.world.ice 7
     refine ok_store (wanted_none rfl) (w' := w.setCell ⟨q, 7, none⟩ x.2.1.val) ?_ (hK x undef _ (hI.world.stc hc hD0) (fun _ _ _ h => h) trivial)
     unfold Sl3.val at e23 ⊢
     obtain ⟨ec, ef⟩ := ecs a; clear hI hdep hK; generalize a.eval = ρ at e34 e23 ec ef ⊢; go_simp
   · intro x D a w hI hdep hD0 K hK
     have e15 : a.eval (.tmp 15) = .pointer (some ⟨q, 0, none⟩) := hI.good 1 15 (dep_of hdep 1 rfl) rfl
     refine ok_value (wanted_none rfl) (v := .pointer (some ⟨q, 0, none⟩)) ?_ (hK x _ _ (hI.world.up rfl rfl rfl rfl rfl rfl) (fun _ _ _ h => h) rfl)
     obtain ⟨ec, ef⟩ := ecs a; clear hI hdep hK; generalize a.eval = ρ at e15 ec ef ⊢; go_simp
   · intro x D a w hI hdep hD0 K hK
     have e35 : a.eval (.tmp 35) = .pointer (some ⟨q, 0, none⟩) := hI.good 22 35 (dep_of hdep 22 rfl) rfl
     refine ok_value (wanted_none rfl) (v := .pointer (some ⟨q, 1, none⟩)) ?_ (hK x _ _ (hI.world.up rfl rfl rfl rfl rfl rfl) (fun _ _ _ h => h) rfl)
     obtain ⟨ec, ef⟩ := ecs a; clear hI hdep hK; generalize a.eval = ρ at e35 ec ef ⊢; go_simp
   · intro x D a w hI hdep hD0 K hK
     have e36 : a.eval (.tmp 36) = .pointer (some ⟨q, 1, none⟩) := hI.good 23 36 (dep_of hdep 23 rfl) rfl
     refine ok_value (wanted_none rfl) (v := .pointer (some ⟨q, 8, none⟩)) ?_ (hK x _ _ (hI.world.up rfl rfl rfl rfl rfl rfl) (fun _ _ _ h => h) rfl)
     obtain ⟨ec, ef⟩ := ecs a; clear hI hdep hK; generalize a.eval = ρ at e36 ec ef ⊢; go_simp
   · intro x D a w hI hdep hD0 K hK
     have e37 : a.eval (.tmp 37) = .pointer (some ⟨q, 8, none⟩) := hI.good 24 37 (dep_of hdep 24 rfl) rfl
     have e31 : a.eval (.tmp 31) = x.2.2.2.val := hI.good 17 31 (dep_of hdep 17 rfl) rfl
     have hc := dep_of hdep 17 rfl
     obtain ⟨y, z0⟩ := hI.world.there 8 (by decide)
     have z1 := hI.world.ice 8
     refine ok_store (wanted_none rfl) (w' := w.setCell ⟨q, 8, none⟩ x.2.2.2.val) ?_ (hK x undef _ (hI.world.stl hc hD0) (fun _ _ _ h => h) trivial)
     unfold Sl3.val at e31 ⊢
     obtain ⟨ec, ef⟩ := ecs a; clear hI hdep hK; generalize a.eval = ρ at e37 e31 ec ef ⊢; go_simp
 · intro x D a w8 hI hD
   have hfr := hI.frame [(14, .pointer (some ⟨q, 0, none⟩)), (15, .pointer (some ⟨q, 0, none⟩)), (16, .pointer (some ⟨q, 0, none⟩)), (17, .pointer (some ⟨q, 0, none⟩)), (18, .pointer (some ⟨q, 1, none⟩)), (19, .pointer (some ⟨q, 7, none⟩)), (20, .slice v.code.a v.code.n v.code.c), (21, .agg #[.int .i64 p.1, .int .i64 p.2]), (22, .slice (some ⟨x.1, 0, none⟩) 1 1), (23, x.2.1.val), (24, .pointer (some ⟨q, 0, none⟩)), (25, .pointer (some ⟨q, 0, none⟩)), (26, .pointer (some ⟨q, 1, none⟩)), (27, .pointer (some ⟨q, 8, none⟩)), (28, .slice v.lines.a v.lines.n v.lines.c), (29, .int .i64 n), (30, .slice (some ⟨x.2.2.1, 0, none⟩) 1 1), (31, x.2.2.2.val), (32, .pointer (some ⟨q, 0, none⟩)), (33, .pointer (some ⟨q, 1, none⟩)), (34, .pointer (some ⟨q, 7, none⟩)), (35, .pointer (some ⟨q, 0, none⟩)), (36, .pointer (some ⟨q, 1, none⟩)), (37, .pointer (some ⟨q, 8, none⟩))] (all_cons (hI.good 0 14 (hD 0 (by decide)) rfl) (all_cons (hI.good 1 15 (hD 1 (by decide)) rfl) (all_cons (hI.good 2 16 (hD 2 (by decide)) rfl) (all_cons (hI.good 3 17 (hD 3 (by decide)) rfl) (all_cons (hI.good 4 18 (hD 4 (by decide)) rfl) (all_cons (hI.good 5 19 (hD 5 (by decide)) rfl) (all_cons (hI.good 6 20 (hD 6 (by decide)) rfl) (all_cons (hI.good 7 21 (hD 7 (by decide)) rfl) (all_cons (hI.good 8 22 (hD 8 (by decide)) rfl) (all_cons (hI.good 9 23 (hD 9 (by decide)) rfl) (all_cons (hI.good 10 24 (hD 10 (by decide)) rfl) (all_cons (hI.good 11 25 (hD 11 (by decide)) rfl) (all_cons (hI.good 12 26 (hD 12 (by decide)) rfl) (all_cons (hI.good 13 27 (hD 13 (by decide)) rfl) (all_cons (hI.good 14 28 (hD 14 (by decide)) rfl) (all_cons (hI.good 15 29 (hD 15 (by decide)) rfl) (all_cons (hI.good 16 30 (hD 16 (by decide)) rfl) (all_cons (hI.good 17 31 (hD 17 (by decide)) rfl) (all_cons (hI.good 18 32 (hD 18 (by decide)) rfl) (all_cons (hI.good 19 33 (hD 19 (by decide)) rfl) (all_cons (hI.good 20 34 (hD 20 (by decide)) rfl) (all_cons (hI.good 22 35 (hD 22 (by decide)) rfl) (all_cons (hI.good 23 36 (hD 23 (by decide)) rfl) (all_cons (hI.good 24 37 (hD 24 (by decide)) rfl) all_nil)))))))))))))))))))))))) rfl
   have hW := hI.world
   clear hI
   subst hfr
   simp only [List.foldl_cons, List.foldl_nil, List.setIfInBounds_toArray, List.set_cons_succ, List.set_cons_zero]
   have HF := Lib.hid (show RdAt q l Wb ⟨td, As.more1 f p n, true⟩ w8 ∧ KeepsOthers W w8 ∧ w8.heap[l]? = W.heap[l]? from by
     have h := H.out
     have hb := hW.box
     have ho := hW.own
     rw [hD 21 (by decide), hD 25 (by decide)] at hb
     rw [hD 9 (by decide), hD 17 (by decide)] at ho
     refine ⟨?_, hW.ko, hW.kl⟩
     exact ⟨W0, s, us, _, hb, hW.off, hW.whole, h.base, h.len, h.row, h.old, fun _ => ⟨ho, hW.bare⟩, h.ql⟩)
   clear hW hD hC
   go_wp2
   go_ret
   exact ⟨rfl, HF.out⟩
end Go.Proofs.YtfopelegobhegaaGreatDoor
