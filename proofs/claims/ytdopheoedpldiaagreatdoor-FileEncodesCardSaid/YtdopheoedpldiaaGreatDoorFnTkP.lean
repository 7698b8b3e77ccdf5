/-
 A function that is being taken, in memory: the struct of the call's own, the cursor, lists that the call owns; what must does. Conditions: none.
-/
import Derived.Test.YtdopheoedpldiaaGreatDoorFnTkM
set_option maxRecDepth 100000
namespace Go.Proofs.YtdopheoedpldiaaGreatDoor
open Go.RowKit
structure Off (g p : Nat) (w w' : World) : Prop where
 os : w'.os = w.os
 tape : w'.tape = w.tape
 output : w'.output = w.output
 size : w.heap.size ≤ w'.heap.size
 block : ∀ j, j < w.heap.size → j ≠ g → j ≠ p → w'.heap[j]? = w.heap[j]?
theorem Off.refl (g p : Nat) (w : World) : Off g p w w := ⟨rfl, rfl, rfl, Nat.le_refl _, fun _ _ _ _ => rfl⟩
theorem Off.trans {g p : Nat} {a b c : World} (h : Off g p a b) (k : Off g p b c) : Off g p a c :=
 ⟨k.os.trans h.os, k.tape.trans h.tape, k.output.trans h.output, Nat.le_trans h.size k.size, fun j hj h1 h2 => (k.block j (Nat.lt_of_lt_of_le hj h.size) h1 h2).trans (h.block j hj h1 h2)⟩
theorem Off.grown {g p : Nat} {a b : World} (h : a.grownBy b (some g)) : Off g p a b := ⟨h.os, h.tape, h.output, h.size, fun j hj h1 _ => h.block j hj (fun e => by injection e with e; exact h1 e)⟩
theorem Off.below {g p : Nat} {a b : World} (h : Below a.heap.size a b) : Off g p a b := ⟨h.os, h.tape, h.output, h.size, fun j hj _ _ => h.block j hj⟩
theorem Off.set (g p k : Nat) (v : Value) (w : World) : Off g p w (w.setCell ⟨p, k, none⟩ v) :=
 ⟨rfl, rfl, rfl, by simp [World.setCell], fun j _ _ h2 => Below.heap_setCell w ⟨p, k, none⟩ v j h2⟩
def tkCells (g : Nat) (v : FnV) (marks many : Nat) : Array Value := #[.pointer (some ⟨g, 0, none⟩), .string v.name, .bool v.inner, v.outer.val, v.params.val, v.results.val, v.locals.val, v.code.val, v.lines.val, v.nodes.val, v.at_.val, v.live.val, .int .u8 (marks : Int), .int .i64 (many : Int)]
structure FnOwn (w : World) (base : Nat) (v : FnV) (f : Fn.F) : Prop where
 name : v.name = f.name
 inner : v.inner = f.inner
 outer : w.ownsRow base 99 1 v.outer.val f.outer.length (vs f.outer)
 params : w.ownsRow base 99 1 v.params.val f.params.length (vs f.params)
 results : w.ownsRow base 99 1 v.results.val f.results.length (vs f.results)
 locals : w.ownsRow base 99 1 v.locals.val f.locals.length (vs f.locals)
 code : w.ownsRow base 68 2 v.code.val f.code.length (ps f.code)
 lines : w.ownsRow base 3 1 v.lines.val f.lines.length (vs f.lines)
 nodes : w.ownsRow base 104 7 v.nodes.val f.nodes.length (nds f.nodes)
 at_ : w.ownsRow base 3 1 v.at_.val f.at_.length (vs f.at_)
 live : w.ownsRow base 107 4 v.live.val f.live.length (sets f.live)
theorem row_off {g p base n size : Nat} {w w' : World} {e : TypeId} {v : Value} {xs : List Value} (h : w.ownsRow base e size v n xs) (ho : Off g p w w') (hg : g < base) (hp : p < base) : w'.ownsRow base e size v n xs :=
 row_kept h fun b hb => by have := h.lt b hb; exact ho.block b this.2 (by omega) (by omega)
theorem FnOwn.off {g p base : Nat} {w w' : World} {v : FnV} {f : Fn.F} (h : FnOwn w base v f) (ho : Off g p w w') (hg : g < base) (hp : p < base) : FnOwn w' base v f :=
 ⟨h.name, h.inner, row_off h.outer ho hg hp, row_off h.params ho hg hp, row_off h.results ho hg hp, row_off h.locals ho hg hp, row_off h.code ho hg hp, row_off h.lines ho hg hp, row_off h.nodes ho hg hp, row_off h.at_ ho hg hp, row_off h.live ho hg hp⟩
theorem nil_own {w : World} {base n size : Nat} {e : TypeId} {s : Sl3} {xs : List Value} (h : w.ownsRow base e size s.val n xs) : s.nilOk ∧ s.n ≤ 9223372036854775807 := by
 rcases h.2 with ⟨hv, hn⟩ | ⟨g, cap, cur, hv, hg, hh, hnc, hcm, _⟩
 · unfold Sl3.val at hv
   injection hv with h1 h2 h3
   exact ⟨fun _ => h3, by omega⟩
 · unfold Sl3.val at hv
   unfold maxLen at hcm
   injection hv with h1 h2 h3
   refine ⟨fun e => ?_, by omega⟩
   rw [h1] at e
   cases e
theorem ints_own {w : World} {base n : Nat} {e : TypeId} {s : Sl3} {l : List Int} (h : w.ownsRow base e 1 s.val n (vs l)) : IntsAt w w.heap.size s.a s.n l := (ints_of_rowE h).2.1
theorem FnOwn.ok {base : Nat} {w : World} {v : FnV} {f : Fn.F} (h : FnOwn w base v f) : FnOk w w.heap.size v f :=
 ⟨h.name, h.inner, ⟨ints_own h.outer, (nil_own h.outer).1⟩, ⟨ints_own h.params, (nil_own h.params).1⟩, ⟨ints_own h.results, (nil_own h.results).1⟩, ⟨ints_own h.locals, (nil_own h.locals).1⟩,
   ⟨(pairs_of_own h.code).2.1, (nil_own h.code).1⟩, ⟨ints_own h.lines, (nil_own h.lines).1⟩, ⟨(nodes_of_own h.nodes).2.1, (nil_own h.nodes).1⟩, ⟨ints_own h.at_, (nil_own h.at_).1⟩, ⟨(sets_of_own h.live).2.1, (nil_own h.live).1⟩⟩
theorem FnOwn.zero (w : World) (base : Nat) : FnOwn w base .zero .zero :=
 ⟨rfl, rfl, World.ownsRow_nil _ _ _ _, World.ownsRow_nil _ _ _ _, World.ownsRow_nil _ _ _ _, World.ownsRow_nil _ _ _ _, World.ownsRow_nil _ _ _ _, World.ownsRow_nil _ _ _ _, World.ownsRow_nil _ _ _ _, World.ownsRow_nil _ _ _ _, World.ownsRow_nil _ _ _ _⟩
structure TkAt (g p : Nat) (v : FnV) (t : Fn.St) (W : World) : Prop where
 box : W.heap[p]? = some (.cells (tkCells g v t.marks t.many) 157 (0, 0))
 cur : Cur W g t.s
 own : FnOwn W (p + 1) v t.f
 gp : g < p
 code0 : t.f.code = [] → v.code = .nil
section
variable {g p : Nat} {v : FnV} {t : Fn.St} {W W' : World}
theorem TkAt.lt (h : TkAt g p v t W) : p < W.heap.size := heap_lt h.box
theorem TkAt.cell (h : TkAt g p v t W) (k : Nat) : W.cell? ⟨p, k, none⟩ = (tkCells g v t.marks t.many)[k]? := by
 have := h.box
 simp [World.cell?, this]
theorem TkAt.frozen (h : TkAt g p v t W) (k : Nat) : W.frozen? ⟨p, k, none⟩ = false := by
 have := h.box
 simp [World.frozen?, this]
theorem TkAt.went (h : TkAt g p v t W) {s : List Nat × Nat} (hc : Cur W' g s) (hg : W.grownBy W' (some g)) : TkAt g p v { t with s := s } W' :=
 ⟨(hg.block p h.lt (fun e => by injection e with e; have := h.gp; omega)).trans h.box, hc, h.own.off (Off.grown (p := p) hg) (by have := h.gp; omega) (by omega), h.gp, h.code0⟩
theorem TkAt.on (h : TkAt g p v t W) (hb : Below W.heap.size W W') : TkAt g p v t W' :=
 ⟨(hb.block p h.lt).trans h.box, cur_grown h.cur hb, h.own.off (Off.below (g := g) (p := p) hb) (by have := h.gp; omega) (by omega), h.gp, h.code0⟩
end
def PtAt (q p : Nat) (W : World) : Prop := W.heap[q]? = some (.cells #[.pointer (some ⟨p, 0, none⟩)] 178 (0, 0))
theorem PtAt.lt {q p : Nat} {W : World} (h : PtAt q p W) : q < W.heap.size := heap_lt h
theorem PtAt.cell {q p : Nat} {W : World} (h : PtAt q p W) : W.cell? ⟨q, 0, none⟩ = some (.pointer (some ⟨p, 0, none⟩)) := by
 unfold PtAt at h
 simp [World.cell?, h]
theorem PtAt.off {q p g : Nat} {W W' : World} (h : PtAt q p W) (ho : Off g p W W') (hg : q ≠ g) (hp : q ≠ p) : PtAt q p W' := (ho.block q h.lt hg hp).trans h
theorem must_any (g p : Nat) (v : FnV) (t : Fn.St) (ok : Bool) (er : Nat) (W : World) (h : TkAt g p v t W) (he : er ≤ 9223372036854775807) :
   Calls Tryz.prog 163 #[.pointer (some ⟨p, 0, none⟩), .bool ok, .int .i64 (er : Int)] W fun e W' => e = .returned (.tuple #[]) ∧ Cur W' g (Fn.ask ok er t.s) ∧ W.grownBy W' (some g) := by
 have HF := Lib.hid (fail_cur g t.s er W h.cur he)
 have c0 : W.cell? ⟨p, 0, none⟩ = some (.pointer (some ⟨g, 0, none⟩)) := h.cell 0
 have HC := Lib.hid h.cur
 clear h
 cases ok with
 | true =>
   go_enter Tryz.func163, Tryz.ntmps163
   go_wp2
   go_end0
   exact ⟨rfl, HC.out, World.grownBy.refl _ _⟩
 | false =>
   go_enter Tryz.func163, Tryz.ntmps163
   go_wp2_with (go_at_call 134; go_must (refine HF.out.mono ?_; rintro _ w1 ⟨rfl, hc, hg⟩; have H1 := Lib.hid (And.intro hc hg); clear hc hg))
   go_end0
   exact ⟨rfl, H1.out.1, H1.out.2⟩
end Go.Proofs.YtdopheoedpldiaaGreatDoor
namespace Go.Proofs.YtdopheoedpldiaaGreatDoor
open Go.RowKit
structure PcC (ic is g p q k : Nat) (cs : Array Value) (wd : World) (R : Value → World → Prop) (x : Value × World) (D : Nat → Bool) (W : World) : Prop where
 pre : D ic = false → Below wd.heap.size wd W
 post : D ic = true → R x.1 x.2 ∧ wd.grownBy x.2 (some g) ∧ W = (if D is = true then x.2.setCell ⟨p, k, none⟩ x.1 else x.2)
 pt : PtAt q p W
 box : W.heap[p]? = some (.cells (if D is = true then cs.setIfInBounds k x.1 else cs) 157 (0, 0))
section
variable {ic is g p q k : Nat} {cs : Array Value} {wd W : World} {R : Value → World → Prop} {x : Value × World} {D : Nat → Bool}
theorem PcC.up (h : PcC ic is g p q k cs wd R x D W) {i : Nat} (h1 : (ic == i) = false) (h2 : (is == i) = false) : PcC ic is g p q k cs wd R x (add D i) W :=
 ⟨by rw [up_other h1]; exact h.pre, by rw [up_other h1, up_other h2]; exact h.post, h.pt, by rw [up_other h2]; exact h.box⟩
theorem PcC.ptr (h : PcC ic is g p q k cs wd R x D W) : W.cell? ⟨q, 0, none⟩ = some (.pointer (some ⟨p, 0, none⟩)) := h.pt.cell
theorem PcC.cell (h : PcC ic is g p q k cs wd R x D W) {j : Nat} (hj : k ≠ j) : W.cell? ⟨p, j, none⟩ = cs[j]? := by
 refine (cell_of_row W p j _ _ _ h.box).trans ?_
 split
 · rw [Array.getElem?_setIfInBounds_ne hj]
 · rfl
theorem PcC.old (h : PcC ic is g p q k cs wd R x D W) (hs : D is = false) (j : Nat) : W.cell? ⟨p, j, none⟩ = cs[j]? := by
 refine (cell_of_row W p j _ _ _ h.box).trans ?_
 rw [hs, if_neg (by decide)]
theorem PcC.frozen (h : PcC ic is g p q k cs wd R x D W) (j : Nat) : W.frozen? ⟨p, j, none⟩ = false := by
 have := h.box
 simp [World.frozen?, this]
theorem PcC.below (h : PcC ic is g p q k cs wd R x D W) (hc : D ic = false) {W' : World} (hb : Below W.heap.size W W') : PcC ic is g p q k cs wd R x D W' :=
 ⟨fun _ => below_self (h.pre hc) (hb.mono (Nat.le_refl _)), (fun e => by rw [hc] at e; cases e), (hb.block q h.pt.lt).trans h.pt, (hb.block p (heap_lt h.box)).trans h.box⟩
theorem PcC.called (h : PcC ic is g p q k cs wd R x D W) (hc : D ic = false) (hs : D is = false) (hi : (is == ic) = false) (hgp : g ≠ p) (hgq : g ≠ q) {v : Value} {W' : World} (hR : R v W') (hg : W.grownBy W' (some g)) : PcC ic is g p q k cs wd R (v, W') (add D ic) W' := by
 have hb := h.pre hc
 refine ⟨(fun e => by rw [up_self] at e; cases e), fun _ => ⟨hR, Lib.grownBy_trans ⟨hb.os, hb.tape, hb.output, hb.size, fun j hj _ => hb.block j hj⟩ hg, ?_⟩, ?_, ?_⟩
 · rw [up_other hi, hs, if_neg (by decide)]
 · exact (hg.block q h.pt.lt (fun e => by injection e with e; exact hgq e.symm)).trans h.pt
 · rw [up_other hi, hs, if_neg (by decide)]
   have hx := h.box
   rw [hs, if_neg (by decide)] at hx
   exact (hg.block p (heap_lt hx) (fun e => by injection e with e; exact hgp e.symm)).trans hx
theorem PcC.stored (h : PcC ic is g p q k cs wd R x D W) (hc : D ic = true) (hs : D is = false) (hi : (ic == is) = false) (hpq : q ≠ p) : PcC ic is g p q k cs wd R x (add D is) (W.setCell ⟨p, k, none⟩ x.1) := by
 obtain ⟨h1, h2, h3⟩ := h.post hc
 rw [hs, if_neg (by decide)] at h3
 refine ⟨(fun e => by rw [up_other hi, hc] at e; cases e), fun _ => ⟨h1, h2, ?_⟩, ?_, ?_⟩
 · rw [up_self, if_pos rfl, h3]
 · exact (Below.heap_setCell W ⟨p, k, none⟩ x.1 q hpq).trans h.pt
 · rw [up_self, if_pos rfl]
   have hx := h.box
   rw [hs, if_neg (by decide)] at hx
   exact heap_set hx x.1
theorem pc_start {y : Value × World} (hq : PtAt q p wd) (hb : wd.heap[p]? = some (.cells cs 157 (0, 0))) : PcC ic is g p q k cs wd R y (fun _ => false) wd.drew :=
 ⟨fun _ => (Below.refl _ _).drew, (fun e => by cases e), hq, hb⟩
end
end Go.Proofs.YtdopheoedpldiaaGreatDoor
