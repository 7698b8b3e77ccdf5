/-
 What takes the lists of types, as types tells it: closures in new memory, each with boxes of its own. Conditions: none.
-/
import Derived.Test.YtdopheoedpldiaaGreatDoorFnGo
set_option maxRecDepth 100000
namespace Go.Proofs.YtdopheoedpldiaaGreatDoor
open Go.RowKit
theorem info_part : (Tryz.prog.info? 161).map (fun i => (i.zero, i.size, i.bytes)) = some (some .nilFunc, 1, 8) := by kernel_rfl
structure TyX where
 m1 : Nat
 t1 : Nat
 m2 : Nat
 t2 : Nat
 m3 : Nat
 t3 : Nat
 b : Nat
 r : Value
structure MtAt (p B m t k : Nat) (most : Int) (W : World) : Prop where
 xm : BoxV m 3 (.int .i64 most) W
 xt : BoxV t 182 (.pointer (some ⟨p, k, none⟩)) W
 bm : B ≤ m
 bt : B ≤ t
theorem MtAt.on {p B m t k : Nat} {most : Int} {W W' : World} (h : MtAt p B m t k most W) (hb : Below W.heap.size W W') : MtAt p B m t k most W' := ⟨(hb.block m (heap_lt h.xm)).trans h.xm, (hb.block t (heap_lt h.xt)).trans h.xt, h.bm, h.bt⟩
theorem MtAt.grown {p B m t k : Nat} {most : Int} {W W' : World} {row : Option Nat} (h : MtAt p B m t k most W) (hg : W.grownBy W' row) (hr : ∀ j, row = some j → j < B) : MtAt p B m t k most W' :=
 ⟨(hg.block m (heap_lt h.xm) (fun e => by have := hr m e.symm; have := h.bm; omega)).trans h.xm, (hg.block t (heap_lt h.xt) (fun e => by have := hr t e.symm; have := h.bt; omega)).trans h.xt, h.bm, h.bt⟩
theorem MtAt.off {p B m t k g : Nat} {most : Int} {W W' : World} (h : MtAt p B m t k most W) (ho : Off g p W W') (hg : g < B) (hp : p < B) : MtAt p B m t k most W' :=
 ⟨(ho.block m (heap_lt h.xm) (by have := h.bm; omega) (by have := h.bm; omega)).trans h.xm, (ho.block t (heap_lt h.xt) (by have := h.bt; omega) (by have := h.bt; omega)).trans h.xt, h.bm, h.bt⟩
theorem MtAt.less {p B B' m t k : Nat} {most : Int} {W : World} (h : MtAt p B m t k most W) (hb : B' ≤ B) : MtAt p B' m t k most W := ⟨h.xm, h.xt, Nat.le_trans hb h.bm, Nat.le_trans hb h.bt⟩
theorem MtAt.kept {p B B' m t k : Nat} {most : Int} {W W' : World} (h : MtAt p B m t k most W) (hb : Below B' W W') (hl : m < B' ∧ t < B') : MtAt p B m t k most W' := ⟨(hb.block m hl.1).trans h.xm, (hb.block t hl.2).trans h.xt, h.bm, h.bt⟩
structure TyC (p q B : Nat) (wd : World) (u : Value) (xs : List Value) (x : TyX) (D : Nat → Bool) (W : World) : Prop where
 size : wd.heap.size ≤ W.heap.size
 base : B ≤ wd.heap.size
 grow : Below B wd W
 pt : PtAt q p W
 o0 : D 21 = false → W.ownsRow B 161 1 u xs.length xs
 m1 : D 6 = true → MtAt p wd.heap.size x.m1 x.t1 4 8 W
 m2 : D 12 = true → MtAt p wd.heap.size x.m2 x.t2 5 4 W
 m3 : D 18 = true → MtAt p wd.heap.size x.m3 x.t3 6 256 W
 done : D 21 = true → D 20 = true
 ult : ∀ k, u.ownBlock = some k → k < wd.heap.size
 qlt : q < B
 new : D 20 = true → D 21 = false → W.heap[x.b]? = some (.cells #[.func (.func 167) #[] #[.pointer (some ⟨q, 0, none⟩), .pointer (some ⟨x.m1, 0, none⟩), .pointer (some ⟨x.t1, 0, none⟩)], .func (.func 167) #[] #[.pointer (some ⟨q, 0, none⟩), .pointer (some ⟨x.m2, 0, none⟩), .pointer (some ⟨x.t2, 0, none⟩)], .func (.func 167) #[] #[.pointer (some ⟨q, 0, none⟩), .pointer (some ⟨x.m3, 0, none⟩), .pointer (some ⟨x.t3, 0, none⟩)], .func (.func 169) #[] #[.pointer (some ⟨q, 0, none⟩)]] 161 (0, 0))
 o1 : D 21 = true → W.ownsRow B 161 1 x.r (xs.length + 4) (xs ++ [.func (.func 167) #[] #[.pointer (some ⟨q, 0, none⟩), .pointer (some ⟨x.m1, 0, none⟩), .pointer (some ⟨x.t1, 0, none⟩)], .func (.func 167) #[] #[.pointer (some ⟨q, 0, none⟩), .pointer (some ⟨x.m2, 0, none⟩), .pointer (some ⟨x.t2, 0, none⟩)], .func (.func 167) #[] #[.pointer (some ⟨q, 0, none⟩), .pointer (some ⟨x.m3, 0, none⟩), .pointer (some ⟨x.t3, 0, none⟩)], .func (.func 169) #[] #[.pointer (some ⟨q, 0, none⟩)]])
section
variable {p q B : Nat} {wd W : World} {u : Value} {xs : List Value} {x : TyX} {D : Nat → Bool}
theorem TyC.up (h : TyC p q B wd u xs x D W) {i : Nat} (h1 : (6 == i) = false) (h2 : (12 == i) = false) (h3 : (18 == i) = false) (h4 : (20 == i) = false) (h5 : (21 == i) = false) : TyC p q B wd u xs x (add D i) W :=
 ⟨h.size, h.base, h.grow, h.pt, by rw [up_other h5]; exact h.o0, by rw [up_other h1]; exact h.m1, by rw [up_other h2]; exact h.m2, by rw [up_other h3]; exact h.m3, by rw [up_other h5, up_other h4]; exact h.done, h.ult, h.qlt, by rw [up_other h4, up_other h5]; exact h.new, by rw [up_other h5]; exact h.o1⟩
theorem TyC.ptr (h : TyC p q B wd u xs x D W) : W.cell? ⟨q, 0, none⟩ = some (.pointer (some ⟨p, 0, none⟩)) := h.pt.cell
theorem TyC.call1 (h : TyC p q B wd u xs x D W) (hn : D 20 = false) {bm bt : Nat} {W' : World} (h1 : W.heap.size ≤ bm) (h2 : W.heap.size ≤ bt) (h3 : BoxV bm 3 (.int .i64 8) W') (h4 : BoxV bt 182 (.pointer (some ⟨p, 4, none⟩)) W') (hb : Below W.heap.size W W') : TyC p q B wd u xs ⟨bm, bt, x.m2, x.t2, x.m3, x.t3, x.b, x.r⟩ (add D 6) W' := by
 refine ⟨Nat.le_trans h.size hb.size, h.base, h.grow.trans (hb.mono (Nat.le_trans h.base h.size)), (hb.block q h.pt.lt).trans h.pt, ?_, ?_, ?_, ?_, ?_, h.ult, h.qlt, ?_, ?_⟩
 · rw [up_other rfl]
   exact fun e => ownsRow_below (h.o0 e) hb
 · exact fun _ => ⟨h3, h4, Nat.le_trans h.size h1, Nat.le_trans h.size h2⟩
 · rw [up_other rfl]
   exact fun e => (h.m2 e).on hb
 · rw [up_other rfl]
   exact fun e => (h.m3 e).on hb
 · rw [up_other rfl, up_other rfl]
   exact h.done
 · rw [up_other rfl, hn]
   intro e
   cases e
 · rw [up_other rfl]
   exact fun e => absurd (h.done e) (by rw [hn]; decide)
theorem TyC.call2 (h : TyC p q B wd u xs x D W) (hn : D 20 = false) {bm bt : Nat} {W' : World} (h1 : W.heap.size ≤ bm) (h2 : W.heap.size ≤ bt) (h3 : BoxV bm 3 (.int .i64 4) W') (h4 : BoxV bt 182 (.pointer (some ⟨p, 5, none⟩)) W') (hb : Below W.heap.size W W') : TyC p q B wd u xs ⟨x.m1, x.t1, bm, bt, x.m3, x.t3, x.b, x.r⟩ (add D 12) W' := by
 refine ⟨Nat.le_trans h.size hb.size, h.base, h.grow.trans (hb.mono (Nat.le_trans h.base h.size)), (hb.block q h.pt.lt).trans h.pt, ?_, ?_, ?_, ?_, ?_, h.ult, h.qlt, ?_, ?_⟩
 · rw [up_other rfl]
   exact fun e => ownsRow_below (h.o0 e) hb
 · rw [up_other rfl]
   exact fun e => (h.m1 e).on hb
 · exact fun _ => ⟨h3, h4, Nat.le_trans h.size h1, Nat.le_trans h.size h2⟩
 · rw [up_other rfl]
   exact fun e => (h.m3 e).on hb
 · rw [up_other rfl, up_other rfl]
   exact h.done
 · rw [up_other rfl, hn]
   intro e
   cases e
 · rw [up_other rfl]
   exact fun e => absurd (h.done e) (by rw [hn]; decide)
theorem TyC.call3 (h : TyC p q B wd u xs x D W) (hn : D 20 = false) {bm bt : Nat} {W' : World} (h1 : W.heap.size ≤ bm) (h2 : W.heap.size ≤ bt) (h3 : BoxV bm 3 (.int .i64 256) W') (h4 : BoxV bt 182 (.pointer (some ⟨p, 6, none⟩)) W') (hb : Below W.heap.size W W') : TyC p q B wd u xs ⟨x.m1, x.t1, x.m2, x.t2, bm, bt, x.b, x.r⟩ (add D 18) W' := by
 refine ⟨Nat.le_trans h.size hb.size, h.base, h.grow.trans (hb.mono (Nat.le_trans h.base h.size)), (hb.block q h.pt.lt).trans h.pt, ?_, ?_, ?_, ?_, ?_, h.ult, h.qlt, ?_, ?_⟩
 · rw [up_other rfl]
   exact fun e => ownsRow_below (h.o0 e) hb
 · rw [up_other rfl]
   exact fun e => (h.m1 e).on hb
 · rw [up_other rfl]
   exact fun e => (h.m2 e).on hb
 · exact fun _ => ⟨h3, h4, Nat.le_trans h.size h1, Nat.le_trans h.size h2⟩
 · rw [up_other rfl, up_other rfl]
   exact h.done
 · rw [up_other rfl, hn]
   intro e
   cases e
 · rw [up_other rfl]
   exact fun e => absurd (h.done e) (by rw [hn]; decide)
theorem TyC.newed (h : TyC p q B wd u xs x D W) (ha : D 21 = false) : TyC p q B wd u xs ⟨x.m1, x.t1, x.m2, x.t2, x.m3, x.t3, W.heap.size, x.r⟩ (add D 20) (W.alloc (.cells #[.func (.func 167) #[] #[.pointer (some ⟨q, 0, none⟩), .pointer (some ⟨x.m1, 0, none⟩), .pointer (some ⟨x.t1, 0, none⟩)], .func (.func 167) #[] #[.pointer (some ⟨q, 0, none⟩), .pointer (some ⟨x.m2, 0, none⟩), .pointer (some ⟨x.t2, 0, none⟩)], .func (.func 167) #[] #[.pointer (some ⟨q, 0, none⟩), .pointer (some ⟨x.m3, 0, none⟩), .pointer (some ⟨x.t3, 0, none⟩)], .func (.func 169) #[] #[.pointer (some ⟨q, 0, none⟩)]] 161)) := by
 have hb := (Below.refl W.heap.size W).alloc (Nat.le_refl _) (.cells #[.func (.func 167) #[] #[.pointer (some ⟨q, 0, none⟩), .pointer (some ⟨x.m1, 0, none⟩), .pointer (some ⟨x.t1, 0, none⟩)], .func (.func 167) #[] #[.pointer (some ⟨q, 0, none⟩), .pointer (some ⟨x.m2, 0, none⟩), .pointer (some ⟨x.t2, 0, none⟩)], .func (.func 167) #[] #[.pointer (some ⟨q, 0, none⟩), .pointer (some ⟨x.m3, 0, none⟩), .pointer (some ⟨x.t3, 0, none⟩)], .func (.func 169) #[] #[.pointer (some ⟨q, 0, none⟩)]] 161)
 refine ⟨Nat.le_trans h.size hb.size, h.base, h.grow.trans (hb.mono (Nat.le_trans h.base h.size)), (hb.block q h.pt.lt).trans h.pt, ?_, ?_, ?_, ?_, ?_, h.ult, h.qlt, ?_, ?_⟩
 · rw [up_other rfl]
   exact fun e => ownsRow_below (h.o0 e) hb
 · rw [up_other rfl]
   exact fun e => (h.m1 e).on hb
 · rw [up_other rfl]
   exact fun e => (h.m2 e).on hb
 · rw [up_other rfl]
   exact fun e => (h.m3 e).on hb
 · exact fun _ => up_self
 · exact fun _ _ => heap_alloc_new W _
 · rw [up_other rfl, ha]
   intro e
   cases e
theorem TyC.appends (h : TyC p q B wd u xs x D W) (h20 : D 20 = true) (ha : D 21 = false) (hxs : xs.length ≤ 1) :
   ∃ r W', (Builtin.append_ #[160, 160] 160 #[u, .slice (some ⟨x.b, 0, none⟩) 4 4]).run Tryz.prog W = .ok r W' ∧ TyC p q B wd u xs ⟨x.m1, x.t1, x.m2, x.t2, x.m3, x.t3, x.b, r⟩ (add D 21) W' := by
 obtain ⟨i0, hi, hz0, hz1, hz2⟩ := info_parts info_part
 have hO := h.o0 ha
 have hx := h.new h20 ha
 obtain ⟨r, W', hr, ho, hg, _⟩ := run_append_own (P := Tryz.prog) W B 160 160 161 i0 .nilFunc 1 8 Tryz.underlying160 hi hz0 hz1 hz2 rfl (by decide) u xs.length xs hO ⟨x.b, 0, none⟩ 4 4 [.func (.func 167) #[] #[.pointer (some ⟨q, 0, none⟩), .pointer (some ⟨x.m1, 0, none⟩), .pointer (some ⟨x.t1, 0, none⟩)], .func (.func 167) #[] #[.pointer (some ⟨q, 0, none⟩), .pointer (some ⟨x.m2, 0, none⟩), .pointer (some ⟨x.t2, 0, none⟩)], .func (.func 167) #[] #[.pointer (some ⟨q, 0, none⟩), .pointer (some ⟨x.m3, 0, none⟩), .pointer (some ⟨x.t3, 0, none⟩)], .func (.func 169) #[] #[.pointer (some ⟨q, 0, none⟩)]] rfl
   (World.news_of_block hx) (fun v hv => by
     simp only [List.mem_cons, List.not_mem_nil, or_false] at hv
     rcases hv with rfl | rfl | rfl | rfl <;> rfl) (by unfold maxLen; omega) (by omega) (Nat.le_trans h.base h.size)
 have hk : ∀ b, u.ownBlock = some b → B ≤ b := fun b e => (hO.lt b e).1
 have hm : ∀ j, u.ownBlock = some j → j < wd.heap.size := h.ult
 refine ⟨r, W', hr, Nat.le_trans h.size hg.size, h.base, h.grow.grown hg (Nat.le_trans h.base h.size) hk, (hg.block q h.pt.lt (fun e => by have := hk q e.symm; have := h.qlt; omega)).trans h.pt, ?_, ?_, ?_, ?_, ?_, h.ult, h.qlt, ?_, ?_⟩
 · rw [up_self]
   intro e
   cases e
 · rw [up_other rfl]
   exact fun e => (h.m1 e).grown hg hm
 · rw [up_other rfl]
   exact fun e => (h.m2 e).grown hg hm
 · rw [up_other rfl]
   exact fun e => (h.m3 e).grown hg hm
 · exact fun _ => (up_other rfl).trans h20
 · rw [up_self]
   intro _ e
   cases e
 · exact fun _ => ho
end
def typesG (p q : Nat) (u : Value) (x : TyX) : Nat → Value → Prop
 | 0, v => v = u
 | 1, v => v = .func (.func 166) #[] #[.pointer (some ⟨q, 0, none⟩)]
 | 2, v => v = .pointer (some ⟨p, 0, none⟩)
 | 3, v => v = .pointer (some ⟨p, 0, none⟩)
 | 4, v => v = .pointer (some ⟨p, 1, none⟩)
 | 5, v => v = .pointer (some ⟨p, 4, none⟩)
 | 6, v => v = .func (.func 167) #[] #[.pointer (some ⟨q, 0, none⟩), .pointer (some ⟨x.m1, 0, none⟩), .pointer (some ⟨x.t1, 0, none⟩)]
 | 7, v => v = .func (.func 166) #[] #[.pointer (some ⟨q, 0, none⟩)]
 | 8, v => v = .pointer (some ⟨p, 0, none⟩)
 | 9, v => v = .pointer (some ⟨p, 0, none⟩)
 | 10, v => v = .pointer (some ⟨p, 1, none⟩)
 | 11, v => v = .pointer (some ⟨p, 5, none⟩)
 | 12, v => v = .func (.func 167) #[] #[.pointer (some ⟨q, 0, none⟩), .pointer (some ⟨x.m2, 0, none⟩), .pointer (some ⟨x.t2, 0, none⟩)]
 | 13, v => v = .func (.func 166) #[] #[.pointer (some ⟨q, 0, none⟩)]
 | 14, v => v = .pointer (some ⟨p, 0, none⟩)
 | 15, v => v = .pointer (some ⟨p, 0, none⟩)
 | 16, v => v = .pointer (some ⟨p, 1, none⟩)
 | 17, v => v = .pointer (some ⟨p, 6, none⟩)
 | 18, v => v = .func (.func 167) #[] #[.pointer (some ⟨q, 0, none⟩), .pointer (some ⟨x.m3, 0, none⟩), .pointer (some ⟨x.t3, 0, none⟩)]
 | 19, v => v = .func (.func 169) #[] #[.pointer (some ⟨q, 0, none⟩)]
 | 20, v => v = .slice (some ⟨x.b, 0, none⟩) 4 4
 | 21, v => v = x.r
 | 22, v => v = x.r
 | _, _ => True
theorem types_c1 {p q : Nat} {u : Value} {x : TyX} {D : Nat → Bool} {z y : Nat} (h6 : D 6 = false) : ∀ j v, D j = true → typesG p q u x j v → typesG p q u ⟨z, y, x.m2, x.t2, x.m3, x.t3, x.b, x.r⟩ j v
 | 0, _, _, h => h
 | 1, _, _, h => h
 | 2, _, _, h => h
 | 3, _, _, h => h
 | 4, _, _, h => h
 | 5, _, _, h => h
 | 6, _, hj, _ => by rw [h6] at hj; cases hj
 | 7, _, _, h => h
 | 8, _, _, h => h
 | 9, _, _, h => h
 | 10, _, _, h => h
 | 11, _, _, h => h
 | 12, _, _, h => h
 | 13, _, _, h => h
 | 14, _, _, h => h
 | 15, _, _, h => h
 | 16, _, _, h => h
 | 17, _, _, h => h
 | 18, _, _, h => h
 | 19, _, _, h => h
 | 20, _, _, h => h
 | 21, _, _, h => h
 | 22, _, _, h => h
 | _ + 23, _, _, h => h
theorem types_c2 {p q : Nat} {u : Value} {x : TyX} {D : Nat → Bool} {z y : Nat} (h12 : D 12 = false) : ∀ j v, D j = true → typesG p q u x j v → typesG p q u ⟨x.m1, x.t1, z, y, x.m3, x.t3, x.b, x.r⟩ j v
 | 0, _, _, h => h
 | 1, _, _, h => h
 | 2, _, _, h => h
 | 3, _, _, h => h
 | 4, _, _, h => h
 | 5, _, _, h => h
 | 6, _, _, h => h
 | 7, _, _, h => h
 | 8, _, _, h => h
 | 9, _, _, h => h
 | 10, _, _, h => h
 | 11, _, _, h => h
 | 12, _, hj, _ => by rw [h12] at hj; cases hj
 | 13, _, _, h => h
 | 14, _, _, h => h
 | 15, _, _, h => h
 | 16, _, _, h => h
 | 17, _, _, h => h
 | 18, _, _, h => h
 | 19, _, _, h => h
 | 20, _, _, h => h
 | 21, _, _, h => h
 | 22, _, _, h => h
 | _ + 23, _, _, h => h
theorem types_c3 {p q : Nat} {u : Value} {x : TyX} {D : Nat → Bool} {z y : Nat} (h18 : D 18 = false) : ∀ j v, D j = true → typesG p q u x j v → typesG p q u ⟨x.m1, x.t1, x.m2, x.t2, z, y, x.b, x.r⟩ j v
 | 0, _, _, h => h
 | 1, _, _, h => h
 | 2, _, _, h => h
 | 3, _, _, h => h
 | 4, _, _, h => h
 | 5, _, _, h => h
 | 6, _, _, h => h
 | 7, _, _, h => h
 | 8, _, _, h => h
 | 9, _, _, h => h
 | 10, _, _, h => h
 | 11, _, _, h => h
 | 12, _, _, h => h
 | 13, _, _, h => h
 | 14, _, _, h => h
 | 15, _, _, h => h
 | 16, _, _, h => h
 | 17, _, _, h => h
 | 18, _, hj, _ => by rw [h18] at hj; cases hj
 | 19, _, _, h => h
 | 20, _, _, h => h
 | 21, _, _, h => h
 | 22, _, _, h => h
 | _ + 23, _, _, h => h
theorem types_n {p q : Nat} {u : Value} {x : TyX} {D : Nat → Bool} {z : Nat} (h20 : D 20 = false) : ∀ j v, D j = true → typesG p q u x j v → typesG p q u ⟨x.m1, x.t1, x.m2, x.t2, x.m3, x.t3, z, x.r⟩ j v
 | 0, _, _, h => h
 | 1, _, _, h => h
 | 2, _, _, h => h
 | 3, _, _, h => h
 | 4, _, _, h => h
 | 5, _, _, h => h
 | 6, _, _, h => h
 | 7, _, _, h => h
 | 8, _, _, h => h
 | 9, _, _, h => h
 | 10, _, _, h => h
 | 11, _, _, h => h
 | 12, _, _, h => h
 | 13, _, _, h => h
 | 14, _, _, h => h
 | 15, _, _, h => h
 | 16, _, _, h => h
 | 17, _, _, h => h
 | 18, _, _, h => h
 | 19, _, _, h => h
 | 20, _, hj, _ => by rw [h20] at hj; cases hj
 | 21, _, _, h => h
 | 22, _, _, h => h
 | _ + 23, _, _, h => h
theorem types_a {p q : Nat} {u : Value} {x : TyX} {D : Nat → Bool} {z : Value} (h21 : D 21 = false) (h22 : D 22 = false) : ∀ j v, D j = true → typesG p q u x j v → typesG p q u ⟨x.m1, x.t1, x.m2, x.t2, x.m3, x.t3, x.b, z⟩ j v
 | 0, _, _, h => h
 | 1, _, _, h => h
 | 2, _, _, h => h
 | 3, _, _, h => h
 | 4, _, _, h => h
 | 5, _, _, h => h
 | 6, _, _, h => h
 | 7, _, _, h => h
 | 8, _, _, h => h
 | 9, _, _, h => h
 | 10, _, _, h => h
 | 11, _, _, h => h
 | 12, _, _, h => h
 | 13, _, _, h => h
 | 14, _, _, h => h
 | 15, _, _, h => h
 | 16, _, _, h => h
 | 17, _, _, h => h
 | 18, _, _, h => h
 | 19, _, _, h => h
 | 20, _, _, h => h
 | 21, _, hj, _ => by rw [h21] at hj; cases hj
 | 22, _, hj, _ => by rw [h22] at hj; cases hj
 | _ + 23, _, _, h => h
structure TyK (g p q b : Nat) (cs : Array Value) (bx : List (Nat × Nat × Nat × Int)) (W : World) : Prop where
 pt : PtAt q p W
 at_ : W.heap[b]? = some (.cells cs 161 (0, 0))
 bx : ∀ e ∈ bx, MtAt p (p + 1) e.1 e.2.1 e.2.2.1 e.2.2.2 W
 gp : g < p
 qp : p < q
 bp : p < b
theorem TyK.off {g p q b : Nat} {cs : Array Value} {bx : List (Nat × Nat × Nat × Int)} {W W' : World} (h : TyK g p q b cs bx W) (ho : Off g p W W') : TyK g p q b cs bx W' :=
 ⟨h.pt.off ho (by have := h.gp; have := h.qp; omega) (by have := h.qp; omega), (ho.block b (heap_lt h.at_) (by have := h.gp; have := h.bp; omega) (by have := h.bp; omega)).trans h.at_, fun e he => (h.bx e he).off ho (by have := h.gp; omega) (by omega), h.gp, h.qp, h.bp⟩
theorem TyK.list {g p q b : Nat} {cs : Array Value} {bx : List (Nat × Nat × Nat × Int)} {W : World} (h : TyK g p q b cs bx W) {m t k : Nat} {most : Int} (hm : (m, t, k, most) ∈ bx) : ListAt g p q m t k most W := by
 have e := h.bx _ hm
 have h1 := e.bm
 have h2 := e.bt
 have h3 := h.gp
 have h4 := h.qp
 simp only at h1 h2
 exact ⟨h.pt, by omega, by omega, e.xm, e.xt, by omega, by omega, by omega, by omega⟩
theorem four_of {m : Nat} (h : m < 4) : m = 0 ∨ m = 1 ∨ m = 2 ∨ m = 3 := by omega
theorem five_of {m : Nat} (h : m < 5) : m = 0 ∨ m = 1 ∨ m = 2 ∨ m = 3 ∨ m = 4 := by omega
theorem row_get {w : World} {base n : Nat} {e : TypeId} {v : Value} {xs : List Value} (h : w.ownsRow base e 1 v n xs) (hn : 0 < n) : ∃ b c cs, v = .slice (some ⟨b, 0, none⟩) n c ∧ base ≤ b ∧ w.heap[b]? = some (.cells cs e (0, 0)) ∧ ∀ j, j < n → cs[j]? = xs[j]? := by
 rcases h.2 with ⟨_, h0⟩ | ⟨b, cap, cur, hv, hb, hh, _, _, _, ht⟩
 · omega
 · refine ⟨b, cap, cur, hv, hb, hh, fun j hj => ?_⟩
   have e := congrArg (fun z => z[j]?) ht
   simp only [Nat.mul_one, List.getElem?_take, hj, if_true] at e
   rw [← Array.getElem?_toList, e]
theorem types_parts {g p q b : Nat} {cs : Array Value} {bx : List (Nat × Nat × Nat × Int)} {xs : List Value} {ps : List (Fn.St → Fn.St)} {c : Nat} {J : Fn.St → Prop} (hJ : J = Fn.St.Fresh) {w w' : World} (hK : TyK g p q b cs bx w') (hcs : ∀ j, j < ps.length → cs[j]? = xs[j]?)
   (hP : ∀ j (h : j < ps.length) W, TyK g p q b cs bx W → ∃ k cap, xs[j]? = some (.func (.func k) #[] cap) ∧ Enters k ∧ ∀ v t, t.Ok → TkAt g p v t W → Calls Tryz.prog k cap W (PartP g p (ps[j] t) W))
   (hO : ∀ j (h : j < ps.length) (t : Fn.St), t.Fresh → (ps[j] t).Fresh) (hb : Below w.heap.size w w') : AllP g p ps J J w (.returned (.slice (some ⟨b, 0, none⟩) ps.length c)) w' := by
 subst hJ
 refine ⟨some ⟨b, 0, none⟩, c, TyK g p q b cs bx, fun _ => Fn.St.Fresh, rfl, ⟨fun _ _ k ho => k.off ho, fun j hj W k => ?_, fun j hj t h _ => hO j hj t h⟩, fun _ h => h, fun _ h => h, hK, hb⟩
 obtain ⟨f, cap, hf, he, hc⟩ := hP j hj W k
 exact ⟨b, f, cap, rfl, (cell_of_row W b j _ _ _ k.at_).trans ((hcs j hj).trans hf), he, fun v t hI ht => hc v t hI.1 ht⟩
set_option maxHeartbeats 8000000 in
theorem types_all (g p : Nat) (v : FnV) (t : Fn.St) (W : World) (h : TkAt g p v t W) :
   Calls Tryz.prog 137 #[.pointer (some ⟨p, 0, none⟩)] W (AllP g p (Fn.gTypes t) Fn.St.Fresh Fn.St.Fresh W) := by
 have hb0 := (Below.refl W.heap.size W).alloc (Nat.le_refl _) (.cells #[.pointer (some ⟨p, 0, none⟩)] 178)
 have HP := Lib.hid (show PtAt W.heap.size p (W.alloc (.cells #[.pointer (some ⟨p, 0, none⟩)] 178)) from heap_alloc_new W _)
 have c2 : (W.alloc (.cells #[.pointer (some ⟨p, 0, none⟩)] 178)).cell? ⟨p, 2, none⟩ = some (.bool v.inner) := (h.on hb0).cell 2
 have HL := Lib.hid (And.intro h.gp h.lt)
 have hi := h.own.inner
 have HS := Lib.hid (show W.heap.size < (W.alloc (.cells #[.pointer (some ⟨p, 0, none⟩)] 178)).heap.size by simp)
 have HB0 := Lib.hid hb0
 have p0 := HP.out.cell
 clear h hb0
 unfold Fn.gTypes
 rw [hi] at c2
 clear hi
 generalize t.f.inner = b at *
 cases b with
 | true =>
   show Calls _ _ _ _ (AllP g p [Fn.pOuter, Fn.pParams, Fn.pResults, Fn.pLocals, Fn.pFits] Fn.St.Fresh Fn.St.Fresh W)
   go_enter Tryz.func137, Tryz.ntmps137
   go_wp2_with (first
     | (go_at_call 166; go_must (refine (mklist_any p 3 W.heap.size 4 _).mono ?_; rintro _ w1 ⟨m0, t0, rfl, a1, a2, a3, a4, a5⟩; obtain ⟨i0, hi, hz0, hz1, hz2⟩ := info_parts info_part; obtain ⟨r0, w2, hr0, ho0, hg0, _⟩ := run_append_own (P := Tryz.prog) (w1.alloc (.cells #[.func (.func 167) #[] #[.pointer (some ⟨W.heap.size, 0, none⟩), .pointer (some ⟨m0, 0, none⟩), .pointer (some ⟨t0, 0, none⟩)]] 161)) w1.heap.size 160 160 161 i0 .nilFunc 1 8 Tryz.underlying160 hi hz0 hz1 hz2 rfl (by decide) (.slice none 0 0) 0 [] (World.ownsRow_nil _ _ _ _) ⟨w1.heap.size, 0, none⟩ 1 1 [.func (.func 167) #[] #[.pointer (some ⟨W.heap.size, 0, none⟩), .pointer (some ⟨m0, 0, none⟩), .pointer (some ⟨t0, 0, none⟩)]] rfl (World.news_of_block (heap_alloc_new w1 _)) (fun v hv => by rw [List.mem_singleton] at hv; subst hv; rfl) (by decide) (by decide) (by simp); have HR := Lib.hid hr0; have HG := Lib.hid hg0; have HO := Lib.hid ho0; have HA := Lib.hid (And.intro a1 (And.intro a2 (And.intro a3 (And.intro a4 a5)))); clear hr0 hg0 ho0 a1 a2 a3 a4 a5 hi hz0 hz1 hz2))
     | (at_builtin; refine Lib.wpList_append_run _ rfl (.tmp 11) (.tmp 18) _ _ rfl _ _ rfl rfl _ _ HR.out ?_))
   clear HR
   generalize hW1 : (W.alloc (.cells #[.pointer (some ⟨p, 0, none⟩)] 178)) = W1 at *
   generalize hq : W.heap.size = q at *
   have HQ := Lib.hid hq
   clear hW1 hq
   have hb1 := (Below.refl w1.heap.size w1).alloc (Nat.le_refl _) (.cells #[.func (.func 167) #[] #[.pointer (some ⟨q, 0, none⟩), .pointer (some ⟨m0, 0, none⟩), .pointer (some ⟨t0, 0, none⟩)]] 161)
   have hbw : Below w1.heap.size w1 w2 := hb1.grown HG.out hb1.size (fun k e => by cases e)
   have hqw : q < w1.heap.size := Nat.lt_of_lt_of_le HS.out HA.out.2.2.2.2.size
   have hp2 : PtAt q p w2 := (hbw.block q hqw).trans ((HA.out.2.2.2.2.block q HS.out).trans HP.out)
   have HMl := Lib.hid (show m0 < w1.heap.size ∧ t0 < w1.heap.size from ⟨heap_lt HA.out.2.2.1, heap_lt HA.out.2.2.2.1⟩)
   have HM := Lib.hid (show MtAt p W1.heap.size m0 t0 3 4 w2 from MtAt.kept ⟨HA.out.2.2.1, HA.out.2.2.2.1, HA.out.1, HA.out.2.1⟩ hbw HMl.out)
   have HB2 := Lib.hid (HA.out.2.2.2.2.trans (hbw.mono HA.out.2.2.2.2.size))
   have HSz := Lib.hid (And.intro HA.out.2.2.2.2.size hbw.size)
   have hC : TyC p q w1.heap.size w2 r0 [.func (.func 167) #[] #[.pointer (some ⟨q, 0, none⟩), .pointer (some ⟨m0, 0, none⟩), .pointer (some ⟨t0, 0, none⟩)]] ⟨0, 0, 0, 0, 0, 0, 0, undef⟩ (fun _ => false) w2.drew :=
     ⟨Nat.le_refl _, hbw.size, (Below.refl _ _).drew, hp2, fun _ => HO.out, (fun e => by cases e), (fun e => by cases e), (fun e => by cases e), (fun e => by cases e), (fun k e => (HO.out.lt k e).2), hqw, (fun e => by cases e), (fun e => by cases e)⟩
   have hxs : ([.func (.func 167) #[] #[.pointer (some ⟨q, 0, none⟩), .pointer (some ⟨m0, 0, none⟩), .pointer (some ⟨t0, 0, none⟩)]] : List Value).length ≤ 1 := Nat.le_refl _
   clear hb1 hbw hqw hp2 HG HA
   refine region_k (⟨0, 0, 0, 0, 0, 0, 0, undef⟩ : TyX) 42 (fun x D W' => TyC p q w1.heap.size w2 (r0) [.func (.func 167) #[] #[.pointer (some ⟨q, 0, none⟩), .pointer (some ⟨m0, 0, none⟩), .pointer (some ⟨t0, 0, none⟩)]] x D W') (typesG p q (r0)) (by kernel_rfl) (by kernel_rfl) (by kernel_rfl) rfl rfl hC ?_ ?_
   · refine ⟨?_, ?_, ?_, ?_, ?_, ?_, ?_, ?_, ?_, ?_, ?_, ?_, ?_, ?_, ?_, ?_, ?_, ?_, ?_, ?_, ?_, ?_, ?_, trivial⟩
     · intro x D a w hI hdep hD0 K hK
       have e4 : a.eval (.tmp 4) = r0 := hI.read 4 rfl
       refine ok_value (wanted_none rfl) (v := r0) ?_ (hK x _ _ (hI.world.up rfl rfl rfl rfl rfl) (fun _ _ _ h => h) rfl)
       obtain ⟨ec, ef⟩ := ecs a; clear hI hdep hK; generalize a.eval = ρ at e4 ec ef ⊢; go_simp
     · intro x D a w hI hdep hD0 K hK
       have e3 : a.eval (.tmp 3) = .func (.func 166) #[] #[.pointer (some ⟨q, 0, none⟩)] := hI.read 3 rfl
       refine ok_value (wanted_none rfl) (v := .func (.func 166) #[] #[.pointer (some ⟨q, 0, none⟩)]) ?_ (hK x _ _ (hI.world.up rfl rfl rfl rfl rfl) (fun _ _ _ h => h) rfl)
       obtain ⟨ec, ef⟩ := ecs a; clear hI hdep hK; generalize a.eval = ρ at e3 ec ef ⊢; go_simp
     · intro x D a w hI hdep hD0 K hK
       have e1 : a.eval (.tmp 1) = .pointer (some ⟨q, 0, none⟩) := hI.read 1 rfl
       have z0 := hI.world.ptr
       refine ok_value (wanted_none rfl) (v := .pointer (some ⟨p, 0, none⟩)) ?_ (hK x _ _ (hI.world.up rfl rfl rfl rfl rfl) (fun _ _ _ h => h) rfl)
       obtain ⟨ec, ef⟩ := ecs a; clear hI hdep hK; generalize a.eval = ρ at e1 ec ef ⊢; go_simp
     · intro x D a w hI hdep hD0 K hK
       have e22 : a.eval (.tmp 22) = .pointer (some ⟨p, 0, none⟩) := hI.good 2 22 (dep_of hdep 2 rfl) rfl
       refine ok_value (wanted_none rfl) (v := .pointer (some ⟨p, 0, none⟩)) ?_ (hK x _ _ (hI.world.up rfl rfl rfl rfl rfl) (fun _ _ _ h => h) rfl)
       obtain ⟨ec, ef⟩ := ecs a; clear hI hdep hK; generalize a.eval = ρ at e22 ec ef ⊢; go_simp
     · intro x D a w hI hdep hD0 K hK
       have e23 : a.eval (.tmp 23) = .pointer (some ⟨p, 0, none⟩) := hI.good 3 23 (dep_of hdep 3 rfl) rfl
       refine ok_value (wanted_none rfl) (v := .pointer (some ⟨p, 1, none⟩)) ?_ (hK x _ _ (hI.world.up rfl rfl rfl rfl rfl) (fun _ _ _ h => h) rfl)
       obtain ⟨ec, ef⟩ := ecs a; clear hI hdep hK; generalize a.eval = ρ at e23 ec ef ⊢; go_simp
     · intro x D a w hI hdep hD0 K hK
       have e24 : a.eval (.tmp 24) = .pointer (some ⟨p, 1, none⟩) := hI.good 4 24 (dep_of hdep 4 rfl) rfl
       refine ok_value (wanted_none rfl) (v := .pointer (some ⟨p, 4, none⟩)) ?_ (hK x _ _ (hI.world.up rfl rfl rfl rfl rfl) (fun _ _ _ h => h) rfl)
       obtain ⟨ec, ef⟩ := ecs a; clear hI hdep hK; generalize a.eval = ρ at e24 ec ef ⊢; go_simp
     · intro x D a w hI hdep hD0 K hK
       have e21 : a.eval (.tmp 21) = .func (.func 166) #[] #[.pointer (some ⟨q, 0, none⟩)] := hI.good 1 21 (dep_of hdep 1 rfl) rfl
       have e25 : a.eval (.tmp 25) = .pointer (some ⟨p, 4, none⟩) := hI.good 5 25 (dep_of hdep 5 rfl) rfl
       refine ok_call (wanted_none rfl) (f := 166) (args := #[.pointer (some ⟨p, 4, none⟩), .int .i64 8, .pointer (some ⟨q, 0, none⟩)]) ?_ (mklist_any p 4 q 8 w) ?_
       · obtain ⟨ec, ef⟩ := ecs a; clear hI hdep hK; generalize a.eval = ρ at e21 e25 ec ef ⊢; go_simp
       · rintro e w2 ⟨bm, bt, rfl, h1, h2, h3, h4, h5⟩
         exact ⟨_, rfl, hK ⟨bm, bt, x.m2, x.t2, x.m3, x.t3, x.b, x.r⟩ _ _ (hI.world.call1 (hI.not_up hD0 20 rfl) h1 h2 h3 h4 h5) (types_c1 hD0) rfl⟩
     · intro x D a w hI hdep hD0 K hK
       have e3 : a.eval (.tmp 3) = .func (.func 166) #[] #[.pointer (some ⟨q, 0, none⟩)] := hI.read 3 rfl
       refine ok_value (wanted_none rfl) (v := .func (.func 166) #[] #[.pointer (some ⟨q, 0, none⟩)]) ?_ (hK x _ _ (hI.world.up rfl rfl rfl rfl rfl) (fun _ _ _ h => h) rfl)
       obtain ⟨ec, ef⟩ := ecs a; clear hI hdep hK; generalize a.eval = ρ at e3 ec ef ⊢; go_simp
     · intro x D a w hI hdep hD0 K hK
       have e1 : a.eval (.tmp 1) = .pointer (some ⟨q, 0, none⟩) := hI.read 1 rfl
       have z0 := hI.world.ptr
       refine ok_value (wanted_none rfl) (v := .pointer (some ⟨p, 0, none⟩)) ?_ (hK x _ _ (hI.world.up rfl rfl rfl rfl rfl) (fun _ _ _ h => h) rfl)
       obtain ⟨ec, ef⟩ := ecs a; clear hI hdep hK; generalize a.eval = ρ at e1 ec ef ⊢; go_simp
     · intro x D a w hI hdep hD0 K hK
       have e28 : a.eval (.tmp 28) = .pointer (some ⟨p, 0, none⟩) := hI.good 8 28 (dep_of hdep 8 rfl) rfl
       refine ok_value (wanted_none rfl) (v := .pointer (some ⟨p, 0, none⟩)) ?_ (hK x _ _ (hI.world.up rfl rfl rfl rfl rfl) (fun _ _ _ h => h) rfl)
       obtain ⟨ec, ef⟩ := ecs a; clear hI hdep hK; generalize a.eval = ρ at e28 ec ef ⊢; go_simp
     · intro x D a w hI hdep hD0 K hK
       have e29 : a.eval (.tmp 29) = .pointer (some ⟨p, 0, none⟩) := hI.good 9 29 (dep_of hdep 9 rfl) rfl
       refine ok_value (wanted_none rfl) (v := .pointer (some ⟨p, 1, none⟩)) ?_ (hK x _ _ (hI.world.up rfl rfl rfl rfl rfl) (fun _ _ _ h => h) rfl)
       obtain ⟨ec, ef⟩ := ecs a; clear hI hdep hK; generalize a.eval = ρ at e29 ec ef ⊢; go_simp
     · intro x D a w hI hdep hD0 K hK
       have e30 : a.eval (.tmp 30) = .pointer (some ⟨p, 1, none⟩) := hI.good 10 30 (dep_of hdep 10 rfl) rfl
       refine ok_value (wanted_none rfl) (v := .pointer (some ⟨p, 5, none⟩)) ?_ (hK x _ _ (hI.world.up rfl rfl rfl rfl rfl) (fun _ _ _ h => h) rfl)
       obtain ⟨ec, ef⟩ := ecs a; clear hI hdep hK; generalize a.eval = ρ at e30 ec ef ⊢; go_simp
     · intro x D a w hI hdep hD0 K hK
       have e27 : a.eval (.tmp 27) = .func (.func 166) #[] #[.pointer (some ⟨q, 0, none⟩)] := hI.good 7 27 (dep_of hdep 7 rfl) rfl
       have e31 : a.eval (.tmp 31) = .pointer (some ⟨p, 5, none⟩) := hI.good 11 31 (dep_of hdep 11 rfl) rfl
       refine ok_call (wanted_none rfl) (f := 166) (args := #[.pointer (some ⟨p, 5, none⟩), .int .i64 4, .pointer (some ⟨q, 0, none⟩)]) ?_ (mklist_any p 5 q 4 w) ?_
       · obtain ⟨ec, ef⟩ := ecs a; clear hI hdep hK; generalize a.eval = ρ at e27 e31 ec ef ⊢; go_simp
       · rintro e w2 ⟨bm, bt, rfl, h1, h2, h3, h4, h5⟩
         exact ⟨_, rfl, hK ⟨x.m1, x.t1, bm, bt, x.m3, x.t3, x.b, x.r⟩ _ _ (hI.world.call2 (hI.not_up hD0 20 rfl) h1 h2 h3 h4 h5) (types_c2 hD0) rfl⟩
     · intro x D a w hI hdep hD0 K hK
       have e3 : a.eval (.tmp 3) = .func (.func 166) #[] #[.pointer (some ⟨q, 0, none⟩)] := hI.read 3 rfl
       refine ok_value (wanted_none rfl) (v := .func (.func 166) #[] #[.pointer (some ⟨q, 0, none⟩)]) ?_ (hK x _ _ (hI.world.up rfl rfl rfl rfl rfl) (fun _ _ _ h => h) rfl)
       obtain ⟨ec, ef⟩ := ecs a; clear hI hdep hK; generalize a.eval = ρ at e3 ec ef ⊢; go_simp
     · intro x D a w hI hdep hD0 K hK
       have e1 : a.eval (.tmp 1) = .pointer (some ⟨q, 0, none⟩) := hI.read 1 rfl
       have z0 := hI.world.ptr
       refine ok_value (wanted_none rfl) (v := .pointer (some ⟨p, 0, none⟩)) ?_ (hK x _ _ (hI.world.up rfl rfl rfl rfl rfl) (fun _ _ _ h => h) rfl)
       obtain ⟨ec, ef⟩ := ecs a; clear hI hdep hK; generalize a.eval = ρ at e1 ec ef ⊢; go_simp
     · intro x D a w hI hdep hD0 K hK
       have e34 : a.eval (.tmp 34) = .pointer (some ⟨p, 0, none⟩) := hI.good 14 34 (dep_of hdep 14 rfl) rfl
       refine ok_value (wanted_none rfl) (v := .pointer (some ⟨p, 0, none⟩)) ?_ (hK x _ _ (hI.world.up rfl rfl rfl rfl rfl) (fun _ _ _ h => h) rfl)
       obtain ⟨ec, ef⟩ := ecs a; clear hI hdep hK; generalize a.eval = ρ at e34 ec ef ⊢; go_simp
     · intro x D a w hI hdep hD0 K hK
       have e35 : a.eval (.tmp 35) = .pointer (some ⟨p, 0, none⟩) := hI.good 15 35 (dep_of hdep 15 rfl) rfl
       refine ok_value (wanted_none rfl) (v := .pointer (some ⟨p, 1, none⟩)) ?_ (hK x _ _ (hI.world.up rfl rfl rfl rfl rfl) (fun _ _ _ h => h) rfl)
       obtain ⟨ec, ef⟩ := ecs a; clear hI hdep hK; generalize a.eval = ρ at e35 ec ef ⊢; go_simp
     · intro x D a w hI hdep hD0 K hK
       have e36 : a.eval (.tmp 36) = .pointer (some ⟨p, 1, none⟩) := hI.good 16 36 (dep_of hdep 16 rfl) rfl
       refine ok_value (wanted_none rfl) (v := .pointer (some ⟨p, 6, none⟩)) ?_ (hK x _ _ (hI.world.up rfl rfl rfl rfl rfl) (fun _ _ _ h => h) rfl)
       obtain ⟨ec, ef⟩ := ecs a; clear hI hdep hK; generalize a.eval = ρ at e36 ec ef ⊢; go_simp
     · intro x D a w hI hdep hD0 K hK
       have e33 : a.eval (.tmp 33) = .func (.func 166) #[] #[.pointer (some ⟨q, 0, none⟩)] := hI.good 13 33 (dep_of hdep 13 rfl) rfl
       have e37 : a.eval (.tmp 37) = .pointer (some ⟨p, 6, none⟩) := hI.good 17 37 (dep_of hdep 17 rfl) rfl
       refine ok_call (wanted_none rfl) (f := 166) (args := #[.pointer (some ⟨p, 6, none⟩), .int .i64 256, .pointer (some ⟨q, 0, none⟩)]) ?_ (mklist_any p 6 q 256 w) ?_
       · obtain ⟨ec, ef⟩ := ecs a; clear hI hdep hK; generalize a.eval = ρ at e33 e37 ec ef ⊢; go_simp
       · rintro e w2 ⟨bm, bt, rfl, h1, h2, h3, h4, h5⟩
         exact ⟨_, rfl, hK ⟨x.m1, x.t1, x.m2, x.t2, bm, bt, x.b, x.r⟩ _ _ (hI.world.call3 (hI.not_up hD0 20 rfl) h1 h2 h3 h4 h5) (types_c3 hD0) rfl⟩
     · intro x D a w hI hdep hD0 K hK
       have e1 : a.eval (.tmp 1) = .pointer (some ⟨q, 0, none⟩) := hI.read 1 rfl
       refine ok_value (wanted_none rfl) (v := .func (.func 169) #[] #[.pointer (some ⟨q, 0, none⟩)]) ?_ (hK x _ _ (hI.world.up rfl rfl rfl rfl rfl) (fun _ _ _ h => h) rfl)
       obtain ⟨ec, ef⟩ := ecs a; clear hI hdep hK; generalize a.eval = ρ at e1 ec ef ⊢; go_simp
     · intro x D a w hI hdep hD0 K hK
       have e26 : a.eval (.tmp 26) = .func (.func 167) #[] #[.pointer (some ⟨q, 0, none⟩), .pointer (some ⟨x.m1, 0, none⟩), .pointer (some ⟨x.t1, 0, none⟩)] := hI.good 6 26 (dep_of hdep 6 rfl) rfl
       have e32 : a.eval (.tmp 32) = .func (.func 167) #[] #[.pointer (some ⟨q, 0, none⟩), .pointer (some ⟨x.m2, 0, none⟩), .pointer (some ⟨x.t2, 0, none⟩)] := hI.good 12 32 (dep_of hdep 12 rfl) rfl
       have e38 : a.eval (.tmp 38) = .func (.func 167) #[] #[.pointer (some ⟨q, 0, none⟩), .pointer (some ⟨x.m3, 0, none⟩), .pointer (some ⟨x.t3, 0, none⟩)] := hI.good 18 38 (dep_of hdep 18 rfl) rfl
       have e39 : a.eval (.tmp 39) = .func (.func 169) #[] #[.pointer (some ⟨q, 0, none⟩)] := hI.good 19 39 (dep_of hdep 19 rfl) rfl
       refine ok_new (wanted_none rfl) (v := .slice (some ⟨w.heap.size, 0, none⟩) 4 4) (w' := w.alloc (.cells #[.func (.func 167) #[] #[.pointer (some ⟨q, 0, none⟩), .pointer (some ⟨x.m1, 0, none⟩), .pointer (some ⟨x.t1, 0, none⟩)], .func (.func 167) #[] #[.pointer (some ⟨q, 0, none⟩), .pointer (some ⟨x.m2, 0, none⟩), .pointer (some ⟨x.t2, 0, none⟩)], .func (.func 167) #[] #[.pointer (some ⟨q, 0, none⟩), .pointer (some ⟨x.m3, 0, none⟩), .pointer (some ⟨x.t3, 0, none⟩)], .func (.func 169) #[] #[.pointer (some ⟨q, 0, none⟩)]] 161)) (by have ec : ∀ c, a.eval (.const c) = c := fun _ => rfl; clear hI hdep hK; generalize a.eval = ρ at e26 e32 e38 e39 ec ⊢; go_simp) ?_
       exact hK ⟨x.m1, x.t1, x.m2, x.t2, x.m3, x.t3, w.heap.size, x.r⟩ _ _ (hI.world.newed (hI.not_up hD0 21 rfl)) (types_n hD0) rfl
     · intro x D a w hI hdep hD0 K hK
       have e20 : a.eval (.tmp 20) = r0 := hI.good 0 20 (dep_of hdep 0 rfl) rfl
       have e40 : a.eval (.tmp 40) = .slice (some ⟨x.b, 0, none⟩) 4 4 := hI.good 20 40 (dep_of hdep 20 rfl) rfl
       have h20 := dep_of hdep 20 rfl
       obtain ⟨r, W', hr, hC⟩ := hI.world.appends h20 hD0 hxs
       exact ok_append (wanted_none rfl) (.tmp 20) (.tmp 40) 160 160 rfl (by rw [e20, e40]; exact hr) (hK ⟨x.m1, x.t1, x.m2, x.t2, x.m3, x.t3, x.b, r⟩ _ _ hC (types_a hD0 (hI.not_up hD0 22 rfl)) rfl)
     · intro x D a w hI hdep hD0 K hK
       have e41 : a.eval (.tmp 41) = x.r := hI.good 21 41 (dep_of hdep 21 rfl) rfl
       refine ok_value (wanted_none rfl) (v := x.r) ?_ (hK x _ _ (hI.world.up rfl rfl rfl rfl rfl) (fun _ _ _ h => h) rfl)
       obtain ⟨ec, ef⟩ := ecs a; clear hI hdep hK; generalize a.eval = ρ at e41 ec ef ⊢; go_simp
   · intro x D a w3 hI hD
     have hfr := hI.frame [(20, r0), (21, .func (.func 166) #[] #[.pointer (some ⟨q, 0, none⟩)]), (22, .pointer (some ⟨p, 0, none⟩)), (23, .pointer (some ⟨p, 0, none⟩)), (24, .pointer (some ⟨p, 1, none⟩)), (25, .pointer (some ⟨p, 4, none⟩)), (26, .func (.func 167) #[] #[.pointer (some ⟨q, 0, none⟩), .pointer (some ⟨x.m1, 0, none⟩), .pointer (some ⟨x.t1, 0, none⟩)]), (27, .func (.func 166) #[] #[.pointer (some ⟨q, 0, none⟩)]), (28, .pointer (some ⟨p, 0, none⟩)), (29, .pointer (some ⟨p, 0, none⟩)), (30, .pointer (some ⟨p, 1, none⟩)), (31, .pointer (some ⟨p, 5, none⟩)), (32, .func (.func 167) #[] #[.pointer (some ⟨q, 0, none⟩), .pointer (some ⟨x.m2, 0, none⟩), .pointer (some ⟨x.t2, 0, none⟩)]), (33, .func (.func 166) #[] #[.pointer (some ⟨q, 0, none⟩)]), (34, .pointer (some ⟨p, 0, none⟩)), (35, .pointer (some ⟨p, 0, none⟩)), (36, .pointer (some ⟨p, 1, none⟩)), (37, .pointer (some ⟨p, 6, none⟩)), (38, .func (.func 167) #[] #[.pointer (some ⟨q, 0, none⟩), .pointer (some ⟨x.m3, 0, none⟩), .pointer (some ⟨x.t3, 0, none⟩)]), (39, .func (.func 169) #[] #[.pointer (some ⟨q, 0, none⟩)]), (40, .slice (some ⟨x.b, 0, none⟩) 4 4), (41, x.r), (2, x.r)] (all_cons (hI.good 0 20 (hD 0 (by decide)) rfl) (all_cons (hI.good 1 21 (hD 1 (by decide)) rfl) (all_cons (hI.good 2 22 (hD 2 (by decide)) rfl) (all_cons (hI.good 3 23 (hD 3 (by decide)) rfl) (all_cons (hI.good 4 24 (hD 4 (by decide)) rfl) (all_cons (hI.good 5 25 (hD 5 (by decide)) rfl) (all_cons (hI.good 6 26 (hD 6 (by decide)) rfl) (all_cons (hI.good 7 27 (hD 7 (by decide)) rfl) (all_cons (hI.good 8 28 (hD 8 (by decide)) rfl) (all_cons (hI.good 9 29 (hD 9 (by decide)) rfl) (all_cons (hI.good 10 30 (hD 10 (by decide)) rfl) (all_cons (hI.good 11 31 (hD 11 (by decide)) rfl) (all_cons (hI.good 12 32 (hD 12 (by decide)) rfl) (all_cons (hI.good 13 33 (hD 13 (by decide)) rfl) (all_cons (hI.good 14 34 (hD 14 (by decide)) rfl) (all_cons (hI.good 15 35 (hD 15 (by decide)) rfl) (all_cons (hI.good 16 36 (hD 16 (by decide)) rfl) (all_cons (hI.good 17 37 (hD 17 (by decide)) rfl) (all_cons (hI.good 18 38 (hD 18 (by decide)) rfl) (all_cons (hI.good 19 39 (hD 19 (by decide)) rfl) (all_cons (hI.good 20 40 (hD 20 (by decide)) rfl) (all_cons (hI.good 21 41 (hD 21 (by decide)) rfl) (all_cons (hI.good 22 2 (hD 22 (by decide)) rfl) all_nil))))))))))))))))))))))) rfl
     have hW := hI.world
     clear hI
     subst hfr
     simp only [List.foldl_cons, List.foldl_nil, List.setIfInBounds_toArray, List.set_cons_succ, List.set_cons_zero]
     have HW := Lib.hid (And.intro hW.grow (And.intro hW.pt (And.intro (hW.m1 (hD 6 (by decide))) (And.intro (hW.m2 (hD 12 (by decide))) (And.intro (hW.m3 (hD 18 (by decide))) hW.size)))))
     obtain ⟨b, c, cs, hr, hbb, hcb, hcs⟩ := row_get (hW.o1 (hD 21 (by decide))) (by simp)
     rw [hr]
     have HC := Lib.hid (And.intro hbb (And.intro hcb hcs))
     clear hW hr hbb hcb hcs hD hC
     go_wp2
     go_ret
     have HBW : Below W.heap.size W w3 := by rw [HQ.out]; exact HB0.out.trans ((HB2.out.trans (HW.out.1.mono HSz.out.1)).mono (by have := HS.out; omega))
     refine types_parts (ps := [Fn.pOuter, Fn.pParams, Fn.pResults, Fn.pLocals, Fn.pFits]) (xs := [.func (.func 167) #[] #[.pointer (some ⟨q, 0, none⟩), .pointer (some ⟨m0, 0, none⟩), .pointer (some ⟨t0, 0, none⟩)]] ++ [.func (.func 167) #[] #[.pointer (some ⟨q, 0, none⟩), .pointer (some ⟨x.m1, 0, none⟩), .pointer (some ⟨x.t1, 0, none⟩)], .func (.func 167) #[] #[.pointer (some ⟨q, 0, none⟩), .pointer (some ⟨x.m2, 0, none⟩), .pointer (some ⟨x.t2, 0, none⟩)], .func (.func 167) #[] #[.pointer (some ⟨q, 0, none⟩), .pointer (some ⟨x.m3, 0, none⟩), .pointer (some ⟨x.t3, 0, none⟩)], .func (.func 169) #[] #[.pointer (some ⟨q, 0, none⟩)]]) (bx := [(m0, t0, 3, 4), (x.m1, x.t1, 4, 8), (x.m2, x.t2, 5, 4), (x.m3, x.t3, 6, 256)]) (q := q) (cs := cs) (c := c) rfl ⟨HW.out.2.1, HC.out.2.1, fun e he => by
       simp only [List.mem_cons, List.not_mem_nil, or_false] at he
       rcases he with rfl | rfl | rfl | rfl
       · exact (HM.out.kept HW.out.1 HMl.out).less (by have := HS.out; have := HL.out.2; have := HSz.out.1; have := HSz.out.2; omega)
       · exact HW.out.2.2.1.less (by have := HS.out; have := HL.out.2; have := HSz.out.1; have := HSz.out.2; omega)
       · exact HW.out.2.2.2.1.less (by have := HS.out; have := HL.out.2; have := HSz.out.1; have := HSz.out.2; omega)
       · exact HW.out.2.2.2.2.1.less (by have := HS.out; have := HL.out.2; have := HSz.out.1; have := HSz.out.2; omega)
       , HL.out.1, HL.out.2, by have := HC.out.1; have := HS.out; have := HL.out.2; have := HSz.out.1; have := HSz.out.2; omega⟩ HC.out.2.2 (fun j hj W k => by
       rcases five_of hj with rfl | rfl | rfl | rfl | rfl
       · exact ⟨_, _, rfl, en_types_1_1, fun v t _ ht => outer_part g p q _ _ v t W ht (k.list (by simp))⟩
       · exact ⟨_, _, rfl, en_types_1_1, fun v t _ ht => params_part g p q _ _ v t W ht (k.list (by simp))⟩
       · exact ⟨_, _, rfl, en_types_1_1, fun v t _ ht => results_part g p q _ _ v t W ht (k.list (by simp))⟩
       · exact ⟨_, _, rfl, en_types_1_1, fun v t _ ht => locals_part g p q _ _ v t W ht (k.list (by simp))⟩
       · exact ⟨_, _, rfl, en_types_2, fun v t ho ht => fits_part g p q v t W ht k.pt (by have := k.gp; have := k.qp; omega) (by have := k.qp; omega) (by have := ho.slots; omega)⟩
       ) (fun j hj t ho => by
       rcases five_of hj with rfl | rfl | rfl | rfl | rfl
       · exact ⟨Fn.ok_outer ho.1, ho.2⟩
       · exact ⟨Fn.ok_params ho.1, ho.2⟩
       · exact ⟨Fn.ok_results ho.1, ho.2⟩
       · exact ⟨Fn.ok_locals ho.1, ho.2⟩
       · exact ⟨Fn.ok_fits ho.1, ho.2⟩
       ) HBW
 | false =>
   show Calls _ _ _ _ (AllP g p [Fn.pParams, Fn.pResults, Fn.pLocals, Fn.pFits] Fn.St.Fresh Fn.St.Fresh W)
   go_enter Tryz.func137, Tryz.ntmps137
   go_wp2
   generalize hW1 : (W.alloc (.cells #[.pointer (some ⟨p, 0, none⟩)] 178)) = W1 at *
   generalize hq : W.heap.size = q at *
   have HQ := Lib.hid hq
   clear hW1 hq
   have hC : TyC p q W1.heap.size W1 (.slice none 0 0) [] ⟨0, 0, 0, 0, 0, 0, 0, undef⟩ (fun _ => false) W1.drew :=
     ⟨Nat.le_refl _, Nat.le_refl _, (Below.refl _ _).drew, HP.out, fun _ => World.ownsRow_nil _ _ _ _, (fun e => by cases e), (fun e => by cases e), (fun e => by cases e), (fun e => by cases e), (fun k e => by cases e), HS.out, (fun e => by cases e), (fun e => by cases e)⟩
   have hxs : ([] : List Value).length ≤ 1 := by decide
   refine region_k (⟨0, 0, 0, 0, 0, 0, 0, undef⟩ : TyX) 42 (fun x D W' => TyC p q W1.heap.size W1 (.slice none 0 0) [] x D W') (typesG p q (.slice none 0 0)) (by kernel_rfl) (by kernel_rfl) (by kernel_rfl) rfl rfl hC ?_ ?_
   · refine ⟨?_, ?_, ?_, ?_, ?_, ?_, ?_, ?_, ?_, ?_, ?_, ?_, ?_, ?_, ?_, ?_, ?_, ?_, ?_, ?_, ?_, ?_, ?_, trivial⟩
     · intro x D a w hI hdep hD0 K hK
       have e4 : a.eval (.tmp 4) = .slice none 0 0 := hI.read 4 rfl
       refine ok_value (wanted_none rfl) (v := .slice none 0 0) ?_ (hK x _ _ (hI.world.up rfl rfl rfl rfl rfl) (fun _ _ _ h => h) rfl)
       obtain ⟨ec, ef⟩ := ecs a; clear hI hdep hK; generalize a.eval = ρ at e4 ec ef ⊢; go_simp
     · intro x D a w hI hdep hD0 K hK
       have e3 : a.eval (.tmp 3) = .func (.func 166) #[] #[.pointer (some ⟨q, 0, none⟩)] := hI.read 3 rfl
       refine ok_value (wanted_none rfl) (v := .func (.func 166) #[] #[.pointer (some ⟨q, 0, none⟩)]) ?_ (hK x _ _ (hI.world.up rfl rfl rfl rfl rfl) (fun _ _ _ h => h) rfl)
       obtain ⟨ec, ef⟩ := ecs a; clear hI hdep hK; generalize a.eval = ρ at e3 ec ef ⊢; go_simp
     · intro x D a w hI hdep hD0 K hK
       have e1 : a.eval (.tmp 1) = .pointer (some ⟨q, 0, none⟩) := hI.read 1 rfl
       have z0 := hI.world.ptr
       refine ok_value (wanted_none rfl) (v := .pointer (some ⟨p, 0, none⟩)) ?_ (hK x _ _ (hI.world.up rfl rfl rfl rfl rfl) (fun _ _ _ h => h) rfl)
       obtain ⟨ec, ef⟩ := ecs a; clear hI hdep hK; generalize a.eval = ρ at e1 ec ef ⊢; go_simp
     · intro x D a w hI hdep hD0 K hK
       have e22 : a.eval (.tmp 22) = .pointer (some ⟨p, 0, none⟩) := hI.good 2 22 (dep_of hdep 2 rfl) rfl
       refine ok_value (wanted_none rfl) (v := .pointer (some ⟨p, 0, none⟩)) ?_ (hK x _ _ (hI.world.up rfl rfl rfl rfl rfl) (fun _ _ _ h => h) rfl)
       obtain ⟨ec, ef⟩ := ecs a; clear hI hdep hK; generalize a.eval = ρ at e22 ec ef ⊢; go_simp
     · intro x D a w hI hdep hD0 K hK
       have e23 : a.eval (.tmp 23) = .pointer (some ⟨p, 0, none⟩) := hI.good 3 23 (dep_of hdep 3 rfl) rfl
       refine ok_value (wanted_none rfl) (v := .pointer (some ⟨p, 1, none⟩)) ?_ (hK x _ _ (hI.world.up rfl rfl rfl rfl rfl) (fun _ _ _ h => h) rfl)
       obtain ⟨ec, ef⟩ := ecs a; clear hI hdep hK; generalize a.eval = ρ at e23 ec ef ⊢; go_simp
     · intro x D a w hI hdep hD0 K hK
       have e24 : a.eval (.tmp 24) = .pointer (some ⟨p, 1, none⟩) := hI.good 4 24 (dep_of hdep 4 rfl) rfl
       refine ok_value (wanted_none rfl) (v := .pointer (some ⟨p, 4, none⟩)) ?_ (hK x _ _ (hI.world.up rfl rfl rfl rfl rfl) (fun _ _ _ h => h) rfl)
       obtain ⟨ec, ef⟩ := ecs a; clear hI hdep hK; generalize a.eval = ρ at e24 ec ef ⊢; go_simp
     · intro x D a w hI hdep hD0 K hK
       have e21 : a.eval (.tmp 21) = .func (.func 166) #[] #[.pointer (some ⟨q, 0, none⟩)] := hI.good 1 21 (dep_of hdep 1 rfl) rfl
       have e25 : a.eval (.tmp 25) = .pointer (some ⟨p, 4, none⟩) := hI.good 5 25 (dep_of hdep 5 rfl) rfl
       refine ok_call (wanted_none rfl) (f := 166) (args := #[.pointer (some ⟨p, 4, none⟩), .int .i64 8, .pointer (some ⟨q, 0, none⟩)]) ?_ (mklist_any p 4 q 8 w) ?_
       · obtain ⟨ec, ef⟩ := ecs a; clear hI hdep hK; generalize a.eval = ρ at e21 e25 ec ef ⊢; go_simp
       · rintro e w2 ⟨bm, bt, rfl, h1, h2, h3, h4, h5⟩
         exact ⟨_, rfl, hK ⟨bm, bt, x.m2, x.t2, x.m3, x.t3, x.b, x.r⟩ _ _ (hI.world.call1 (hI.not_up hD0 20 rfl) h1 h2 h3 h4 h5) (types_c1 hD0) rfl⟩
     · intro x D a w hI hdep hD0 K hK
       have e3 : a.eval (.tmp 3) = .func (.func 166) #[] #[.pointer (some ⟨q, 0, none⟩)] := hI.read 3 rfl
       refine ok_value (wanted_none rfl) (v := .func (.func 166) #[] #[.pointer (some ⟨q, 0, none⟩)]) ?_ (hK x _ _ (hI.world.up rfl rfl rfl rfl rfl) (fun _ _ _ h => h) rfl)
       obtain ⟨ec, ef⟩ := ecs a; clear hI hdep hK; generalize a.eval = ρ at e3 ec ef ⊢; go_simp
     · intro x D a w hI hdep hD0 K hK
       have e1 : a.eval (.tmp 1) = .pointer (some ⟨q, 0, none⟩) := hI.read 1 rfl
       have z0 := hI.world.ptr
       refine ok_value (wanted_none rfl) (v := .pointer (some ⟨p, 0, none⟩)) ?_ (hK x _ _ (hI.world.up rfl rfl rfl rfl rfl) (fun _ _ _ h => h) rfl)
       obtain ⟨ec, ef⟩ := ecs a; clear hI hdep hK; generalize a.eval = ρ at e1 ec ef ⊢; go_simp
     · intro x D a w hI hdep hD0 K hK
       have e28 : a.eval (.tmp 28) = .pointer (some ⟨p, 0, none⟩) := hI.good 8 28 (dep_of hdep 8 rfl) rfl
       refine ok_value (wanted_none rfl) (v := .pointer (some ⟨p, 0, none⟩)) ?_ (hK x _ _ (hI.world.up rfl rfl rfl rfl rfl) (fun _ _ _ h => h) rfl)
       obtain ⟨ec, ef⟩ := ecs a; clear hI hdep hK; generalize a.eval = ρ at e28 ec ef ⊢; go_simp
     · intro x D a w hI hdep hD0 K hK
       have e29 : a.eval (.tmp 29) = .pointer (some ⟨p, 0, none⟩) := hI.good 9 29 (dep_of hdep 9 rfl) rfl
       refine ok_value (wanted_none rfl) (v := .pointer (some ⟨p, 1, none⟩)) ?_ (hK x _ _ (hI.world.up rfl rfl rfl rfl rfl) (fun _ _ _ h => h) rfl)
       obtain ⟨ec, ef⟩ := ecs a; clear hI hdep hK; generalize a.eval = ρ at e29 ec ef ⊢; go_simp
     · intro x D a w hI hdep hD0 K hK
       have e30 : a.eval (.tmp 30) = .pointer (some ⟨p, 1, none⟩) := hI.good 10 30 (dep_of hdep 10 rfl) rfl
       refine ok_value (wanted_none rfl) (v := .pointer (some ⟨p, 5, none⟩)) ?_ (hK x _ _ (hI.world.up rfl rfl rfl rfl rfl) (fun _ _ _ h => h) rfl)
       obtain ⟨ec, ef⟩ := ecs a; clear hI hdep hK; generalize a.eval = ρ at e30 ec ef ⊢; go_simp
     · intro x D a w hI hdep hD0 K hK
       have e27 : a.eval (.tmp 27) = .func (.func 166) #[] #[.pointer (some ⟨q, 0, none⟩)] := hI.good 7 27 (dep_of hdep 7 rfl) rfl
       have e31 : a.eval (.tmp 31) = .pointer (some ⟨p, 5, none⟩) := hI.good 11 31 (dep_of hdep 11 rfl) rfl
       refine ok_call (wanted_none rfl) (f := 166) (args := #[.pointer (some ⟨p, 5, none⟩), .int .i64 4, .pointer (some ⟨q, 0, none⟩)]) ?_ (mklist_any p 5 q 4 w) ?_
       · obtain ⟨ec, ef⟩ := ecs a; clear hI hdep hK; generalize a.eval = ρ at e27 e31 ec ef ⊢; go_simp
       · rintro e w2 ⟨bm, bt, rfl, h1, h2, h3, h4, h5⟩
         exact ⟨_, rfl, hK ⟨x.m1, x.t1, bm, bt, x.m3, x.t3, x.b, x.r⟩ _ _ (hI.world.call2 (hI.not_up hD0 20 rfl) h1 h2 h3 h4 h5) (types_c2 hD0) rfl⟩
     · intro x D a w hI hdep hD0 K hK
       have e3 : a.eval (.tmp 3) = .func (.func 166) #[] #[.pointer (some ⟨q, 0, none⟩)] := hI.read 3 rfl
       refine ok_value (wanted_none rfl) (v := .func (.func 166) #[] #[.pointer (some ⟨q, 0, none⟩)]) ?_ (hK x _ _ (hI.world.up rfl rfl rfl rfl rfl) (fun _ _ _ h => h) rfl)
       obtain ⟨ec, ef⟩ := ecs a; clear hI hdep hK; generalize a.eval = ρ at e3 ec ef ⊢; go_simp
     · intro x D a w hI hdep hD0 K hK
       have e1 : a.eval (.tmp 1) = .pointer (some ⟨q, 0, none⟩) := hI.read 1 rfl
       have z0 := hI.world.ptr
       refine ok_value (wanted_none rfl) (v := .pointer (some ⟨p, 0, none⟩)) ?_ (hK x _ _ (hI.world.up rfl rfl rfl rfl rfl) (fun _ _ _ h => h) rfl)
       obtain ⟨ec, ef⟩ := ecs a; clear hI hdep hK; generalize a.eval = ρ at e1 ec ef ⊢; go_simp
     · intro x D a w hI hdep hD0 K hK
       have e34 : a.eval (.tmp 34) = .pointer (some ⟨p, 0, none⟩) := hI.good 14 34 (dep_of hdep 14 rfl) rfl
       refine ok_value (wanted_none rfl) (v := .pointer (some ⟨p, 0, none⟩)) ?_ (hK x _ _ (hI.world.up rfl rfl rfl rfl rfl) (fun _ _ _ h => h) rfl)
       obtain ⟨ec, ef⟩ := ecs a; clear hI hdep hK; generalize a.eval = ρ at e34 ec ef ⊢; go_simp
     · intro x D a w hI hdep hD0 K hK
       have e35 : a.eval (.tmp 35) = .pointer (some ⟨p, 0, none⟩) := hI.good 15 35 (dep_of hdep 15 rfl) rfl
       refine ok_value (wanted_none rfl) (v := .pointer (some ⟨p, 1, none⟩)) ?_ (hK x _ _ (hI.world.up rfl rfl rfl rfl rfl) (fun _ _ _ h => h) rfl)
       obtain ⟨ec, ef⟩ := ecs a; clear hI hdep hK; generalize a.eval = ρ at e35 ec ef ⊢; go_simp
     · intro x D a w hI hdep hD0 K hK
       have e36 : a.eval (.tmp 36) = .pointer (some ⟨p, 1, none⟩) := hI.good 16 36 (dep_of hdep 16 rfl) rfl
       refine ok_value (wanted_none rfl) (v := .pointer (some ⟨p, 6, none⟩)) ?_ (hK x _ _ (hI.world.up rfl rfl rfl rfl rfl) (fun _ _ _ h => h) rfl)
       obtain ⟨ec, ef⟩ := ecs a; clear hI hdep hK; generalize a.eval = ρ at e36 ec ef ⊢; go_simp
     · intro x D a w hI hdep hD0 K hK
       have e33 : a.eval (.tmp 33) = .func (.func 166) #[] #[.pointer (some ⟨q, 0, none⟩)] := hI.good 13 33 (dep_of hdep 13 rfl) rfl
       have e37 : a.eval (.tmp 37) = .pointer (some ⟨p, 6, none⟩) := hI.good 17 37 (dep_of hdep 17 rfl) rfl
       refine ok_call (wanted_none rfl) (f := 166) (args := #[.pointer (some ⟨p, 6, none⟩), .int .i64 256, .pointer (some ⟨q, 0, none⟩)]) ?_ (mklist_any p 6 q 256 w) ?_
       · obtain ⟨ec, ef⟩ := ecs a; clear hI hdep hK; generalize a.eval = ρ at e33 e37 ec ef ⊢; go_simp
       · rintro e w2 ⟨bm, bt, rfl, h1, h2, h3, h4, h5⟩
         exact ⟨_, rfl, hK ⟨x.m1, x.t1, x.m2, x.t2, bm, bt, x.b, x.r⟩ _ _ (hI.world.call3 (hI.not_up hD0 20 rfl) h1 h2 h3 h4 h5) (types_c3 hD0) rfl⟩
     · intro x D a w hI hdep hD0 K hK
       have e1 : a.eval (.tmp 1) = .pointer (some ⟨q, 0, none⟩) := hI.read 1 rfl
       refine ok_value (wanted_none rfl) (v := .func (.func 169) #[] #[.pointer (some ⟨q, 0, none⟩)]) ?_ (hK x _ _ (hI.world.up rfl rfl rfl rfl rfl) (fun _ _ _ h => h) rfl)
       obtain ⟨ec, ef⟩ := ecs a; clear hI hdep hK; generalize a.eval = ρ at e1 ec ef ⊢; go_simp
     · intro x D a w hI hdep hD0 K hK
       have e26 : a.eval (.tmp 26) = .func (.func 167) #[] #[.pointer (some ⟨q, 0, none⟩), .pointer (some ⟨x.m1, 0, none⟩), .pointer (some ⟨x.t1, 0, none⟩)] := hI.good 6 26 (dep_of hdep 6 rfl) rfl
       have e32 : a.eval (.tmp 32) = .func (.func 167) #[] #[.pointer (some ⟨q, 0, none⟩), .pointer (some ⟨x.m2, 0, none⟩), .pointer (some ⟨x.t2, 0, none⟩)] := hI.good 12 32 (dep_of hdep 12 rfl) rfl
       have e38 : a.eval (.tmp 38) = .func (.func 167) #[] #[.pointer (some ⟨q, 0, none⟩), .pointer (some ⟨x.m3, 0, none⟩), .pointer (some ⟨x.t3, 0, none⟩)] := hI.good 18 38 (dep_of hdep 18 rfl) rfl
       have e39 : a.eval (.tmp 39) = .func (.func 169) #[] #[.pointer (some ⟨q, 0, none⟩)] := hI.good 19 39 (dep_of hdep 19 rfl) rfl
       refine ok_new (wanted_none rfl) (v := .slice (some ⟨w.heap.size, 0, none⟩) 4 4) (w' := w.alloc (.cells #[.func (.func 167) #[] #[.pointer (some ⟨q, 0, none⟩), .pointer (some ⟨x.m1, 0, none⟩), .pointer (some ⟨x.t1, 0, none⟩)], .func (.func 167) #[] #[.pointer (some ⟨q, 0, none⟩), .pointer (some ⟨x.m2, 0, none⟩), .pointer (some ⟨x.t2, 0, none⟩)], .func (.func 167) #[] #[.pointer (some ⟨q, 0, none⟩), .pointer (some ⟨x.m3, 0, none⟩), .pointer (some ⟨x.t3, 0, none⟩)], .func (.func 169) #[] #[.pointer (some ⟨q, 0, none⟩)]] 161)) (by have ec : ∀ c, a.eval (.const c) = c := fun _ => rfl; clear hI hdep hK; generalize a.eval = ρ at e26 e32 e38 e39 ec ⊢; go_simp) ?_
       exact hK ⟨x.m1, x.t1, x.m2, x.t2, x.m3, x.t3, w.heap.size, x.r⟩ _ _ (hI.world.newed (hI.not_up hD0 21 rfl)) (types_n hD0) rfl
     · intro x D a w hI hdep hD0 K hK
       have e20 : a.eval (.tmp 20) = .slice none 0 0 := hI.good 0 20 (dep_of hdep 0 rfl) rfl
       have e40 : a.eval (.tmp 40) = .slice (some ⟨x.b, 0, none⟩) 4 4 := hI.good 20 40 (dep_of hdep 20 rfl) rfl
       have h20 := dep_of hdep 20 rfl
       obtain ⟨r, W', hr, hC⟩ := hI.world.appends h20 hD0 hxs
       exact ok_append (wanted_none rfl) (.tmp 20) (.tmp 40) 160 160 rfl (by rw [e20, e40]; exact hr) (hK ⟨x.m1, x.t1, x.m2, x.t2, x.m3, x.t3, x.b, r⟩ _ _ hC (types_a hD0 (hI.not_up hD0 22 rfl)) rfl)
     · intro x D a w hI hdep hD0 K hK
       have e41 : a.eval (.tmp 41) = x.r := hI.good 21 41 (dep_of hdep 21 rfl) rfl
       refine ok_value (wanted_none rfl) (v := x.r) ?_ (hK x _ _ (hI.world.up rfl rfl rfl rfl rfl) (fun _ _ _ h => h) rfl)
       obtain ⟨ec, ef⟩ := ecs a; clear hI hdep hK; generalize a.eval = ρ at e41 ec ef ⊢; go_simp
   · intro x D a w3 hI hD
     have hfr := hI.frame [(20, .slice none 0 0), (21, .func (.func 166) #[] #[.pointer (some ⟨q, 0, none⟩)]), (22, .pointer (some ⟨p, 0, none⟩)), (23, .pointer (some ⟨p, 0, none⟩)), (24, .pointer (some ⟨p, 1, none⟩)), (25, .pointer (some ⟨p, 4, none⟩)), (26, .func (.func 167) #[] #[.pointer (some ⟨q, 0, none⟩), .pointer (some ⟨x.m1, 0, none⟩), .pointer (some ⟨x.t1, 0, none⟩)]), (27, .func (.func 166) #[] #[.pointer (some ⟨q, 0, none⟩)]), (28, .pointer (some ⟨p, 0, none⟩)), (29, .pointer (some ⟨p, 0, none⟩)), (30, .pointer (some ⟨p, 1, none⟩)), (31, .pointer (some ⟨p, 5, none⟩)), (32, .func (.func 167) #[] #[.pointer (some ⟨q, 0, none⟩), .pointer (some ⟨x.m2, 0, none⟩), .pointer (some ⟨x.t2, 0, none⟩)]), (33, .func (.func 166) #[] #[.pointer (some ⟨q, 0, none⟩)]), (34, .pointer (some ⟨p, 0, none⟩)), (35, .pointer (some ⟨p, 0, none⟩)), (36, .pointer (some ⟨p, 1, none⟩)), (37, .pointer (some ⟨p, 6, none⟩)), (38, .func (.func 167) #[] #[.pointer (some ⟨q, 0, none⟩), .pointer (some ⟨x.m3, 0, none⟩), .pointer (some ⟨x.t3, 0, none⟩)]), (39, .func (.func 169) #[] #[.pointer (some ⟨q, 0, none⟩)]), (40, .slice (some ⟨x.b, 0, none⟩) 4 4), (41, x.r), (2, x.r)] (all_cons (hI.good 0 20 (hD 0 (by decide)) rfl) (all_cons (hI.good 1 21 (hD 1 (by decide)) rfl) (all_cons (hI.good 2 22 (hD 2 (by decide)) rfl) (all_cons (hI.good 3 23 (hD 3 (by decide)) rfl) (all_cons (hI.good 4 24 (hD 4 (by decide)) rfl) (all_cons (hI.good 5 25 (hD 5 (by decide)) rfl) (all_cons (hI.good 6 26 (hD 6 (by decide)) rfl) (all_cons (hI.good 7 27 (hD 7 (by decide)) rfl) (all_cons (hI.good 8 28 (hD 8 (by decide)) rfl) (all_cons (hI.good 9 29 (hD 9 (by decide)) rfl) (all_cons (hI.good 10 30 (hD 10 (by decide)) rfl) (all_cons (hI.good 11 31 (hD 11 (by decide)) rfl) (all_cons (hI.good 12 32 (hD 12 (by decide)) rfl) (all_cons (hI.good 13 33 (hD 13 (by decide)) rfl) (all_cons (hI.good 14 34 (hD 14 (by decide)) rfl) (all_cons (hI.good 15 35 (hD 15 (by decide)) rfl) (all_cons (hI.good 16 36 (hD 16 (by decide)) rfl) (all_cons (hI.good 17 37 (hD 17 (by decide)) rfl) (all_cons (hI.good 18 38 (hD 18 (by decide)) rfl) (all_cons (hI.good 19 39 (hD 19 (by decide)) rfl) (all_cons (hI.good 20 40 (hD 20 (by decide)) rfl) (all_cons (hI.good 21 41 (hD 21 (by decide)) rfl) (all_cons (hI.good 22 2 (hD 22 (by decide)) rfl) all_nil))))))))))))))))))))))) rfl
     have hW := hI.world
     clear hI
     subst hfr
     simp only [List.foldl_cons, List.foldl_nil, List.setIfInBounds_toArray, List.set_cons_succ, List.set_cons_zero]
     have HW := Lib.hid (And.intro hW.grow (And.intro hW.pt (And.intro (hW.m1 (hD 6 (by decide))) (And.intro (hW.m2 (hD 12 (by decide))) (And.intro (hW.m3 (hD 18 (by decide))) hW.size)))))
     obtain ⟨b, c, cs, hr, hbb, hcb, hcs⟩ := row_get (hW.o1 (hD 21 (by decide))) (by simp)
     rw [hr]
     have HC := Lib.hid (And.intro hbb (And.intro hcb hcs))
     clear hW hr hbb hcb hcs hD hC
     go_wp2
     go_ret
     have HBW : Below W.heap.size W w3 := by rw [HQ.out]; exact HB0.out.trans (HW.out.1.mono (by have := HS.out; omega))
     refine types_parts (ps := [Fn.pParams, Fn.pResults, Fn.pLocals, Fn.pFits]) (xs := [] ++ [.func (.func 167) #[] #[.pointer (some ⟨q, 0, none⟩), .pointer (some ⟨x.m1, 0, none⟩), .pointer (some ⟨x.t1, 0, none⟩)], .func (.func 167) #[] #[.pointer (some ⟨q, 0, none⟩), .pointer (some ⟨x.m2, 0, none⟩), .pointer (some ⟨x.t2, 0, none⟩)], .func (.func 167) #[] #[.pointer (some ⟨q, 0, none⟩), .pointer (some ⟨x.m3, 0, none⟩), .pointer (some ⟨x.t3, 0, none⟩)], .func (.func 169) #[] #[.pointer (some ⟨q, 0, none⟩)]]) (bx := [(x.m1, x.t1, 4, 8), (x.m2, x.t2, 5, 4), (x.m3, x.t3, 6, 256)]) (q := q) (cs := cs) (c := c) rfl ⟨HW.out.2.1, HC.out.2.1, fun e he => by
       simp only [List.mem_cons, List.not_mem_nil, or_false] at he
       rcases he with rfl | rfl | rfl
       · exact HW.out.2.2.1.less (by have := HS.out; have := HL.out.2; omega)
       · exact HW.out.2.2.2.1.less (by have := HS.out; have := HL.out.2; omega)
       · exact HW.out.2.2.2.2.1.less (by have := HS.out; have := HL.out.2; omega)
       , HL.out.1, HL.out.2, by have := HC.out.1; have := HS.out; have := HL.out.2; omega⟩ HC.out.2.2 (fun j hj W k => by
       rcases four_of hj with rfl | rfl | rfl | rfl
       · exact ⟨_, _, rfl, en_types_1_1, fun v t _ ht => params_part g p q _ _ v t W ht (k.list (by simp))⟩
       · exact ⟨_, _, rfl, en_types_1_1, fun v t _ ht => results_part g p q _ _ v t W ht (k.list (by simp))⟩
       · exact ⟨_, _, rfl, en_types_1_1, fun v t _ ht => locals_part g p q _ _ v t W ht (k.list (by simp))⟩
       · exact ⟨_, _, rfl, en_types_2, fun v t ho ht => fits_part g p q v t W ht k.pt (by have := k.gp; have := k.qp; omega) (by have := k.qp; omega) (by have := ho.slots; omega)⟩
       ) (fun j hj t ho => by
       rcases four_of hj with rfl | rfl | rfl | rfl
       · exact ⟨Fn.ok_params ho.1, ho.2⟩
       · exact ⟨Fn.ok_results ho.1, ho.2⟩
       · exact ⟨Fn.ok_locals ho.1, ho.2⟩
       · exact ⟨Fn.ok_fits ho.1, ho.2⟩
       ) HBW
end Go.Proofs.YtdopheoedpldiaaGreatDoor
