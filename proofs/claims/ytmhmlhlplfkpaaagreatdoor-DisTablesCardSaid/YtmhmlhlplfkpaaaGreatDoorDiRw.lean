/-
 What lies in memory while a row of the tables is put together. Conditions: none.
-/
import Derived.Test.YtmhmlhlplfkpaaaGreatDoorDiFn
import Derived.Test.YtmhmlhlplfkpaaaGreatDoorDiNode
import Derived.Test.YtmhmlhlplfkpaaaGreatDoorRegionV
import Derived.Test.YtmhmlhlplfkpaaaGreatDoorSlAll
set_option maxRecDepth 100000
namespace Go.Proofs.YtmhmlhlplfkpaaaGreatDoor
open Go.RowKit Go.Shelf
structure RwI (B b q : Nat) (t : List UInt8) (v : FnV) (f : Fn.F) (w : World) (ds : List Deferred) (W : World) : Prop where
 i : DfI B b q t v f w W
 tab : Tab W
 marks : Marks w.heap.size ds W
section
variable {B b q : Nat} {t t2 : List UInt8} {v : FnV} {f : Fn.F} {w W W' : World} {ds : List Deferred}
theorem RwI.on (h : RwI B b q t v f w ds W) (hg : 0 < B) (hb : Below W.heap.size W W') : RwI B b q t v f w ds W' :=
 ⟨h.i.on hb, tab_below h.tab hb (Nat.lt_of_lt_of_le hg h.i.size), h.marks.kept fun D hD _ => (hb.block D (Array.getElem?_eq_some_iff.1 hD).1).trans hD⟩
theorem RwI.wrote (h : RwI B b q t v f w ds W) (hq : q ≠ b) (hg : 2 < B) (hg2 : 0 < B) (h1 : Pg B b t2 W') (h2 : Below B W W') (h3 : OffP b W W') : RwI B b q t2 v f w ds W' :=
 ⟨h.i.wrote hq hg h1 h2 h3, tab_below h.tab h2 hg2, h.marks.kept fun D hD _ => h3 D _ hD (by
   intro e
   injection e with e
   obtain ⟨p, u, _, _, hb, _⟩ := h.i.page
   rw [← e, hD] at hb
   cases hb) (fun c z e => by cases e)⟩
theorem RwI.marked (h : RwI B b q t v f w ds W) (hg : 0 < B) (hb : Below W.heap.size W W') {D : Nat} (hD : W.heap.size ≤ D) (hK : W'.heap[D]? = some (.deferred (some []))) : RwI B b q t v f w ({ target := .collected D, args := #[] } :: ds) W' := by
 have h1 := h.on hg hb
 refine ⟨h1.i, h1.tab, ⟨D, rfl, Nat.le_trans h.i.below.size hD, hK, fun e he hed => ?_⟩, h1.marks⟩
 have key : ∀ (l : List Deferred), Marks w.heap.size l W → e ∈ l → False := by
   intro l
   induction l with
   | nil => intro _ he; cases he
   | cons d r ih =>
     rintro ⟨⟨E, hd, _, hE, _⟩, hr⟩ he
     rcases List.mem_cons.1 he with rfl | he
     · rw [hd] at hed
       have : E = D := by injection hed with h1 _; injection h1
       have := (Array.getElem?_eq_some_iff.1 hE).1
       omega
     · exact ih hr he
 exact key ds h.marks he
end
structure RwC (W0 : World) (dk dn : ByteArray) (x : Nat × Nat) (D : Nat → Bool) (W : World) : Prop where
 below : Below W0.heap.size W0 W
 row : D 6 = true → W0.heap.size ≤ x.1 ∧ W.heap[x.1]? = some (.cells #[.string dk, .string dn] 9 (0, 0))
 box : D 7 = true → D 8 = false → W0.heap.size ≤ x.2 ∧ Boxed W x.2 73 (.slice none 0 0)
 full : D 8 = true → W0.heap.size ≤ x.2 ∧ Boxed W x.2 73 (.slice (some ⟨x.1, 0, none⟩) 2 2)
section
variable {B b q : Nat} {t : List UInt8} {v : FnV} {f : Fn.F} {w W0 W W' : World} {ds : List Deferred} {dk dn : ByteArray} {x : Nat × Nat} {D : Nat → Bool}
theorem RwC.up (h : RwC W0 dk dn x D W) {i : Nat} (h6 : (6 == i) = false) (h7 : (7 == i) = false) (h8 : (8 == i) = false) : RwC W0 dk dn x (add D i) W :=
 ⟨h.below, by rw [up_other h6]; exact h.row, by rw [up_other h7, up_other h8]; exact h.box, by rw [up_other h8]; exact h.full⟩
theorem RwC.kept (h : RwC W0 dk dn x D W) (hb : Below W.heap.size W W') : RwC W0 dk dn x D W' :=
 ⟨h.below.trans (hb.mono h.below.size), fun e => ⟨(h.row e).1, (hb.block _ (Array.getElem?_eq_some_iff.1 (h.row e).2).1).trans (h.row e).2⟩, fun e1 e2 => ⟨(h.box e1 e2).1, (hb.block _ (h.box e1 e2).2.lt).trans (h.box e1 e2).2⟩, fun e => ⟨(h.full e).1, (hb.block _ (h.full e).2.lt).trans (h.full e).2⟩⟩
theorem RwC.drew (h : RwC W0 dk dn x D W) : RwC W0 dk dn x D W.drew := h.kept (Below.refl _ _).drew
theorem RwC.at_ (h : RwC W0 dk dn x D W) (hI : RwI B b q t v f w ds W0) : FnAt W q v := hI.i.at_.on h.below
theorem RwC.pow (h : RwC W0 dk dn x D W) (hI : RwI B b q t v f w ds W0) : Pow W := hI.i.pow.below h.below
theorem RwC.fok (h : RwC W0 dk dn x D W) (hI : RwI B b q t v f w ds W0) : FnOk W W.heap.size v f := (hI.i.on h.below).fok
theorem RwC.newr (h : RwC W0 dk dn x D W) (h8 : D 8 = false) : RwC W0 dk dn (W.heap.size, x.2) (add D 6) (W.alloc (.cells #[.string dk, .string dn] 9)) := by
 have hb := (Below.refl W.heap.size W).alloc (Nat.le_refl _) (.cells #[.string dk, .string dn] 9)
 have h1 := h.kept hb
 exact ⟨h1.below, fun _ => ⟨h.below.size, heap_alloc_new W _⟩, by rw [up_other rfl, up_other rfl]; exact h1.box, by rw [up_other rfl, h8]; intro e; cases e⟩
theorem RwC.newp (h : RwC W0 dk dn x D W) (h8 : D 8 = false) : RwC W0 dk dn (x.1, W.heap.size) (add D 7) (W.alloc (.cells #[.slice none 0 0] 73)) := by
 have hb := (Below.refl W.heap.size W).alloc (Nat.le_refl _) (.cells #[.slice none 0 0] 73)
 have h1 := h.kept hb
 exact ⟨h1.below, by rw [up_other rfl]; exact h1.row, fun _ _ => ⟨h.below.size, Boxed.new W _ _⟩, by rw [up_other rfl, h8]; intro e; cases e⟩
theorem RwC.stored (h : RwC W0 dk dn x D W) (h6 : D 6 = true) (h7 : D 7 = true) (h8 : D 8 = false) : RwC W0 dk dn x (add D 8) (W.setCell ⟨x.2, 0, none⟩ (.slice (some ⟨x.1, 0, none⟩) 2 2)) := by
 obtain ⟨hx, hb⟩ := h.box h7 h8
 obtain ⟨hr1, hr2⟩ := h.row h6
 have hne : x.1 ≠ x.2 := by
   intro e
   have hb2 : W.heap[x.2]? = _ := hb
   rw [← e, hr2] at hb2
   injection hb2 with hb2
   injection hb2 with _ e2
   exact absurd e2 (by decide)
 refine ⟨h.below.setCell (p := ⟨x.2, 0, none⟩) hx _, fun _ => ⟨hr1, (Below.heap_setCell W ⟨x.2, 0, none⟩ _ x.1 hne).trans hr2⟩, fun _ e => by simp [add] at e, fun _ => ⟨hx, hb.set _⟩⟩
end
def DrwG (v : FnV) (k : Nat) (nd : Int) (dk dn : ByteArray) (x : Nat × Nat) : Nat → Value → Prop
 | 0, vv => vv = .int .i64 (k : Int)
 | 1, vv => vv = .string dk
 | 2, vv => vv = .agg #[.string v.name, .bool v.inner, .slice v.outer.a v.outer.n v.outer.c, .slice v.params.a v.params.n v.params.c, .slice v.results.a v.results.n v.results.c, .slice v.locals.a v.locals.n v.locals.c, .slice v.code.a v.code.n v.code.c, .slice v.lines.a v.lines.n v.lines.c, .slice v.nodes.a v.nodes.n v.nodes.c, .slice v.at_.a v.at_.n v.at_.c, .slice v.live.a v.live.n v.live.c]
 | 3, vv => vv = .int .i64 (k : Int)
 | 4, vv => vv = .int .i64 nd
 | 5, vv => vv = .string dn
 | 6, vv => vv = .slice (some ⟨x.1, 0, none⟩) 2 2
 | 7, vv => vv = .pointer (some ⟨x.2, 0, none⟩)
 | _, _ => True
theorem rw_r {v : FnV} {k : Nat} {nd : Int} {dk dn : ByteArray} {x : Nat × Nat} {z : Nat} {D : Nat → Bool} (h : D 6 = false) : ∀ (j : Nat) (u0 : Value), D j = true → DrwG v k nd dk dn x j u0 → DrwG v k nd dk dn (z, x.2) j u0 := by
 intro j u0 hj h0
 have e1 : j ≠ 6 := fun e => by rw [e, h] at hj; cases hj
 unfold DrwG at h0 ⊢
 split at h0 <;> first | exact h0 | exact absurd rfl e1
theorem rw_p {v : FnV} {k : Nat} {nd : Int} {dk dn : ByteArray} {x : Nat × Nat} {z : Nat} {D : Nat → Bool} (h : D 7 = false) : ∀ (j : Nat) (u0 : Value), D j = true → DrwG v k nd dk dn x j u0 → DrwG v k nd dk dn (x.1, z) j u0 := by
 intro j u0 hj h0
 have e1 : j ≠ 7 := fun e => by rw [e, h] at hj; cases hj
 unfold DrwG at h0 ⊢
 split at h0 <;> first | exact h0 | exact absurd rfl e1
structure RbC (n0 p : Nat) (u : Value) (m : Nat) (ws : List ByteArray) (dx : ByteArray) (Wb : World) (x : Nat × Value) (D : Nat → Bool) (W : World) : Prop where
 below : Below n0 Wb W
 keeps : KeepsOthers Wb W
 base : n0 ≤ W.heap.size ∧ (n0 ≤ p ∧ 2 < n0)
 pow : Pow W
 box : Boxed W p 73 (if D 5 = true then x.2 else u)
 own : W.ownsRow n0 9 1 (if D 4 = true then x.2 else u) (if D 4 = true then m + 1 else m) (strs (if D 4 = true then ws ++ [dx] else ws))
 new : D 3 = true → D 4 = false → W.heap[x.1]? = some (.cells #[.string dx] 9 (0, 0))
 form0 : ∃ A nn cc, u = .slice A nn cc
theorem own_slice {W : World} {n0 : Nat} {e : TypeId} {u : Value} {m : Nat} {xs : List Value} (h : W.ownsRow n0 e 1 u m xs) : ∃ A nn cc, u = .slice A nn cc := by
 rcases h.2 with ⟨rfl, _⟩ | ⟨g, cap, cur, rfl, _⟩
 · exact ⟨_, _, _, rfl⟩
 · exact ⟨_, _, _, rfl⟩
theorem keeps_of {W W' : World} (h : Below W.heap.size W W') : KeepsOthers W W' := ⟨h.size, fun k _ hk _ => (h.block k (Array.getElem?_eq_some_iff.1 hk).1).trans hk⟩
section
variable {n0 p m : Nat} {u : Value} {ws : List ByteArray} {dx : ByteArray} {Wb W W' : World} {x : Nat × Value} {D : Nat → Bool}
theorem RbC.up (h : RbC n0 p u m ws dx Wb x D W) {i : Nat} (h3 : (3 == i) = false) (h4 : (4 == i) = false) (h5 : (5 == i) = false) : RbC n0 p u m ws dx Wb x (add D i) W :=
 ⟨h.below, h.keeps, h.base, h.pow, by rw [up_other h5]; exact h.box, by rw [up_other h4]; exact h.own, by rw [up_other h3, up_other h4]; exact h.new, h.form0⟩
theorem RbC.kept (h : RbC n0 p u m ws dx Wb x D W) (hb : Below W.heap.size W W') : RbC n0 p u m ws dx Wb x D W' :=
 ⟨h.below.trans (hb.mono h.base.1), h.keeps.trans (keeps_of hb), ⟨Nat.le_trans h.base.1 hb.size, h.base.2⟩, h.pow.below hb, (hb.block _ h.box.lt).trans h.box, ownsRow_below h.own hb, fun e1 e2 => (hb.block _ (Array.getElem?_eq_some_iff.1 (h.new e1 e2)).1).trans (h.new e1 e2), h.form0⟩
theorem RbC.drew (h : RbC n0 p u m ws dx Wb x D W) : RbC n0 p u m ws dx Wb x D W.drew := h.kept (Below.refl _ _).drew
theorem RbC.box0 (h : RbC n0 p u m ws dx Wb x D W) (h5 : D 5 = false) : Boxed W p 73 u := by
 have := h.box
 rw [h5] at this
 exact this
theorem RbC.form (h : RbC n0 p u m ws dx Wb x D W) (h4 : D 4 = true) : ∃ A nn cc, x.2 = .slice A nn cc := by
 have := h.own
 rw [h4] at this
 exact own_slice this
theorem RbC.newed (h : RbC n0 p u m ws dx Wb x D W) : RbC n0 p u m ws dx Wb (W.heap.size, x.2) (add D 3) (W.alloc (.cells #[.string dx] 9)) := by
 have hb := (Below.refl W.heap.size W).alloc (Nat.le_refl _) (.cells #[.string dx] 9)
 have h1 := h.kept hb
 refine ⟨h1.below, h1.keeps, h1.base, h1.pow, by rw [up_other rfl]; exact h1.box, by rw [up_other rfl]; exact h1.own, fun _ _ => heap_alloc_new W _, h.form0⟩
theorem RbC.app (h : RbC n0 p u m ws dx Wb x D W) (h3 : D 3 = true) (h4 : D 4 = false) (h5 : D 5 = false) (hm : m ≤ 1000) :
   ∃ (r : Value) (W' : World), (Builtin.append_ #[73, 73] 73 #[u, .slice (some ⟨x.1, 0, none⟩) 1 1]).run Tryz.prog W = .ok r W' ∧ RbC n0 p u m ws dx Wb (x.1, r) (add D 4) W' := by
 obtain ⟨i0, hi, hz0, hz1, hz2⟩ := info_parts info_str
 have hO := h.own
 rw [h4] at hO
 have hO : W.ownsRow n0 9 1 u m (strs ws) := hO
 have hx := h.new h3 h4
 have hb := h.box0 h5
 obtain ⟨r, W', hr, ho, hg, _⟩ := run_append_own (P := Tryz.prog) W n0 73 73 9 i0 (.string ⟨#[]⟩) 1 16 Tryz.underlying73 hi hz0 hz1 hz2 rfl (by decide) u m (strs ws) hO ⟨x.1, 0, none⟩ 1 1 (strs [dx]) rfl
   (World.news_of_block hx) (strs_one _) (by unfold maxLen; omega) (by omega) h.base.1
 rw [← strs_append] at ho
 have hnb : ∀ k, u.ownBlock = some k → n0 ≤ k := fun k e => (hO.lt k e).1
 have hkind : ∀ (j : Nat) (o : Obj), u.ownBlock = some j → W.heap[j]? = some o → o.isCells = true := by
   intro j o e ho
   rcases hO.2 with ⟨rfl, _⟩ | ⟨g, cap, cur, rfl, _, hc, _⟩
   · cases e
   · injection e with e
     subst e
     rw [hc] at ho
     injection ho with ho
     subst ho
     rfl
 have hBW : Below n0 W W' := (Below.refl n0 W).grown hg h.base.1 hnb
 refine ⟨r, W', hr, h.below.trans hBW, h.keeps.trans (KeepsOthers.of_grownBy hg hkind), ⟨Nat.le_trans h.base.1 hg.size, h.base.2⟩, ?_, ?_, ?_, ?_, h.form0⟩
 · exact pow_upto h.pow hBW h.base.2.2
 · rw [up_other rfl, h5]
   exact hb.kept hg (hb.not_row (by decide) hO)
 · rw [up_self]
   exact ho
 · rw [up_self]
   intro _ e
   cases e
theorem RbC.stored (h : RbC n0 p u m ws dx Wb x D W) (h4 : D 4 = true) (h5 : D 5 = false) : RbC n0 p u m ws dx Wb x (add D 5) (W.setCell ⟨p, 0, none⟩ x.2) := by
 have hb := h.box0 h5
 have ho := h.own
 have hne : some p ≠ (if D 4 = true then x.2 else u).ownBlock := hb.not_row (by decide) ho
 refine ⟨h.below.setCell (p := ⟨p, 0, none⟩) h.base.2.1 _, h.keeps.trans (KeepsOthers.setCell _ _ _), ⟨by simp only [World.setCell, Array.size_modify]; exact h.base.1, h.base.2⟩, ?_, ?_, ?_, ?_, h.form0⟩
 · exact pow_upto h.pow ((Below.refl n0 W).setCell (p := ⟨p, 0, none⟩) h.base.2.1 _) h.base.2.2
 · rw [up_self]
   exact hb.set _
 · rw [up_other rfl]
   exact row_kept ho fun g e => Below.heap_setCell W ⟨p, 0, none⟩ _ g (fun e2 => hne (by rw [e, e2]))
 · rw [up_other rfl, up_other rfl, h4]
   intro _ e
   cases e
end
def RbG (u : Value) (y : Int) (dx : ByteArray) (x : Nat × Value) : Nat → Value → Prop
 | 0, vv => vv = u
 | 1, vv => vv = .int .i64 y
 | 2, vv => vv = .string dx
 | 3, vv => vv = .slice (some ⟨x.1, 0, none⟩) 1 1
 | 4, vv => vv = x.2
 | _, _ => True
theorem rb_new {u : Value} {y : Int} {dx : ByteArray} {x : Nat × Value} {z : Nat} {D : Nat → Bool} (h : D 3 = false) : ∀ (j : Nat) (u0 : Value), D j = true → RbG u y dx x j u0 → RbG u y dx (z, x.2) j u0 := by
 intro j u0 hj h0
 have e1 : j ≠ 3 := fun e => by rw [e, h] at hj; cases hj
 unfold RbG at h0 ⊢
 split at h0 <;> first | exact h0 | exact absurd rfl e1
theorem rb_app {u : Value} {y : Int} {dx : ByteArray} {x : Nat × Value} {z : Value} {D : Nat → Bool} (h : D 4 = false) : ∀ (j : Nat) (u0 : Value), D j = true → RbG u y dx x j u0 → RbG u y dx (x.1, z) j u0 := by
 intro j u0 hj h0
 have e1 : j ≠ 4 := fun e => by rw [e, h] at hj; cases hj
 unfold RbG at h0 ⊢
 split at h0 <;> first | exact h0 | exact absurd rfl e1
end Go.Proofs.YtmhmlhlplfkpaaaGreatDoor
