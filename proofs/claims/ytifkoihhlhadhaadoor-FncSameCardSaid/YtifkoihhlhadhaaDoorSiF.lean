/-
  append of a list of types behind a list of the call's own; a function as a value; what sig.Slots, First and the document's Slots tell. Conditions: the lists can be read; at most a million types in all.
-/
import Derived.Test.YtifkoihhlhadhaaDoorOpT
import Derived.Lib.AppendZeros
import Derived.LoopTactic
namespace Go.Proofs.YtifkoihhlhadhaaDoor
open Go.RowKit

set_option maxRecDepth 100000 in
theorem append_types {w : World} {base n : Nat} {v : Value} {xs : List Value} (hown : w.ownsRow base 51 1 v n xs) {B m c : Nat} {A : Option Addr} {l : List Int} (hs : IntsAt w B A m l) (hnil : A = none → c = 0)
    (hb : base ≤ w.heap.size) (hl : n + m ≤ 10485760) :
    ∃ v' w', (∀ ty, ty = 22 → (Builtin.append_ #[22, 22] ty #[v, .slice A m c]).run Tryd.prog w = .ok v' w') ∧ w'.ownsRow base 51 1 v' (n + m) (xs ++ vs l) ∧ w.grownBy w' v.ownBlock := by
  obtain ⟨i0, hi, hz0, hz1, hz2⟩ := info_parts info_type
  obtain ⟨h1, h3⟩ := hs
  have hvl : (vs l).length = m := by rw [vs, List.length_map, h1]
  cases A with
  | none =>
    have hm : m = 0 := by
      rcases Nat.eq_zero_or_pos m with h | h
      · exact h
      · obtain ⟨b, off, h, _⟩ := h3 h
        cases h
    subst hm
    have hc := hnil rfl
    subst hc
    have hl0 : l = [] := List.eq_nil_of_length_eq_zero h1
    subst hl0
    refine ⟨v, w, ?_, by simpa [vs] using hown, World.grownBy.refl _ _⟩
    intro ty _
    exact run_append_owned_none (P := Tryd.prog) (w := w) base 22 ty 51 i0 1 Tryd.underlying22 hi v n xs hown
  | some ad =>
    have hcells : ∀ j u, (vs l)[j]? = some u → w.cell? (ad.add j) = some u := by
      intro j u hu
      have hj : j < l.length := by
        rcases Nat.lt_or_ge j l.length with h | h
        · exact h
        · rw [List.getElem?_eq_none (by rw [hvl, ← h1]; exact h)] at hu; cases hu
      obtain ⟨b, off, he, _, hc⟩ := h3 (by omega)
      injection he with he
      subst he
      have e : (⟨b, off, none⟩ : Addr).add j = ⟨b, off + j, none⟩ := by unfold Addr.add; split <;> simp_all
      rw [e, hc j (by omega)]
      simp [vs, hj] at hu
      subst hu
      simp [List.getD, hj]
    obtain ⟨v', w', hr, ho, hg, _⟩ := run_append_own (P := Tryd.prog) w base 22 22 51 i0 (.int .i64 0) 1 8 Tryd.underlying22 hi hz0 hz1 hz2 rfl (by decide) v n xs hown ad m c (vs l) (by rw [hvl, Nat.mul_one]) hcells (vs_one l) (by unfold maxLen; omega) (by omega) hb
    exact ⟨v', w', fun ty hty => by rw [hty]; exact hr, ho, hg⟩

/-- A slice's three parts. -/
structure Sl3 where
  a : Option Addr
  n : Nat
  c : Nat
/-- A slice, by its parts. -/
def Sl3.val (s : Sl3) : Value := .slice s.a s.n s.c
/-- A function's fields. -/
structure FnV where
  name : ByteArray
  inner : Bool
  outer : Sl3
  params : Sl3
  results : Sl3
  locals : Sl3
  code : Sl3
  lines : Sl3
  nodes : Sl3
  at_ : Sl3
  live : Sl3
/-- A function's cells. -/
def FnV.cells (f : FnV) : Array Value := #[.string f.name, .bool f.inner, f.outer.val, f.params.val, f.results.val, f.locals.val, f.code.val, f.lines.val, f.nodes.val, f.at_.val, f.live.val]
/-- A function in memory. -/
def FnAt (w : World) (b : Nat) (f : FnV) : Prop := w.heap[b]? = some (.cells f.cells 28 (0, 0))
set_option maxRecDepth 100000 in
theorem FnAt.new (w : World) (f : FnV) : FnAt (w.alloc (.cells f.cells 28)) w.heap.size f := heap_alloc_new w _
theorem FnAt.lt {w : World} {b : Nat} {f : FnV} (h : FnAt w b f) : b < w.heap.size := (Array.getElem?_eq_some_iff.1 h).1
theorem FnAt.below {w w' : World} {B b : Nat} {f : FnV} (h : FnAt w b f) (hb : Below B w w') (hlt : b < B) : FnAt w' b f := (hb.block b hlt).trans h
theorem FnAt.on {w w' : World} {b : Nat} {f : FnV} (h : FnAt w b f) (hb : Below w.heap.size w w') : FnAt w' b f := h.below hb h.lt
theorem FnAt.cell {w : World} {b : Nat} {f : FnV} (h : FnAt w b f) (k : Nat) : w.cell? ⟨b, k, none⟩ = f.cells[k]? := by
  unfold FnAt at h
  simp [World.cell?, h]
/-- The cells that signatures lie in. -/
theorem FnAt.sig {w : World} {b : Nat} {f : FnV} (h : FnAt w b f) : w.cell? ⟨b, 3, none⟩ = some (.slice f.params.a f.params.n f.params.c) ∧ w.cell? ⟨b, 4, none⟩ = some (.slice f.results.a f.results.n f.results.c) ∧ w.cell? ⟨b, 5, none⟩ = some (.slice f.locals.a f.locals.n f.locals.c) :=
  ⟨h.cell 3, h.cell 4, h.cell 5⟩

/-- A list of types that can be read, below block B; nil has no room. -/
def TyAt (w : World) (B : Nat) (s : Sl3) (l : List Int) : Prop := IntsAt w B s.a s.n l ∧ (s.a = none → s.c = 0)
theorem TyAt.below {w w' : World} {B : Nat} {s : Sl3} {l : List Int} (h : TyAt w B s l) (hb : Below B w w') : TyAt w' B s l := ⟨h.1.below hb, h.2⟩
theorem TyAt.more {w : World} {B B' : Nat} {s : Sl3} {l : List Int} (h : TyAt w B s l) (hb : B ≤ B') : TyAt w B' s l := ⟨h.1.more hb, h.2⟩
theorem TyAt.on {w w' : World} {s : Sl3} {l : List Int} (h : TyAt w w.heap.size s l) (hb : Below w.heap.size w w') : TyAt w' w'.heap.size s l := (h.below hb).more hb.size

set_option maxRecDepth 100000 in
/-- Three lists, appended one behind the other. -/
theorem append3 {w : World} {B base : Nat} {s1 s2 s3 : Sl3} {l1 l2 l3 : List Int} (h1 : TyAt w B s1 l1) (h2 : TyAt w B s2 l2) (h3 : TyAt w B s3 l3) (hB : B ≤ base) (hbase : base ≤ w.heap.size) (hl : l1.length + l2.length + l3.length ≤ 1048576) :
    ∃ v1 w1 v2 w2 v3 w3, (∀ ty, ty = 22 → (Builtin.append_ #[22, 22] ty #[.slice none 0 0, .slice s1.a s1.n s1.c]).run Tryd.prog w = .ok v1 w1) ∧
      (∀ ty, ty = 22 → (Builtin.append_ #[22, 22] ty #[v1, .slice s2.a s2.n s2.c]).run Tryd.prog w1 = .ok v2 w2) ∧
      (∀ ty, ty = 22 → (Builtin.append_ #[22, 22] ty #[v2, .slice s3.a s3.n s3.c]).run Tryd.prog w2 = .ok v3 w3) ∧
      w3.ownsRow base 51 1 v3 (l1 ++ l2 ++ l3).length (vs (l1 ++ l2 ++ l3)) ∧ Below base w w1 ∧ Below base w w2 ∧ Below base w w3 := by
  have e1 : l1.length = s1.n := h1.1.1
  have e2 : l2.length = s2.n := h2.1.1
  have e3 : l3.length = s3.n := h3.1.1
  obtain ⟨v1, w1, r1, o1, g1⟩ := append_types (n := 0) (v := .slice none 0 0) (xs := []) (base := base) (World.ownsRow_nil _ _ _ _) h1.1 h1.2 hbase (by omega)
  have b1 : Below base w w1 := (Below.refl _ _).grown g1 hbase (fun k hk => by cases hk)
  obtain ⟨v2, w2, r2, o2, g2⟩ := append_types o1 ((h2.below (b1.mono hB)).1) h2.2 (Nat.le_trans hbase b1.size) (by omega)
  have b2 : Below base w w2 := b1.grown g2 (Nat.le_trans hbase b1.size) (fun k hk => (o1.lt k hk).1)
  obtain ⟨v3, w3, r3, o3, g3⟩ := append_types o2 ((h3.below (b2.mono hB)).1) h3.2 (Nat.le_trans hbase b2.size) (by omega)
  have b3 : Below base w w3 := b2.grown g3 (Nat.le_trans hbase b2.size) (fun k hk => (o2.lt k hk).1)
  refine ⟨v1, w1, v2, w2, v3, w3, r1, r2, r3, ?_, b1, b2, b3⟩
  rw [List.length_append, List.length_append, e1, e2, e3, vs_append, vs_append]
  simpa using o3

set_option maxRecDepth 100000 in
theorem tys_of_own {w w' : World} {base n : Nat} {v : Value} {l : List Int} (h : w'.ownsRow base 51 1 v n (vs l)) (hb : Below w.heap.size w w') : TysP l w (.returned v) w' := by
  have hl : l.length = n := by have := h.1; unfold vs at this; simpa using this
  rcases h.2 with ⟨rfl, h0⟩ | ⟨g, cap, cur, rfl, _⟩
  · have hi := ints_of_rowE h
    refine ⟨none, 0, by rw [hl, h0], ?_, hb⟩
    rw [hl, h0]
    exact hi.2.1
  · have hi := ints_of_rowE h
    rw [← hl] at hi
    exact ⟨some ⟨g, 0, none⟩, cap, by rw [hl], by rw [hl] at hi ⊢; exact hi.2.1, hb⟩

set_option maxHeartbeats 2000000 in
set_option maxRecDepth 100000 in
theorem together_any (s1 s2 s3 : Sl3) (l1 l2 l3 : List Int) (g : Nat) (w : World) (h1 : TyAt w w.heap.size s1 l1) (h2 : TyAt w w.heap.size s2 l2) (h3 : TyAt w w.heap.size s3 l3) (hl : l1.length + l2.length + l3.length ≤ 1048576)
    (hg : w.heap[g]? = some (.cells #[s1.val, s2.val, s3.val] 22 (0, 0))) :
    Calls Tryd.prog 55 #[.slice (some ⟨g, 0, none⟩) 3 3] w (TysP (l1 ++ l2 ++ l3) w) := by
  have hlt : g < w.heap.size := (Array.getElem?_eq_some_iff.1 hg).1
  obtain ⟨v1, w1, v2, w2, v3, w3, r1, r2, r3, o3, b1, b2, b3⟩ := append3 (base := w.heap.size) h1 h2 h3 (Nat.le_refl _) (Nat.le_refl _) hl
  have q0 : w.cell? ⟨g, 0, none⟩ = some (.slice s1.a s1.n s1.c) := by simp [World.cell?, hg]; rfl
  have q1 : w1.cell? ⟨g, 1, none⟩ = some (.slice s2.a s2.n s2.c) := by simp [World.cell?, (b1.block g hlt).trans hg]; rfl
  have q2 : w2.cell? ⟨g, 2, none⟩ = some (.slice s3.a s3.n s3.c) := by simp [World.cell?, (b2.block g hlt).trans hg]; rfl
  have HP := Lib.hid (tys_of_own o3 b3)
  have HR1 := Lib.hid (r1 22 rfl)
  have HR2 := Lib.hid (r2 22 rfl)
  have HR3 := Lib.hid (r3 22 rfl)
  clear r1 r2 r3 o3 b1 b2 b3 h1 h2 h3 hl hg
  generalize l1 ++ l2 ++ l3 = l at *
  go_enter Tryd.func55, Tryd.ntmps55
  go_wp2
  refine wp_loop_rounds 4 ?_
  rw [rounds_succ]
  go_wp2_with (at_builtin; refine Lib.wpList_append_run _ rfl (.tmp 12) (.tmp 13) _ _ rfl _ _ rfl rfl _ _ HR1.out ?_)
  rw [rounds_succ]
  go_wp2_with (at_builtin; refine Lib.wpList_append_run _ rfl (.tmp 12) (.tmp 13) _ _ rfl _ _ rfl rfl _ _ HR2.out ?_)
  rw [rounds_succ]
  go_wp2_with (at_builtin; refine Lib.wpList_append_run _ rfl (.tmp 12) (.tmp 13) _ _ rfl _ _ rfl rfl _ _ HR3.out ?_)
  rw [rounds_succ]
  go_wp2
  go_ret
  exact HP.out

set_option maxHeartbeats 2000000 in
set_option maxRecDepth 100000 in
theorem sislots_any (f : FnV) (l1 l2 l3 : List Int) (w : World) (h1 : TyAt w w.heap.size f.params l1) (h2 : TyAt w w.heap.size f.results l2) (h3 : TyAt w w.heap.size f.locals l3) (hl : l1.length + l2.length + l3.length ≤ 1048576) :
    Calls Tryd.prog 42 #[.agg f.cells] w (TysP (l1 ++ l2 ++ l3) w) := by
  have b0 := (Below.refl w.heap.size w).alloc (Nat.le_refl _) (.cells f.cells 28)
  have hsz : (w.alloc (.cells f.cells 28)).heap.size = w.heap.size + 1 := by simp
  have b1 : Below w.heap.size w ((w.alloc (.cells f.cells 28)).alloc (.cells #[f.params.val, f.results.val, f.locals.val] 22)) := b0.alloc (by rw [hsz]; omega) _
  have hg : ((w.alloc (.cells f.cells 28)).alloc (.cells #[f.params.val, f.results.val, f.locals.val] 22)).heap[w.heap.size + 1]? = some (.cells #[f.params.val, f.results.val, f.locals.val] 22 (0, 0)) := by
    have := heap_alloc_new (w.alloc (.cells f.cells 28)) (.cells #[f.params.val, f.results.val, f.locals.val] 22)
    rw [hsz] at this
    exact this
  have HT := Lib.hid (together_any f.params f.results f.locals l1 l2 l3 (w.heap.size + 1) _ (h1.on b1) (h2.on b1) (h3.on b1) hl hg)
  obtain ⟨q3, q4, q5⟩ := (FnAt.new w f).sig
  have HB := Lib.hid b1
  clear hg h1 h2 h3 hl b0 hsz b1
  generalize l1 ++ l2 ++ l3 = l at *
  obtain ⟨nm, inn, ou, ⟨pa, pn, pc⟩, ⟨ra, rn, rc⟩, ⟨la, ln, lc⟩, co, li, no, at', lv⟩ := f
  go_enter Tryd.func42, Tryd.ntmps42
  go_wp2_with (go_at_call 55; refine HT.out.mono ?_; rintro _ w2 ⟨A, c, rfl, hi, hb⟩)
  go_ret
  exact ⟨A, c, rfl, hi, below_self HB.out hb⟩
end Go.Proofs.YtifkoihhlhadhaaDoor
