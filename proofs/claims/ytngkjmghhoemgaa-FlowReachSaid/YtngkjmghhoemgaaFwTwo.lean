/-
  Two drawn calls that make rows of numbers, the second one's appended to the first one's: the region's world and frame. Conditions: none.
-/
import Derived.Test.YtngkjmghhoemgaaFwRow
import Derived.Test.YtngkjmghhoemgaaAtA
import Derived.Test.YtngkjmghhoemgaaReg
namespace Go.Proofs.Ytngkjmghhoemgaa
open Go.RowKit

structure TwX where
  a : Value
  b : Value
  r : Value
structure TwC (w1 : World) (L1 L2 : List Int) (x : TwX) (D : Nat → Bool) (W : World) : Prop where
  below : Below w1.heap.size w1 W
  ra : D 2 = true → D 6 = false → Rq W w1.heap.size x.a L1
  rb : D 5 = true → D 6 = false → Rq W w1.heap.size x.b L2
  rr : D 6 = true → Rq W w1.heap.size x.r (L1 ++ L2)
section
variable {w1 : World} {L1 L2 : List Int} {x : TwX} {D : Nat → Bool} {W : World}
theorem TwC.up (h : TwC w1 L1 L2 x D W) {i : Nat} (h2 : (2 == i) = false) (h5 : (5 == i) = false) (h6 : (6 == i) = false) : TwC w1 L1 L2 x (add D i) W :=
  ⟨h.below, by rw [up_other h2, up_other h6]; exact h.ra, by rw [up_other h5, up_other h6]; exact h.rb, by rw [up_other h6]; exact h.rr⟩
theorem TwC.kept (h : TwC w1 L1 L2 x D W) {W' : World} (hb : Below W.heap.size W W') : TwC w1 L1 L2 x D W' :=
  ⟨h.below.trans (hb.mono h.below.size), fun e e' => (h.ra e e').below hb, fun e e' => (h.rb e e').below hb, fun e => (h.rr e).below hb⟩
theorem TwC.new_a (h : TwC w1 L1 L2 x D W) {u : Value} {W' : World} (hu : Rq W' W.heap.size u L1) (hb : Below W.heap.size W W') : TwC w1 L1 L2 {x with a := u} (add D 2) W' := by
  have k := h.kept hb
  exact ⟨k.below, fun _ _ => hu.more h.below.size, by rw [up_other (j := 5) rfl, up_other (j := 6) rfl]; exact k.rb, by rw [up_other rfl]; exact k.rr⟩
theorem TwC.new_b (h : TwC w1 L1 L2 x D W) {u : Value} {W' : World} (hu : Rq W' W.heap.size u L2) (hb : Below W.heap.size W W') : TwC w1 L1 L2 {x with b := u} (add D 5) W' := by
  have k := h.kept hb
  exact ⟨k.below, by rw [up_other (j := 2) rfl, up_other (j := 6) rfl]; exact k.ra, fun _ _ => hu.more h.below.size, by rw [up_other rfl]; exact k.rr⟩
set_option maxRecDepth 100000 in
theorem TwC.app (h : TwC w1 L1 L2 x D W) (h2 : D 2 = true) (h5 : D 5 = true) (h6 : D 6 = false) (hl : L1.length + L2.length ≤ 1099511627776) :
    ∃ v' W', (∀ ty, (Builtin.append_ #[24, 24] ty #[x.a, x.b]).run Try.prog W = .ok v' W') ∧ TwC w1 L1 L2 {x with r := v'} (add D 6) W' := by
  obtain ⟨A, c, e, hi, _⟩ := (h.rb h5 h6).ints
  obtain ⟨v', W', hr, h1, hg, _⟩ := append_q (c := c) (h.ra h2 h6) hi h.below.size hl
  refine ⟨v', W', fun ty => by rw [e]; exact hr ty, h.below.grown hg h.below.size (fun k hk => ((h.ra h2 h6).lt k hk).1), ?_, ?_, fun _ => h1⟩
  · rw [up_self]; intro _ e; cases e
  · rw [up_self]; intro _ e; cases e
end
def TwG (v : FnV) (k : Nat) (x : TwX) : Nat → Value → Prop
  | 0, vv => vv = .agg #[.string v.name, .bool v.inner, .slice v.outer.a v.outer.n v.outer.c, .slice v.params.a v.params.n v.params.c, .slice v.results.a v.results.n v.results.c, .slice v.locals.a v.locals.n v.locals.c, .slice v.code.a v.code.n v.code.c, .slice v.lines.a v.lines.n v.lines.c, .slice v.nodes.a v.nodes.n v.nodes.c, .slice v.at_.a v.at_.n v.at_.c, .slice v.live.a v.live.n v.live.c]
  | 1, vv => vv = .int .i64 (k : Int)
  | 2, vv => vv = x.a
  | 3, vv => vv = .agg #[.string v.name, .bool v.inner, .slice v.outer.a v.outer.n v.outer.c, .slice v.params.a v.params.n v.params.c, .slice v.results.a v.results.n v.results.c, .slice v.locals.a v.locals.n v.locals.c, .slice v.code.a v.code.n v.code.c, .slice v.lines.a v.lines.n v.lines.c, .slice v.nodes.a v.nodes.n v.nodes.c, .slice v.at_.a v.at_.n v.at_.c, .slice v.live.a v.live.n v.live.c]
  | 4, vv => vv = .int .i64 (k : Int)
  | 5, vv => vv = x.b
  | 6, vv => vv = x.r
  | 7, vv => vv = x.r
  | _, _ => True
theorem tw_a {v : FnV} {k : Nat} {x : TwX} {z : Value} {D : Nat → Bool} (h2 : D 2 = false) : ∀ (i : Nat) (u : Value), D i = true → TwG v k x i u → TwG v k {x with a := z} i u := by
  intro i u hj h
  have e2 : i ≠ 2 := fun e => by rw [e, h2] at hj; cases hj
  unfold TwG at h ⊢
  split at h <;> first | exact h | exact absurd rfl e2
theorem tw_b {v : FnV} {k : Nat} {x : TwX} {z : Value} {D : Nat → Bool} (h5 : D 5 = false) : ∀ (i : Nat) (u : Value), D i = true → TwG v k x i u → TwG v k {x with b := z} i u := by
  intro i u hj h
  have e5 : i ≠ 5 := fun e => by rw [e, h5] at hj; cases hj
  unfold TwG at h ⊢
  split at h <;> first | exact h | exact absurd rfl e5
theorem tw_r {v : FnV} {k : Nat} {x : TwX} {z : Value} {D : Nat → Bool} (h6 : D 6 = false) (h7 : D 7 = false) : ∀ (i : Nat) (u : Value), D i = true → TwG v k x i u → TwG v k {x with r := z} i u := by
  intro i u hj h
  have e6 : i ≠ 6 := fun e => by rw [e, h6] at hj; cases hj
  have e7 : i ≠ 7 := fun e => by rw [e, h7] at hj; cases hj
  unfold TwG at h ⊢
  split at h <;> first | exact h | exact absurd rfl e6 | exact absurd rfl e7
end Go.Proofs.Ytngkjmghhoemgaa
