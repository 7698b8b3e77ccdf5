/-
  The example of a jump over an instruction; whether a function may be. Conditions: none; the function can be read.
-/
import Derived.Test.YtngkjmghhoemgaaFwReach
import Derived.Test.YtngkjmghhoemgaaFwWithin
import Derived.Test.YtngkjmghhoemgaaCanQ
namespace Go.Proofs.Ytngkjmghhoemgaa
open Go.RowKit

/-- A jump over an instruction. -/
def jmpF : Fn.F := ⟨⟨#[102]⟩, false, [], [], [], [], [(21, 2), (0, 0), (25, 0)], [1, 1, 1], [], [], []⟩
def jmpV (b : Nat) : FnV := ⟨⟨#[102]⟩, false, .nil, .nil, .nil, .nil, ⟨some ⟨b, 0, none⟩, 3, 3⟩, ⟨some ⟨b + 1, 0, none⟩, 3, 3⟩, .nil, .nil, .nil⟩
theorem jmpF_can : jmpF.can = 0 := by decide
theorem jmp_wf : jmpF.Wf := ⟨fun p hp => by
    rcases (show p = (21, 2) ∨ p = (0, 0) ∨ p = (25, 0) by simpa [jmpF] using hp) with rfl | rfl | rfl <;> exact ⟨⟨by decide, by decide⟩, ⟨by decide, by decide⟩⟩, fun z hz => by
    obtain rfl : z = 1 := by simpa [jmpF] using hz
    decide, fun n hn => (by cases hn), fun z hz => (by cases hz), fun s hs => (by cases hs)⟩
theorem jmp_next : Fw.next jmpF 0 = [2] := by decide
theorem jmp_leads0 : Fw.leads jmpF 0 = [((2 : Nat) : Int)] := by decide
theorem jmp_leads2 : Fw.leads jmpF 2 = [] := by decide
theorem jmp_runs : Fw.Runs jmpF [false, false, false] [0] [true, false, true] := by
  refine .go _ 0 _ _ (by decide) rfl ?_
  rw [jmp_leads0]
  refine .go _ 2 _ _ (by decide) rfl ?_
  rw [jmp_leads2]
  exact .done _
theorem jmp_within : Fw.within jmpF = true := by decide
/-- The example's world. -/
def jmW (w : World) : World := ((w.alloc (.cells #[.int .i64 21, .int .i64 2, .int .i64 0, .int .i64 0, .int .i64 25, .int .i64 0] 39)).alloc (.cells #[.int .i64 1, .int .i64 1, .int .i64 1] 3)).alloc (.cells (jmpV w.heap.size).cells 28)
set_option maxRecDepth 100000 in
theorem jm_below (w : World) : Below w.heap.size w (jmW w) := by
  have b1 := (Below.refl w.heap.size w).alloc (Nat.le_refl _) (.cells #[.int .i64 21, .int .i64 2, .int .i64 0, .int .i64 0, .int .i64 25, .int .i64 0] 39)
  have b2 := b1.alloc b1.size (.cells #[.int .i64 1, .int .i64 1, .int .i64 1] 3)
  exact b2.alloc b2.size _
set_option maxRecDepth 100000 in
theorem jm_at (w : World) : FnAt (jmW w) (w.heap.size + 2) (jmpV w.heap.size) := by
  have h := FnAt.new ((w.alloc (.cells #[.int .i64 21, .int .i64 2, .int .i64 0, .int .i64 0, .int .i64 25, .int .i64 0] 39)).alloc (.cells #[.int .i64 1, .int .i64 1, .int .i64 1] 3)) (jmpV w.heap.size)
  simp only [World.size_alloc] at h
  exact h
set_option maxRecDepth 100000 in
theorem jm_ok (w : World) : FnOk (jmW w) (jmW w).heap.size (jmpV w.heap.size) jmpF := by
  have hz : (jmW w).heap.size = w.heap.size + 3 := by unfold jmW; simp only [World.size_alloc]
  have h1 : (jmW w).heap[w.heap.size]? = some (.cells #[.int .i64 21, .int .i64 2, .int .i64 0, .int .i64 0, .int .i64 25, .int .i64 0] 39 (0, 0)) := (Below.heap_alloc _ _ _ (by simp; omega)).trans ((Below.heap_alloc _ _ _ (by simp)).trans (heap_alloc_new w _))
  have h2 : (jmW w).heap[w.heap.size + 1]? = some (.cells #[.int .i64 1, .int .i64 1, .int .i64 1] 3 (0, 0)) := by
    refine (Below.heap_alloc _ _ _ (by simp)).trans ?_
    have := heap_alloc_new (w.alloc (.cells #[.int .i64 21, .int .i64 2, .int .i64 0, .int .i64 0, .int .i64 25, .int .i64 0] 39)) (.cells #[.int .i64 1, .int .i64 1, .int .i64 1] 3)
    simpa only [World.size_alloc] using this
  rw [hz]
  refine ⟨rfl, rfl, ⟨intsN _ _, fun _ => rfl⟩, ⟨intsN _ _, fun _ => rfl⟩, ⟨intsN _ _, fun _ => rfl⟩, ⟨intsN _ _, fun _ => rfl⟩, ⟨⟨rfl, fun _ => ⟨w.heap.size, 0, rfl, by omega, fun i hi => ?_⟩⟩, fun e => by cases e⟩, ⟨⟨rfl, fun _ => ⟨w.heap.size + 1, 0, rfl, by omega, fun i hi => ?_⟩⟩, fun e => by cases e⟩, ⟨nodes_nil _ _, fun _ => rfl⟩, ⟨intsN _ _, fun _ => rfl⟩, ⟨sets_nil _ _, fun _ => rfl⟩⟩
  · rcases (show i = 0 ∨ i = 1 ∨ i = 2 by have : i < 3 := hi; omega) with rfl | rfl | rfl
    · exact ⟨cell_of_row _ _ 0 _ _ _ h1, cell_of_row _ _ 1 _ _ _ h1⟩
    · exact ⟨cell_of_row _ _ 2 _ _ _ h1, cell_of_row _ _ 3 _ _ _ h1⟩
    · exact ⟨cell_of_row _ _ 4 _ _ _ h1, cell_of_row _ _ 5 _ _ _ h1⟩
  · rcases (show i = 0 ∨ i = 1 ∨ i = 2 by have : i < 3 := hi; omega) with rfl | rfl | rfl
    · exact cell_of_row _ _ 0 _ _ _ h2
    · exact cell_of_row _ _ 1 _ _ _ h2
    · exact cell_of_row _ _ 2 _ _ _ h2

/-- Two values that two drawn calls tell, in memory of the call's own. -/
structure GwX where
  a : Value
  b : Value
structure GwC (w1 : World) (PA PB : World → Value → Prop) (x : GwX) (D : Nat → Bool) (W : World) : Prop where
  below : Below w1.heap.size w1 W
  ra : D 1 = true → PA W x.a
  rb : D 3 = true → PB W x.b
  ka : ∀ (W W' : World) (v : Value), Below W.heap.size W W' → PA W v → PA W' v
  kb : ∀ (W W' : World) (v : Value), Below W.heap.size W W' → PB W v → PB W' v
section
variable {w1 : World} {PA PB : World → Value → Prop} {x : GwX} {D : Nat → Bool} {W : World}
theorem GwC.up (h : GwC w1 PA PB x D W) {i : Nat} (h1 : (1 == i) = false) (h3 : (3 == i) = false) : GwC w1 PA PB x (add D i) W :=
  ⟨h.below, by rw [up_other h1]; exact h.ra, by rw [up_other h3]; exact h.rb, h.ka, h.kb⟩
theorem GwC.kept (h : GwC w1 PA PB x D W) {W' : World} (hb : Below W.heap.size W W') : GwC w1 PA PB x D W' :=
  ⟨h.below.trans (hb.mono h.below.size), fun e => h.ka _ _ _ hb (h.ra e), fun e => h.kb _ _ _ hb (h.rb e), h.ka, h.kb⟩
theorem GwC.new_a (h : GwC w1 PA PB x D W) {u : Value} {W' : World} (hu : PA W' u) (hb : Below W.heap.size W W') : GwC w1 PA PB {x with a := u} (add D 1) W' := by
  have k := h.kept hb
  exact ⟨k.below, fun _ => hu, by rw [up_other rfl]; exact k.rb, h.ka, h.kb⟩
theorem GwC.new_b (h : GwC w1 PA PB x D W) {u : Value} {W' : World} (hu : PB W' u) (hb : Below W.heap.size W W') : GwC w1 PA PB {x with b := u} (add D 3) W' := by
  have k := h.kept hb
  exact ⟨k.below, by rw [up_other rfl]; exact k.ra, fun _ => hu, h.ka, h.kb⟩
end
/-- A value that is a row of bools from block base on. -/
def BoolsV (base : Nat) (R : List Bool) (W : World) (v : Value) : Prop := ∃ g, v = .slice (some ⟨g, 0, none⟩) R.length R.length ∧ base ≤ g ∧ Bq W g R
theorem boolsV_kept {base : Nat} {R : List Bool} (W W' : World) (v : Value) (hb : Below W.heap.size W W') (h : BoolsV base R W v) : BoolsV base R W' v := by
  obtain ⟨g, e, hg, hq⟩ := h
  exact ⟨g, e, hg, hq.below hb⟩
theorem rowV_kept {base : Nat} {l : List Int} (W W' : World) (v : Value) (hb : Below W.heap.size W W') (h : Rq W base v l) : Rq W' base v l := h.below hb
/-- A call that tells bools, a call that tells numbers, from block base on. -/
theorem NewBools.v {out : List Bool} {w : World} {base : Nat} (hb : base ≤ w.heap.size) {e : Ending} {w' : World} (h : NewBools out w e w') : ∃ u, e = .returned u ∧ BoolsV base out w' u ∧ Below w.heap.size w w' := by
  obtain ⟨g, he, hg, hq, h1⟩ := h
  exact ⟨_, he, ⟨g, rfl, by omega, hq⟩, h1⟩
theorem RowP.v {l : List Int} {w : World} {base : Nat} (hb : base ≤ w.heap.size) {e : Ending} {w' : World} (h : RowP l w e w') : ∃ u, e = .returned u ∧ Rq w' base u l ∧ Below w.heap.size w w' := by
  obtain ⟨u, he, hq, h1⟩ := h
  exact ⟨_, he, hq.more hb, h1⟩
def LgG (v : FnV) (x : GwX) : Nat → Value → Prop
  | 0, vv => vv = .agg #[.string v.name, .bool v.inner, .slice v.outer.a v.outer.n v.outer.c, .slice v.params.a v.params.n v.params.c, .slice v.results.a v.results.n v.results.c, .slice v.locals.a v.locals.n v.locals.c, .slice v.code.a v.code.n v.code.c, .slice v.lines.a v.lines.n v.lines.c, .slice v.nodes.a v.nodes.n v.nodes.c, .slice v.at_.a v.at_.n v.at_.c, .slice v.live.a v.live.n v.live.c]
  | 1, vv => vv = x.a
  | 2, vv => vv = .agg #[.string v.name, .bool v.inner, .slice v.outer.a v.outer.n v.outer.c, .slice v.params.a v.params.n v.params.c, .slice v.results.a v.results.n v.results.c, .slice v.locals.a v.locals.n v.locals.c, .slice v.code.a v.code.n v.code.c, .slice v.lines.a v.lines.n v.lines.c, .slice v.nodes.a v.nodes.n v.nodes.c, .slice v.at_.a v.at_.n v.at_.c, .slice v.live.a v.live.n v.live.c]
  | 3, vv => vv = x.b
  | 4, vv => vv = x.a
  | 5, vv => vv = x.b
  | _, _ => True

theorem lg_a {v : FnV} {x : GwX} {z : Value} {D : Nat → Bool} (h1 : D 1 = false) (h4 : D 4 = false) : ∀ (i : Nat) (u : Value), D i = true → LgG v x i u → LgG v {x with a := z} i u := by
  intro i u hj h
  have e1 : i ≠ 1 := fun e => by rw [e, h1] at hj; cases hj
  have e4 : i ≠ 4 := fun e => by rw [e, h4] at hj; cases hj
  unfold LgG at h ⊢
  split at h <;> first | exact h | exact absurd rfl e1 | exact absurd rfl e4
theorem lg_b {v : FnV} {x : GwX} {z : Value} {D : Nat → Bool} (h3 : D 3 = false) (h5 : D 5 = false) : ∀ (i : Nat) (u : Value), D i = true → LgG v x i u → LgG v {x with b := z} i u := by
  intro i u hj h
  have e3 : i ≠ 3 := fun e => by rw [e, h3] at hj; cases hj
  have e5 : i ≠ 5 := fun e => by rw [e, h5] at hj; cases hj
  unfold LgG at h ⊢
  split at h <;> first | exact h | exact absurd rfl e3 | exact absurd rfl e5

set_option maxRecDepth 100000 in
set_option maxHeartbeats 8000000 in
theorem lives19_any (w0 : World) : Calls Try.prog 5 #[] w0 (BoolP true w0) := by
  have HB := Lib.hid (jm_below w0)
  have HA := Lib.hid (jm_at w0)
  have HNx := Lib.hid (fun (W : World) (hx : Below (jmW w0).heap.size (jmW w0) W) => (show Calls Try.prog 15 #[.agg (jmpV w0.heap.size).cells, .int .i64 0] W (RowP [2] W) from by have h := fwnext_any (jmpV w0.heap.size) jmpF 0 W ((jm_ok w0).on hx) (show (0 : Nat) < 3 by decide) (show (3 : Nat) ≤ _ by decide); rw [jmp_next] at h; exact h).mono (fun e w' h => h.v (base := w0.heap.size) (Nat.le_trans (jm_below w0).size hx.size)))
  have HRe := Lib.hid (fun (W : World) (hx : Below (jmW w0).heap.size (jmW w0) W) => (fwreach_any (jmpV w0.heap.size) jmpF W [true, false, true] ((jm_ok w0).on hx) jmp_wf jmpF_can (show (3 : Nat) ≤ _ by decide) (show (0 : Nat) ≤ _ by decide) jmp_runs).mono (fun e w' h => h.v (base := w0.heap.size) (Nat.le_trans (jm_below w0).size hx.size)))
  have HWi := Lib.hid (fun (W : World) (hx : Below (jmW w0).heap.size (jmW w0) W) => (show Calls Try.prog 11 #[.agg (jmpV w0.heap.size).cells] W (BoolP true W) from by have h := fwwithin_any (jmpV w0.heap.size) jmpF W ((jm_ok w0).on hx) jmp_wf jmpF_can (show (3 : Nat) ≤ _ by decide) (show (0 : Nat) ≤ _ by decide); rw [jmp_within] at h; exact h))
  go_enter Try.func5, Try.ntmps5
  go_wp2
  obtain ⟨v, hv⟩ : ∃ v, v = jmpV w0.heap.size := ⟨_, rfl⟩
  rw [← hv] at HA HNx HRe HWi
  have hC : GwC (jmW w0) (fun W v => Rq W w0.heap.size v [2]) (BoolsV w0.heap.size [true, false, true]) ⟨undef, undef⟩ (fun _ => false) (jmW w0).drew := ⟨(Below.refl _ _).drew, fun e => (by cases e), fun e => (by cases e), rowV_kept, boolsV_kept⟩
  clear hv
  refine region_k ⟨undef, undef⟩ 48 (fun x D W => GwC (jmW w0) (fun W v => Rq W w0.heap.size v [2]) (BoolsV w0.heap.size [true, false, true]) x D W) (fun x => LgG v x) (by kernel_rfl) (by kernel_rfl) (by kernel_rfl) rfl rfl hC ?_ ?_
  · refine ⟨?_, ?_, ?_, ?_, ?_, ?_, trivial⟩
    · intro x D a w hI hdep hD0 K hK
      have e1 : a.eval (.tmp 1) = .pointer (some ⟨w0.heap.size + 2, 0, none⟩) := hI.read 1 rfl
      have hA := HA.out.on hI.world.below
      have k0 := hA.c0
      have k1 := hA.c1
      have k2 := hA.c2
      have k3 := hA.c3
      have k4 := hA.c4
      have k5 := hA.c5
      have k6 := hA.c6
      have k7 := hA.c7
      have k8 := hA.c8
      have k9 := hA.c9
      have k10 := hA.c10
      clear hA
      refine ok_value (wanted_none rfl) (v := .agg #[.string v.name, .bool v.inner, .slice v.outer.a v.outer.n v.outer.c, .slice v.params.a v.params.n v.params.c, .slice v.results.a v.results.n v.results.c, .slice v.locals.a v.locals.n v.locals.c, .slice v.code.a v.code.n v.code.c, .slice v.lines.a v.lines.n v.lines.c, .slice v.nodes.a v.nodes.n v.nodes.c, .slice v.at_.a v.at_.n v.at_.c, .slice v.live.a v.live.n v.live.c]) ?_ (hK x _ _ (hI.world.up rfl rfl) (fun _ _ _ h => h) rfl)
      have ec : ∀ c, a.eval (.const c) = c := fun _ => rfl
      have ef : ∀ f, a.eval (.func f) = .func (.func f) #[] #[] := fun _ => rfl
      clear hI hdep hK
      generalize a.eval = ρ at e1 ec ef ⊢
      go_simp
    · intro x D a w hI hdep hD0 K hK
      have e10 : a.eval (.tmp 10) = .agg #[.string v.name, .bool v.inner, .slice v.outer.a v.outer.n v.outer.c, .slice v.params.a v.params.n v.params.c, .slice v.results.a v.results.n v.results.c, .slice v.locals.a v.locals.n v.locals.c, .slice v.code.a v.code.n v.code.c, .slice v.lines.a v.lines.n v.lines.c, .slice v.nodes.a v.nodes.n v.nodes.c, .slice v.at_.a v.at_.n v.at_.c, .slice v.live.a v.live.n v.live.c] := hI.good 0 10 (dep_of hdep 0 rfl) rfl
      refine ok_call (wanted_none rfl) (f := 15) (args := #[.agg #[.string v.name, .bool v.inner, .slice v.outer.a v.outer.n v.outer.c, .slice v.params.a v.params.n v.params.c, .slice v.results.a v.results.n v.results.c, .slice v.locals.a v.locals.n v.locals.c, .slice v.code.a v.code.n v.code.c, .slice v.lines.a v.lines.n v.lines.c, .slice v.nodes.a v.nodes.n v.nodes.c, .slice v.at_.a v.at_.n v.at_.c, .slice v.live.a v.live.n v.live.c], .int .i64 0]) ?_ (show Calls _ _ #[.agg #[.string v.name, .bool v.inner, .slice v.outer.a v.outer.n v.outer.c, .slice v.params.a v.params.n v.params.c, .slice v.results.a v.results.n v.results.c, .slice v.locals.a v.locals.n v.locals.c, .slice v.code.a v.code.n v.code.c, .slice v.lines.a v.lines.n v.lines.c, .slice v.nodes.a v.nodes.n v.nodes.c, .slice v.at_.a v.at_.n v.at_.c, .slice v.live.a v.live.n v.live.c], .int .i64 0] _ _ from HNx.out w hI.world.below) ?_
      · have ec : ∀ c, a.eval (.const c) = c := fun _ => rfl
        have ef : ∀ f, a.eval (.func f) = .func (.func f) #[] #[] := fun _ => rfl
        clear hI hdep hK
        generalize a.eval = ρ at e10 ec ef ⊢
        go_simp
      · rintro e w2 ⟨u, rfl, hu, hb2⟩
        exact ⟨_, rfl, hK {x with a := u} _ _ (hI.world.new_a hu hb2) (lg_a hD0 (hI.not_up hD0 4 rfl)) rfl⟩
    · intro x D a w hI hdep hD0 K hK
      have e1 : a.eval (.tmp 1) = .pointer (some ⟨w0.heap.size + 2, 0, none⟩) := hI.read 1 rfl
      have hA := HA.out.on hI.world.below
      have k0 := hA.c0
      have k1 := hA.c1
      have k2 := hA.c2
      have k3 := hA.c3
      have k4 := hA.c4
      have k5 := hA.c5
      have k6 := hA.c6
      have k7 := hA.c7
      have k8 := hA.c8
      have k9 := hA.c9
      have k10 := hA.c10
      clear hA
      refine ok_value (wanted_none rfl) (v := .agg #[.string v.name, .bool v.inner, .slice v.outer.a v.outer.n v.outer.c, .slice v.params.a v.params.n v.params.c, .slice v.results.a v.results.n v.results.c, .slice v.locals.a v.locals.n v.locals.c, .slice v.code.a v.code.n v.code.c, .slice v.lines.a v.lines.n v.lines.c, .slice v.nodes.a v.nodes.n v.nodes.c, .slice v.at_.a v.at_.n v.at_.c, .slice v.live.a v.live.n v.live.c]) ?_ (hK x _ _ (hI.world.up rfl rfl) (fun _ _ _ h => h) rfl)
      have ec : ∀ c, a.eval (.const c) = c := fun _ => rfl
      have ef : ∀ f, a.eval (.func f) = .func (.func f) #[] #[] := fun _ => rfl
      clear hI hdep hK
      generalize a.eval = ρ at e1 ec ef ⊢
      go_simp
    · intro x D a w hI hdep hD0 K hK
      have e12 : a.eval (.tmp 12) = .agg #[.string v.name, .bool v.inner, .slice v.outer.a v.outer.n v.outer.c, .slice v.params.a v.params.n v.params.c, .slice v.results.a v.results.n v.results.c, .slice v.locals.a v.locals.n v.locals.c, .slice v.code.a v.code.n v.code.c, .slice v.lines.a v.lines.n v.lines.c, .slice v.nodes.a v.nodes.n v.nodes.c, .slice v.at_.a v.at_.n v.at_.c, .slice v.live.a v.live.n v.live.c] := hI.good 2 12 (dep_of hdep 2 rfl) rfl
      refine ok_call (wanted_none rfl) (f := 6) (args := #[.agg #[.string v.name, .bool v.inner, .slice v.outer.a v.outer.n v.outer.c, .slice v.params.a v.params.n v.params.c, .slice v.results.a v.results.n v.results.c, .slice v.locals.a v.locals.n v.locals.c, .slice v.code.a v.code.n v.code.c, .slice v.lines.a v.lines.n v.lines.c, .slice v.nodes.a v.nodes.n v.nodes.c, .slice v.at_.a v.at_.n v.at_.c, .slice v.live.a v.live.n v.live.c]]) ?_ (show Calls _ _ #[.agg #[.string v.name, .bool v.inner, .slice v.outer.a v.outer.n v.outer.c, .slice v.params.a v.params.n v.params.c, .slice v.results.a v.results.n v.results.c, .slice v.locals.a v.locals.n v.locals.c, .slice v.code.a v.code.n v.code.c, .slice v.lines.a v.lines.n v.lines.c, .slice v.nodes.a v.nodes.n v.nodes.c, .slice v.at_.a v.at_.n v.at_.c, .slice v.live.a v.live.n v.live.c]] _ _ from HRe.out w hI.world.below) ?_
      · have ec : ∀ c, a.eval (.const c) = c := fun _ => rfl
        have ef : ∀ f, a.eval (.func f) = .func (.func f) #[] #[] := fun _ => rfl
        clear hI hdep hK
        generalize a.eval = ρ at e12 ec ef ⊢
        go_simp
      · rintro e w2 ⟨u, rfl, hu, hb2⟩
        exact ⟨_, rfl, hK {x with b := u} _ _ (hI.world.new_b hu hb2) (lg_b hD0 (hI.not_up hD0 5 rfl)) rfl⟩
    · intro x D a w hI hdep hD0 K hK
      have e11 : a.eval (.tmp 11) = x.a := hI.good 1 11 (dep_of hdep 1 rfl) rfl
      refine ok_value (wanted_none rfl) (v := x.a) ?_ (hK x _ _ (hI.world.up rfl rfl) (fun _ _ _ h => h) rfl)
      have ec : ∀ c, a.eval (.const c) = c := fun _ => rfl
      have ef : ∀ f, a.eval (.func f) = .func (.func f) #[] #[] := fun _ => rfl
      clear hI hdep hK
      generalize a.eval = ρ at e11 ec ef ⊢
      go_simp
    · intro x D a w hI hdep hD0 K hK
      have e13 : a.eval (.tmp 13) = x.b := hI.good 3 13 (dep_of hdep 3 rfl) rfl
      refine ok_value (wanted_none rfl) (v := x.b) ?_ (hK x _ _ (hI.world.up rfl rfl) (fun _ _ _ h => h) rfl)
      have ec : ∀ c, a.eval (.const c) = c := fun _ => rfl
      have ef : ∀ f, a.eval (.func f) = .func (.func f) #[] #[] := fun _ => rfl
      clear hI hdep hK
      generalize a.eval = ρ at e13 ec ef ⊢
      go_simp
  · intro x D a w2 hI hD
    have hfr := hI.frame [(10, .agg #[.string v.name, .bool v.inner, .slice v.outer.a v.outer.n v.outer.c, .slice v.params.a v.params.n v.params.c, .slice v.results.a v.results.n v.results.c, .slice v.locals.a v.locals.n v.locals.c, .slice v.code.a v.code.n v.code.c, .slice v.lines.a v.lines.n v.lines.c, .slice v.nodes.a v.nodes.n v.nodes.c, .slice v.at_.a v.at_.n v.at_.c, .slice v.live.a v.live.n v.live.c]), (11, x.a), (12, .agg #[.string v.name, .bool v.inner, .slice v.outer.a v.outer.n v.outer.c, .slice v.params.a v.params.n v.params.c, .slice v.results.a v.results.n v.results.c, .slice v.locals.a v.locals.n v.locals.c, .slice v.code.a v.code.n v.code.c, .slice v.lines.a v.lines.n v.lines.c, .slice v.nodes.a v.nodes.n v.nodes.c, .slice v.at_.a v.at_.n v.at_.c, .slice v.live.a v.live.n v.live.c]), (13, x.b), (2, x.a), (3, x.b)] (all_cons (hI.good 0 10 (hD 0 (by decide)) rfl) (all_cons (hI.good 1 11 (hD 1 (by decide)) rfl) (all_cons (hI.good 2 12 (hD 2 (by decide)) rfl) (all_cons (hI.good 3 13 (hD 3 (by decide)) rfl) (all_cons (hI.good 4 2 (hD 4 (by decide)) rfl) (all_cons (hI.good 5 3 (hD 5 (by decide)) rfl) all_nil)))))) rfl
    have hW := hI.world
    clear hI
    subst hfr
    simp only [List.foldl_cons, List.foldl_nil, List.setIfInBounds_toArray, List.set_cons_succ, List.set_cons_zero]
    have ha := hW.ra (hD 1 (by decide))
    have hb := hW.rb (hD 3 (by decide))
    have HB2 := Lib.hid hW.below
    have hA2 := HA.out.on hW.below
    have k0 := hA2.c0; have k1 := hA2.c1; have k2 := hA2.c2; have k3 := hA2.c3; have k4 := hA2.c4; have k5 := hA2.c5; have k6 := hA2.c6; have k7 := hA2.c7; have k8 := hA2.c8; have k9 := hA2.c9; have k10 := hA2.c10
    obtain ⟨xa, xb⟩ := x
    simp only at ha hb
    obtain ⟨A, cA, rfl, hi, _⟩ := ha.ints
    obtain ⟨g, rfl, _, hq⟩ := hb
    obtain ⟨b2, off2, y, rfl, _, y0, hy, _⟩ := ints_cell hi (show 0 < [(2 : Int)].length by decide)
    obtain rfl : y = 2 := hy.symm
    have z0 := hq.cell (k := 0) (by decide)
    have z1 := hq.cell (k := 1) (by decide)
    have z2 := hq.cell (k := 2) (by decide)
    rw [Nat.add_zero] at y0
    have HWi2 := Lib.hid (HWi.out w2 HB2.out)
    clear hW hD ha hi hq hy hA2 hC
    go_wp2_with (go_at_call 11; refine HWi2.out.mono ?_; rintro _ w3 ⟨rfl, hb3⟩)
    go_ret
    exact ⟨rfl, HB.out.trans ((HB2.out.trans (hb3.mono HB2.out.size)).mono HB.out.size)⟩

/-- A bool is told; if it is true, few of everything are there, and it can be laid. -/
def FwMayP (v : FnV) (n : Nat) (w : World) (e : Ending) (w' : World) : Prop := ∃ b : Bool, e = .returned (.bool b) ∧ (b = true → v.Few ∧ n = 0) ∧ Below w.heap.size w w'

set_option maxRecDepth 100000 in
set_option maxHeartbeats 8000000 in
theorem may19_any (v : FnV) (f : Fn.F) (w : World) (h : FnOk w w.heap.size v f) (hl : v.Len) (hw : f.Wf) : Calls Try.prog 4 #[.agg v.cells] w (FwMayP v f.can w) := by
  have hb0 := (Below.refl w.heap.size w).alloc (Nat.le_refl _) (.cells v.cells 28)
  have HB := Lib.hid hb0
  have hA := FnAt.new w v
  have c0 := hA.c0; have c1 := hA.c1; have c2 := hA.c2; have c3 := hA.c3; have c4 := hA.c4; have c5 := hA.c5; have c6 := hA.c6; have c7 := hA.c7; have c8 := hA.c8; have c9 := hA.c9; have c10 := hA.c10
  have HSm := Lib.hid (small15_any v (w.alloc (.cells v.cells 28)))
  unfold SmallP at HSm
  have HCn := Lib.hid (fun (hf : v.Few) (W : World) (hx : Below w.heap.size w W) => rfncan_any v f W (h.on hx) hl hw hf)
  clear h hl hw hb0 hA
  obtain ⟨fc, hfc⟩ : ∃ n : Nat, n = f.can := ⟨_, rfl⟩
  rw [← hfc] at HCn ⊢
  clear hfc
  obtain ⟨nm, inn, ⟨oa, on, oc⟩, ⟨pa, pn, pc⟩, ⟨ra, rn, rc⟩, ⟨la, ln, lc⟩, ⟨ca, cn, cc⟩, ⟨ia, i_n, ic⟩, ⟨na, nn, nc⟩, ⟨ta, tn, tc⟩, ⟨va, vn, vc⟩⟩ := v
  have HC := Lib.hid (And.intro c0 (And.intro c1 (And.intro c2 (And.intro c3 (And.intro c4 (And.intro c5 (And.intro c6 (And.intro c7 (And.intro c8 (And.intro c9 c10))))))))))
  go_enter Try.func4, Try.ntmps4
  go_wp2_with (go_at_call 13; refine HSm.out.mono ?_; rintro _ w2 ⟨bs, rfl, hs, hb3⟩; have HB3 := Lib.hid hb3; have HS := Lib.hid hs; clear HSm hb3 hs c0 c1 c2 c3 c4 c5 c6 c7 c8 c9 c10; refine Hid.out ?_)
  cases bs with
  | false =>
    refine Lib.hid ?_
    go_wp2
    go_ret
    exact ⟨false, rfl, fun h => (by cases h), HB.out.trans (HB3.out.mono (by simp))⟩
  | true =>
    have HF := Lib.hid (HS.out rfl)
    obtain ⟨c0, c1, c2, c3, c4, c5, c6, c7, c8, c9, c10⟩ := HC.out
    have k0 := (HB3.out.cell (p := ⟨w.heap.size, 0, none⟩) (by simp)).trans c0; have k1 := (HB3.out.cell (p := ⟨w.heap.size, 1, none⟩) (by simp)).trans c1; have k2 := (HB3.out.cell (p := ⟨w.heap.size, 2, none⟩) (by simp)).trans c2; have k3 := (HB3.out.cell (p := ⟨w.heap.size, 3, none⟩) (by simp)).trans c3; have k4 := (HB3.out.cell (p := ⟨w.heap.size, 4, none⟩) (by simp)).trans c4; have k5 := (HB3.out.cell (p := ⟨w.heap.size, 5, none⟩) (by simp)).trans c5; have k6 := (HB3.out.cell (p := ⟨w.heap.size, 6, none⟩) (by simp)).trans c6; have k7 := (HB3.out.cell (p := ⟨w.heap.size, 7, none⟩) (by simp)).trans c7; have k8 := (HB3.out.cell (p := ⟨w.heap.size, 8, none⟩) (by simp)).trans c8; have k9 := (HB3.out.cell (p := ⟨w.heap.size, 9, none⟩) (by simp)).trans c9; have k10 := (HB3.out.cell (p := ⟨w.heap.size, 10, none⟩) (by simp)).trans c10
    have HK := Lib.hid (HCn.out HF.out w2 (HB.out.trans (HB3.out.mono (by simp))))
    clear c0 c1 c2 c3 c4 c5 c6 c7 c8 c9 c10 HS
    by_cases h0 : fc = 0
    · subst h0
      refine Lib.hid ?_
      go_wp2_with (go_at_call 14; refine HK.out.mono ?_; rintro _ w3 ⟨rfl, hb4⟩; have HB4 := Lib.hid hb4; clear hb4)
      go_ret
      exact ⟨true, rfl, fun _ => ⟨HF.out, rfl⟩, HB.out.trans ((below_self HB3.out HB4.out).mono (by simp))⟩
    · have e0 : ((fc : Int) == 0) = false := by rw [beq_eq_false_iff_ne]; omega
      clear h0
      refine Lib.hid ?_
      go_wp2_with (go_at_call 14; refine HK.out.mono ?_; rintro _ w3 ⟨rfl, hb4⟩; have HB4 := Lib.hid hb4; clear hb4)
      go_ret
      exact ⟨false, rfl, fun h => (by cases h), HB.out.trans ((below_self HB3.out HB4.out).mono (by simp))⟩
end Go.Proofs.Ytngkjmghhoemgaa
