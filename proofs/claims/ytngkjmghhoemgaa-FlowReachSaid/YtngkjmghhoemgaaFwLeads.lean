/-
  All instructions to which one leads: the program's answer. Conditions: the function can be read, and laid; words of 64 bits; not more than a million instructions and nodes.
-/
import Derived.Test.YtngkjmghhoemgaaFwCatch
import Derived.Test.YtngkjmghhoemgaaFwNext
import Derived.Test.YtngkjmghhoemgaaFwCat
import Derived.Test.YtngkjmghhoemgaaReg
namespace Go.Proofs.Ytngkjmghhoemgaa
open Go.RowKit

/-- What is told: three rows, where they lie together, and what they are behind each other. -/
structure LdX where
  a : Value
  b : Value
  c : Value
  p : Nat
  r : Value
/-- The world while the three are told. -/
structure LdC (w1 : World) (L0 L1 L2 : List Int) (x : LdX) (D : Nat → Bool) (W : World) : Prop where
  below : Below w1.heap.size w1 W
  ra : D 2 = true → Rq W w1.heap.size x.a L0
  rb : D 5 = true → Rq W w1.heap.size x.b L1
  rc : D 8 = true → Rq W w1.heap.size x.c L2
  rp : D 9 = true → D 2 = true ∧ D 5 = true ∧ D 8 = true ∧ w1.heap.size ≤ x.p ∧ W.heap[x.p]? = some (.cells #[x.a, x.b, x.c] 24 (0, 0))
  rr : D 10 = true → Rq W w1.heap.size x.r (L0 ++ (L1 ++ L2))
section
variable {w1 : World} {L0 L1 L2 : List Int} {x : LdX} {D : Nat → Bool} {W : World}
theorem LdC.up (h : LdC w1 L0 L1 L2 x D W) {i : Nat} (h2 : (2 == i) = false) (h5 : (5 == i) = false) (h8 : (8 == i) = false) (h9 : (9 == i) = false) (h10 : (10 == i) = false) : LdC w1 L0 L1 L2 x (add D i) W :=
  ⟨h.below, by rw [up_other h2]; exact h.ra, by rw [up_other h5]; exact h.rb, by rw [up_other h8]; exact h.rc, by rw [up_other h9, up_other h2, up_other h5, up_other h8]; exact h.rp, by rw [up_other h10]; exact h.rr⟩
theorem LdC.kept (h : LdC w1 L0 L1 L2 x D W) {W' : World} (hb : Below W.heap.size W W') : LdC w1 L0 L1 L2 x D W' :=
  ⟨h.below.trans (hb.mono h.below.size), fun e => (h.ra e).below hb, fun e => (h.rb e).below hb, fun e => (h.rc e).below hb, fun e => by
    obtain ⟨a, b, c, d, hp⟩ := h.rp e
    exact ⟨a, b, c, d, (hb.block x.p (Array.getElem?_eq_some_iff.1 hp).1).trans hp⟩, fun e => (h.rr e).below hb⟩
theorem LdC.new_a (h : LdC w1 L0 L1 L2 x D W) (hD : D 2 = false) {u : Value} {W' : World} (hu : Rq W' W.heap.size u L0) (hb : Below W.heap.size W W') : LdC w1 L0 L1 L2 {x with a := u} (add D 2) W' := by
  have k := h.kept hb
  refine ⟨k.below, fun _ => hu.more h.below.size, ?_, ?_, ?_, ?_⟩
  · rw [up_other rfl]; exact k.rb
  · rw [up_other rfl]; exact k.rc
  · rw [up_other rfl]
    intro e
    rw [(k.rp e).1] at hD
    cases hD
  · rw [up_other rfl]; exact k.rr
theorem LdC.new_b (h : LdC w1 L0 L1 L2 x D W) (hD : D 5 = false) {u : Value} {W' : World} (hu : Rq W' W.heap.size u L1) (hb : Below W.heap.size W W') : LdC w1 L0 L1 L2 {x with b := u} (add D 5) W' := by
  have k := h.kept hb
  refine ⟨k.below, ?_, fun _ => hu.more h.below.size, ?_, ?_, ?_⟩
  · rw [up_other rfl]; exact k.ra
  · rw [up_other rfl]; exact k.rc
  · rw [up_other rfl]
    intro e
    rw [(k.rp e).2.1] at hD
    cases hD
  · rw [up_other rfl]; exact k.rr
theorem LdC.new_c (h : LdC w1 L0 L1 L2 x D W) (hD : D 8 = false) {u : Value} {W' : World} (hu : Rq W' W.heap.size u L2) (hb : Below W.heap.size W W') : LdC w1 L0 L1 L2 {x with c := u} (add D 8) W' := by
  have k := h.kept hb
  refine ⟨k.below, ?_, ?_, fun _ => hu.more h.below.size, ?_, ?_⟩
  · rw [up_other rfl]; exact k.ra
  · rw [up_other rfl]; exact k.rb
  · rw [up_other rfl]
    intro e
    rw [(k.rp e).2.2.1] at hD
    cases hD
  · rw [up_other rfl]; exact k.rr
set_option maxRecDepth 100000 in
theorem LdC.new_p (h : LdC w1 L0 L1 L2 x D W) (h2 : D 2 = true) (h5 : D 5 = true) (h8 : D 8 = true) : LdC w1 L0 L1 L2 {x with p := W.heap.size} (add D 9) (W.alloc (.cells #[x.a, x.b, x.c] 24)) := by
  have k := h.kept ((Below.refl W.heap.size W).alloc (Nat.le_refl _) (.cells #[x.a, x.b, x.c] 24))
  refine ⟨k.below, ?_, ?_, ?_, fun _ => ⟨?_, ?_, ?_, h.below.size, heap_alloc_new W _⟩, ?_⟩
  · rw [up_other rfl]; exact k.ra
  · rw [up_other rfl]; exact k.rb
  · rw [up_other rfl]; exact k.rc
  · rw [up_other rfl]; exact h2
  · rw [up_other rfl]; exact h5
  · rw [up_other rfl]; exact h8
  · rw [up_other rfl]; exact k.rr
theorem LdC.new_r (h : LdC w1 L0 L1 L2 x D W) {u : Value} {W' : World} (hu : Rq W' W.heap.size u (L0 ++ (L1 ++ L2))) (hb : Below W.heap.size W W') : LdC w1 L0 L1 L2 {x with r := u} (add D 10) W' := by
  have k := h.kept hb
  refine ⟨k.below, ?_, ?_, ?_, ?_, fun _ => hu.more h.below.size⟩
  · rw [up_other rfl]; exact k.ra
  · rw [up_other rfl]; exact k.rb
  · rw [up_other rfl]; exact k.rc
  · rw [up_other (j := 9) rfl, up_other (j := 2) rfl, up_other (j := 5) rfl, up_other (j := 8) rfl]; exact k.rp
theorem LdC.vals (h : LdC w1 L0 L1 L2 x D W) (h2 : D 2 = true) (h5 : D 5 = true) (h8 : D 8 = true) : (∃ A n c, x.a = .slice A n c) ∧ (∃ A n c, x.b = .slice A n c) ∧ (∃ A n c, x.c = .slice A n c) := by
  obtain ⟨A0, c0, e0, _⟩ := (h.ra h2).ints
  obtain ⟨A1, c1, e1, _⟩ := (h.rb h5).ints
  obtain ⟨A2, c2, e2, _⟩ := (h.rc h8).ints
  exact ⟨⟨_, _, _, e0⟩, ⟨_, _, _, e1⟩, ⟨_, _, _, e2⟩⟩
set_option maxRecDepth 100000 in
theorem LdC.cat (h : LdC w1 L0 L1 L2 x D W) (h9 : D 9 = true) (hl : L0.length ≤ 2000000 ∧ L1.length ≤ 2000000 ∧ L2.length ≤ 2000000) : ∃ (_A0 _A1 _A2 : Option Addr) (_n0 _n1 _n2 _c0 _c1 _c2 : Nat), Calls Try.prog 33 #[.slice (some ⟨x.p, 0, none⟩) 3 3] W (RowP (L0 ++ (L1 ++ L2)) W) := by
  obtain ⟨h2, h5, h8, _, hp⟩ := h.rp h9
  obtain ⟨A0, c0, e0, i0, _⟩ := (h.ra h2).ints
  obtain ⟨A1, c1, e1, i1, _⟩ := (h.rb h5).ints
  obtain ⟨A2, c2, e2, i2, _⟩ := (h.rc h8).ints
  refine ⟨A0, A1, A2, 0, 0, 0, c0, c1, c2, concat3_any x.p A0 A1 A2 _ _ _ c0 c1 c2 L0 L1 L2 W (Array.getElem?_eq_some_iff.1 hp).1 ?_ ?_ ?_ i0 i1 i2 hl.1 hl.2.1 hl.2.2⟩
  · rw [cell_of_row W x.p 0 _ _ _ hp, e0]; rfl
  · rw [cell_of_row W x.p 1 _ _ _ hp, e1]; rfl
  · rw [cell_of_row W x.p 2 _ _ _ hp, e2]; rfl
end
def LdG (v : FnV) (k : Nat) (_q : Nat) (x : LdX) : Nat → Value → Prop
  | 0, vv => vv = .agg #[.string v.name, .bool v.inner, .slice v.outer.a v.outer.n v.outer.c, .slice v.params.a v.params.n v.params.c, .slice v.results.a v.results.n v.results.c, .slice v.locals.a v.locals.n v.locals.c, .slice v.code.a v.code.n v.code.c, .slice v.lines.a v.lines.n v.lines.c, .slice v.nodes.a v.nodes.n v.nodes.c, .slice v.at_.a v.at_.n v.at_.c, .slice v.live.a v.live.n v.live.c]
  | 1, vv => vv = .int .i64 (k : Int)
  | 2, vv => vv = x.a
  | 3, vv => vv = .agg #[.string v.name, .bool v.inner, .slice v.outer.a v.outer.n v.outer.c, .slice v.params.a v.params.n v.params.c, .slice v.results.a v.results.n v.results.c, .slice v.locals.a v.locals.n v.locals.c, .slice v.code.a v.code.n v.code.c, .slice v.lines.a v.lines.n v.lines.c, .slice v.nodes.a v.nodes.n v.nodes.c, .slice v.at_.a v.at_.n v.at_.c, .slice v.live.a v.live.n v.live.c]
  | 4, vv => vv = .int .i64 (k : Int)
  | 5, vv => vv = x.b
  | 6, vv => vv = .agg #[.string v.name, .bool v.inner, .slice v.outer.a v.outer.n v.outer.c, .slice v.params.a v.params.n v.params.c, .slice v.results.a v.results.n v.results.c, .slice v.locals.a v.locals.n v.locals.c, .slice v.code.a v.code.n v.code.c, .slice v.lines.a v.lines.n v.lines.c, .slice v.nodes.a v.nodes.n v.nodes.c, .slice v.at_.a v.at_.n v.at_.c, .slice v.live.a v.live.n v.live.c]
  | 7, vv => vv = .int .i64 (k : Int)
  | 8, vv => vv = x.c
  | 9, vv => vv = .slice (some ⟨x.p, 0, none⟩) 3 3
  | 10, vv => vv = x.r
  | 11, vv => vv = x.r
  | _, _ => True

theorem ldg_a {v : FnV} {k : Nat} {q : Nat} {x : LdX} {z : Value} {D : Nat → Bool} (h2 : D 2 = false) : ∀ (j : Nat) (u : Value), D j = true → LdG v k q x j u → LdG v k q {x with a := z} j u := by
  intro j u hj h
  have e2 : j ≠ 2 := fun e => by rw [e, h2] at hj; cases hj
  unfold LdG at h ⊢
  split at h <;> first | exact h | exact absurd rfl e2
theorem ldg_b {v : FnV} {k : Nat} {q : Nat} {x : LdX} {z : Value} {D : Nat → Bool} (h5 : D 5 = false) : ∀ (j : Nat) (u : Value), D j = true → LdG v k q x j u → LdG v k q {x with b := z} j u := by
  intro j u hj h
  have e5 : j ≠ 5 := fun e => by rw [e, h5] at hj; cases hj
  unfold LdG at h ⊢
  split at h <;> first | exact h | exact absurd rfl e5
theorem ldg_c {v : FnV} {k : Nat} {q : Nat} {x : LdX} {z : Value} {D : Nat → Bool} (h8 : D 8 = false) : ∀ (j : Nat) (u : Value), D j = true → LdG v k q x j u → LdG v k q {x with c := z} j u := by
  intro j u hj h
  have e8 : j ≠ 8 := fun e => by rw [e, h8] at hj; cases hj
  unfold LdG at h ⊢
  split at h <;> first | exact h | exact absurd rfl e8
theorem ldg_p {v : FnV} {k : Nat} {q : Nat} {x : LdX} {z : Nat} {D : Nat → Bool} (h9 : D 9 = false) : ∀ (j : Nat) (u : Value), D j = true → LdG v k q x j u → LdG v k q {x with p := z} j u := by
  intro j u hj h
  have e9 : j ≠ 9 := fun e => by rw [e, h9] at hj; cases hj
  unfold LdG at h ⊢
  split at h <;> first | exact h | exact absurd rfl e9
theorem ldg_r {v : FnV} {k : Nat} {q : Nat} {x : LdX} {z : Value} {D : Nat → Bool} (h10 : D 10 = false) (h11 : D 11 = false) : ∀ (j : Nat) (u : Value), D j = true → LdG v k q x j u → LdG v k q {x with r := z} j u := by
  intro j u hj h
  have e10 : j ≠ 10 := fun e => by rw [e, h10] at hj; cases hj
  have e11 : j ≠ 11 := fun e => by rw [e, h11] at hj; cases hj
  unfold LdG at h ⊢
  split at h <;> first | exact h | exact absurd rfl e10 | exact absurd rfl e11

set_option maxHeartbeats 8000000 in
set_option maxRecDepth 100000 in
theorem fwleads_any (v : FnV) (f : Fn.F) (k : Nat) (w : World) (h : FnOk w w.heap.size v f) (hw : f.Wf) (hcan : f.can = 0) (hk : k < v.code.n) (hk2 : v.code.n ≤ 1000000) (hnn : v.nodes.n ≤ 1000000) :
    Calls Try.prog 17 #[.agg v.cells, .int .i64 (k : Int)] w (RowP (Fw.leads f k) w) := by
  have hb := (Below.refl w.heap.size w).alloc (Nat.le_refl _) (.cells v.cells 28)
  have HB := Lib.hid hb
  have HA := Lib.hid (FnAt.new w v)
  have HNx := Lib.hid (fun (W : World) (hx : Below w.heap.size w W) => fwnext_any v f k W (h.on hx) hk hk2)
  have HCt := Lib.hid (fun (W : World) (hx : Below w.heap.size w W) => fwcatch_any v f k W (h.on hx) hw hcan hk hnn)
  have HOp := Lib.hid (fun (W : World) (hx : Below w.heap.size w W) => fwopens_any v f k W (h.on hx) hk)
  have HLn : Hid ((Fw.next f k).length ≤ 2000000 ∧ (Fw.catch_ f k).length ≤ 2000000 ∧ (Fw.opens f k).length ≤ 2000000) := Lib.hid (by
    have h1 := Fw.next_len (f := f) k
    have h2 := Fw.catch_len (f := f) k
    have h3 := Fw.opens_len (f := f) k
    have h4 := h.n_nodes
    omega)
  have HE : Hid (Fw.leads f k = Fw.next f k ++ (Fw.catch_ f k ++ Fw.opens f k)) := Lib.hid rfl
  clear h hw hcan hk hk2 hnn hb
  rw [HE.out]
  clear HE
  generalize Fw.next f k = L0 at *
  generalize Fw.catch_ f k = L1 at *
  generalize Fw.opens f k = L2 at *
  go_enter Try.func17, Try.ntmps17
  go_wp2
  generalize w.alloc (.cells v.cells 28) = w1 at *
  have hC : LdC w1 L0 L1 L2 ⟨undef, undef, undef, 0, undef⟩ (fun _ => false) w1.drew := ⟨(Below.refl _ _).drew, fun e => (by cases e), fun e => (by cases e), fun e => (by cases e), fun e => (by cases e), fun e => (by cases e)⟩
  have HSz : Hid (w.heap.size ≤ w1.heap.size) := Lib.hid HB.out.size
  generalize hq : w.heap.size = q at HA ⊢
  refine region_k ⟨undef, undef, undef, 0, undef⟩ 16 (fun x D W => LdC w1 L0 L1 L2 x D W) (fun x => LdG v k q x) (by kernel_rfl) (by kernel_rfl) (by kernel_rfl) rfl rfl hC ?_ ?_
  · refine ⟨?_, ?_, ?_, ?_, ?_, ?_, ?_, ?_, ?_, ?_, ?_, ?_, trivial⟩
    · intro x D a w hI hdep hD0 K hK
      have e2 : a.eval (.tmp 2) = .pointer (some ⟨q, 0, none⟩) := hI.read 2 rfl
      have hA := HA.out.on hI.world.below
      have k0 := hA.c0
      have k1 := hA.c1
      have k2 := hA.c2
      have k3 := hA.c3
      have k4 := hA.c4
      have k5 := hA.c5
      have k6 := hA.c6
      have k7 := hA.c7
      have k8 := hA.c8
      have k9 := hA.c9
      have k10 := hA.c10
      clear hA
      refine ok_value (wanted_none rfl) (v := .agg #[.string v.name, .bool v.inner, .slice v.outer.a v.outer.n v.outer.c, .slice v.params.a v.params.n v.params.c, .slice v.results.a v.results.n v.results.c, .slice v.locals.a v.locals.n v.locals.c, .slice v.code.a v.code.n v.code.c, .slice v.lines.a v.lines.n v.lines.c, .slice v.nodes.a v.nodes.n v.nodes.c, .slice v.at_.a v.at_.n v.at_.c, .slice v.live.a v.live.n v.live.c]) ?_ (hK x _ _ (hI.world.up rfl rfl rfl rfl rfl) (fun _ _ _ h => h) rfl)
      have ec : ∀ c, a.eval (.const c) = c := fun _ => rfl
      have ef : ∀ f, a.eval (.func f) = .func (.func f) #[] #[] := fun _ => rfl
      clear hI hdep hK
      generalize a.eval = ρ at e2 ec ef ⊢
      go_simp
    · intro x D a w hI hdep hD0 K hK
      have e1 : a.eval (.tmp 1) = .int .i64 (k : Int) := hI.read 1 rfl
      refine ok_value (wanted_none rfl) (v := .int .i64 (k : Int)) ?_ (hK x _ _ (hI.world.up rfl rfl rfl rfl rfl) (fun _ _ _ h => h) rfl)
      have ec : ∀ c, a.eval (.const c) = c := fun _ => rfl
      have ef : ∀ f, a.eval (.func f) = .func (.func f) #[] #[] := fun _ => rfl
      clear hI hdep hK
      generalize a.eval = ρ at e1 ec ef ⊢
      go_simp
    · intro x D a w hI hdep hD0 K hK
      have e5 : a.eval (.tmp 5) = .agg #[.string v.name, .bool v.inner, .slice v.outer.a v.outer.n v.outer.c, .slice v.params.a v.params.n v.params.c, .slice v.results.a v.results.n v.results.c, .slice v.locals.a v.locals.n v.locals.c, .slice v.code.a v.code.n v.code.c, .slice v.lines.a v.lines.n v.lines.c, .slice v.nodes.a v.nodes.n v.nodes.c, .slice v.at_.a v.at_.n v.at_.c, .slice v.live.a v.live.n v.live.c] := hI.good 0 5 (dep_of hdep 0 rfl) rfl
      have e6 : a.eval (.tmp 6) = .int .i64 (k : Int) := hI.good 1 6 (dep_of hdep 1 rfl) rfl
      refine ok_call (wanted_none rfl) (f := 15) (args := #[.agg #[.string v.name, .bool v.inner, .slice v.outer.a v.outer.n v.outer.c, .slice v.params.a v.params.n v.params.c, .slice v.results.a v.results.n v.results.c, .slice v.locals.a v.locals.n v.locals.c, .slice v.code.a v.code.n v.code.c, .slice v.lines.a v.lines.n v.lines.c, .slice v.nodes.a v.nodes.n v.nodes.c, .slice v.at_.a v.at_.n v.at_.c, .slice v.live.a v.live.n v.live.c], .int .i64 (k : Int)]) ?_ (show Calls _ _ #[.agg #[.string v.name, .bool v.inner, .slice v.outer.a v.outer.n v.outer.c, .slice v.params.a v.params.n v.params.c, .slice v.results.a v.results.n v.results.c, .slice v.locals.a v.locals.n v.locals.c, .slice v.code.a v.code.n v.code.c, .slice v.lines.a v.lines.n v.lines.c, .slice v.nodes.a v.nodes.n v.nodes.c, .slice v.at_.a v.at_.n v.at_.c, .slice v.live.a v.live.n v.live.c], _] _ _ from HNx.out w (HB.out.trans (hI.world.below.mono HB.out.size))) ?_
      · have ec : ∀ c, a.eval (.const c) = c := fun _ => rfl
        have ef : ∀ f, a.eval (.func f) = .func (.func f) #[] #[] := fun _ => rfl
        clear hI hdep hK
        generalize a.eval = ρ at e5 e6 ec ef ⊢
        go_simp
      · rintro e w2 ⟨u, rfl, hu, hb2⟩
        exact ⟨_, rfl, hK {x with a := u} _ _ (hI.world.new_a hD0 hu hb2) (ldg_a hD0) rfl⟩
    · intro x D a w hI hdep hD0 K hK
      have e2 : a.eval (.tmp 2) = .pointer (some ⟨q, 0, none⟩) := hI.read 2 rfl
      have hA := HA.out.on hI.world.below
      have k0 := hA.c0
      have k1 := hA.c1
      have k2 := hA.c2
      have k3 := hA.c3
      have k4 := hA.c4
      have k5 := hA.c5
      have k6 := hA.c6
      have k7 := hA.c7
      have k8 := hA.c8
      have k9 := hA.c9
      have k10 := hA.c10
      clear hA
      refine ok_value (wanted_none rfl) (v := .agg #[.string v.name, .bool v.inner, .slice v.outer.a v.outer.n v.outer.c, .slice v.params.a v.params.n v.params.c, .slice v.results.a v.results.n v.results.c, .slice v.locals.a v.locals.n v.locals.c, .slice v.code.a v.code.n v.code.c, .slice v.lines.a v.lines.n v.lines.c, .slice v.nodes.a v.nodes.n v.nodes.c, .slice v.at_.a v.at_.n v.at_.c, .slice v.live.a v.live.n v.live.c]) ?_ (hK x _ _ (hI.world.up rfl rfl rfl rfl rfl) (fun _ _ _ h => h) rfl)
      have ec : ∀ c, a.eval (.const c) = c := fun _ => rfl
      have ef : ∀ f, a.eval (.func f) = .func (.func f) #[] #[] := fun _ => rfl
      clear hI hdep hK
      generalize a.eval = ρ at e2 ec ef ⊢
      go_simp
    · intro x D a w hI hdep hD0 K hK
      have e1 : a.eval (.tmp 1) = .int .i64 (k : Int) := hI.read 1 rfl
      refine ok_value (wanted_none rfl) (v := .int .i64 (k : Int)) ?_ (hK x _ _ (hI.world.up rfl rfl rfl rfl rfl) (fun _ _ _ h => h) rfl)
      have ec : ∀ c, a.eval (.const c) = c := fun _ => rfl
      have ef : ∀ f, a.eval (.func f) = .func (.func f) #[] #[] := fun _ => rfl
      clear hI hdep hK
      generalize a.eval = ρ at e1 ec ef ⊢
      go_simp
    · intro x D a w hI hdep hD0 K hK
      have e8 : a.eval (.tmp 8) = .agg #[.string v.name, .bool v.inner, .slice v.outer.a v.outer.n v.outer.c, .slice v.params.a v.params.n v.params.c, .slice v.results.a v.results.n v.results.c, .slice v.locals.a v.locals.n v.locals.c, .slice v.code.a v.code.n v.code.c, .slice v.lines.a v.lines.n v.lines.c, .slice v.nodes.a v.nodes.n v.nodes.c, .slice v.at_.a v.at_.n v.at_.c, .slice v.live.a v.live.n v.live.c] := hI.good 3 8 (dep_of hdep 3 rfl) rfl
      have e9 : a.eval (.tmp 9) = .int .i64 (k : Int) := hI.good 4 9 (dep_of hdep 4 rfl) rfl
      refine ok_call (wanted_none rfl) (f := 22) (args := #[.agg #[.string v.name, .bool v.inner, .slice v.outer.a v.outer.n v.outer.c, .slice v.params.a v.params.n v.params.c, .slice v.results.a v.results.n v.results.c, .slice v.locals.a v.locals.n v.locals.c, .slice v.code.a v.code.n v.code.c, .slice v.lines.a v.lines.n v.lines.c, .slice v.nodes.a v.nodes.n v.nodes.c, .slice v.at_.a v.at_.n v.at_.c, .slice v.live.a v.live.n v.live.c], .int .i64 (k : Int)]) ?_ (show Calls _ _ #[.agg #[.string v.name, .bool v.inner, .slice v.outer.a v.outer.n v.outer.c, .slice v.params.a v.params.n v.params.c, .slice v.results.a v.results.n v.results.c, .slice v.locals.a v.locals.n v.locals.c, .slice v.code.a v.code.n v.code.c, .slice v.lines.a v.lines.n v.lines.c, .slice v.nodes.a v.nodes.n v.nodes.c, .slice v.at_.a v.at_.n v.at_.c, .slice v.live.a v.live.n v.live.c], _] _ _ from HCt.out w (HB.out.trans (hI.world.below.mono HB.out.size))) ?_
      · have ec : ∀ c, a.eval (.const c) = c := fun _ => rfl
        have ef : ∀ f, a.eval (.func f) = .func (.func f) #[] #[] := fun _ => rfl
        clear hI hdep hK
        generalize a.eval = ρ at e8 e9 ec ef ⊢
        go_simp
      · rintro e w2 ⟨u, rfl, hu, hb2⟩
        exact ⟨_, rfl, hK {x with b := u} _ _ (hI.world.new_b hD0 hu hb2) (ldg_b hD0) rfl⟩
    · intro x D a w hI hdep hD0 K hK
      have e2 : a.eval (.tmp 2) = .pointer (some ⟨q, 0, none⟩) := hI.read 2 rfl
      have hA := HA.out.on hI.world.below
      have k0 := hA.c0
      have k1 := hA.c1
      have k2 := hA.c2
      have k3 := hA.c3
      have k4 := hA.c4
      have k5 := hA.c5
      have k6 := hA.c6
      have k7 := hA.c7
      have k8 := hA.c8
      have k9 := hA.c9
      have k10 := hA.c10
      clear hA
      refine ok_value (wanted_none rfl) (v := .agg #[.string v.name, .bool v.inner, .slice v.outer.a v.outer.n v.outer.c, .slice v.params.a v.params.n v.params.c, .slice v.results.a v.results.n v.results.c, .slice v.locals.a v.locals.n v.locals.c, .slice v.code.a v.code.n v.code.c, .slice v.lines.a v.lines.n v.lines.c, .slice v.nodes.a v.nodes.n v.nodes.c, .slice v.at_.a v.at_.n v.at_.c, .slice v.live.a v.live.n v.live.c]) ?_ (hK x _ _ (hI.world.up rfl rfl rfl rfl rfl) (fun _ _ _ h => h) rfl)
      have ec : ∀ c, a.eval (.const c) = c := fun _ => rfl
      have ef : ∀ f, a.eval (.func f) = .func (.func f) #[] #[] := fun _ => rfl
      clear hI hdep hK
      generalize a.eval = ρ at e2 ec ef ⊢
      go_simp
    · intro x D a w hI hdep hD0 K hK
      have e1 : a.eval (.tmp 1) = .int .i64 (k : Int) := hI.read 1 rfl
      refine ok_value (wanted_none rfl) (v := .int .i64 (k : Int)) ?_ (hK x _ _ (hI.world.up rfl rfl rfl rfl rfl) (fun _ _ _ h => h) rfl)
      have ec : ∀ c, a.eval (.const c) = c := fun _ => rfl
      have ef : ∀ f, a.eval (.func f) = .func (.func f) #[] #[] := fun _ => rfl
      clear hI hdep hK
      generalize a.eval = ρ at e1 ec ef ⊢
      go_simp
    · intro x D a w hI hdep hD0 K hK
      have e11 : a.eval (.tmp 11) = .agg #[.string v.name, .bool v.inner, .slice v.outer.a v.outer.n v.outer.c, .slice v.params.a v.params.n v.params.c, .slice v.results.a v.results.n v.results.c, .slice v.locals.a v.locals.n v.locals.c, .slice v.code.a v.code.n v.code.c, .slice v.lines.a v.lines.n v.lines.c, .slice v.nodes.a v.nodes.n v.nodes.c, .slice v.at_.a v.at_.n v.at_.c, .slice v.live.a v.live.n v.live.c] := hI.good 6 11 (dep_of hdep 6 rfl) rfl
      have e12 : a.eval (.tmp 12) = .int .i64 (k : Int) := hI.good 7 12 (dep_of hdep 7 rfl) rfl
      refine ok_call (wanted_none rfl) (f := 23) (args := #[.agg #[.string v.name, .bool v.inner, .slice v.outer.a v.outer.n v.outer.c, .slice v.params.a v.params.n v.params.c, .slice v.results.a v.results.n v.results.c, .slice v.locals.a v.locals.n v.locals.c, .slice v.code.a v.code.n v.code.c, .slice v.lines.a v.lines.n v.lines.c, .slice v.nodes.a v.nodes.n v.nodes.c, .slice v.at_.a v.at_.n v.at_.c, .slice v.live.a v.live.n v.live.c], .int .i64 (k : Int)]) ?_ (show Calls _ _ #[.agg #[.string v.name, .bool v.inner, .slice v.outer.a v.outer.n v.outer.c, .slice v.params.a v.params.n v.params.c, .slice v.results.a v.results.n v.results.c, .slice v.locals.a v.locals.n v.locals.c, .slice v.code.a v.code.n v.code.c, .slice v.lines.a v.lines.n v.lines.c, .slice v.nodes.a v.nodes.n v.nodes.c, .slice v.at_.a v.at_.n v.at_.c, .slice v.live.a v.live.n v.live.c], _] _ _ from HOp.out w (HB.out.trans (hI.world.below.mono HB.out.size))) ?_
      · have ec : ∀ c, a.eval (.const c) = c := fun _ => rfl
        have ef : ∀ f, a.eval (.func f) = .func (.func f) #[] #[] := fun _ => rfl
        clear hI hdep hK
        generalize a.eval = ρ at e11 e12 ec ef ⊢
        go_simp
      · rintro e w2 ⟨u, rfl, hu, hb2⟩
        exact ⟨_, rfl, hK {x with c := u} _ _ (hI.world.new_c hD0 hu hb2) (ldg_c hD0) rfl⟩
    · intro x D a w hI hdep hD0 K hK
      have e7 : a.eval (.tmp 7) = x.a := hI.good 2 7 (dep_of hdep 2 rfl) rfl
      have e10 : a.eval (.tmp 10) = x.b := hI.good 5 10 (dep_of hdep 5 rfl) rfl
      have e13 : a.eval (.tmp 13) = x.c := hI.good 8 13 (dep_of hdep 8 rfl) rfl
      refine ok_new (wanted_none rfl) (v := .slice (some ⟨w.heap.size, 0, none⟩) 3 3) (w' := w.alloc (.cells #[x.a, x.b, x.c] 24)) ?_ (hK {x with p := w.heap.size} _ _ (hI.world.new_p (dep_of hdep 2 rfl) (dep_of hdep 5 rfl) (dep_of hdep 8 rfl)) (ldg_p hD0) rfl)
      obtain ⟨xa, xb, xc, xp, xr⟩ := x
      have hx := hI.world.vals (dep_of hdep 2 rfl) (dep_of hdep 5 rfl) (dep_of hdep 8 rfl)
      obtain ⟨⟨A0, n0, c0, rfl⟩, ⟨A1, n1, c1, rfl⟩, ⟨A2, n2, c2, rfl⟩⟩ := hx
      have ec : ∀ c, a.eval (.const c) = c := fun _ => rfl
      have ef : ∀ f, a.eval (.func f) = .func (.func f) #[] #[] := fun _ => rfl
      clear hI hdep hK
      generalize a.eval = ρ at e7 e10 e13 ec ef ⊢
      go_simp
    · intro x D a w hI hdep hD0 K hK
      have e14 : a.eval (.tmp 14) = .slice (some ⟨x.p, 0, none⟩) 3 3 := hI.good 9 14 (dep_of hdep 9 rfl) rfl
      obtain ⟨A0, A1, A2, n0, n1, n2, c0, c1, c2, hcat⟩ := hI.world.cat (dep_of hdep 9 rfl) HLn.out
      refine ok_call (wanted_none rfl) (f := 33) (args := #[.slice (some ⟨x.p, 0, none⟩) 3 3]) ?_ hcat ?_
      · have ec : ∀ c, a.eval (.const c) = c := fun _ => rfl
        have ef : ∀ f, a.eval (.func f) = .func (.func f) #[] #[] := fun _ => rfl
        clear hI hdep hK
        generalize a.eval = ρ at e14 ec ef ⊢
        go_simp
      · rintro e w2 ⟨u, rfl, hu, hb2⟩
        exact ⟨_, rfl, hK {x with r := u} _ _ (hI.world.new_r hu hb2) (ldg_r hD0 (hI.not_up hD0 11 rfl)) rfl⟩
    · intro x D a w hI hdep hD0 K hK
      have e15 : a.eval (.tmp 15) = x.r := hI.good 10 15 (dep_of hdep 10 rfl) rfl
      refine ok_value (wanted_none rfl) (v := x.r) ?_ (hK x _ _ (hI.world.up rfl rfl rfl rfl rfl) (fun _ _ _ h => h) rfl)
      have ec : ∀ c, a.eval (.const c) = c := fun _ => rfl
      have ef : ∀ f, a.eval (.func f) = .func (.func f) #[] #[] := fun _ => rfl
      clear hI hdep hK
      generalize a.eval = ρ at e15 ec ef ⊢
      go_simp
  · intro x D a w2 hI hD
    have hfr := hI.frame [(5, .agg #[.string v.name, .bool v.inner, .slice v.outer.a v.outer.n v.outer.c, .slice v.params.a v.params.n v.params.c, .slice v.results.a v.results.n v.results.c, .slice v.locals.a v.locals.n v.locals.c, .slice v.code.a v.code.n v.code.c, .slice v.lines.a v.lines.n v.lines.c, .slice v.nodes.a v.nodes.n v.nodes.c, .slice v.at_.a v.at_.n v.at_.c, .slice v.live.a v.live.n v.live.c]), (6, .int .i64 (k : Int)), (7, x.a), (8, .agg #[.string v.name, .bool v.inner, .slice v.outer.a v.outer.n v.outer.c, .slice v.params.a v.params.n v.params.c, .slice v.results.a v.results.n v.results.c, .slice v.locals.a v.locals.n v.locals.c, .slice v.code.a v.code.n v.code.c, .slice v.lines.a v.lines.n v.lines.c, .slice v.nodes.a v.nodes.n v.nodes.c, .slice v.at_.a v.at_.n v.at_.c, .slice v.live.a v.live.n v.live.c]), (9, .int .i64 (k : Int)), (10, x.b), (11, .agg #[.string v.name, .bool v.inner, .slice v.outer.a v.outer.n v.outer.c, .slice v.params.a v.params.n v.params.c, .slice v.results.a v.results.n v.results.c, .slice v.locals.a v.locals.n v.locals.c, .slice v.code.a v.code.n v.code.c, .slice v.lines.a v.lines.n v.lines.c, .slice v.nodes.a v.nodes.n v.nodes.c, .slice v.at_.a v.at_.n v.at_.c, .slice v.live.a v.live.n v.live.c]), (12, .int .i64 (k : Int)), (13, x.c), (14, .slice (some ⟨x.p, 0, none⟩) 3 3), (15, x.r), (4, x.r)] (all_cons (hI.good 0 5 (hD 0 (by decide)) rfl) (all_cons (hI.good 1 6 (hD 1 (by decide)) rfl) (all_cons (hI.good 2 7 (hD 2 (by decide)) rfl) (all_cons (hI.good 3 8 (hD 3 (by decide)) rfl) (all_cons (hI.good 4 9 (hD 4 (by decide)) rfl) (all_cons (hI.good 5 10 (hD 5 (by decide)) rfl) (all_cons (hI.good 6 11 (hD 6 (by decide)) rfl) (all_cons (hI.good 7 12 (hD 7 (by decide)) rfl) (all_cons (hI.good 8 13 (hD 8 (by decide)) rfl) (all_cons (hI.good 9 14 (hD 9 (by decide)) rfl) (all_cons (hI.good 10 15 (hD 10 (by decide)) rfl) (all_cons (hI.good 11 4 (hD 11 (by decide)) rfl) all_nil)))))))))))) rfl
    have hW := hI.world
    clear hI
    subst hfr
    simp only [List.foldl_cons, List.foldl_nil, List.setIfInBounds_toArray, List.set_cons_succ, List.set_cons_zero]
    have hr := hW.rr (hD 10 (by decide))
    have hbl := hW.below
    clear hW hD
    go_wp2
    go_ret
    exact RowP.on ⟨_, rfl, hr, hbl⟩ HB.out
end Go.Proofs.Ytngkjmghhoemgaa
