/-
 A function that is being taken, in memory: the struct of the call's own, the cursor, lists that the call owns; what must does. Conditions: none.
-/
import Derived.Test.YtfopelegobhegaaGreatDoorFnTkM
import Derived.Deep.DeepMust
namespace Go.Proofs.YtfopelegobhegaaGreatDoor
open Go.RowKit
structure Off (g p : Nat) (w w' : World) : Prop where
 os : w'.os = w.os
 tape : w'.tape = w.tape
 output : w'.output = w.output
 size : w.heap.size ≤ w'.heap.size
 block : ∀ j, j < w.heap.size → j ≠ g → j ≠ p → w'.heap[j]? = w.heap[j]?
theorem Off.refl (g p : Nat) (w : World) : Off g p w w := ⟨rfl, rfl, rfl, Nat.le_refl _, fun _ _ _ _ => rfl⟩
theorem Off.trans {g p : Nat} {a b c : World} (h : Off g p a b) (k : Off g p b c) : Off g p a c :=
 ⟨k.os.trans h.os, k.tape.trans h.tape, k.output.trans h.output, Nat.le_trans h.size k.size, fun j hj h1 h2 => (k.block j (Nat.lt_of_lt_of_le hj h.size) h1 h2).trans (h.block j hj h1 h2)⟩
theorem Off.grown {g p : Nat} {a b : World} (h : a.grownBy b (some g)) : Off g p a b := ⟨h.os, h.tape, h.output, h.size, fun j hj h1 _ => h.block j hj (fun e => by injection e with e; exact h1 e)⟩
theorem Off.below {g p : Nat} {a b : World} (h : Below a.heap.size a b) : Off g p a b := ⟨h.os, h.tape, h.output, h.size, fun j hj _ _ => h.block j hj⟩
theorem Off.set (g p k : Nat) (v : Value) (w : World) : Off g p w (w.setCell ⟨p, k, none⟩ v) :=
 ⟨rfl, rfl, rfl, by simp [World.setCell], fun j _ _ h2 => Below.heap_setCell w ⟨p, k, none⟩ v j h2⟩
structure FnOwn (w : World) (base : Nat) (v : FnV) (f : Fn.F) : Prop where
 name : v.name = f.name
 inner : v.inner = f.inner
 outer : w.ownsRow base 86 1 v.outer.val f.outer.length (vs f.outer)
 params : w.ownsRow base 86 1 v.params.val f.params.length (vs f.params)
 results : w.ownsRow base 86 1 v.results.val f.results.length (vs f.results)
 locals : w.ownsRow base 86 1 v.locals.val f.locals.length (vs f.locals)
 code : w.ownsRow base 25 2 v.code.val f.code.length (ps f.code)
 lines : w.ownsRow base 3 1 v.lines.val f.lines.length (vs f.lines)
 nodes : w.ownsRow base 90 7 v.nodes.val f.nodes.length (nds f.nodes)
 at_ : w.ownsRow base 3 1 v.at_.val f.at_.length (vs f.at_)
 live : w.ownsRow base 93 4 v.live.val f.live.length (sets f.live)
theorem row_off {g p base n size : Nat} {w w' : World} {e : TypeId} {v : Value} {xs : List Value} (h : w.ownsRow base e size v n xs) (ho : Off g p w w') (hg : g < base) (hp : p < base) : w'.ownsRow base e size v n xs :=
 row_kept h fun b hb => by have := h.lt b hb; exact ho.block b this.2 (by omega) (by omega)
theorem FnOwn.off {g p base : Nat} {w w' : World} {v : FnV} {f : Fn.F} (h : FnOwn w base v f) (ho : Off g p w w') (hg : g < base) (hp : p < base) : FnOwn w' base v f :=
 ⟨h.name, h.inner, row_off h.outer ho hg hp, row_off h.params ho hg hp, row_off h.results ho hg hp, row_off h.locals ho hg hp, row_off h.code ho hg hp, row_off h.lines ho hg hp, row_off h.nodes ho hg hp, row_off h.at_ ho hg hp, row_off h.live ho hg hp⟩
theorem nil_own {w : World} {base n size : Nat} {e : TypeId} {s : Sl3} {xs : List Value} (h : w.ownsRow base e size s.val n xs) : s.nilOk ∧ s.n ≤ 9223372036854775807 := by
 rcases h.2 with ⟨hv, hn⟩ | ⟨g, cap, cur, hv, hg, hh, hnc, hcm, _⟩
 · unfold Sl3.val at hv
   injection hv with h1 h2 h3
   exact ⟨fun _ => h3, by omega⟩
 · unfold Sl3.val at hv
   unfold maxLen at hcm
   injection hv with h1 h2 h3
   refine ⟨fun e => ?_, by omega⟩
   rw [h1] at e
   cases e
theorem ints_own {w : World} {base n : Nat} {e : TypeId} {s : Sl3} {l : List Int} (h : w.ownsRow base e 1 s.val n (vs l)) : IntsAt w w.heap.size s.a s.n l := (ints_of_rowE h).2.1
theorem FnOwn.ok {base : Nat} {w : World} {v : FnV} {f : Fn.F} (h : FnOwn w base v f) : FnOk w w.heap.size v f :=
 ⟨h.name, h.inner, ⟨ints_own h.outer, (nil_own h.outer).1⟩, ⟨ints_own h.params, (nil_own h.params).1⟩, ⟨ints_own h.results, (nil_own h.results).1⟩, ⟨ints_own h.locals, (nil_own h.locals).1⟩,
   ⟨(pairs_of_own h.code).2.1, (nil_own h.code).1⟩, ⟨ints_own h.lines, (nil_own h.lines).1⟩, ⟨(nodes_of_own h.nodes).2.1, (nil_own h.nodes).1⟩, ⟨ints_own h.at_, (nil_own h.at_).1⟩, ⟨(sets_of_own h.live).2.1, (nil_own h.live).1⟩⟩
theorem FnOwn.zero (w : World) (base : Nat) : FnOwn w base .zero .zero :=
 ⟨rfl, rfl, World.ownsRow_nil _ _ _ _, World.ownsRow_nil _ _ _ _, World.ownsRow_nil _ _ _ _, World.ownsRow_nil _ _ _ _, World.ownsRow_nil _ _ _ _, World.ownsRow_nil _ _ _ _, World.ownsRow_nil _ _ _ _, World.ownsRow_nil _ _ _ _, World.ownsRow_nil _ _ _ _⟩
section
variable {g p : Nat} {v : FnV} {t : Fn.St} {W W' : World}
end
end Go.Proofs.YtfopelegobhegaaGreatDoor
