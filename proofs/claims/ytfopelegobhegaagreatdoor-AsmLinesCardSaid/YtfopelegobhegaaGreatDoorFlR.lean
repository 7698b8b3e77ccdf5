/-
 Functions whose lists the call owns: what may turn beside them; functions that the call itself has made, read. Conditions: none.
-/
import Derived.Test.YtfopelegobhegaaGreatDoorFlA
import Derived.Test.YtfopelegobhegaaGreatDoorFnTkP
set_option maxRecDepth 100000
namespace Go.Proofs.YtfopelegobhegaaGreatDoor
open Go.RowKit
theorem row_other {w w' : World} {base n size : Nat} {e : TypeId} {v : Value} {xs : List Value} {row : Option Nat} (h : w.ownsRow base e size v n xs) (hg : w.grownBy w' row)
   (hr : ∀ b, row = some b → ∃ C t m, w.heap[b]? = some (.cells C t m) ∧ t ≠ e) : w'.ownsRow base e size v n xs := by
 refine row_kept h fun b hb => hg.block b (h.lt b hb).2 fun e' => ?_
 obtain ⟨C, t, m, h1, h2⟩ := hr b e'.symm
 rcases h.2 with ⟨rfl, _⟩ | ⟨g, cap, cur, rfl, _, hh, _⟩
 · cases hb
 · injection hb with hb
   subst hb
   rw [h1] at hh
   injection hh with hh
   injection hh with _ h3
   exact h2 h3
def Else (t : TypeId) : Prop := t ≠ 86 ∧ t ≠ 25 ∧ t ≠ 3 ∧ t ≠ 90 ∧ t ≠ 93
theorem FnOwn.kept {w w' : World} {base : Nat} {v : FnV} {f : Fn.F} {row : Option Nat} (h : FnOwn w base v f) (hg : w.grownBy w' row)
   (hr : ∀ b, row = some b → ∃ C t m, w.heap[b]? = some (.cells C t m) ∧ Else t) : FnOwn w' base v f := by
 have k : ∀ e, (∀ t, Else t → t ≠ e) → ∀ b, row = some b → ∃ C t m, w.heap[b]? = some (.cells C t m) ∧ t ≠ e := fun e he b hb => by
   obtain ⟨C, t, m, h1, h2⟩ := hr b hb
   exact ⟨C, t, m, h1, he t h2⟩
 exact ⟨h.name, h.inner, row_other h.outer hg (k _ fun t h => h.1), row_other h.params hg (k _ fun t h => h.1), row_other h.results hg (k _ fun t h => h.1), row_other h.locals hg (k _ fun t h => h.1), row_other h.code hg (k _ fun t h => h.2.1), row_other h.lines hg (k _ fun t h => h.2.2.1),
   row_other h.nodes hg (k _ fun t h => h.2.2.2.1), row_other h.at_ hg (k _ fun t h => h.2.2.1), row_other h.live hg (k _ fun t h => h.2.2.2.2)⟩
theorem FnOwn.below {w w' : World} {base : Nat} {v : FnV} {f : Fn.F} (h : FnOwn w base v f) (hb : Below w.heap.size w w') : FnOwn w' base v f :=
 h.kept (row := none) ⟨hb.os, hb.tape, hb.output, hb.size, fun j hj _ => hb.block j hj⟩ (fun _ e => by cases e)
theorem FnOwn.base {w : World} {b b' : Nat} {v : FnV} {f : Fn.F} (h : FnOwn w b v f) (hb : b' ≤ b) : FnOwn w b' v f :=
 ⟨h.name, h.inner, ownsRow_base h.outer hb, ownsRow_base h.params hb, ownsRow_base h.results hb, ownsRow_base h.locals hb, ownsRow_base h.code hb, ownsRow_base h.lines hb, ownsRow_base h.nodes hb, ownsRow_base h.at_ hb, ownsRow_base h.live hb⟩
theorem FnOwn.lens {b : Nat} {w : World} {v : FnV} {f : Fn.F} (h : FnOwn w b v f) (hn : f.name.size ≤ 9223372036854775807) : v.Len :=
 ⟨by rw [h.name]; exact hn, (nil_own h.outer).2, (nil_own h.params).2, (nil_own h.results).2, (nil_own h.locals).2, (nil_own h.code).2, (nil_own h.lines).2, (nil_own h.nodes).2, (nil_own h.at_).2, (nil_own h.live).2⟩
theorem else_func : Else 35 := by unfold Else; decide
theorem info_func : (Tryz.prog.info? 35).map (fun i => (i.zero, i.size, i.bytes)) = some (some (.agg FnV.zero.cells), 11, 240) := by kernel_rfl
theorem row_funcs {w : World} {base n : Nat} {v : Value} {xs : List Value} (h : w.ownsRow base 35 11 v n xs) : ∀ b, v.ownBlock = some b → ∃ C t m, w.heap[b]? = some (.cells C t m) ∧ Else t := by
 intro b hb
 rcases h.2 with ⟨rfl, _⟩ | ⟨g, cap, cur, rfl, _, hh, _⟩
 · cases hb
 · injection hb with hb
   subst hb
   exact ⟨_, _, _, hh, else_func⟩
theorem funcs_of_own {w : World} {base n : Nat} {s : Sl3} {us : List FnV} {fs : List Fn.F} (h : w.ownsRow base 35 11 s.val n (fcs us)) (ho : ∀ k, k < n → FnOwn w base (us.getD k .zero) (fs.getD k .zero)) (hl : fs.length = n) (hn : ∀ f ∈ fs, f.name.size ≤ 9223372036854775807) :
   s.n = n ∧ FnsAt w w.heap.size s.a n us fs ∧ s.nilOk := by
 have hu : us.length = n := by have := h.1; rw [fcs_length] at this; omega
 have hlt := h.lt
 have hname : ∀ k, k < n → (fs.getD k .zero).name.size ≤ 9223372036854775807 := fun k hk => hn _ (by simp [List.getD, show k < fs.length by omega])
 have hok : ∀ k, k < n → FnOk w w.heap.size (us.getD k .zero) (fs.getD k .zero) := fun k hk => (ho k hk).ok
 have hln : ∀ k, k < n → (us.getD k .zero).Len := fun k hk => (ho k hk).lens (hname k hk)
 rcases h.2 with ⟨hv, hn⟩ | ⟨g, cap, cur, hv, hg, hh, hnc, hcm, hcs, ht⟩
 · unfold Sl3.val at hv
   injection hv with h1 h2 h3
   rw [h1, h2]
   exact ⟨hn.symm, ⟨hu, hl, hok, hln, fun h => absurd h (by omega)⟩, fun _ => h3⟩
 · unfold Sl3.val at hv
   injection hv with h1 h2 h3
   rw [h1, h2]
   refine ⟨rfl, ⟨hu, hl, hok, hln, fun hp => ⟨g, 0, rfl, (hlt g (by rw [Sl3.val, h1]; rfl)).2, fun i hi j hj => ?_⟩⟩, fun e => by rw [h1] at e; cases e⟩
   have e0 := fcs_get us i (by omega) j hj
   rw [← ht, List.getElem?_take, if_pos (by omega), Array.getElem?_toList] at e0
   rw [Nat.zero_add, cell_of_row w g _ cur _ _ hh]
   exact e0
theorem getD_last {α : Type} (l : List α) (x d : α) : (l ++ [x]).getD l.length d = x := by simp [List.getD]
theorem getD_init {α : Type} (l : List α) (x d : α) {j : Nat} (h : j < l.length) : (l ++ [x]).getD j d = l.getD j d := by simp [List.getD, List.getElem?_append_left h]
theorem FnsAt.names {w : World} {B n : Nat} {a : Option Addr} {vs : List FnV} {fs : List Fn.F} (h : FnsAt w B a n vs fs) : ∀ f ∈ fs, f.name.size ≤ 9223372036854775807 := by
 intro f hf
 obtain ⟨k, hk, rfl⟩ := List.mem_iff_getElem.1 hf
 have h1 := (h.ok k (by rw [← h.lenf]; exact hk)).name
 have h2 := (h.len k (by rw [← h.lenf]; exact hk)).name
 rw [h1] at h2
 simpa [List.getD, hk] using h2
theorem prog_cell {w : World} {b : Nat} {u : Value} {t : TypeId} (h : w.heap[b]? = some (.cells #[u] t (0, 0))) : w.cell? ⟨b, 0, none⟩ = some u ∧ w.frozen? ⟨b, 0, none⟩ = false := by
 refine ⟨cell_of_row w b 0 _ _ _ h, ?_⟩
 unfold World.frozen?
 rw [h]
 rfl
end Go.Proofs.YtfopelegobhegaaGreatDoor
