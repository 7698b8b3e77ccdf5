/-
  What slices.Grow leaves of a slice of bytes that the call itself owns: the same bytes, owned. Conditions: lengths within the reach.
-/
import Derived.Test.YtinmcelgfdjmfaaDoorNums
import Derived.Below
import Derived.Laws.OwnMore
namespace Go.Proofs.YtinmcelgfdjmfaaDoor
open Go.RowKit

set_option maxRecDepth 100000 in
theorem info_u8 : (Tryd.prog.info? 5).map (fun i => (i.zero, i.size, i.bytes)) = some (some (.int .u8 0), 1, 1) := by kernel_rfl

/-- The slice u of bytes owns the cells xs in w'; of w's memory the row of v alone may have turned; u lies there or in new memory. -/
def OwnInv (base : Nat) (w : World) (v u : Value) (l : Nat) (xs : List Value) (w' : World) : Prop :=
  w'.ownsRow base 5 1 u l xs ∧ w.grownBy w' v.ownBlock ∧ (u.ownBlock = v.ownBlock ∨ ∃ g, u.ownBlock = some g ∧ w.heap.size ≤ g)

/-- Such a slice is answered. -/
def OwnPost (base : Nat) (w : World) (v : Value) (l : Nat) (xs : List Value) (e : Ending) (w' : World) : Prop :=
  ∃ v', e = .returned v' ∧ OwnInv base w v v' l xs w'

set_option maxRecDepth 100000 in
theorem OwnInv.step {base : Nat} {w : World} {v u : Value} {l l' : Nat} {xs xs' : List Value} {wr w1 : World} (h : OwnInv base w v u l xs wr) (o : Obj) {g cap : Nat}
    (hown : w1.ownsRow base 5 1 (.slice (some ⟨g, 0, none⟩) l' cap) l' xs') (hg : (wr.alloc o).grownBy w1 u.ownBlock) (hat : u.ownBlock = some g ∨ g = wr.heap.size + 1) :
    OwnInv base w v (.slice (some ⟨g, 0, none⟩) l' cap) l' xs' w1 := by
  obtain ⟨h1, h2, h3⟩ := h
  refine ⟨hown, ⟨hg.os.trans h2.os, hg.tape.trans h2.tape, hg.output.trans h2.output, ?_, ?_⟩, ?_⟩
  · have := hg.size
    have := h2.size
    simp at *
    omega
  · intro k hk hne
    have hs := h2.size
    have e1 := hg.block k (by simp; omega) (by
      rcases h3 with h3 | ⟨g', h3, hg'⟩
      · rw [h3]; exact hne
      · rw [h3]; intro e; injection e with e; omega)
    rw [e1, Below.heap_alloc wr o k (by omega), h2.block k hk hne]
  · rcases hat with hat | hat
    · rcases h3 with h3 | ⟨g', h3, hg'⟩
      · left
        show some g = _
        rw [← h3, hat]
      · right
        refine ⟨g, rfl, ?_⟩
        rw [h3] at hat
        injection hat with hat
        omega
    · right
      have := h2.size
      exact ⟨g, rfl, by omega⟩

set_option maxRecDepth 100000 in
theorem OwnInv.refl {base : Nat} {w : World} {v : Value} {l : Nat} {xs : List Value} (h : w.ownsRow base 5 1 v l xs) : OwnInv base w v v l xs w := ⟨h, World.grownBy.refl _ _, .inl rfl⟩

set_option maxRecDepth 100000 in
/-- Nothing below 'base' has turned. -/
theorem OwnInv.below {base : Nat} {w w' : World} {v u : Value} {l l' : Nat} {xs xs' : List Value} (h : OwnInv base w v u l xs w') (h0 : w.ownsRow base 5 1 v l' xs') (hb : base ≤ w.heap.size) : Below base w w' :=
  (Below.refl _ _).grown h.2.1 hb (fun k hk => (h0.lt k hk).1)

set_option maxRecDepth 100000 in
theorem grow_own (base : Nat) (v : Value) (l : Nat) (xs : List Value) (k : Nat) (w : World) (hown : w.ownsRow base 5 1 v l xs) (hbase : base ≤ w.heap.size) (hk : 1 ≤ k) (hb : l + k ≤ 140737488355328) :
    Calls Tryd.prog 36 #[v, .int .i64 (k : Int)] w (OwnPost base w v l xs) := by
  obtain ⟨i0, hi, hz0, hz1, hz2⟩ := info_parts info_u8
  have hx := hown.1
  rcases hown.2 with ⟨rfl, rfl⟩ | ⟨g, cap, cur, rfl, hbg, hg, hnc, hcm, hcs, htake⟩
  · have hx0 : xs = [] := List.eq_nil_of_length_eq_zero (by simpa using hx)
    subst hx0
    refine (Any8.slices_Grow_grow Tryd.growB i0 (.int .u8 0) hi hz0 (by omega) none 0 0 k [] w (by omega) (by omega) (by rw [hz2]; omega) (by omega) (by simp) (fun _ => rfl) (by simp)).mono ?_
    rintro e w' ⟨rfl, rfl⟩
    have hge := grownCap_ge w (0 + k) 0 (Tryd.growB_ren.t 25)
    refine ⟨_, rfl, ⟨by simp, .inr ⟨w.heap.size, _, _, rfl, hbase, heap_alloc_new w.drew _, by omega, ?_, ?_, by simp⟩⟩, ⟨rfl, rfl, rfl, by simp, fun j hj _ => Below.heap_alloc w.drew _ j hj⟩, .inr ⟨_, rfl, Nat.le_refl _⟩⟩
    · exact grownCap_le_maxLen w (0 + k) 0 (Tryd.growB_ren.t 25) (by unfold maxLen; omega)
    · simp only [Array.size_append, size_zeroCells, Value.cells]
      simp at hge ⊢
      omega
  · by_cases hroom : l + k ≤ cap
    · unfold maxLen at hcm
      refine (Any8.slices_Grow_room Tryd.growB (some ⟨g, 0, none⟩) l cap k w hnc (by omega) (by omega) hroom).mono ?_
      rintro e w' ⟨rfl, rfl⟩
      exact ⟨_, rfl, hown, World.grownBy.refl _ _, .inl rfl⟩
    · have hcell : ∀ a, (some ⟨g, 0, none⟩ : Option Addr) = some a → ∀ (j : Nat) u, cur.toList[j]? = some u → w.cell? (a.add j) = some u := by
        rintro a ha j u hu
        cases ha
        have := cell_of_row w g j cur 5 (0, 0) hg
        have e : (⟨g, 0, none⟩ : Addr).add j = ⟨g, j, none⟩ := by unfold Addr.add; split <;> simp_all
        rw [e, this]
        simpa using hu
      refine (Any8.slices_Grow_grow Tryd.growB i0 (.int .u8 0) hi hz0 (by omega) (some ⟨g, 0, none⟩) l cap k cur.toList w hnc (by omega) (by rw [hz2]; omega) (by omega) (by simpa [hz1] using hcs) (by simp) hcell).mono ?_
      rintro e w' ⟨rfl, rfl⟩
      have hge := grownCap_ge w (l + k) cap (Tryd.growB_ren.t 25)
      refine ⟨_, rfl, ⟨hx, .inr ⟨w.heap.size, _, _, rfl, hbase, heap_alloc_new w.drew _, by omega, ?_, ?_, ?_⟩⟩, ⟨rfl, rfl, rfl, by simp, fun j hj _ => Below.heap_alloc w.drew _ j hj⟩, .inr ⟨_, rfl, Nat.le_refl _⟩⟩
      · exact grownCap_le_maxLen w (l + k) cap (Tryd.growB_ren.t 25) (by unfold maxLen; omega)
      · simp only [Array.size_append, size_zeroCells, Value.cells, List.size_toArray, hcs]
        simp
        omega
      · simp only [Array.toList_append, List.append_assoc]
        rw [List.take_append_of_le_length (by simp [hcs]; omega)]
        simpa using htake

end Go.Proofs.YtinmcelgfdjmfaaDoor
