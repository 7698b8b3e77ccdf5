/-
  A region that draws its order, by an invariant with a ghost: what a call leaves open is named when it comes up. Conditions: every edge that binds leads back to an operation that stands ahead; each operation that writes a slot writes one of its own.
-/
import Derived.Test.YtkibbhkdeepnlaaRegionD
namespace Go.Proofs.Ytkibbhkdeepnlaa

section
variable {P : Program} {ops : Array Oper} {Q : Exit → Act → World → Prop}

/-- The frame: the slots that are held fast hold what they held; each operation that has come up has yielded what G says; all ahead of it has come up; the world is as C says of what has come up. -/
structure SlotG {X : Type} (ops : Array Oper) (N : Nat) (fixed : List (Nat × Value)) (C : X → (Nat → Bool) → World → Prop) (G : X → Nat → Value → Prop) (x : X) (D : Nat → Bool) (a : Act) (w : World) : Prop where
  defers : a.defers = []
  size : a.tmps.size = N
  fast : ∀ p ∈ fixed, a.eval (.tmp p.1) = p.2
  closed : ∀ i o, ops[i]? = some o → D i = true → ∀ e ∈ o.after.toList, Region.binds .any e = true → D e.on = true
  world : C x D w
  good : ∀ i d, D i = true → dstOf ops i = some d → G x i (a.eval (.tmp d))

/-- What is owed of operation i. -/
def OpG {X : Type} (P : Program) (ops : Array Oper) (Q : Exit → Act → World → Prop) (N : Nat) (fixed : List (Nat × Value)) (C : X → (Nat → Bool) → World → Prop) (G : X → Nat → Value → Prop) (i : Nat) (o : Oper) : Prop :=
  ∀ (x : X) (D : Nat → Bool) (a : Act) (w : World), SlotG ops N fixed C G x D a w → (∀ e ∈ o.after.toList, Region.binds .any e = true → D e.on = true) → D i = false →
    ∀ K : Act → World → Prop, (∀ x' v w', C x' (add D i) w' → (∀ j u, D j = true → G x j u → G x' j u) → G x' i v → K (a.put o.dst v) w') →
      if Region.wanted o (yielded ops a.tmps) = true then Oper.wp P o a w K Q else K (a.put o.dst undef) w

theorem SlotG.not_up {X : Type} {N : Nat} {fixed : List (Nat × Value)} {C : X → (Nat → Bool) → World → Prop} {G : X → Nat → Value → Prop} {x : X} {D : Nat → Bool} {a : Act} {w : World} (h : SlotG ops N fixed C G x D a w) {i : Nat} (hi : D i = false) (j : Nat)
    (he : (((ops[j]?).map fun o => o.after.toList.any fun e => e.on == i && Region.binds .any e).getD false) = true) : D j = false := by
  cases hj : ops[j]? with
  | none => rw [hj] at he; cases he
  | some o =>
    rw [hj] at he
    simp only [Option.map_some, Option.getD_some] at he
    obtain ⟨e, hm, h2⟩ := List.any_eq_true.1 he
    simp only [Bool.and_eq_true, beq_iff_eq] at h2
    rcases Bool.eq_false_or_eq_true (D j) with hD | hD
    · have := h.closed j o hj hD e hm h2.2
      rw [h2.1, hi] at this
      cases this
    · exact hD

theorem region_g {X : Type} {id : Nat} {a : Act} {w : World} (x0 : X) (N : Nat) (fixed : List (Nat × Value)) (C : X → (Nat → Bool) → World → Prop) (G : X → Nat → Value → Prop)
    (hm : P.follows .mixedOrders = true) (hb : backB ops = true) (hw : ownDB ops N (fixed.map (·.1)) = true)
    (h1 : a.defers = []) (h2 : a.tmps.size = N) (h3 : ∀ p ∈ fixed, a.eval (.tmp p.1) = p.2) (h4 : C x0 (fun _ => false) w.drew)
    (hops : Each (OpG P ops Q N fixed C G) 0 ops.toList)
    (hend : ∀ x D a w, SlotG ops N fixed C G x D a w → (∀ i, i < ops.size → D i = true) → Q .normal a w) : (Code.region id ops true).wp P Q a w := by
  refine region_inv hm hb (fun D a w => ∃ x, SlotG ops N fixed C G x D a w) ⟨x0, h1, h2, h3, (fun i o _ h => by cases h), h4, (fun i d h => by cases h)⟩ ?_ (fun D a w ⟨x, h⟩ => hend x D a w h)
  intro D a w ⟨x, hI⟩ i o ho hD hdep
  have hi : i < ops.size := by
    rcases Nat.lt_or_ge i ops.size with h | h
    · exact h
    · rw [Array.getElem?_eq_none h] at ho; cases ho
  have hOK : OpG P ops Q N fixed C G (0 + i) o := Each.at hops i o (by simpa using ho)
  rw [Nat.zero_add] at hOK
  have hcl : ∀ j p, ops[j]? = some p → add D i j = true → ∀ e ∈ p.after.toList, Region.binds .any e = true → add D i e.on = true := by
    intro j p hp hj e he hbd
    unfold add at hj ⊢
    by_cases hji : j = i
    · subst hji
      rw [ho] at hp
      injection hp with hp
      subst hp
      rw [hdep e he hbd]
      rfl
    · have hDj : D j = true := by simpa [hji] using hj
      rw [hI.closed j p hp hDj e he hbd]
      rfl
  have hown := List.all_eq_true.1 hw i (List.mem_range.2 hi)
  cases hd : dstOf ops i with
  | none =>
    have hod : o.dst = none := by unfold dstOf at hd; rw [ho] at hd; exact hd
    refine wpOp_step ho (fun K hK => hOK x D a w hI hdep hD K (fun x' v w' hC hmono hG => hK _ _ ?_))
    rw [hod]
    refine ⟨x', hI.defers, hI.size, hI.fast, hcl, hC, ?_⟩
    intro j dj hj hdj
    by_cases hji : j = i
    · subst hji
      rw [hd] at hdj
      cases hdj
    · have hDj : D j = true := by
        unfold add at hj
        simpa [hji] using hj
      exact hmono j _ hDj (hI.good j dj hDj hdj)
  | some d =>
    rw [hd] at hown
    simp only [Bool.and_eq_true, decide_eq_true_eq, Bool.not_eq_true'] at hown
    obtain ⟨⟨hdN, hfx⟩, hdis⟩ := hown
    have hod : o.dst = some d := by unfold dstOf at hd; rw [ho] at hd; exact hd
    have hev : ∀ (v : Value) (t : Nat), (a.put o.dst v).eval (.tmp t) = if t = d then v else a.eval (.tmp t) := by
      intro v t
      rw [hod]
      show (a.tmps.setIfInBounds d v).getD t undef = _
      simp only [Array.getD_eq_getD_getElem?, Array.getElem?_setIfInBounds]
      by_cases ht : t = d
      · subst ht
        rw [if_pos rfl, if_pos rfl, if_pos (by rw [hI.size]; exact hdN)]
        rfl
      · rw [if_neg (Ne.symm ht), if_neg ht]
        show _ = a.tmps.getD t undef
        rw [Array.getD_eq_getD_getElem?]
    refine wpOp_step ho (fun K hK => hOK x D a w hI hdep hD K (fun x' v w' hC hmono hG => hK _ _ ⟨x', ?_, ?_, ?_, hcl, hC, ?_⟩))
    · rw [hod]; exact hI.defers
    · rw [hod]
      show (a.tmps.setIfInBounds d v).size = N
      rw [Array.size_setIfInBounds]
      exact hI.size
    · intro p hp
      rw [hev, if_neg, hI.fast p hp]
      rintro rfl
      have : (fixed.map (·.1)).contains p.1 = true := by
        rw [List.contains_iff_mem]
        exact List.mem_map.2 ⟨p, hp, rfl⟩
      rw [this] at hfx
      cases hfx
    · intro j dj hj hdj
      rw [hev]
      by_cases hji : j = i
      · subst hji
        rw [hd] at hdj
        injection hdj with hdj
        subst hdj
        rw [if_pos rfl]
        exact hG
      · have hDj : D j = true := by
          unfold add at hj
          simpa [hji] using hj
        have hjs : j < ops.size := by
          rcases Nat.lt_or_ge j ops.size with h | h
          · exact h
          · unfold dstOf at hdj; rw [Array.getElem?_eq_none h] at hdj; cases hdj
        have hne := List.all_eq_true.1 hdis j (List.mem_range.2 hjs)
        rw [hdj] at hne
        simp only [Bool.or_eq_true, beq_iff_eq, bne_iff_ne, ne_eq] at hne
        rw [if_neg (by
          rintro rfl
          rcases hne with h | h
          · exact hji h
          · exact h rfl)]
        exact hmono j _ hDj (hI.good j dj hDj hdj)
end

end Go.Proofs.Ytkibbhkdeepnlaa
