/-
  A region that draws its order, by an invariant that may ask what has come up; operations without a slot (stores) may stand in it. Conditions: every edge leads back to an operation that stands ahead; each operation that writes a slot writes one of its own.
-/
import Derived.Test.YtifkoihhlhadhaaDoorRegion
namespace Go.Proofs.YtifkoihhlhadhaaDoor

section
variable {P : Program} {ops : Array Oper} {Q : Exit → Act → World → Prop}

/-- Each operation that writes a slot writes one of its own, within the frame, and none of those that are held fast. -/
def ownDB (ops : Array Oper) (N : Nat) (fixed : List Nat) : Bool :=
  (List.range ops.size).all fun i => match dstOf ops i with
    | none => true
    | some d => decide (d < N) && !fixed.contains d && (List.range ops.size).all fun j => j == i || dstOf ops j != some d

/-- The frame: the slots that are held fast hold what they held; each operation that has come up has yielded what G says; all ahead of it has come up; the world is as C says of what has come up. -/
structure SlotD (ops : Array Oper) (N : Nat) (fixed : List (Nat × Value)) (C : (Nat → Bool) → World → Prop) (G : Nat → Value → Prop) (D : Nat → Bool) (a : Act) (w : World) : Prop where
  defers : a.defers = []
  size : a.tmps.size = N
  fast : ∀ p ∈ fixed, a.eval (.tmp p.1) = p.2
  closed : ∀ i o, ops[i]? = some o → D i = true → ∀ e ∈ o.after.toList, Region.binds .any e = true → D e.on = true
  world : C D w
  good : ∀ i d, D i = true → dstOf ops i = some d → G i (a.eval (.tmp d))

/-- What is owed of operation i. -/
def OpD (P : Program) (ops : Array Oper) (Q : Exit → Act → World → Prop) (N : Nat) (fixed : List (Nat × Value)) (C : (Nat → Bool) → World → Prop) (G : Nat → Value → Prop) (i : Nat) (o : Oper) : Prop :=
  ∀ (D : Nat → Bool) (a : Act) (w : World), SlotD ops N fixed C G D a w → (∀ e ∈ o.after.toList, Region.binds .any e = true → D e.on = true) → D i = false →
    ∀ K : Act → World → Prop, (∀ v w', C (add D i) w' → G i v → K (a.put o.dst v) w') →
      if Region.wanted o (yielded ops a.tmps) = true then Oper.wp P o a w K Q else K (a.put o.dst undef) w

theorem SlotD.not_up {N : Nat} {fixed : List (Nat × Value)} {C : (Nat → Bool) → World → Prop} {G : Nat → Value → Prop} {D : Nat → Bool} {a : Act} {w : World} (h : SlotD ops N fixed C G D a w) {i : Nat} (hi : D i = false) (j : Nat)
    (he : (((ops[j]?).map fun o => o.after.toList.any fun e => e.on == i && Region.binds .any e).getD false) = true) : D j = false := by
  cases hj : ops[j]? with
  | none => rw [hj] at he; cases he
  | some o =>
    rw [hj] at he
    simp only [Option.map_some, Option.getD_some] at he
    obtain ⟨e, hm, h2⟩ := List.any_eq_true.1 he
    simp only [Bool.and_eq_true, beq_iff_eq] at h2
    rcases Bool.eq_false_or_eq_true (D j) with hD | hD
    · have := h.closed j o hj hD e hm h2.2
      rw [h2.1, hi] at this
      cases this
    · exact hD

theorem region_d {id : Nat} {a : Act} {w : World} (N : Nat) (fixed : List (Nat × Value)) (C : (Nat → Bool) → World → Prop) (G : Nat → Value → Prop)
    (hm : P.follows .mixedOrders = true) (hb : backB ops = true) (hw : ownDB ops N (fixed.map (·.1)) = true)
    (h1 : a.defers = []) (h2 : a.tmps.size = N) (h3 : ∀ p ∈ fixed, a.eval (.tmp p.1) = p.2) (h4 : C (fun _ => false) w.drew)
    (hops : Each (OpD P ops Q N fixed C G) 0 ops.toList)
    (hend : ∀ D a w, SlotD ops N fixed C G D a w → (∀ i, i < ops.size → D i = true) → Q .normal a w) : (Code.region id ops true).wp P Q a w := by
  refine region_inv hm hb (SlotD ops N fixed C G) ⟨h1, h2, h3, (fun i o _ h => by cases h), h4, (fun i d h => by cases h)⟩ ?_ hend
  intro D a w hI i o ho hD hdep
  have hi : i < ops.size := by
    rcases Nat.lt_or_ge i ops.size with h | h
    · exact h
    · rw [Array.getElem?_eq_none h] at ho; cases ho
  have hOK : OpD P ops Q N fixed C G (0 + i) o := Each.at hops i o (by simpa using ho)
  rw [Nat.zero_add] at hOK
  have hcl : ∀ j p, ops[j]? = some p → add D i j = true → ∀ e ∈ p.after.toList, Region.binds .any e = true → add D i e.on = true := by
    intro j p hp hj e he hbd
    unfold add at hj ⊢
    by_cases hji : j = i
    · subst hji
      rw [ho] at hp
      injection hp with hp
      subst hp
      rw [hdep e he hbd]
      rfl
    · have hDj : D j = true := by simpa [hji] using hj
      rw [hI.closed j p hp hDj e he hbd]
      rfl
  have hown := List.all_eq_true.1 hw i (List.mem_range.2 hi)
  cases hd : dstOf ops i with
  | none =>
    have hod : o.dst = none := by unfold dstOf at hd; rw [ho] at hd; exact hd
    refine wpOp_step ho (fun K hK => hOK D a w hI hdep hD K (fun v w' hC hG => hK _ _ ?_))
    rw [hod]
    refine ⟨hI.defers, hI.size, hI.fast, hcl, hC, ?_⟩
    intro j dj hj hdj
    by_cases hji : j = i
    · subst hji
      rw [hd] at hdj
      cases hdj
    · have hDj : D j = true := by
        unfold add at hj
        simpa [hji] using hj
      exact hI.good j dj hDj hdj
  | some d =>
    rw [hd] at hown
    simp only [Bool.and_eq_true, decide_eq_true_eq, Bool.not_eq_true'] at hown
    obtain ⟨⟨hdN, hfx⟩, hdis⟩ := hown
    have hod : o.dst = some d := by unfold dstOf at hd; rw [ho] at hd; exact hd
    have hev : ∀ (v : Value) (t : Nat), (a.put o.dst v).eval (.tmp t) = if t = d then v else a.eval (.tmp t) := by
      intro v t
      rw [hod]
      show (a.tmps.setIfInBounds d v).getD t undef = _
      simp only [Array.getD_eq_getD_getElem?, Array.getElem?_setIfInBounds]
      by_cases ht : t = d
      · subst ht
        rw [if_pos rfl, if_pos rfl, if_pos (by rw [hI.size]; exact hdN)]
        rfl
      · rw [if_neg (Ne.symm ht), if_neg ht]
        show _ = a.tmps.getD t undef
        rw [Array.getD_eq_getD_getElem?]
    refine wpOp_step ho (fun K hK => hOK D a w hI hdep hD K (fun v w' hC hG => hK _ _ ⟨?_, ?_, ?_, hcl, hC, ?_⟩))
    · rw [hod]; exact hI.defers
    · rw [hod]
      show (a.tmps.setIfInBounds d v).size = N
      rw [Array.size_setIfInBounds]
      exact hI.size
    · intro p hp
      rw [hev, if_neg, hI.fast p hp]
      rintro rfl
      have : (fixed.map (·.1)).contains p.1 = true := by
        rw [List.contains_iff_mem]
        exact List.mem_map.2 ⟨p, hp, rfl⟩
      rw [this] at hfx
      cases hfx
    · intro j dj hj hdj
      rw [hev]
      by_cases hji : j = i
      · subst hji
        rw [hd] at hdj
        injection hdj with hdj
        subst hdj
        rw [if_pos rfl]
        exact hG
      · have hDj : D j = true := by
          unfold add at hj
          simpa [hji] using hj
        have hjs : j < ops.size := by
          rcases Nat.lt_or_ge j ops.size with h | h
          · exact h
          · unfold dstOf at hdj; rw [Array.getElem?_eq_none h] at hdj; cases hdj
        have hne := List.all_eq_true.1 hdis j (List.mem_range.2 hjs)
        rw [hdj] at hne
        simp only [Bool.or_eq_true, beq_iff_eq, bne_iff_ne, ne_eq] at hne
        rw [if_neg (by
          rintro rfl
          rcases hne with h | h
          · exact hji h
          · exact h rfl)]
        exact hI.good j dj hDj hdj

/-- A store. -/
theorem ok_store {o : Oper} {a : Act} {w w' : World} {K : Act → World → Prop} (hw : Region.wanted o (yielded ops a.tmps) = true) (hrun : (execOp a.eval o).run P w = .ok .skip w') (hK : K (a.put o.dst undef) w') :
    if Region.wanted o (yielded ops a.tmps) = true then Oper.wp P o a w K Q else K (a.put o.dst undef) w := by
  rw [if_pos hw]
  unfold Oper.wp
  rw [hrun]
  exact hK

/-- A guard that says no. -/
theorem ok_not {o : Oper} {a : Act} {w : World} {K : Act → World → Prop} {g d N : Nat} {b c : Bool} (h : o.guard = some (g, b)) (hd : dstOf ops g = some d) (hN : a.tmps.size = N) (hlt : d < N) (hv : a.eval (.tmp d) = .bool c) (hbc : b ≠ c) (hK : K (a.put o.dst undef) w) :
    if Region.wanted o (yielded ops a.tmps) = true then Oper.wp P o a w K Q else K (a.put o.dst undef) w := by
  have e : a.tmps[d]? = some (.bool c) := by
    have hv' : a.tmps.getD d undef = .bool c := hv
    rw [Array.getD_eq_getD_getElem?] at hv'
    rw [Array.getElem?_eq_getElem (by omega)] at hv' ⊢
    simpa using hv'
  have hy : yielded ops a.tmps g = some c := by
    unfold dstOf at hd
    unfold yielded
    rw [hd]
    simp only [Option.bind_some, e]
  have hn : Region.wanted o (yielded ops a.tmps) = false := by
    simp [Region.wanted, h, hy]
    intro h
    exact hbc h.symm
  rw [hn]
  simpa using hK

theorem wanted_is {o : Oper} {a : Act} {g d N : Nat} {b : Bool} (h : o.guard = some (g, b)) (hd : dstOf ops g = some d) (hN : a.tmps.size = N) (hlt : d < N) (hv : a.eval (.tmp d) = .bool b) : Region.wanted o (yielded ops a.tmps) = true := by
  have e : a.tmps[d]? = some (.bool b) := by
    have hv' : a.tmps.getD d undef = .bool b := hv
    rw [Array.getD_eq_getD_getElem?] at hv'
    rw [Array.getElem?_eq_getElem (by omega)] at hv' ⊢
    simpa using hv'
  have hy : yielded ops a.tmps g = some b := by
    unfold dstOf at hd
    unfold yielded
    rw [hd]
    simp only [Option.bind_some, e]
  simp [Region.wanted, h, hy]
end

theorem up_other {D : Nat → Bool} {i j : Nat} (h : (j == i) = false) : add D i j = D j := by simp [add, h]
theorem up_self {D : Nat → Bool} {i : Nat} : add D i i = true := by simp [add]

end Go.Proofs.YtifkoihhlhadhaaDoor
