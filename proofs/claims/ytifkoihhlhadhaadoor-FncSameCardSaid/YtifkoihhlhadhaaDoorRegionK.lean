/-
  A region that draws its order, in the midst of code: by an invariant with a ghost; a slot holds what it held till its operation has come up; the frame behind it, written out. Conditions: every edge that binds leads back to an operation that stands ahead; each operation that writes a slot writes one of its own.
-/
import Derived.Test.YtifkoihhlhadhaaDoorRegionD
namespace Go.Proofs.YtifkoihhlhadhaaDoor

theorem all_nil {α : Type} {p : α → Prop} : ∀ x ∈ ([] : List α), p x := fun _ h => by cases h
theorem all_cons {α : Type} {p : α → Prop} {a : α} {l : List α} (h : p a) (t : ∀ x ∈ l, p x) : ∀ x ∈ a :: l, p x := by
  intro x hx
  rcases List.mem_cons.1 hx with rfl | hx
  · exact h
  · exact t x hx

/-- A frame with some slots turned. -/
theorem frame_of : ∀ (vals : List (Nat × Value)) (t t' : Array Value), t'.size = t.size → (∀ p ∈ vals, t'.getD p.1 undef = p.2) → (∀ i, i ∉ vals.map (·.1) → t'.getD i undef = t.getD i undef) →
    t' = vals.foldl (fun t p => t.setIfInBounds p.1 p.2) t
  | [], t, t', hs, _, hk => by
    apply Array.ext hs
    intro i h1 h2
    have := hk i (by simp)
    simp only [Array.getD_eq_getD_getElem?, Array.getElem?_eq_getElem h1, Array.getElem?_eq_getElem h2, Option.getD_some] at this
    exact this
  | p :: vs, t, t', hs, hv, hk => by
    refine frame_of vs (t.setIfInBounds p.1 p.2) t' (by simp [hs]) (fun q hq => hv q (by simp [hq])) (fun i hi => ?_)
    by_cases hip : i = p.1
    · subst hip
      rw [hv p (by simp)]
      simp only [Array.getD_eq_getD_getElem?, Array.getElem?_setIfInBounds]
      by_cases hb : p.1 < t.size
      · simp [hb]
      · have := hv p (by simp)
        have hb' : ¬ p.1 < t'.size := by omega
        simp only [Array.getD_eq_getD_getElem?, Array.getElem?_eq_none (Nat.not_lt.1 hb')] at this
        simp [hb, ← this]
    · rw [hk i (by simp [hip]; simpa using hi)]
      simp only [Array.getD_eq_getD_getElem?, Array.getElem?_setIfInBounds]
      rw [if_neg (Ne.symm hip)]

section
variable {P : Program} {ops : Array Oper} {Q : Exit → Act → World → Prop}

/-- Each operation that writes a slot writes one of its own, within the frame. -/
def distB (ops : Array Oper) (N : Nat) : Bool :=
  (List.range ops.size).all fun i => match dstOf ops i with
    | none => true
    | some d => decide (d < N) && (List.range ops.size).all fun j => j == i || dstOf ops j != some d

/-- The frame: what is not written yet is as it was; each operation that has come up has yielded what G says; all ahead of it has come up; the world is as C says of what has come up. -/
structure SlotK {X : Type} (ops : Array Oper) (a0 : Act) (C : X → (Nat → Bool) → World → Prop) (G : X → Nat → Value → Prop) (x : X) (D : Nat → Bool) (a : Act) (w : World) : Prop where
  defers : a.defers = []
  size : a.tmps.size = a0.tmps.size
  keep : ∀ t, (∀ j, D j = true → dstOf ops j ≠ some t) → a.eval (.tmp t) = a0.eval (.tmp t)
  closed : ∀ i o, ops[i]? = some o → D i = true → ∀ e ∈ o.after.toList, Region.binds .any e = true → D e.on = true
  world : C x D w
  good : ∀ i d, D i = true → dstOf ops i = some d → G x i (a.eval (.tmp d))

/-- What is owed of operation i. -/
def OpK {X : Type} (P : Program) (ops : Array Oper) (Q : Exit → Act → World → Prop) (a0 : Act) (C : X → (Nat → Bool) → World → Prop) (G : X → Nat → Value → Prop) (i : Nat) (o : Oper) : Prop :=
  ∀ (x : X) (D : Nat → Bool) (a : Act) (w : World), SlotK ops a0 C G x D a w → (∀ e ∈ o.after.toList, Region.binds .any e = true → D e.on = true) → D i = false →
    ∀ K : Act → World → Prop, (∀ x' v w', C x' (add D i) w' → (∀ j u, D j = true → G x j u → G x' j u) → G x' i v → K (a.put o.dst v) w') →
      if Region.wanted o (yielded ops a.tmps) = true then Oper.wp P o a w K Q else K (a.put o.dst undef) w

section
variable {X : Type} {a0 : Act} {C : X → (Nat → Bool) → World → Prop} {G : X → Nat → Value → Prop} {x : X} {D : Nat → Bool} {a : Act} {w : World}

theorem SlotK.not_up (h : SlotK ops a0 C G x D a w) {i : Nat} (hi : D i = false) (j : Nat)
    (he : (((ops[j]?).map fun o => o.after.toList.any fun e => e.on == i && Region.binds .any e).getD false) = true) : D j = false := by
  cases hj : ops[j]? with
  | none => rw [hj] at he; cases he
  | some o =>
    rw [hj] at he
    simp only [Option.map_some, Option.getD_some] at he
    obtain ⟨e, hm, h2⟩ := List.any_eq_true.1 he
    simp only [Bool.and_eq_true, beq_iff_eq] at h2
    rcases Bool.eq_false_or_eq_true (D j) with hD | hD
    · have := h.closed j o hj hD e hm h2.2
      rw [h2.1, hi] at this
      cases this
    · exact hD

theorem dst_lt {j t : Nat} (h : dstOf ops j = some t) : j < ops.size := by
  rcases Nat.lt_or_ge j ops.size with h1 | h1
  · exact h1
  · unfold dstOf at h; rw [Array.getElem?_eq_none h1] at h; cases h

/-- An edge that binds: what stands ahead has come up. -/
theorem SlotK.shut (h : SlotK ops a0 C G x D a w) (j i : Nat) (hj : D j = true)
    (he : (((ops[j]?).map fun o => o.after.toList.any fun e => e.on == i && Region.binds .any e).getD false) = true) : D i = true := by
  cases ho : ops[j]? with
  | none => rw [ho] at he; cases he
  | some o =>
    rw [ho] at he
    simp only [Option.map_some, Option.getD_some] at he
    obtain ⟨e, hm, h2⟩ := List.any_eq_true.1 he
    simp only [Bool.and_eq_true, beq_iff_eq] at h2
    have := h.closed j o ho hj e hm h2.2
    rwa [h2.1] at this
/-- A slot that no operation writes. -/
theorem SlotK.read (h : SlotK ops a0 C G x D a w) (t : Nat) (hb : ((List.range ops.size).all fun j => dstOf ops j != some t) = true) : a.eval (.tmp t) = a0.eval (.tmp t) := by
  refine h.keep t (fun j _ hj => ?_)
  have := List.all_eq_true.1 hb j (List.mem_range.2 (dst_lt hj))
  rw [hj] at this
  simp at this

/-- A slot that operation i alone writes, ahead of it. -/
theorem SlotK.ahead (h : SlotK ops a0 C G x D a w) (t i : Nat) (hi : D i = false) (hb : ((List.range ops.size).all fun j => j == i || dstOf ops j != some t) = true) : a.eval (.tmp t) = a0.eval (.tmp t) := by
  refine h.keep t (fun j hD hj => ?_)
  have := List.all_eq_true.1 hb j (List.mem_range.2 (dst_lt hj))
  rw [hj] at this
  simp only [Bool.or_eq_true, beq_iff_eq, bne_iff_ne, ne_eq, not_true, or_false] at this
  rw [this, hi] at hD
  cases hD

/-- The frame behind the region. -/
theorem SlotK.frame (h : SlotK ops a0 C G x D a w) (vals : List (Nat × Value)) (hv : ∀ p ∈ vals, a.eval (.tmp p.1) = p.2) (hb : ((List.range ops.size).all fun j => match dstOf ops j with | none => true | some d => (vals.map (·.1)).contains d) = true) :
    a = ⟨vals.foldl (fun t p => t.setIfInBounds p.1 p.2) a0.tmps, []⟩ := by
  have hd := h.defers
  have hf := frame_of vals a0.tmps a.tmps h.size hv (fun i hi => h.keep i (fun j _ hj => by
    have := List.all_eq_true.1 hb j (List.mem_range.2 (dst_lt hj))
    rw [hj] at this
    exact hi (List.contains_iff_mem.1 this)))
  obtain ⟨t, d⟩ := a
  simp only at hd hf
  subst hd hf
  rfl
end

theorem region_k {X : Type} {id : Nat} {a : Act} {w : World} (x0 : X) (N : Nat) (C : X → (Nat → Bool) → World → Prop) (G : X → Nat → Value → Prop)
    (hm : P.follows .mixedOrders = true) (hb : backB ops = true) (hw : distB ops N = true)
    (h1 : a.defers = []) (h2 : a.tmps.size = N) (h4 : C x0 (fun _ => false) w.drew)
    (hops : Each (OpK P ops Q a C G) 0 ops.toList)
    (hend : ∀ x D a' w, SlotK ops a C G x D a' w → (∀ i, i < ops.size → D i = true) → Q .normal a' w) : (Code.region id ops true).wp P Q a w := by
  refine region_inv hm hb (fun D a' w => ∃ x, SlotK ops a C G x D a' w) ⟨x0, h1, rfl, fun _ _ => rfl, (fun i o _ h => by cases h), h4, (fun i d h => by cases h)⟩ ?_ (fun D a w ⟨x, h⟩ => hend x D a w h)
  intro D a' w ⟨x, hI⟩ i o ho hD hdep
  have hi : i < ops.size := by
    rcases Nat.lt_or_ge i ops.size with h | h
    · exact h
    · rw [Array.getElem?_eq_none h] at ho; cases ho
  have hOK : OpK P ops Q a C G (0 + i) o := Each.at hops i o (by simpa using ho)
  rw [Nat.zero_add] at hOK
  have hup : ∀ j, D j = true → add D i j = true := fun j hj => by unfold add; rw [hj]; rfl
  have hcl : ∀ j p, ops[j]? = some p → add D i j = true → ∀ e ∈ p.after.toList, Region.binds .any e = true → add D i e.on = true := by
    intro j p hp hj e he hbd
    by_cases hji : j = i
    · subst hji
      rw [ho] at hp
      injection hp with hp
      subst hp
      exact hup _ (hdep e he hbd)
    · have hDj : D j = true := by unfold add at hj; simpa [hji] using hj
      exact hup _ (hI.closed j p hp hDj e he hbd)
  have hown := List.all_eq_true.1 hw i (List.mem_range.2 hi)
  cases hd : dstOf ops i with
  | none =>
    have hod : o.dst = none := by unfold dstOf at hd; rw [ho] at hd; exact hd
    refine wpOp_step ho (fun K hK => hOK x D a' w hI hdep hD K (fun x' v w' hC hmono hG => hK _ _ ?_))
    rw [hod]
    refine ⟨x', hI.defers, hI.size, fun t ht => hI.keep t (fun j hj => ht j (hup j hj)), hcl, hC, ?_⟩
    intro j dj hj hdj
    by_cases hji : j = i
    · subst hji
      rw [hd] at hdj
      cases hdj
    · have hDj : D j = true := by
        unfold add at hj
        simpa [hji] using hj
      exact hmono j _ hDj (hI.good j dj hDj hdj)
  | some d =>
    rw [hd] at hown
    simp only [Bool.and_eq_true, decide_eq_true_eq] at hown
    obtain ⟨hdN, hdis⟩ := hown
    have hod : o.dst = some d := by unfold dstOf at hd; rw [ho] at hd; exact hd
    have hev : ∀ (v : Value) (t : Nat), (a'.put o.dst v).eval (.tmp t) = if t = d then v else a'.eval (.tmp t) := by
      intro v t
      rw [hod]
      show (a'.tmps.setIfInBounds d v).getD t undef = _
      simp only [Array.getD_eq_getD_getElem?, Array.getElem?_setIfInBounds]
      by_cases ht : t = d
      · subst ht
        rw [if_pos rfl, if_pos rfl, if_pos (by rw [hI.size, h2]; exact hdN)]
        rfl
      · rw [if_neg (Ne.symm ht), if_neg ht]
        show _ = a'.tmps.getD t undef
        rw [Array.getD_eq_getD_getElem?]
    refine wpOp_step ho (fun K hK => hOK x D a' w hI hdep hD K (fun x' v w' hC hmono hG => hK _ _ ⟨x', ?_, ?_, ?_, hcl, hC, ?_⟩))
    · rw [hod]; exact hI.defers
    · rw [hod]
      show (a'.tmps.setIfInBounds d v).size = _
      rw [Array.size_setIfInBounds]
      exact hI.size
    · intro t ht
      have htd : t ≠ d := by
        rintro rfl
        exact ht i (by simp [add]) hd
      rw [hev, if_neg htd]
      exact hI.keep t (fun j hj => ht j (hup j hj))
    · intro j dj hj hdj
      rw [hev]
      by_cases hji : j = i
      · subst hji
        rw [hd] at hdj
        injection hdj with hdj
        subst hdj
        rw [if_pos rfl]
        exact hG
      · have hDj : D j = true := by
          unfold add at hj
          simpa [hji] using hj
        have hne := List.all_eq_true.1 hdis j (List.mem_range.2 (dst_lt hdj))
        rw [hdj] at hne
        simp only [Bool.or_eq_true, beq_iff_eq, bne_iff_ne, ne_eq] at hne
        rw [if_neg (by
          rintro rfl
          rcases hne with h | h
          · exact hji h
          · exact h rfl)]
        exact hmono j _ hDj (hI.good j dj hDj hdj)
end

end Go.Proofs.YtifkoihhlhadhaaDoor
