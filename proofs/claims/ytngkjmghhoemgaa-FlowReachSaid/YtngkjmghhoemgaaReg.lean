/-
  A region that draws its order, by an invariant: each operation is looked at once, whatever has come up before it. Conditions: every edge that binds leads back to an operation that stands ahead; each operation writes a slot of its own.
  A region that draws its order, by an invariant that may ask what has come up; operations without a slot (stores) may stand in it. Conditions: every edge leads back to an operation that stands ahead; each operation that writes a slot writes one of its own.
  A region that draws its order, in the midst of code: by an invariant with a ghost; a slot holds what it held till its operation has come up; the frame behind it, written out. Conditions: every edge that binds leads back to an operation that stands ahead; each operation that writes a slot writes one of its own.
-/
import Derived.RegionTactic
import Derived.Laws.World
namespace Go.Proofs.Ytngkjmghhoemgaa

/-- Every edge that binds leads back. -/
def backB (ops : Array Oper) : Bool := (List.range ops.size).all fun i => ((ops[i]?).map fun o => o.after.all fun e => !Region.binds .any e || decide (e.on < i)).getD true

def dstOf (ops : Array Oper) (i : Nat) : Option Tmp := (ops[i]?).bind (·.dst)

section
variable {P : Program} {ops : Array Oper} {Q : Exit → Act → World → Prop}

/-- Where nothing is ready, all has come up. -/
theorem all_up (hb : backB ops = true) {L : Array Bool} (hL : L.size = ops.size) (hr : Region.ready .any ops L = []) : ∀ i, i < ops.size → L.getD i false = true := by
  intro i
  induction i using Nat.strongRecOn with
  | ind i ih =>
    intro hi
    rcases Bool.eq_false_or_eq_true (L.getD i false) with h | h
    · exact h
    exfalso
    have hmem : i ∈ Region.ready .any ops L := by
      unfold Region.ready
      rw [List.mem_filter]
      refine ⟨List.mem_range.2 hi, ?_⟩
      have hLi : L.getD i true = false := by
        have e : ∀ d, L.getD i d = L[i]'(by omega) := fun d => by simp [Array.getD, hL, hi]
        rw [e] at h ⊢
        exact h
      rw [hLi]
      have ho : ops[i]? = some ops[i] := Array.getElem?_eq_getElem hi
      simp only [ho, Option.map_some, Option.getD_some, Bool.not_false, Bool.true_and]
      unfold backB at hb
      have hbi := List.all_eq_true.1 hb i (List.mem_range.2 hi)
      simp only [ho, Option.map_some, Option.getD_some] at hbi
      rw [Array.all_eq_true'] at hbi ⊢
      intro e he
      have := hbi e he
      cases hbd : Region.binds .any e with
      | false => simp
      | true =>
        rw [hbd] at this
        simp only [Bool.not_true, Bool.false_or, decide_eq_true_eq] at this
        rw [ih e.on this (by omega)]
        simp
    rw [hr] at hmem
    cases hmem

/-- What has come up, with one more. -/
def add (D : Nat → Bool) (i : Nat) : Nat → Bool := fun j => D j || j == i

theorem wpAny_inv (hb : backB ops = true) (I : (Nat → Bool) → Act → World → Prop)
    (hstep : ∀ D a w, I D a w → ∀ i o, ops[i]? = some o → D i = false → (∀ e ∈ o.after.toList, Region.binds .any e = true → D e.on = true) → wpOp P ops Q i (I (add D i)) a w)
    (hend : ∀ D a w, I D a w → (∀ i, i < ops.size → D i = true) → Q .normal a w) :
    ∀ (fuel : Nat) (L : Array Bool) (a : Act) (w : World), L.size = ops.size → ops.size ≤ fuel + (L.toList.filter id).length → I (fun j => L.getD j false) a w → wpAny P .any ops Q fuel L a w := by
  intro fuel
  induction fuel with
  | zero =>
    intro L a w hL hc hI
    have hall : ∀ i, i < ops.size → L.getD i false = true := by
      intro i hi
      have hlen : (L.toList.filter id).length = L.toList.length := by
        have := List.length_filter_le id L.toList
        simp only [Array.length_toList] at this ⊢
        omega
      have hx := List.length_filter_eq_length_iff.1 hlen (L[i]'(by omega)) (by simp)
      have e : L.getD i false = L[i]'(by omega) := by simp [Array.getD, hL, hi]
      rw [e]
      exact hx
    refine ⟨?_, hend _ a w hI hall⟩
    unfold Region.ready
    rw [List.filter_eq_nil_iff]
    intro i hi
    have hi' := List.mem_range.1 hi
    have e : L.getD i true = L.getD i false := by simp [Array.getD, hL, hi']
    rw [e, hall i hi']
    simp
  | succ fuel ih =>
    intro L a w hL hc hI
    refine ⟨fun hr => hend _ a w hI (all_up hb hL hr), ?_⟩
    intro i hi
    unfold Region.ready at hi
    rw [List.mem_filter] at hi
    obtain ⟨h1, h2⟩ := hi
    have hi' := List.mem_range.1 h1
    have ho : ops[i]? = some ops[i] := Array.getElem?_eq_getElem hi'
    simp only [ho, Option.map_some, Option.getD_some, Bool.and_eq_true] at h2
    have hLi : L.getD i false = false := by
      have e : L.getD i false = L.getD i true := by simp [Array.getD, hL, hi']
      rw [e]
      simpa using h2.1
    have hd : ∀ e ∈ ops[i].after.toList, Region.binds .any e = true → L.getD e.on false = true := by
      intro e he hbd
      have := Array.all_eq_true'.1 h2.2 e (by simpa using he)
      rw [hbd] at this
      simpa using this
    refine wpOp_mono ?_ (hstep _ a w hI i _ ho hLi hd)
    intro a' w' hI'
    refine ih _ a' w' (by simp [hL]) ?_ ?_
    · have hLf : L[i]'(by omega) = false := by
        have e : L.getD i false = L[i]'(by omega) := by simp [Array.getD, hL, hi']
        rw [← e]; exact hLi
      have hs : (L.setIfInBounds i true).toList = L.toList.set i true := by simp
      have hcnt : ∀ (l : List Bool) (k : Nat) (hk : k < l.length), l[k] = false → ((l.set k true).filter id).length = (l.filter id).length + 1 := by
        intro l
        induction l with
        | nil => intro k hk; simp at hk
        | cons b r ihl =>
          intro k hk hf
          cases k with
          | zero => simp at hf; subst hf; simp
          | succ k =>
            have := ihl k (by simpa using hk) (by simpa using hf)
            cases b <;> simp [this]
      rw [hs, hcnt L.toList i (by simpa [hL] using hi') (by simpa using hLf)]
      omega
    · have e : (fun j => (L.setIfInBounds i true).getD j false) = add (fun j => L.getD j false) i := by
        funext j
        unfold add
        by_cases hj : j = i
        · subst hj
          simp [Array.getD, hL, hi']
        · have hne : (j == i) = false := by simpa using hj
          rw [hne, Bool.or_false]
          simp only [Array.getD_eq_getD_getElem?, Array.getElem?_setIfInBounds]
          rw [if_neg (Ne.symm hj)]
      rw [e]
      exact hI'

/-- A region that draws its order, by an invariant over what has come up. -/
theorem region_inv {id : Nat} {a : Act} {w : World} (hm : P.follows .mixedOrders = true) (hb : backB ops = true) (I : (Nat → Bool) → Act → World → Prop)
    (h0 : I (fun _ => false) a w.drew)
    (hstep : ∀ D a w, I D a w → ∀ i o, ops[i]? = some o → D i = false → (∀ e ∈ o.after.toList, Region.binds .any e = true → D e.on = true) → wpOp P ops Q i (I (add D i)) a w)
    (hend : ∀ D a w, I D a w → (∀ i, i < ops.size → D i = true) → Q .normal a w) : (Code.region id ops true).wp P Q a w := by
  refine wp_region_any hm (wpAny_inv hb I hstep hend _ _ _ _ (by simp) (by omega) ?_)
  have e : (fun j => (Array.replicate ops.size false).getD j false) = fun _ => false := by
    funext j
    simp only [Array.getD, Array.size_replicate]
    split <;> simp
  rw [e]
  exact h0

/-- Each operation writes a slot of its own, within the frame, and none of those that are held fast. -/
def ownB (ops : Array Oper) (N : Nat) (fixed : List Nat) : Bool :=
  (List.range ops.size).all fun i => match dstOf ops i with
    | none => false
    | some d => decide (d < N) && !fixed.contains d && (List.range ops.size).all fun j => j == i || dstOf ops j != some d

/-- The frame: the slots that are held fast hold what they held; each operation that has come up has yielded what G says. -/
structure SlotInv (ops : Array Oper) (N : Nat) (fixed : List (Nat × Value)) (C : World → Prop) (G : (Nat → Bool) → Nat → Value → World → Prop) (D : Nat → Bool) (a : Act) (w : World) : Prop where
  defers : a.defers = []
  size : a.tmps.size = N
  fast : ∀ p ∈ fixed, a.eval (.tmp p.1) = p.2
  world : C w
  good : ∀ i d, D i = true → dstOf ops i = some d → G D i (a.eval (.tmp d)) w

/-- What is owed of operation i. -/
def OpOK (P : Program) (ops : Array Oper) (Q : Exit → Act → World → Prop) (N : Nat) (fixed : List (Nat × Value)) (C : World → Prop) (G : (Nat → Bool) → Nat → Value → World → Prop) (i : Nat) (o : Oper) : Prop :=
  ∀ (D : Nat → Bool) (a : Act) (w : World), SlotInv ops N fixed C G D a w → (∀ e ∈ o.after.toList, Region.binds .any e = true → D e.on = true) → D i = false →
    ∀ K : Act → World → Prop, (∀ v w', C w' → (∀ j x, D j = true → G D j x w → G (add D i) j x w') → G (add D i) i v w' → K (a.put o.dst v) w') →
      if Region.wanted o (yielded ops a.tmps) = true then Oper.wp P o a w K Q else K (a.put o.dst undef) w

/-- F of each operation, from number k on. -/
def Each (F : Nat → Oper → Prop) : Nat → List Oper → Prop
  | _, [] => True
  | k, o :: r => F k o ∧ Each F (k + 1) r

theorem Each.at {F : Nat → Oper → Prop} : ∀ {l : List Oper} {k : Nat}, Each F k l → ∀ i o, l[i]? = some o → F (k + i) o
  | [], _, _, i, o, h => by simp at h
  | x :: r, k, h, 0, o, ho => by simp at ho; subst ho; exact h.1
  | x :: r, k, h, i + 1, o, ho => by
    have := Each.at h.2 i o (by simpa using ho)
    rwa [show k + 1 + i = k + (i + 1) by omega] at this

theorem region_slots {id : Nat} {a : Act} {w : World} (N : Nat) (fixed : List (Nat × Value)) (C : World → Prop) (G : (Nat → Bool) → Nat → Value → World → Prop)
    (hm : P.follows .mixedOrders = true) (hb : backB ops = true) (hw : ownB ops N (fixed.map (·.1)) = true)
    (h1 : a.defers = []) (h2 : a.tmps.size = N) (h3 : ∀ p ∈ fixed, a.eval (.tmp p.1) = p.2) (h4 : C w.drew)
    (hops : Each (OpOK P ops Q N fixed C G) 0 ops.toList)
    (hend : ∀ D a w, SlotInv ops N fixed C G D a w → (∀ i, i < ops.size → D i = true) → Q .normal a w) : (Code.region id ops true).wp P Q a w := by
  refine region_inv hm hb (SlotInv ops N fixed C G) ⟨h1, h2, h3, h4, fun i d h => by cases h⟩ ?_ hend
  intro D a w hI i o ho hD hdep
  have hi : i < ops.size := by
    rcases Nat.lt_or_ge i ops.size with h | h
    · exact h
    · rw [Array.getElem?_eq_none h] at ho; cases ho
  have hown := List.all_eq_true.1 hw i (List.mem_range.2 hi)
  obtain ⟨d, hd⟩ : ∃ d, dstOf ops i = some d := by
    cases hx : dstOf ops i with
    | none => rw [hx] at hown; simp at hown
    | some d => exact ⟨d, rfl⟩
  rw [hd] at hown
  simp only [Bool.and_eq_true, decide_eq_true_eq, Bool.not_eq_true'] at hown
  obtain ⟨⟨hdN, hfx⟩, hdis⟩ := hown
  have hod : o.dst = some d := by unfold dstOf at hd; rw [ho] at hd; exact hd
  have hOK : OpOK P ops Q N fixed C G (0 + i) o := Each.at hops i o (by simpa using ho)
  rw [Nat.zero_add] at hOK
  have hev : ∀ (v : Value) (t : Nat), (a.put o.dst v).eval (.tmp t) = if t = d then v else a.eval (.tmp t) := by
    intro v t
    rw [hod]
    show (a.tmps.setIfInBounds d v).getD t undef = _
    simp only [Array.getD_eq_getD_getElem?, Array.getElem?_setIfInBounds]
    by_cases ht : t = d
    · subst ht
      rw [if_pos rfl, if_pos rfl, if_pos (by rw [hI.size]; exact hdN)]
      rfl
    · rw [if_neg (Ne.symm ht), if_neg ht]
      show _ = a.tmps.getD t undef
      rw [Array.getD_eq_getD_getElem?]
  refine wpOp_step ho (fun K hK => hOK D a w hI hdep hD K (fun v w' hC hmono hG => hK _ _ ⟨?_, ?_, ?_, hC, ?_⟩))
  · rw [hod]; exact hI.defers
  · rw [hod]
    show (a.tmps.setIfInBounds d v).size = N
    rw [Array.size_setIfInBounds]
    exact hI.size
  · intro p hp
    rw [hev, if_neg, hI.fast p hp]
    rintro rfl
    have : (fixed.map (·.1)).contains p.1 = true := by
      rw [List.contains_iff_mem]
      exact List.mem_map.2 ⟨p, hp, rfl⟩
    rw [this] at hfx
    cases hfx
  · intro j dj hj hdj
    rw [hev]
    by_cases hji : j = i
    · subst hji
      rw [hd] at hdj
      injection hdj with hdj
      subst hdj
      rw [if_pos rfl]
      exact hG
    · have hDj : D j = true := by
        unfold add at hj
        simpa [hji] using hj
      have hjs : j < ops.size := by
        rcases Nat.lt_or_ge j ops.size with h | h
        · exact h
        · unfold dstOf at hdj; rw [Array.getElem?_eq_none h] at hdj; cases hdj
      have hne := List.all_eq_true.1 hdis j (List.mem_range.2 hjs)
      rw [hdj] at hne
      simp only [Bool.or_eq_true, beq_iff_eq, bne_iff_ne, ne_eq] at hne
      rw [if_neg (by
        rintro rfl
        rcases hne with h | h
        · exact hji h
        · exact h rfl)]
      exact hmono j _ hDj (hI.good j dj hDj hdj)

theorem dep_of {o : Oper} {D : Nat → Bool} (hdep : ∀ e ∈ o.after.toList, Region.binds .any e = true → D e.on = true) (j : Nat) (h : (o.after.toList.any fun e => e.on == j && Region.binds .any e) = true) : D j = true := by
  obtain ⟨e, he, h2⟩ := List.any_eq_true.1 h
  simp only [Bool.and_eq_true, beq_iff_eq] at h2
  rw [← h2.1]
  exact hdep e he h2.2

/-- No guard, or one that says yes. -/
theorem wanted_none {o : Oper} {y : Nat → Option Bool} (h : o.guard = none) : Region.wanted o y = true := by simp [Region.wanted, h]
theorem wanted_yes {o : Oper} {a : Act} {g d N : Nat} (h : o.guard = some (g, true)) (hd : dstOf ops g = some d) (hN : a.tmps.size = N) (hlt : d < N) (hv : a.eval (.tmp d) = .bool true) : Region.wanted o (yielded ops a.tmps) = true := by
  have e : a.tmps[d]? = some (.bool true) := by
    have hv' : a.tmps.getD d undef = .bool true := hv
    rw [Array.getD_eq_getD_getElem?] at hv'
    rw [Array.getElem?_eq_getElem (by omega)] at hv' ⊢
    simpa using hv'
  have hy : yielded ops a.tmps g = some true := by
    unfold dstOf at hd
    unfold yielded
    rw [hd]
    simp only [Option.bind_some, e]
  simp [Region.wanted, h, hy]

/-- An operation that yields v and leaves the world. -/
theorem ok_value {o : Oper} {a : Act} {w : World} {v : Value} {K : Act → World → Prop} (hw : Region.wanted o (yielded ops a.tmps) = true) (hrun : (execOp a.eval o).run P w = .ok (.value v) w) (hK : K (a.put o.dst v) w) :
    if Region.wanted o (yielded ops a.tmps) = true then Oper.wp P o a w K Q else K (a.put o.dst undef) w := by
  rw [if_pos hw]
  unfold Oper.wp
  rw [hrun]
  exact hK

/-- An operation that yields v and leaves another world. -/
theorem ok_new {o : Oper} {a : Act} {w w' : World} {v : Value} {K : Act → World → Prop} (hw : Region.wanted o (yielded ops a.tmps) = true) (hrun : (execOp a.eval o).run P w = .ok (.value v) w') (hK : K (a.put o.dst v) w') :
    if Region.wanted o (yielded ops a.tmps) = true then Oper.wp P o a w K Q else K (a.put o.dst undef) w := by
  rw [if_pos hw]
  unfold Oper.wp
  rw [hrun]
  exact hK

/-- append. -/
theorem ok_append {o : Oper} {a : Act} {w w' : World} {v : Value} {K : Act → World → Prop} (hw : Region.wanted o (yielded ops a.tmps) = true) (s x : Operand) (t tn : TypeId)
    (ho : o.op = .call { callee := .builtin .append, args := #[s, x], argTypes := #[t, tn] }) (hr : (Builtin.append_ #[t, tn] o.type #[a.eval s, a.eval x]).run P w = .ok v w') (hK : K (a.put o.dst v) w') :
    if Region.wanted o (yielded ops a.tmps) = true then Oper.wp P o a w K Q else K (a.put o.dst undef) w := by
  rw [if_pos hw]
  unfold Oper.wp execOp
  simp only [ho, resolve, invoke, builtin, Sem.run_bind, Sem.run_pure, Result.andThen_ok, List.map_toArray, List.map_cons, List.map_nil, hr]
  exact hK

/-- A call of a Go function. -/
theorem ok_call {o : Oper} {a : Act} {w : World} {f : FuncId} {args : Array Value} {K : Act → World → Prop} {R : Ending → World → Prop} (hw : Region.wanted o (yielded ops a.tmps) = true) (hrun : (execOp a.eval o).run P w = .ok (.enter f args) w)
    (hc : Calls P f args w R) (hK : ∀ e w', R e w' → ∃ v, e = .returned v ∧ K (a.put o.dst v) w') :
    if Region.wanted o (yielded ops a.tmps) = true then Oper.wp P o a w K Q else K (a.put o.dst undef) w := by
  rw [if_pos hw]
  unfold Oper.wp
  rw [hrun]
  refine hc.mono ?_
  intro e w' hR
  obtain ⟨v, rfl, h⟩ := hK e w' hR
  exact h
end

/-- What constants and functions are read as. -/
theorem ecs (a : Act) : (∀ c, a.eval (.const c) = c) ∧ ∀ f, a.eval (.func f) = .func (.func f) #[] #[] := ⟨fun _ => rfl, fun _ => rfl⟩

end Go.Proofs.Ytngkjmghhoemgaa

namespace Go.Proofs.Ytngkjmghhoemgaa

section
variable {P : Program} {ops : Array Oper} {Q : Exit → Act → World → Prop}

/-- Each operation that writes a slot writes one of its own, within the frame, and none of those that are held fast. -/
def ownDB (ops : Array Oper) (N : Nat) (fixed : List Nat) : Bool :=
  (List.range ops.size).all fun i => match dstOf ops i with
    | none => true
    | some d => decide (d < N) && !fixed.contains d && (List.range ops.size).all fun j => j == i || dstOf ops j != some d

/-- The frame: the slots that are held fast hold what they held; each operation that has come up has yielded what G says; all ahead of it has come up; the world is as C says of what has come up. -/
structure SlotD (ops : Array Oper) (N : Nat) (fixed : List (Nat × Value)) (C : (Nat → Bool) → World → Prop) (G : Nat → Value → Prop) (D : Nat → Bool) (a : Act) (w : World) : Prop where
  defers : a.defers = []
  size : a.tmps.size = N
  fast : ∀ p ∈ fixed, a.eval (.tmp p.1) = p.2
  closed : ∀ i o, ops[i]? = some o → D i = true → ∀ e ∈ o.after.toList, Region.binds .any e = true → D e.on = true
  world : C D w
  good : ∀ i d, D i = true → dstOf ops i = some d → G i (a.eval (.tmp d))

/-- What is owed of operation i. -/
def OpD (P : Program) (ops : Array Oper) (Q : Exit → Act → World → Prop) (N : Nat) (fixed : List (Nat × Value)) (C : (Nat → Bool) → World → Prop) (G : Nat → Value → Prop) (i : Nat) (o : Oper) : Prop :=
  ∀ (D : Nat → Bool) (a : Act) (w : World), SlotD ops N fixed C G D a w → (∀ e ∈ o.after.toList, Region.binds .any e = true → D e.on = true) → D i = false →
    ∀ K : Act → World → Prop, (∀ v w', C (add D i) w' → G i v → K (a.put o.dst v) w') →
      if Region.wanted o (yielded ops a.tmps) = true then Oper.wp P o a w K Q else K (a.put o.dst undef) w

theorem SlotD.not_up {N : Nat} {fixed : List (Nat × Value)} {C : (Nat → Bool) → World → Prop} {G : Nat → Value → Prop} {D : Nat → Bool} {a : Act} {w : World} (h : SlotD ops N fixed C G D a w) {i : Nat} (hi : D i = false) (j : Nat)
    (he : (((ops[j]?).map fun o => o.after.toList.any fun e => e.on == i && Region.binds .any e).getD false) = true) : D j = false := by
  cases hj : ops[j]? with
  | none => rw [hj] at he; cases he
  | some o =>
    rw [hj] at he
    simp only [Option.map_some, Option.getD_some] at he
    obtain ⟨e, hm, h2⟩ := List.any_eq_true.1 he
    simp only [Bool.and_eq_true, beq_iff_eq] at h2
    rcases Bool.eq_false_or_eq_true (D j) with hD | hD
    · have := h.closed j o hj hD e hm h2.2
      rw [h2.1, hi] at this
      cases this
    · exact hD

theorem region_d {id : Nat} {a : Act} {w : World} (N : Nat) (fixed : List (Nat × Value)) (C : (Nat → Bool) → World → Prop) (G : Nat → Value → Prop)
    (hm : P.follows .mixedOrders = true) (hb : backB ops = true) (hw : ownDB ops N (fixed.map (·.1)) = true)
    (h1 : a.defers = []) (h2 : a.tmps.size = N) (h3 : ∀ p ∈ fixed, a.eval (.tmp p.1) = p.2) (h4 : C (fun _ => false) w.drew)
    (hops : Each (OpD P ops Q N fixed C G) 0 ops.toList)
    (hend : ∀ D a w, SlotD ops N fixed C G D a w → (∀ i, i < ops.size → D i = true) → Q .normal a w) : (Code.region id ops true).wp P Q a w := by
  refine region_inv hm hb (SlotD ops N fixed C G) ⟨h1, h2, h3, (fun i o _ h => by cases h), h4, (fun i d h => by cases h)⟩ ?_ hend
  intro D a w hI i o ho hD hdep
  have hi : i < ops.size := by
    rcases Nat.lt_or_ge i ops.size with h | h
    · exact h
    · rw [Array.getElem?_eq_none h] at ho; cases ho
  have hOK : OpD P ops Q N fixed C G (0 + i) o := Each.at hops i o (by simpa using ho)
  rw [Nat.zero_add] at hOK
  have hcl : ∀ j p, ops[j]? = some p → add D i j = true → ∀ e ∈ p.after.toList, Region.binds .any e = true → add D i e.on = true := by
    intro j p hp hj e he hbd
    unfold add at hj ⊢
    by_cases hji : j = i
    · subst hji
      rw [ho] at hp
      injection hp with hp
      subst hp
      rw [hdep e he hbd]
      rfl
    · have hDj : D j = true := by simpa [hji] using hj
      rw [hI.closed j p hp hDj e he hbd]
      rfl
  have hown := List.all_eq_true.1 hw i (List.mem_range.2 hi)
  cases hd : dstOf ops i with
  | none =>
    have hod : o.dst = none := by unfold dstOf at hd; rw [ho] at hd; exact hd
    refine wpOp_step ho (fun K hK => hOK D a w hI hdep hD K (fun v w' hC hG => hK _ _ ?_))
    rw [hod]
    refine ⟨hI.defers, hI.size, hI.fast, hcl, hC, ?_⟩
    intro j dj hj hdj
    by_cases hji : j = i
    · subst hji
      rw [hd] at hdj
      cases hdj
    · have hDj : D j = true := by
        unfold add at hj
        simpa [hji] using hj
      exact hI.good j dj hDj hdj
  | some d =>
    rw [hd] at hown
    simp only [Bool.and_eq_true, decide_eq_true_eq, Bool.not_eq_true'] at hown
    obtain ⟨⟨hdN, hfx⟩, hdis⟩ := hown
    have hod : o.dst = some d := by unfold dstOf at hd; rw [ho] at hd; exact hd
    have hev : ∀ (v : Value) (t : Nat), (a.put o.dst v).eval (.tmp t) = if t = d then v else a.eval (.tmp t) := by
      intro v t
      rw [hod]
      show (a.tmps.setIfInBounds d v).getD t undef = _
      simp only [Array.getD_eq_getD_getElem?, Array.getElem?_setIfInBounds]
      by_cases ht : t = d
      · subst ht
        rw [if_pos rfl, if_pos rfl, if_pos (by rw [hI.size]; exact hdN)]
        rfl
      · rw [if_neg (Ne.symm ht), if_neg ht]
        show _ = a.tmps.getD t undef
        rw [Array.getD_eq_getD_getElem?]
    refine wpOp_step ho (fun K hK => hOK D a w hI hdep hD K (fun v w' hC hG => hK _ _ ⟨?_, ?_, ?_, hcl, hC, ?_⟩))
    · rw [hod]; exact hI.defers
    · rw [hod]
      show (a.tmps.setIfInBounds d v).size = N
      rw [Array.size_setIfInBounds]
      exact hI.size
    · intro p hp
      rw [hev, if_neg, hI.fast p hp]
      rintro rfl
      have : (fixed.map (·.1)).contains p.1 = true := by
        rw [List.contains_iff_mem]
        exact List.mem_map.2 ⟨p, hp, rfl⟩
      rw [this] at hfx
      cases hfx
    · intro j dj hj hdj
      rw [hev]
      by_cases hji : j = i
      · subst hji
        rw [hd] at hdj
        injection hdj with hdj
        subst hdj
        rw [if_pos rfl]
        exact hG
      · have hDj : D j = true := by
          unfold add at hj
          simpa [hji] using hj
        have hjs : j < ops.size := by
          rcases Nat.lt_or_ge j ops.size with h | h
          · exact h
          · unfold dstOf at hdj; rw [Array.getElem?_eq_none h] at hdj; cases hdj
        have hne := List.all_eq_true.1 hdis j (List.mem_range.2 hjs)
        rw [hdj] at hne
        simp only [Bool.or_eq_true, beq_iff_eq, bne_iff_ne, ne_eq] at hne
        rw [if_neg (by
          rintro rfl
          rcases hne with h | h
          · exact hji h
          · exact h rfl)]
        exact hI.good j dj hDj hdj

/-- A store. -/
theorem ok_store {o : Oper} {a : Act} {w w' : World} {K : Act → World → Prop} (hw : Region.wanted o (yielded ops a.tmps) = true) (hrun : (execOp a.eval o).run P w = .ok .skip w') (hK : K (a.put o.dst undef) w') :
    if Region.wanted o (yielded ops a.tmps) = true then Oper.wp P o a w K Q else K (a.put o.dst undef) w := by
  rw [if_pos hw]
  unfold Oper.wp
  rw [hrun]
  exact hK

/-- A guard that says no. -/
theorem ok_not {o : Oper} {a : Act} {w : World} {K : Act → World → Prop} {g d N : Nat} {b c : Bool} (h : o.guard = some (g, b)) (hd : dstOf ops g = some d) (hN : a.tmps.size = N) (hlt : d < N) (hv : a.eval (.tmp d) = .bool c) (hbc : b ≠ c) (hK : K (a.put o.dst undef) w) :
    if Region.wanted o (yielded ops a.tmps) = true then Oper.wp P o a w K Q else K (a.put o.dst undef) w := by
  have e : a.tmps[d]? = some (.bool c) := by
    have hv' : a.tmps.getD d undef = .bool c := hv
    rw [Array.getD_eq_getD_getElem?] at hv'
    rw [Array.getElem?_eq_getElem (by omega)] at hv' ⊢
    simpa using hv'
  have hy : yielded ops a.tmps g = some c := by
    unfold dstOf at hd
    unfold yielded
    rw [hd]
    simp only [Option.bind_some, e]
  have hn : Region.wanted o (yielded ops a.tmps) = false := by
    simp [Region.wanted, h, hy]
    intro h
    exact hbc h.symm
  rw [hn]
  simpa using hK

theorem wanted_is {o : Oper} {a : Act} {g d N : Nat} {b : Bool} (h : o.guard = some (g, b)) (hd : dstOf ops g = some d) (hN : a.tmps.size = N) (hlt : d < N) (hv : a.eval (.tmp d) = .bool b) : Region.wanted o (yielded ops a.tmps) = true := by
  have e : a.tmps[d]? = some (.bool b) := by
    have hv' : a.tmps.getD d undef = .bool b := hv
    rw [Array.getD_eq_getD_getElem?] at hv'
    rw [Array.getElem?_eq_getElem (by omega)] at hv' ⊢
    simpa using hv'
  have hy : yielded ops a.tmps g = some b := by
    unfold dstOf at hd
    unfold yielded
    rw [hd]
    simp only [Option.bind_some, e]
  simp [Region.wanted, h, hy]
end

theorem up_other {D : Nat → Bool} {i j : Nat} (h : (j == i) = false) : add D i j = D j := by simp [add, h]
theorem up_self {D : Nat → Bool} {i : Nat} : add D i i = true := by simp [add]

end Go.Proofs.Ytngkjmghhoemgaa

namespace Go.Proofs.Ytngkjmghhoemgaa

theorem all_nil {α : Type} {p : α → Prop} : ∀ x ∈ ([] : List α), p x := fun _ h => by cases h
theorem all_cons {α : Type} {p : α → Prop} {a : α} {l : List α} (h : p a) (t : ∀ x ∈ l, p x) : ∀ x ∈ a :: l, p x := by
  intro x hx
  rcases List.mem_cons.1 hx with rfl | hx
  · exact h
  · exact t x hx

/-- A frame with some slots turned. -/
theorem frame_of : ∀ (vals : List (Nat × Value)) (t t' : Array Value), t'.size = t.size → (∀ p ∈ vals, t'.getD p.1 undef = p.2) → (∀ i, i ∉ vals.map (·.1) → t'.getD i undef = t.getD i undef) →
    t' = vals.foldl (fun t p => t.setIfInBounds p.1 p.2) t
  | [], t, t', hs, _, hk => by
    apply Array.ext hs
    intro i h1 h2
    have := hk i (by simp)
    simp only [Array.getD_eq_getD_getElem?, Array.getElem?_eq_getElem h1, Array.getElem?_eq_getElem h2, Option.getD_some] at this
    exact this
  | p :: vs, t, t', hs, hv, hk => by
    refine frame_of vs (t.setIfInBounds p.1 p.2) t' (by simp [hs]) (fun q hq => hv q (by simp [hq])) (fun i hi => ?_)
    by_cases hip : i = p.1
    · subst hip
      rw [hv p (by simp)]
      simp only [Array.getD_eq_getD_getElem?, Array.getElem?_setIfInBounds]
      by_cases hb : p.1 < t.size
      · simp [hb]
      · have := hv p (by simp)
        have hb' : ¬ p.1 < t'.size := by omega
        simp only [Array.getD_eq_getD_getElem?, Array.getElem?_eq_none (Nat.not_lt.1 hb')] at this
        simp [hb, ← this]
    · rw [hk i (by simp [hip]; simpa using hi)]
      simp only [Array.getD_eq_getD_getElem?, Array.getElem?_setIfInBounds]
      rw [if_neg (Ne.symm hip)]

section
variable {P : Program} {ops : Array Oper} {Q : Exit → Act → World → Prop}

/-- Each operation that writes a slot writes one of its own, within the frame. -/
def distB (ops : Array Oper) (N : Nat) : Bool :=
  (List.range ops.size).all fun i => match dstOf ops i with
    | none => true
    | some d => decide (d < N) && (List.range ops.size).all fun j => j == i || dstOf ops j != some d

/-- The frame: what is not written yet is as it was; each operation that has come up has yielded what G says; all ahead of it has come up; the world is as C says of what has come up. -/
structure SlotK {X : Type} (ops : Array Oper) (a0 : Act) (C : X → (Nat → Bool) → World → Prop) (G : X → Nat → Value → Prop) (x : X) (D : Nat → Bool) (a : Act) (w : World) : Prop where
  defers : a.defers = []
  size : a.tmps.size = a0.tmps.size
  keep : ∀ t, (∀ j, D j = true → dstOf ops j ≠ some t) → a.eval (.tmp t) = a0.eval (.tmp t)
  closed : ∀ i o, ops[i]? = some o → D i = true → ∀ e ∈ o.after.toList, Region.binds .any e = true → D e.on = true
  world : C x D w
  good : ∀ i d, D i = true → dstOf ops i = some d → G x i (a.eval (.tmp d))

/-- What is owed of operation i. -/
def OpK {X : Type} (P : Program) (ops : Array Oper) (Q : Exit → Act → World → Prop) (a0 : Act) (C : X → (Nat → Bool) → World → Prop) (G : X → Nat → Value → Prop) (i : Nat) (o : Oper) : Prop :=
  ∀ (x : X) (D : Nat → Bool) (a : Act) (w : World), SlotK ops a0 C G x D a w → (∀ e ∈ o.after.toList, Region.binds .any e = true → D e.on = true) → D i = false →
    ∀ K : Act → World → Prop, (∀ x' v w', C x' (add D i) w' → (∀ j u, D j = true → G x j u → G x' j u) → G x' i v → K (a.put o.dst v) w') →
      if Region.wanted o (yielded ops a.tmps) = true then Oper.wp P o a w K Q else K (a.put o.dst undef) w

section
variable {X : Type} {a0 : Act} {C : X → (Nat → Bool) → World → Prop} {G : X → Nat → Value → Prop} {x : X} {D : Nat → Bool} {a : Act} {w : World}

theorem SlotK.not_up (h : SlotK ops a0 C G x D a w) {i : Nat} (hi : D i = false) (j : Nat)
    (he : (((ops[j]?).map fun o => o.after.toList.any fun e => e.on == i && Region.binds .any e).getD false) = true) : D j = false := by
  cases hj : ops[j]? with
  | none => rw [hj] at he; cases he
  | some o =>
    rw [hj] at he
    simp only [Option.map_some, Option.getD_some] at he
    obtain ⟨e, hm, h2⟩ := List.any_eq_true.1 he
    simp only [Bool.and_eq_true, beq_iff_eq] at h2
    rcases Bool.eq_false_or_eq_true (D j) with hD | hD
    · have := h.closed j o hj hD e hm h2.2
      rw [h2.1, hi] at this
      cases this
    · exact hD

theorem dst_lt {j t : Nat} (h : dstOf ops j = some t) : j < ops.size := by
  rcases Nat.lt_or_ge j ops.size with h1 | h1
  · exact h1
  · unfold dstOf at h; rw [Array.getElem?_eq_none h1] at h; cases h

/-- An edge that binds: what stands ahead has come up. -/
theorem SlotK.shut (h : SlotK ops a0 C G x D a w) (j i : Nat) (hj : D j = true)
    (he : (((ops[j]?).map fun o => o.after.toList.any fun e => e.on == i && Region.binds .any e).getD false) = true) : D i = true := by
  cases ho : ops[j]? with
  | none => rw [ho] at he; cases he
  | some o =>
    rw [ho] at he
    simp only [Option.map_some, Option.getD_some] at he
    obtain ⟨e, hm, h2⟩ := List.any_eq_true.1 he
    simp only [Bool.and_eq_true, beq_iff_eq] at h2
    have := h.closed j o ho hj e hm h2.2
    rwa [h2.1] at this
/-- A slot that no operation writes. -/
theorem SlotK.read (h : SlotK ops a0 C G x D a w) (t : Nat) (hb : ((List.range ops.size).all fun j => dstOf ops j != some t) = true) : a.eval (.tmp t) = a0.eval (.tmp t) := by
  refine h.keep t (fun j _ hj => ?_)
  have := List.all_eq_true.1 hb j (List.mem_range.2 (dst_lt hj))
  rw [hj] at this
  simp at this

/-- A slot that operation i alone writes, ahead of it. -/
theorem SlotK.ahead (h : SlotK ops a0 C G x D a w) (t i : Nat) (hi : D i = false) (hb : ((List.range ops.size).all fun j => j == i || dstOf ops j != some t) = true) : a.eval (.tmp t) = a0.eval (.tmp t) := by
  refine h.keep t (fun j hD hj => ?_)
  have := List.all_eq_true.1 hb j (List.mem_range.2 (dst_lt hj))
  rw [hj] at this
  simp only [Bool.or_eq_true, beq_iff_eq, bne_iff_ne, ne_eq, not_true, or_false] at this
  rw [this, hi] at hD
  cases hD

/-- The frame behind the region. -/
theorem SlotK.frame (h : SlotK ops a0 C G x D a w) (vals : List (Nat × Value)) (hv : ∀ p ∈ vals, a.eval (.tmp p.1) = p.2) (hb : ((List.range ops.size).all fun j => match dstOf ops j with | none => true | some d => (vals.map (·.1)).contains d) = true) :
    a = ⟨vals.foldl (fun t p => t.setIfInBounds p.1 p.2) a0.tmps, []⟩ := by
  have hd := h.defers
  have hf := frame_of vals a0.tmps a.tmps h.size hv (fun i hi => h.keep i (fun j _ hj => by
    have := List.all_eq_true.1 hb j (List.mem_range.2 (dst_lt hj))
    rw [hj] at this
    exact hi (List.contains_iff_mem.1 this)))
  obtain ⟨t, d⟩ := a
  simp only at hd hf
  subst hd hf
  rfl
end

theorem region_k {X : Type} {id : Nat} {a : Act} {w : World} (x0 : X) (N : Nat) (C : X → (Nat → Bool) → World → Prop) (G : X → Nat → Value → Prop)
    (hm : P.follows .mixedOrders = true) (hb : backB ops = true) (hw : distB ops N = true)
    (h1 : a.defers = []) (h2 : a.tmps.size = N) (h4 : C x0 (fun _ => false) w.drew)
    (hops : Each (OpK P ops Q a C G) 0 ops.toList)
    (hend : ∀ x D a' w, SlotK ops a C G x D a' w → (∀ i, i < ops.size → D i = true) → Q .normal a' w) : (Code.region id ops true).wp P Q a w := by
  refine region_inv hm hb (fun D a' w => ∃ x, SlotK ops a C G x D a' w) ⟨x0, h1, rfl, fun _ _ => rfl, (fun i o _ h => by cases h), h4, (fun i d h => by cases h)⟩ ?_ (fun D a w ⟨x, h⟩ => hend x D a w h)
  intro D a' w ⟨x, hI⟩ i o ho hD hdep
  have hi : i < ops.size := by
    rcases Nat.lt_or_ge i ops.size with h | h
    · exact h
    · rw [Array.getElem?_eq_none h] at ho; cases ho
  have hOK : OpK P ops Q a C G (0 + i) o := Each.at hops i o (by simpa using ho)
  rw [Nat.zero_add] at hOK
  have hup : ∀ j, D j = true → add D i j = true := fun j hj => by unfold add; rw [hj]; rfl
  have hcl : ∀ j p, ops[j]? = some p → add D i j = true → ∀ e ∈ p.after.toList, Region.binds .any e = true → add D i e.on = true := by
    intro j p hp hj e he hbd
    by_cases hji : j = i
    · subst hji
      rw [ho] at hp
      injection hp with hp
      subst hp
      exact hup _ (hdep e he hbd)
    · have hDj : D j = true := by unfold add at hj; simpa [hji] using hj
      exact hup _ (hI.closed j p hp hDj e he hbd)
  have hown := List.all_eq_true.1 hw i (List.mem_range.2 hi)
  cases hd : dstOf ops i with
  | none =>
    have hod : o.dst = none := by unfold dstOf at hd; rw [ho] at hd; exact hd
    refine wpOp_step ho (fun K hK => hOK x D a' w hI hdep hD K (fun x' v w' hC hmono hG => hK _ _ ?_))
    rw [hod]
    refine ⟨x', hI.defers, hI.size, fun t ht => hI.keep t (fun j hj => ht j (hup j hj)), hcl, hC, ?_⟩
    intro j dj hj hdj
    by_cases hji : j = i
    · subst hji
      rw [hd] at hdj
      cases hdj
    · have hDj : D j = true := by
        unfold add at hj
        simpa [hji] using hj
      exact hmono j _ hDj (hI.good j dj hDj hdj)
  | some d =>
    rw [hd] at hown
    simp only [Bool.and_eq_true, decide_eq_true_eq] at hown
    obtain ⟨hdN, hdis⟩ := hown
    have hod : o.dst = some d := by unfold dstOf at hd; rw [ho] at hd; exact hd
    have hev : ∀ (v : Value) (t : Nat), (a'.put o.dst v).eval (.tmp t) = if t = d then v else a'.eval (.tmp t) := by
      intro v t
      rw [hod]
      show (a'.tmps.setIfInBounds d v).getD t undef = _
      simp only [Array.getD_eq_getD_getElem?, Array.getElem?_setIfInBounds]
      by_cases ht : t = d
      · subst ht
        rw [if_pos rfl, if_pos rfl, if_pos (by rw [hI.size, h2]; exact hdN)]
        rfl
      · rw [if_neg (Ne.symm ht), if_neg ht]
        show _ = a'.tmps.getD t undef
        rw [Array.getD_eq_getD_getElem?]
    refine wpOp_step ho (fun K hK => hOK x D a' w hI hdep hD K (fun x' v w' hC hmono hG => hK _ _ ⟨x', ?_, ?_, ?_, hcl, hC, ?_⟩))
    · rw [hod]; exact hI.defers
    · rw [hod]
      show (a'.tmps.setIfInBounds d v).size = _
      rw [Array.size_setIfInBounds]
      exact hI.size
    · intro t ht
      have htd : t ≠ d := by
        rintro rfl
        exact ht i (by simp [add]) hd
      rw [hev, if_neg htd]
      exact hI.keep t (fun j hj => ht j (hup j hj))
    · intro j dj hj hdj
      rw [hev]
      by_cases hji : j = i
      · subst hji
        rw [hd] at hdj
        injection hdj with hdj
        subst hdj
        rw [if_pos rfl]
        exact hG
      · have hDj : D j = true := by
          unfold add at hj
          simpa [hji] using hj
        have hne := List.all_eq_true.1 hdis j (List.mem_range.2 (dst_lt hdj))
        rw [hdj] at hne
        simp only [Bool.or_eq_true, beq_iff_eq, bne_iff_ne, ne_eq] at hne
        rw [if_neg (by
          rintro rfl
          rcases hne with h | h
          · exact hji h
          · exact h rfl)]
        exact hmono j _ hDj (hI.good j dj hDj hdj)
end

end Go.Proofs.Ytngkjmghhoemgaa
