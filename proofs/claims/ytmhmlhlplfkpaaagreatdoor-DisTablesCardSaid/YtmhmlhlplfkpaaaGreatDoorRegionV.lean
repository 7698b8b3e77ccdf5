/-
 A region that draws its order, inside the wide fence or in a round of a loop over a function, in a frame that may bear marks: as region_k. Conditions: as there; no operation defers a call.
-/
import Derived.Test.YtmhmlhlplfkpaaaGreatDoorReg
import Derived.OrdersIn
import Derived.OwnWalkIn
import Derived.RangeFuncNested
namespace Go.Proofs.YtmhmlhlplfkpaaaGreatDoor
abbrev Rd (r : Option Nat) : Fence := { Fence.wide with round := r }
def plainB (ops : Array Oper) : Bool := ops.toList.all fun o => match o.op with
 | .defer _ => false
 | _ => true
section
variable {F : Fence} {n : Nat} {P : Program} {ops : Array Oper} {Q : Exit → Act → World → Prop}
theorem plain_of {r : Option Nat} (h : plainB ops = true) {i : Nat} {o : Oper} (ho : ops[i]? = some o) : ∀ ρ : Operand → Value, o.semAt r ρ = execOp ρ o := by
 intro ρ
 refine Oper.semAt_eq r ρ o fun c hc => ?_
 have hm : o ∈ ops.toList := by
   rw [← Array.getElem?_toList] at ho
   exact List.mem_of_getElem? ho
 have := List.all_eq_true.1 h o hm
 rw [hc] at this
 cases this
theorem wpAnyIn_inv (hb : backB ops = true) (I : (Nat → Bool) → Act → World → Prop)
   (hstep : ∀ D a w, I D a w → ∀ i o, ops[i]? = some o → D i = false → (∀ e ∈ o.after.toList, Region.binds .any e = true → D e.on = true) → wpOpIn F n P ops Q i (I (add D i)) a w)
   (hend : ∀ D a w, I D a w → (∀ i, i < ops.size → D i = true) → Q .normal a w) :
   ∀ (fuel : Nat) (L : Array Bool) (a : Act) (w : World), L.size = ops.size → ops.size ≤ fuel + (L.toList.filter id).length → I (fun j => L.getD j false) a w → wpAnyIn F n P .any ops Q fuel L a w := by
 intro fuel
 induction fuel with
 | zero =>
   intro L a w hL hc hI
   have hall : ∀ i, i < ops.size → L.getD i false = true := by
     intro i hi
     have hlen : (L.toList.filter id).length = L.toList.length := by
       have := List.length_filter_le id L.toList
       simp only [Array.length_toList] at this ⊢
       omega
     have hx := List.length_filter_eq_length_iff.1 hlen (L[i]'(by omega)) (by simp)
     have e : L.getD i false = L[i]'(by omega) := by simp [Array.getD, hL, hi]
     rw [e]
     exact hx
   refine ⟨?_, hend _ a w hI hall⟩
   unfold Region.ready
   rw [List.filter_eq_nil_iff]
   intro i hi
   have hi' := List.mem_range.1 hi
   have e : L.getD i true = L.getD i false := by simp [Array.getD, hL, hi']
   rw [e, hall i hi']
   simp
 | succ fuel ih =>
   intro L a w hL hc hI
   refine ⟨fun hr => hend _ a w hI (all_up hb hL hr), ?_⟩
   intro i hi
   unfold Region.ready at hi
   rw [List.mem_filter] at hi
   obtain ⟨h1, h2⟩ := hi
   have hi' := List.mem_range.1 h1
   have ho : ops[i]? = some ops[i] := Array.getElem?_eq_getElem hi'
   simp only [ho, Option.map_some, Option.getD_some, Bool.and_eq_true] at h2
   have hLi : L.getD i false = false := by
     have e : L.getD i false = L.getD i true := by simp [Array.getD, hL, hi']
     rw [e]
     simpa using h2.1
   have hd : ∀ e ∈ ops[i].after.toList, Region.binds .any e = true → L.getD e.on false = true := by
     intro e he hbd
     have := Array.all_eq_true'.1 h2.2 e (by simpa using he)
     rw [hbd] at this
     simpa using this
   refine wpOpIn_mono ?_ (hstep _ a w hI i _ ho hLi hd)
   intro a' w' hI'
   refine ih _ a' w' (by simp [hL]) ?_ ?_
   · have hLf : L[i]'(by omega) = false := by
       have e : L.getD i false = L[i]'(by omega) := by simp [Array.getD, hL, hi']
       rw [← e]; exact hLi
     have hs : (L.setIfInBounds i true).toList = L.toList.set i true := by simp
     have hcnt : ∀ (l : List Bool) (k : Nat) (hk : k < l.length), l[k] = false → ((l.set k true).filter id).length = (l.filter id).length + 1 := by
       intro l
       induction l with
       | nil => intro k hk; simp at hk
       | cons b r ihl =>
         intro k hk hf
         cases k with
         | zero => simp at hf; subst hf; simp
         | succ k =>
           have := ihl k (by simpa using hk) (by simpa using hf)
           cases b <;> simp [this]
     rw [hs, hcnt L.toList i (by simpa [hL] using hi') (by simpa using hLf)]
     omega
   · have e : (fun j => (L.setIfInBounds i true).getD j false) = add (fun j => L.getD j false) i := by
       funext j
       unfold add
       by_cases hj : j = i
       · subst hj
         simp [Array.getD, hL, hi']
       · have hne : (j == i) = false := by simpa using hj
         rw [hne, Bool.or_false]
         simp only [Array.getD_eq_getD_getElem?, Array.getElem?_setIfInBounds]
         rw [if_neg (Ne.symm hj)]
     rw [e]
     exact hI'
theorem regionIn_inv {id : Nat} {a : Act} {w : World} (hm : P.follows .mixedOrders = true) (hb : backB ops = true) (I : (Nat → Bool) → Act → World → Prop)
   (h0 : I (fun _ => false) a w.drew)
   (hstep : ∀ D a w, I D a w → ∀ i o, ops[i]? = some o → D i = false → (∀ e ∈ o.after.toList, Region.binds .any e = true → D e.on = true) → wpOpIn F n P ops Q i (I (add D i)) a w)
   (hend : ∀ D a w, I D a w → (∀ i, i < ops.size → D i = true) → Q .normal a w) : (Code.region id ops true).wpIn F n P Q a w := by
 refine wpIn_region_any hm (wpAnyIn_inv hb I hstep hend _ _ _ _ (by simp) (by omega) ?_)
 have e : (fun j => (Array.replicate ops.size false).getD j false) = fun _ => false := by
   funext j
   simp only [Array.getD, Array.size_replicate]
   split <;> simp
 rw [e]
 exact h0
end
section
variable {P : Program} {ops : Array Oper} {Q : Exit → Act → World → Prop}
structure SlotV {X : Type} (ops : Array Oper) (a0 : Act) (C : X → (Nat → Bool) → World → Prop) (G : X → Nat → Value → Prop) (x : X) (D : Nat → Bool) (a : Act) (w : World) : Prop where
 defers : a.defers = a0.defers
 size : a.tmps.size = a0.tmps.size
 keep : ∀ t, (∀ j, D j = true → dstOf ops j ≠ some t) → a.eval (.tmp t) = a0.eval (.tmp t)
 closed : ∀ i o, ops[i]? = some o → D i = true → ∀ e ∈ o.after.toList, Region.binds .any e = true → D e.on = true
 world : C x D w
 good : ∀ i d, D i = true → dstOf ops i = some d → G x i (a.eval (.tmp d))
def OpV {X : Type} (r : Option Nat) (n : Nat) (P : Program) (ops : Array Oper) (Q : Exit → Act → World → Prop) (a0 : Act) (C : X → (Nat → Bool) → World → Prop) (G : X → Nat → Value → Prop) (i : Nat) (o : Oper) : Prop :=
 (∀ ρ : Operand → Value, o.semAt r ρ = execOp ρ o) → ∀ (x : X) (D : Nat → Bool) (a : Act) (w : World), SlotV ops a0 C G x D a w → (∀ e ∈ o.after.toList, Region.binds .any e = true → D e.on = true) → D i = false →
   ∀ K : Act → World → Prop, (∀ x' v w', C x' (add D i) w' → (∀ j u, D j = true → G x j u → G x' j u) → G x' i v → K (a.put o.dst v) w') →
     if Region.wanted o (yielded ops a.tmps) = true then Oper.wpIn (Rd r) n P o a w K Q else (∀ f, o.about P w a.eval = some f → (Rd r).fn f) ∧ K (a.put o.dst undef) w
section
variable {X : Type} {a0 : Act} {C : X → (Nat → Bool) → World → Prop} {G : X → Nat → Value → Prop} {x : X} {D : Nat → Bool} {a : Act} {w : World}
theorem SlotV.not_up (h : SlotV ops a0 C G x D a w) {i : Nat} (hi : D i = false) (j : Nat)
   (he : (((ops[j]?).map fun o => o.after.toList.any fun e => e.on == i && Region.binds .any e).getD false) = true) : D j = false := by
 cases hj : ops[j]? with
 | none => rw [hj] at he; cases he
 | some o =>
   rw [hj] at he
   simp only [Option.map_some, Option.getD_some] at he
   obtain ⟨e, hm, h2⟩ := List.any_eq_true.1 he
   simp only [Bool.and_eq_true, beq_iff_eq] at h2
   rcases Bool.eq_false_or_eq_true (D j) with hD | hD
   · have := h.closed j o hj hD e hm h2.2
     rw [h2.1, hi] at this
     cases this
   · exact hD
theorem SlotV.read (h : SlotV ops a0 C G x D a w) (t : Nat) (hb : ((List.range ops.size).all fun j => dstOf ops j != some t) = true) : a.eval (.tmp t) = a0.eval (.tmp t) := by
 refine h.keep t (fun j _ hj => ?_)
 have := List.all_eq_true.1 hb j (List.mem_range.2 (dst_lt hj))
 rw [hj] at this
 simp at this
theorem SlotV.ahead (h : SlotV ops a0 C G x D a w) (t i : Nat) (hi : D i = false) (hb : ((List.range ops.size).all fun j => j == i || dstOf ops j != some t) = true) : a.eval (.tmp t) = a0.eval (.tmp t) := by
 refine h.keep t (fun j hD hj => ?_)
 have := List.all_eq_true.1 hb j (List.mem_range.2 (dst_lt hj))
 rw [hj] at this
 simp only [Bool.or_eq_true, beq_iff_eq, bne_iff_ne, ne_eq, not_true, or_false] at this
 rw [this, hi] at hD
 cases hD
theorem SlotV.frame (h : SlotV ops a0 C G x D a w) (vals : List (Nat × Value)) (hv : ∀ p ∈ vals, a.eval (.tmp p.1) = p.2) (hb : ((List.range ops.size).all fun j => match dstOf ops j with | none => true | some d => (vals.map (·.1)).contains d) = true) :
   a = ⟨vals.foldl (fun t p => t.setIfInBounds p.1 p.2) a0.tmps, a0.defers⟩ := by
 have hd := h.defers
 have hf := frame_of vals a0.tmps a.tmps h.size hv (fun i hi => h.keep i (fun j _ hj => by
   have := List.all_eq_true.1 hb j (List.mem_range.2 (dst_lt hj))
   rw [hj] at this
   exact hi (List.contains_iff_mem.1 this)))
 obtain ⟨t, d⟩ := a
 simp only at hd hf
 subst hd hf
 rfl
end
theorem region_v {X : Type} {r : Option Nat} {n : Nat} {id : Nat} {a : Act} {w : World} (x0 : X) (N : Nat) (C : X → (Nat → Bool) → World → Prop) (G : X → Nat → Value → Prop)
   (hm : P.follows .mixedOrders = true) (hb : backB ops = true) (hw : distB ops N = true)
   (hdf : plainB ops = true) (h2 : a.tmps.size = N) (h4 : C x0 (fun _ => false) w.drew)
   (hops : Each (OpV r n P ops Q a C G) 0 ops.toList)
   (hend : ∀ x D a' w, SlotV ops a C G x D a' w → (∀ i, i < ops.size → D i = true) → Q .normal a' w) : (Code.region id ops true).wpIn (Rd r) n P Q a w := by
 refine regionIn_inv hm hb (fun D a' w => ∃ x, SlotV ops a C G x D a' w) ⟨x0, rfl, rfl, fun _ _ => rfl, (fun i o _ h => by cases h), h4, (fun i d h => by cases h)⟩ ?_ (fun D a w ⟨x, h⟩ => hend x D a w h)
 intro D a' w ⟨x, hI⟩ i o ho hD hdep
 have hi : i < ops.size := by
   rcases Nat.lt_or_ge i ops.size with h | h
   · exact h
   · rw [Array.getElem?_eq_none h] at ho; cases ho
 have hOK : OpV r n P ops Q a C G (0 + i) o := Each.at hops i o (by simpa using ho)
 rw [Nat.zero_add] at hOK
 have hup : ∀ j, D j = true → add D i j = true := fun j hj => by unfold add; rw [hj]; rfl
 have hcl : ∀ j p, ops[j]? = some p → add D i j = true → ∀ e ∈ p.after.toList, Region.binds .any e = true → add D i e.on = true := by
   intro j p hp hj e he hbd
   by_cases hji : j = i
   · subst hji
     rw [ho] at hp
     injection hp with hp
     subst hp
     exact hup _ (hdep e he hbd)
   · have hDj : D j = true := by unfold add at hj; simpa [hji] using hj
     exact hup _ (hI.closed j p hp hDj e he hbd)
 have hown := List.all_eq_true.1 hw i (List.mem_range.2 hi)
 cases hd : dstOf ops i with
 | none =>
   have hod : o.dst = none := by unfold dstOf at hd; rw [ho] at hd; exact hd
   refine wpOpIn_step ho (fun K hK => hOK (plain_of hdf ho) x D a' w hI hdep hD K (fun x' v w' hC hmono hG => hK _ _ ?_))
   rw [hod]
   refine ⟨x', hI.defers, hI.size, fun t ht => hI.keep t (fun j hj => ht j (hup j hj)), hcl, hC, ?_⟩
   intro j dj hj hdj
   by_cases hji : j = i
   · subst hji
     rw [hd] at hdj
     cases hdj
   · have hDj : D j = true := by
       unfold add at hj
       simpa [hji] using hj
     exact hmono j _ hDj (hI.good j dj hDj hdj)
 | some d =>
   rw [hd] at hown
   simp only [Bool.and_eq_true, decide_eq_true_eq] at hown
   obtain ⟨hdN, hdis⟩ := hown
   have hod : o.dst = some d := by unfold dstOf at hd; rw [ho] at hd; exact hd
   have hev : ∀ (v : Value) (t : Nat), (a'.put o.dst v).eval (.tmp t) = if t = d then v else a'.eval (.tmp t) := by
     intro v t
     rw [hod]
     show (a'.tmps.setIfInBounds d v).getD t undef = _
     simp only [Array.getD_eq_getD_getElem?, Array.getElem?_setIfInBounds]
     by_cases ht : t = d
     · subst ht
       rw [if_pos rfl, if_pos rfl, if_pos (by rw [hI.size, h2]; exact hdN)]
       rfl
     · rw [if_neg (Ne.symm ht), if_neg ht]
       show _ = a'.tmps.getD t undef
       rw [Array.getD_eq_getD_getElem?]
   refine wpOpIn_step ho (fun K hK => hOK (plain_of hdf ho) x D a' w hI hdep hD K (fun x' v w' hC hmono hG => hK _ _ ⟨x', ?_, ?_, ?_, hcl, hC, ?_⟩))
   · rw [hod]; exact hI.defers
   · rw [hod]
     show (a'.tmps.setIfInBounds d v).size = _
     rw [Array.size_setIfInBounds]
     exact hI.size
   · intro t ht
     have htd : t ≠ d := by
       rintro rfl
       exact ht i (by simp [add]) hd
     rw [hev, if_neg htd]
     exact hI.keep t (fun j hj => ht j (hup j hj))
   · intro j dj hj hdj
     rw [hev]
     by_cases hji : j = i
     · subst hji
       rw [hd] at hdj
       injection hdj with hdj
       subst hdj
       rw [if_pos rfl]
       exact hG
     · have hDj : D j = true := by
         unfold add at hj
         simpa [hji] using hj
       have hne := List.all_eq_true.1 hdis j (List.mem_range.2 (dst_lt hdj))
       rw [hdj] at hne
       simp only [Bool.or_eq_true, beq_iff_eq, bne_iff_ne, ne_eq] at hne
       rw [if_neg (by
         rintro rfl
         rcases hne with h | h
         · exact hji h
         · exact h rfl)]
       exact hmono j _ hDj (hI.good j dj hDj hdj)
end
section
variable {P : Program} {ops : Array Oper} {Q : Exit → Act → World → Prop} {r : Option Nat} {n : Nat} {o : Oper} {a : Act} {w w' : World} {v : Value} {K : Act → World → Prop}
theorem rk_value (hw : Region.wanted o (yielded ops a.tmps) = true ∧ ∀ ρ : Operand → Value, o.semAt r ρ = execOp ρ o) (hrun : (execOp a.eval o).run P w = .ok (.value v) w) (hK : K (a.put o.dst v) w) :
   if Region.wanted o (yielded ops a.tmps) = true then Oper.wpIn (Rd r) n P o a w K Q else (∀ f, o.about P w a.eval = some f → (Rd r).fn f) ∧ K (a.put o.dst undef) w := by
 rw [if_pos hw.1]
 refine ⟨fun _ _ => trivial, ?_⟩
 rw [show o.semAt (Rd r).round a.eval = execOp a.eval o from hw.2 a.eval, hrun]
 exact hK
theorem rk_new (hw : Region.wanted o (yielded ops a.tmps) = true ∧ ∀ ρ : Operand → Value, o.semAt r ρ = execOp ρ o) (hrun : (execOp a.eval o).run P w = .ok (.value v) w') (hK : K (a.put o.dst v) w') :
   if Region.wanted o (yielded ops a.tmps) = true then Oper.wpIn (Rd r) n P o a w K Q else (∀ f, o.about P w a.eval = some f → (Rd r).fn f) ∧ K (a.put o.dst undef) w := by
 rw [if_pos hw.1]
 refine ⟨fun _ _ => trivial, ?_⟩
 rw [show o.semAt (Rd r).round a.eval = execOp a.eval o from hw.2 a.eval, hrun]
 exact hK
theorem rk_store (hw : Region.wanted o (yielded ops a.tmps) = true ∧ ∀ ρ : Operand → Value, o.semAt r ρ = execOp ρ o) (hrun : (execOp a.eval o).run P w = .ok .skip w') (hK : K (a.put o.dst undef) w') :
   if Region.wanted o (yielded ops a.tmps) = true then Oper.wpIn (Rd r) n P o a w K Q else (∀ f, o.about P w a.eval = some f → (Rd r).fn f) ∧ K (a.put o.dst undef) w := by
 rw [if_pos hw.1]
 refine ⟨fun _ _ => trivial, ?_⟩
 rw [show o.semAt (Rd r).round a.eval = execOp a.eval o from hw.2 a.eval, hrun]
 exact hK
theorem rk_append (hw : Region.wanted o (yielded ops a.tmps) = true ∧ ∀ ρ : Operand → Value, o.semAt r ρ = execOp ρ o) (s x : Operand) (t tn : TypeId)
   (ho : o.op = .call { callee := .builtin .append, args := #[s, x], argTypes := #[t, tn] }) (hr : (Builtin.append_ #[t, tn] o.type #[a.eval s, a.eval x]).run P w = .ok v w') (hK : K (a.put o.dst v) w') :
   if Region.wanted o (yielded ops a.tmps) = true then Oper.wpIn (Rd r) n P o a w K Q else (∀ f, o.about P w a.eval = some f → (Rd r).fn f) ∧ K (a.put o.dst undef) w := by
 rw [if_pos hw.1]
 refine ⟨fun _ _ => trivial, ?_⟩
 rw [show o.semAt (Rd r).round a.eval = execOp a.eval o from hw.2 a.eval]
 unfold execOp
 simp only [ho, resolve, invoke, builtin, Sem.run_bind, Sem.run_pure, Result.andThen_ok, List.map_toArray, List.map_cons, List.map_nil, hr]
 exact hK
theorem rk_call {f : FuncId} {args : Array Value} {R : Ending → World → Prop} (hw : Region.wanted o (yielded ops a.tmps) = true ∧ ∀ ρ : Operand → Value, o.semAt r ρ = execOp ρ o) (hrun : (execOp a.eval o).run P w = .ok (.enter f args) w)
   (hc : Calls P f args w R) (hK : ∀ e w', R e w' → ∃ v, e = .returned v ∧ K (a.put o.dst v) w') :
   if Region.wanted o (yielded ops a.tmps) = true then Oper.wpIn (Rd r) n P o a w K Q else (∀ f, o.about P w a.eval = some f → (Rd r).fn f) ∧ K (a.put o.dst undef) w := by
 rw [if_pos hw.1]
 refine ⟨fun _ _ => trivial, ?_⟩
 rw [show o.semAt (Rd r).round a.eval = execOp a.eval o from hw.2 a.eval, hrun]
 refine ⟨fun h => (by cases h), ?_⟩
 have hcw : CallsIn Fence.wide (n - 1) P f args w R := callsIn_wide.2 hc
 have hcr : CallsIn (Rd r) (n - 1) P f args w R := hcw
 refine hcr.mono ?_
 intro e w1 he
 obtain ⟨v, rfl, h⟩ := hK e w1 he
 exact h
end
end Go.Proofs.YtmhmlhlplfkpaaaGreatDoor
