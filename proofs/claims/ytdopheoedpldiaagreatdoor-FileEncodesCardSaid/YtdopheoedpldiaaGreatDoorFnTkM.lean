/-
 A function taken out of bytes, part by part: the plain mathematics. Conditions: none.
-/
import Derived.Test.YtdopheoedpldiaaGreatDoorMpTT
import Derived.Test.YtdopheoedpldiaaGreatDoorTrTkM
import Derived.Test.YtdopheoedpldiaaGreatDoorRuTT
import Derived.Test.YtdopheoedpldiaaGreatDoorInT
namespace Go.Proofs.YtdopheoedpldiaaGreatDoor
namespace In
def insS : Nat → List Nat × Nat → List Nat × Nat
 | 0, s => s
 | k + 1, s => (take (insS k s)).2
def insV (s : List Nat × Nat) : Nat → List (Int × Int)
 | 0 => []
 | k + 1 => insV s k ++ [(take (insS k s)).1]
theorem insV_len (s : List Nat × Nat) : ∀ k, (insV s k).length = k
 | 0 => rfl
 | k + 1 => by rw [insV, List.length_append, insV_len s k, List.length_singleton]
theorem take_put {op a : Int} (h : right op a = true) (ha : Fn.I64 a) (r : List Nat) : take (bytes op a ++ r, 0) = ((op, a), (r, 0)) := by
 have hk := right_known h
 have hn : (op.toNat : Int) = op := by omega
 have hkn : known op = true := known_iff.2 hk
 unfold bytes
 rw [if_pos h]
 by_cases hnum : numbered op = true
 · rw [if_pos hnum]
   have hb : byteA ((op.toNat :: Uv.put (Uv.fold a)) ++ r, 0) = (op.toNat, Uv.put (Uv.fold a) ++ r, 0) := by rw [List.cons_append]; exact byteA_cons _ _
   rw [take_both hb (by rw [hn]; exact hkn) (by rw [hn]; exact hnum) (intA_put ha.1 ha.2 r) (by rw [hn]; exact h), if_neg (by simp), hn]
 · have hnum' : numbered op = false := by simpa using hnum
   rw [if_neg hnum]
   have hb : byteA ([op.toNat] ++ r, 0) = (op.toNat, r, 0) := byteA_cons _ _
   rw [take_bare hb (by rw [hn]; exact hkn) (by rw [hn]; exact hnum'), if_neg (by simp), hn, right_bare h hnum']
theorem ins_back : ∀ {l : List (Int × Int)}, (∀ p ∈ l, right p.1 p.2 = true ∧ Fn.I64 p.2) → ∀ (r : List Nat) (k : Nat), k ≤ l.length → insS k (Fn.codes l ++ r, 0) = (Fn.codes (l.drop k) ++ r, 0) ∧ insV (Fn.codes l ++ r, 0) k = l.take k
 | l, h, r, 0, _ => ⟨rfl, by simp [insV]⟩
 | l, h, r, k + 1, hk => by
   obtain ⟨h1, h2⟩ := ins_back h r k (by omega)
   have hkl : k < l.length := by omega
   have hd : l.drop k = l[k] :: l.drop (k + 1) := List.drop_eq_getElem_cons hkl
   obtain ⟨h3, h4⟩ := h l[k] (List.getElem_mem hkl)
   have ht : take (insS k (Fn.codes l ++ r, 0)) = (l[k], (Fn.codes (l.drop (k + 1)) ++ r, 0)) := by
     rw [h1, hd]
     have e : Fn.codes (l[k] :: l.drop (k + 1)) = bytes l[k].1 l[k].2 ++ Fn.codes (l.drop (k + 1)) := by unfold Fn.codes; rw [List.flatMap_cons]
     rw [e, List.append_assoc, take_put h3 h4]
   refine ⟨by rw [insS, ht], ?_⟩
   rw [insV, ht, h2, List.take_succ_eq_append_getElem hkl]
end In
namespace Fn
structure St where
 f : F
 marks : Nat
 many : Nat
 s : List Nat × Nat
def ask (ok : Bool) (er : Nat) (s : List Nat × Nat) : List Nat × Nat := if ok then s else failA s er
def pName (t : St) : St := { t with f := { t.f with name := (textA t.s 12).1 }, s := ask (Nm.may (textA t.s 12).1) 7 (textA t.s 12).2 }
def pMark (t : St) : St := { t with f := { t.f with inner := decide ((byteA t.s).1 % 2 = 1) }, marks := (byteA t.s).1, s := ask (decide ((byteA t.s).1 ≤ 3)) 5 (byteA t.s).2 }
def pOuter (t : St) : St := { t with f := { t.f with outer := (Si.take t.s 4).1 }, s := (Si.take t.s 4).2 }
def pParams (t : St) : St := { t with f := { t.f with params := (Si.take t.s 8).1 }, s := (Si.take t.s 8).2 }
def pResults (t : St) : St := { t with f := { t.f with results := (Si.take t.s 4).1 }, s := (Si.take t.s 4).2 }
def pLocals (t : St) : St := { t with f := { t.f with locals := (Si.take t.s 256).1 }, s := (Si.take t.s 256).2 }
def pFits (t : St) : St := { t with s := ask (decide (t.f.slots ≤ 256)) 6 t.s }
def pMany (t : St) : St := { t with many := (numA t.s 2000).1, s := ask (decide (0 < (numA t.s 2000).1)) 6 (numA t.s 2000).2 }
def pCode (t : St) : St := { t with f := { t.f with code := t.f.code ++ In.insV t.s t.many }, s := In.insS t.many t.s }
def pLines (t : St) : St := { t with f := { t.f with lines := (takeA t.s (t.many : Int) 0 65535).1 }, s := (takeA t.s (t.many : Int) 0 65535).2 }
def pNodes (t : St) : St := { t with f := { t.f with nodes := (Tr.take t.s).1 }, s := (Tr.take t.s).2 }
def pAt (t : St) : St := { t with f := { t.f with at_ := (takeA t.s (t.many : Int) 0 ((t.f.nodes.length : Int) - 1)).1 }, s := (takeA t.s (t.many : Int) 0 ((t.f.nodes.length : Int) - 1)).2 }
def pLive (t : St) : St := { t with f := { t.f with live := (Mp.takeA t.s (t.many : Int) (t.f.slots : Int)).1 }, s := (Mp.takeA t.s (t.many : Int) (t.f.slots : Int)).2 }
def gTitle (_ : St) : List (St → St) := [pName, pMark]
def gTypes (t : St) : List (St → St) := (if t.f.inner then [pOuter] else []) ++ [pParams, pResults, pLocals, pFits]
def gBody (_ : St) : List (St → St) := [pMany, pCode, pLines]
def gTables (t : St) : List (St → St) := if t.marks / 2 % 2 = 0 then [] else [pNodes, pAt, pLive]
def goP : List (St → St) → St → (List Nat × Nat) ⊕ St
 | [], t => .inr t
 | p :: r, t => if (p t).s.2 ≠ 0 then .inl (p t).s else goP r (p t)
def goG : List (St → List (St → St)) → St → F × (List Nat × Nat)
 | [], t => (t.f, t.s)
 | g :: r, t => match goP (g t) t with
   | .inl s => (F.zero, s)
   | .inr t' => goG r t'
def take (s : List Nat × Nat) : F × (List Nat × Nat) := goG [gTitle, gTypes, gBody, gTables] ⟨F.zero, 0, 0, s⟩
theorem goP_err {p : St → St} {r : List (St → St)} {t : St} (h : (p t).s.2 ≠ 0) : goP (p :: r) t = .inl (p t).s := by rw [goP, if_pos h]
theorem goP_ok {p : St → St} {r : List (St → St)} {t : St} (h : (p t).s.2 = 0) : goP (p :: r) t = goP r (p t) := by rw [goP, if_neg (by omega)]
theorem gTables_bare {t : St} (h : t.marks / 2 % 2 = 0) : gTables t = [] := by unfold gTables; rw [if_pos h]
theorem gTables_not {t : St} (h : ¬ t.marks / 2 % 2 = 0) : gTables t = [pNodes, pAt, pLive] := by unfold gTables; rw [if_neg h]
theorem goG_ok {g : St → List (St → St)} {r : List (St → List (St → St))} {t t' : St} (h : goP (g t) t = .inr t') : goG (g :: r) t = goG r t' := by rw [goG, h]
theorem ask_ok {ok : Bool} {er : Nat} {s : List Nat × Nat} (h : ok = true) : ask ok er s = s := if_pos h
theorem code_ins (f : F) (h : f.ops = true) (hw : f.Wf) : ∀ p ∈ f.code, In.right p.1 p.2 = true ∧ I64 p.2 := fun p hp => ⟨List.all_eq_true.1 h p hp, (hw.code p hp).2⟩
theorem lines_in {f : F} (h : f.lined = true) : ∀ z ∈ f.lines, 0 ≤ z ∧ z ≤ 65535 := by
 unfold F.lined Li.right at h
 simp only [Bool.and_eq_true, List.all_eq_true] at h
 intro z hz
 have := h.2.2 z hz
 unfold Li.may at this
 simpa using this
def F.tT (f : F) (r : List Nat) : List Nat := if f.bare then r else Tr.bytes f.nodes ++ (Ru.laid (Ru.of f.at_) ++ (Mp.bytes f.live ++ r))
def F.tN (f : F) (r : List Nat) : List Nat := Uv.put f.code.length ++ (codes f.code ++ (Ru.laid (Ru.of f.lines) ++ f.tT r))
def F.tP (f : F) (r : List Nat) : List Nat := Si.bytes f.params ++ (Si.bytes f.results ++ (Si.bytes f.locals ++ f.tN r))
def F.tO (f : F) (r : List Nat) : List Nat := if f.inner then Si.bytes f.outer ++ f.tP r else f.tP r
theorem laid_all (f : F) (r : List Nat) : f.laid ++ r = Uv.put f.name.size ++ (nats f.name ++ (f.mark :: f.tO r)) := by
 have h9 : f.l9 ++ f.tT r = Uv.put f.name.size ++ (nats f.name ++ (f.mark :: f.tO r)) := by
   unfold F.l9 F.l8 F.l7 F.l6 F.l5 F.l4 F.l3 F.l2 F.tO F.tP F.tN
   cases f.inner <;> simp
 rw [← h9]
 unfold F.laid F.tT
 cases f.bare
 · unfold F.l12 F.l11 F.l10
   simp
 · simp
theorem text_back {x : ByteArray} (h : x.size ≤ 12) (r : List Nat) : textA (Uv.put x.size ++ (nats x ++ r), 0) 12 = (x, r, 0) := by
 have hn : numA (Uv.put x.size ++ (nats x ++ r), 0) 12 = (x.size, nats x ++ r, 0) := num_put (by omega) (by omega) _
 have hl := nats_length x
 have ht : textB (nats x ++ r) x.size = (x, x.size, 0) := by
   unfold textB
   rw [if_neg (by simp [hl])]
   rw [List.take_append_of_le_length (by omega), List.take_of_length_le (by omega), str_nats]
 unfold textA
 rw [hn]
 simp only [ht]
 unfold failA
 rw [if_pos (.inl rfl)]
 rw [List.drop_append_of_le_length (by omega), List.drop_of_length_le (by omega)]
 rfl
theorem mark_inner (f : F) : decide (f.mark % 2 = 1) = f.inner := by
 unfold F.mark
 cases f.inner <;> cases f.bare <;> rfl
theorem mark_bare (f : F) : (f.mark / 2 % 2 = 0) ↔ f.bare = true := by
 unfold F.mark
 cases f.inner <;> cases f.bare <;> simp
end Fn
namespace Tr
theorem node_back {n : Nd} (h : n.wf) (r : List Nat) : intsS 7 (one n ++ r, 0) = (r, 0) ∧ nodeV (one n ++ r, 0) = n := by
 have e := one_append n
 have a0 := h n.p (by simp [Nd.list]); have a1 := h n.f (by simp [Nd.list]); have a2 := h n.l (by simp [Nd.list]); have a3 := h n.a (by simp [Nd.list]); have a4 := h n.g (by simp [Nd.list]); have a5 := h n.t (by simp [Nd.list]); have a6 := h n.r (by simp [Nd.list])
 rw [e]
 simp only [List.append_assoc]
 refine ⟨by simp only [intsS, intA_put a0.1 a0.2, intA_put a1.1 a1.2, intA_put a2.1 a2.2, intA_put a3.1 a3.2, intA_put a4.1 a4.2, intA_put a5.1 a5.2, intA_put a6.1 a6.2], ?_⟩
 simp only [nodeV, intsV, intsS, intA_put a0.1 a0.2, intA_put a1.1 a1.2, intA_put a2.1 a2.2, intA_put a3.1 a3.2, intA_put a4.1 a4.2, intA_put a5.1 a5.2, intA_put a6.1 a6.2]
theorem nodes_back : ∀ {l : List Nd}, (∀ n ∈ l, n.wf) → ∀ (r : List Nat) (k : Nat), k ≤ l.length → nodesS k (l.flatMap one ++ r, 0) = ((l.drop k).flatMap one ++ r, 0) ∧ nodesV (l.flatMap one ++ r, 0) k = l.take k
 | l, h, r, 0, _ => ⟨rfl, by simp [nodesV]⟩
 | l, h, r, k + 1, hk => by
   obtain ⟨h1, h2⟩ := nodes_back h r k (by omega)
   have hkl : k < l.length := by omega
   have hd : l.drop k = l[k] :: l.drop (k + 1) := List.drop_eq_getElem_cons hkl
   have h3 := h l[k] (List.getElem_mem hkl)
   obtain ⟨e1, e2⟩ := node_back h3 ((l.drop (k + 1)).flatMap one ++ r)
   have e : nodesS k (l.flatMap one ++ r, 0) = (one l[k] ++ ((l.drop (k + 1)).flatMap one ++ r), 0) := by rw [h1, hd, List.flatMap_cons, List.append_assoc]
   refine ⟨by rw [nodesS_succ, e, e1], ?_⟩
   rw [nodesV, e, e2, h2, List.take_succ_eq_append_getElem hkl]
theorem take_back {l : List Nd} (h : right l = true) (hw : ∀ n ∈ l, n.wf) (r : List Nat) : take (bytes l ++ r, 0) = (l, (r, 0)) := by
 have hl := (right_run h).2.1
 have hn : numA (bytes l ++ r, 0) 120 = (l.length, l.flatMap one ++ r, 0) := by
   unfold bytes
   rw [List.append_assoc]
   exact num_put (by omega) (by omega) _
 obtain ⟨h1, h2⟩ := nodes_back hw r l.length (Nat.le_refl _)
 rw [List.take_length] at h2
 rw [List.drop_length] at h1
 have := take_right (s := (bytes l ++ r, 0)) (by rw [hn]; simp only; rw [h1]) (by rw [hn]; simp only; rw [h2]; exact h)
 rw [this, hn]
 simp only
 rw [h1, h2]
 rfl
end Tr
namespace Fn
theorem zero_bare {f : F} (h : f.bare = true) : f.nodes = [] ∧ f.at_ = [] ∧ f.live = [] := by
 unfold F.bare at h
 simp only [Bool.and_eq_true, decide_eq_true_eq] at h
 exact ⟨List.eq_nil_of_length_eq_zero h.1, List.eq_nil_of_length_eq_zero h.2.1, List.eq_nil_of_length_eq_zero h.2.2⟩
theorem take_back (f : F) (hc : f.can = 0) (hw : f.Wf) (hb : f.bare = false → f.live.all (·.below (f.slots : Int)) = true) (r : List Nat) : take (f.laid ++ r, 0) = (f, (r, 0)) := by
 obtain ⟨c1, c2, c3, c4, c5, c6⟩ := can_ok.1 hc
 obtain ⟨n1, n2, n3, n4, n5, n6, n7, n8, n9, n10⟩ := can_len hc
 have hty := c2
 unfold F.typed at hty
 simp only [Bool.and_eq_true] at hty
 obtain ⟨t1, t2, t3, t4, t5⟩ := hty
 have e1 := text_back (x := f.name) n1 (f.mark :: f.tO r)
 have e2 := byteA_cons f.mark (f.tO r)
 have e4 := Si.take_back t2 (by omega) (Si.bytes f.results ++ (Si.bytes f.locals ++ f.tN r))
 have e5 := Si.take_back t3 (by omega) (Si.bytes f.locals ++ f.tN r)
 have e6 := Si.take_back t4 (by omega) (f.tN r)
 have e7 : numA (f.tN r, 0) 2000 = (f.code.length, codes f.code ++ (Ru.laid (Ru.of f.lines) ++ f.tT r), 0) := num_put (by omega) (by omega) _
 obtain ⟨e8, e9⟩ := In.ins_back (code_ins f c4 hw) (Ru.laid (Ru.of f.lines) ++ f.tT r) f.code.length (Nat.le_refl _)
 rw [List.drop_length] at e8
 rw [List.take_length] at e9
 have e10 := _root_.Go.Proofs.YtdopheoedpldiaaGreatDoor.take_back (l := f.lines) (low := 0) (high := 65535) (f.tT r) (by omega) (fun z hz => by have := lines_in c5 z hz; have := hw.lines z hz; omega)
 rw [n9] at e10
 have hms : f.mark ≤ 3 := by have := mark_lt f; omega
 have mi := mark_inner f
 rw [laid_all]
 unfold take
 -- the title
 have s1 : pName ⟨F.zero, 0, 0, (Uv.put f.name.size ++ (nats f.name ++ (f.mark :: f.tO r)), 0)⟩ = ⟨{ F.zero with name := f.name }, 0, 0, (f.mark :: f.tO r, 0)⟩ := by
   unfold pName
   simp only [e1]
   rw [ask_ok c1]
 have s2 : pMark ⟨{ F.zero with name := f.name }, 0, 0, (f.mark :: f.tO r, 0)⟩ = ⟨{ F.zero with name := f.name, inner := f.inner }, f.mark, 0, (f.tO r, 0)⟩ := by
   unfold pMark
   simp only [e2, mi]
   rw [ask_ok (decide_eq_true hms)]
 have g1 : goP (gTitle ⟨F.zero, 0, 0, (Uv.put f.name.size ++ (nats f.name ++ (f.mark :: f.tO r)), 0)⟩) ⟨F.zero, 0, 0, (Uv.put f.name.size ++ (nats f.name ++ (f.mark :: f.tO r)), 0)⟩ = .inr ⟨{ F.zero with name := f.name, inner := f.inner }, f.mark, 0, (f.tO r, 0)⟩ := by
   unfold gTitle
   rw [goP_ok (by rw [s1]), s1, goP_ok (by rw [s2]), s2, goP]
 refine (goG_ok g1).trans ?_
 -- the types
 have s3 : ∀ x, goP [pParams, pResults, pLocals, pFits] ⟨{ F.zero with name := f.name, inner := f.inner, outer := x }, f.mark, 0, (f.tP r, 0)⟩ = .inr ⟨{ F.zero with name := f.name, inner := f.inner, outer := x, params := f.params, results := f.results, locals := f.locals }, f.mark, 0, (f.tN r, 0)⟩ := by
   intro x
   have q1 : pParams ⟨{ F.zero with name := f.name, inner := f.inner, outer := x }, f.mark, 0, (f.tP r, 0)⟩ = ⟨{ F.zero with name := f.name, inner := f.inner, outer := x, params := f.params }, f.mark, 0, (Si.bytes f.results ++ (Si.bytes f.locals ++ f.tN r), 0)⟩ := by
     unfold pParams F.tP
     simp only [e4]
   have q2 : pResults ⟨{ F.zero with name := f.name, inner := f.inner, outer := x, params := f.params }, f.mark, 0, (Si.bytes f.results ++ (Si.bytes f.locals ++ f.tN r), 0)⟩ = ⟨{ F.zero with name := f.name, inner := f.inner, outer := x, params := f.params, results := f.results }, f.mark, 0, (Si.bytes f.locals ++ f.tN r, 0)⟩ := by
     unfold pResults
     simp only [e5]
   have q3 : pLocals ⟨{ F.zero with name := f.name, inner := f.inner, outer := x, params := f.params, results := f.results }, f.mark, 0, (Si.bytes f.locals ++ f.tN r, 0)⟩ = ⟨{ F.zero with name := f.name, inner := f.inner, outer := x, params := f.params, results := f.results, locals := f.locals }, f.mark, 0, (f.tN r, 0)⟩ := by
     unfold pLocals
     simp only [e6]
   have q4 : pFits ⟨{ F.zero with name := f.name, inner := f.inner, outer := x, params := f.params, results := f.results, locals := f.locals }, f.mark, 0, (f.tN r, 0)⟩ = ⟨{ F.zero with name := f.name, inner := f.inner, outer := x, params := f.params, results := f.results, locals := f.locals }, f.mark, 0, (f.tN r, 0)⟩ := by
     exact congrArg (St.mk _ _ _) (ask_ok (decide_eq_true n6))
   rw [goP_ok (by rw [q1]), q1, goP_ok (by rw [q2]), q2, goP_ok (by rw [q3]), q3, goP_ok (by rw [q4]), q4, goP]
 have g2 : goP (gTypes ⟨{ F.zero with name := f.name, inner := f.inner }, f.mark, 0, (f.tO r, 0)⟩) ⟨{ F.zero with name := f.name, inner := f.inner }, f.mark, 0, (f.tO r, 0)⟩ = .inr ⟨{ F.zero with name := f.name, inner := f.inner, outer := f.outer, params := f.params, results := f.results, locals := f.locals }, f.mark, 0, (f.tN r, 0)⟩ := by
   unfold gTypes F.tO
   cases hi : f.inner with
   | true =>
     rw [hi] at s3
     have e3 := Si.take_back t1 (by omega) (f.tP r)
     have q0 : pOuter ⟨{ F.zero with name := f.name, inner := true }, f.mark, 0, (Si.bytes f.outer ++ f.tP r, 0)⟩ = ⟨{ F.zero with name := f.name, inner := true, outer := f.outer }, f.mark, 0, (f.tP r, 0)⟩ := by
       unfold pOuter
       simp only [e3]
     simp only [if_true, List.cons_append, List.nil_append]
     rw [goP_ok (by rw [q0]), q0]
     exact s3 f.outer
   | false =>
     rw [hi] at s3 t5
     have ho : f.outer = [] := by
       simp only [Bool.false_or, decide_eq_true_eq] at t5
       exact List.eq_nil_of_length_eq_zero t5
     simp only [Bool.false_eq_true, if_false, List.nil_append]
     rw [ho]
     exact s3 []
 refine (goG_ok g2).trans ?_
 -- the body
 have g3 : goP (gBody ⟨{ F.zero with name := f.name, inner := f.inner, outer := f.outer, params := f.params, results := f.results, locals := f.locals }, f.mark, 0, (f.tN r, 0)⟩) ⟨{ F.zero with name := f.name, inner := f.inner, outer := f.outer, params := f.params, results := f.results, locals := f.locals }, f.mark, 0, (f.tN r, 0)⟩ = .inr ⟨{ F.zero with name := f.name, inner := f.inner, outer := f.outer, params := f.params, results := f.results, locals := f.locals, code := f.code, lines := f.lines }, f.mark, f.code.length, (f.tT r, 0)⟩ := by
   have q1 : pMany ⟨{ F.zero with name := f.name, inner := f.inner, outer := f.outer, params := f.params, results := f.results, locals := f.locals }, f.mark, 0, (f.tN r, 0)⟩ = ⟨{ F.zero with name := f.name, inner := f.inner, outer := f.outer, params := f.params, results := f.results, locals := f.locals }, f.mark, f.code.length, (codes f.code ++ (Ru.laid (Ru.of f.lines) ++ f.tT r), 0)⟩ := by
     unfold pMany
     simp only [e7]
     rw [ask_ok (decide_eq_true (by omega))]
   have q2 : pCode ⟨{ F.zero with name := f.name, inner := f.inner, outer := f.outer, params := f.params, results := f.results, locals := f.locals }, f.mark, f.code.length, (codes f.code ++ (Ru.laid (Ru.of f.lines) ++ f.tT r), 0)⟩ = ⟨{ F.zero with name := f.name, inner := f.inner, outer := f.outer, params := f.params, results := f.results, locals := f.locals, code := f.code }, f.mark, f.code.length, (Ru.laid (Ru.of f.lines) ++ f.tT r, 0)⟩ := by
     unfold pCode
     simp only [e8, e9]
     rfl
   have q3 : pLines ⟨{ F.zero with name := f.name, inner := f.inner, outer := f.outer, params := f.params, results := f.results, locals := f.locals, code := f.code }, f.mark, f.code.length, (Ru.laid (Ru.of f.lines) ++ f.tT r, 0)⟩ = ⟨{ F.zero with name := f.name, inner := f.inner, outer := f.outer, params := f.params, results := f.results, locals := f.locals, code := f.code, lines := f.lines }, f.mark, f.code.length, (f.tT r, 0)⟩ := by
     unfold pLines
     simp only [e10]
   unfold gBody
   rw [goP_ok (by rw [q1]), q1, goP_ok (by rw [q2]), q2, goP_ok (by rw [q3]), q3, goP]
 refine (goG_ok g3).trans ?_
 -- the tables
 rw [goG]
 cases hbr : f.bare with
 | true =>
   obtain ⟨b1, b2, b3⟩ := zero_bare hbr
   rw [gTables_bare (by exact (mark_bare f).2 hbr), goP]
   simp only [goG]
   have hT : f.tT r = r := by unfold F.tT; rw [hbr, if_pos rfl]
   rw [hT]
   refine Prod.ext ?_ rfl
   obtain ⟨a1, a2, a3, a4, a5, a6, a7, a8, a9, a10, a11⟩ := f
   simp only at b1 b2 b3
   subst b1 b2 b3
   rfl
 | false =>
   obtain ⟨m1, m2, m3⟩ := n10 hbr
   have hmp : f.mapped = true := by
     rcases c6 with h | h
     · rw [h] at hbr; cases hbr
     · exact h
   unfold F.mapped at hmp
   simp only [Bool.and_eq_true, decide_eq_true_eq, Bool.not_eq_true'] at hmp
   obtain ⟨p1, p2, p3, p4, p5⟩ := hmp
   have hT : f.tT r = Tr.bytes f.nodes ++ (Ru.laid (Ru.of f.at_) ++ (Mp.bytes f.live ++ r)) := by unfold F.tT; rw [hbr, if_neg (by decide)]
   have e11 := Tr.take_back p1 hw.nodes (Ru.laid (Ru.of f.at_) ++ (Mp.bytes f.live ++ r))
   have hat : ∀ z ∈ f.at_, 0 ≤ z ∧ z ≤ (f.nodes.length : Int) - 1 := by
     intro z hz
     have := List.any_eq_false.1 p4 z hz
     unfold out at this
     simp only [Bool.or_eq_true, decide_eq_true_eq] at this
     omega
   have e12 := _root_.Go.Proofs.YtdopheoedpldiaaGreatDoor.take_back (l := f.at_) (low := 0) (high := (f.nodes.length : Int) - 1) (Mp.bytes f.live ++ r) (by omega) (fun z hz => by have := hat z hz; have := hw.at_ z hz; omega)
   rw [p2] at e12
   have e13 := Mp.take_back (l := f.live) (m := (f.slots : Int)) r (by omega) hw.live (hb hbr)
   rw [p3] at e13
   rw [gTables_not (by show ¬ f.mark / 2 % 2 = 0; rw [mark_bare, hbr]; decide), hT]
   have q1 : pNodes ⟨{ F.zero with name := f.name, inner := f.inner, outer := f.outer, params := f.params, results := f.results, locals := f.locals, code := f.code, lines := f.lines }, f.mark, f.code.length, (Tr.bytes f.nodes ++ (Ru.laid (Ru.of f.at_) ++ (Mp.bytes f.live ++ r)), 0)⟩ = ⟨{ F.zero with name := f.name, inner := f.inner, outer := f.outer, params := f.params, results := f.results, locals := f.locals, code := f.code, lines := f.lines, nodes := f.nodes }, f.mark, f.code.length, (Ru.laid (Ru.of f.at_) ++ (Mp.bytes f.live ++ r), 0)⟩ := by
     unfold pNodes
     simp only [e11]
   have q2 : pAt ⟨{ F.zero with name := f.name, inner := f.inner, outer := f.outer, params := f.params, results := f.results, locals := f.locals, code := f.code, lines := f.lines, nodes := f.nodes }, f.mark, f.code.length, (Ru.laid (Ru.of f.at_) ++ (Mp.bytes f.live ++ r), 0)⟩ = ⟨{ F.zero with name := f.name, inner := f.inner, outer := f.outer, params := f.params, results := f.results, locals := f.locals, code := f.code, lines := f.lines, nodes := f.nodes, at_ := f.at_ }, f.mark, f.code.length, (Mp.bytes f.live ++ r, 0)⟩ := by
     unfold pAt
     simp only [e12]
   have q3 : pLive ⟨{ F.zero with name := f.name, inner := f.inner, outer := f.outer, params := f.params, results := f.results, locals := f.locals, code := f.code, lines := f.lines, nodes := f.nodes, at_ := f.at_ }, f.mark, f.code.length, (Mp.bytes f.live ++ r, 0)⟩ = ⟨f, f.mark, f.code.length, (r, 0)⟩ := by
     unfold pLive
     have hs : ({ F.zero with name := f.name, inner := f.inner, outer := f.outer, params := f.params, results := f.results, locals := f.locals, code := f.code, lines := f.lines, nodes := f.nodes, at_ := f.at_ } : F).slots = f.slots := rfl
     simp only [hs, e13]
   rw [goP_ok (by rw [q1]), q1, goP_ok (by rw [q2]), q2, goP_ok (by rw [q3]), q3, goP]
   rfl
end Fn
end Go.Proofs.YtdopheoedpldiaaGreatDoor
namespace Go.Proofs.YtdopheoedpldiaaGreatDoor
namespace Fn
theorem live_below {f : F} (hc : f.can = 0) (hw : f.Wf) (hb : f.bare = false) : f.live.all (·.below (f.slots : Int)) = true := by
 have h6 := (can_ok.1 hc).2.2.2.2.2
 have hm : f.mapped = true := by
   rcases h6 with h | h
   · rw [h] at hb; cases hb
   · exact h
 unfold F.mapped Mp.right at hm
 simp only [Bool.and_eq_true] at hm
 rw [List.all_eq_true]
 intro s hs
 rw [Sl.below_eq (hw.live s hs)]
 exact List.all_eq_true.1 hm.2.2.2.2.1 s hs
structure St.Ok (t : St) : Prop where
 many : t.many ≤ 2000
 marks : t.marks < 256
 params : t.f.params.length ≤ 8
 results : t.f.results.length ≤ 4
 locals : t.f.locals.length ≤ 256
theorem St.Ok.slots {t : St} (h : t.Ok) : t.f.slots ≤ 268 := by
 have := h.params; have := h.results; have := h.locals
 unfold F.slots
 omega
theorem ok_zero (s : List Nat × Nat) : St.Ok ⟨F.zero, 0, 0, s⟩ := ⟨Nat.zero_le _, Nat.zero_lt_succ _, Nat.zero_le _, Nat.zero_le _, Nat.zero_le _⟩
theorem ok_name {t : St} (h : t.Ok) : (pName t).Ok := ⟨h.many, h.marks, h.params, h.results, h.locals⟩
theorem ok_mark {t : St} (h : t.Ok) (hb : ∀ c ∈ t.s.1, c < 256) : (pMark t).Ok := ⟨h.many, byteA_lt hb, h.params, h.results, h.locals⟩
theorem ok_outer {t : St} (h : t.Ok) : (pOuter t).Ok := ⟨h.many, h.marks, h.params, h.results, h.locals⟩
theorem ok_params {t : St} (h : t.Ok) : (pParams t).Ok := ⟨h.many, h.marks, by have := Si.take_len t.s (most := 8) (by decide); unfold pParams; simp only; omega, h.results, h.locals⟩
theorem ok_results {t : St} (h : t.Ok) : (pResults t).Ok := ⟨h.many, h.marks, h.params, by have := Si.take_len t.s (most := 4) (by decide); unfold pResults; simp only; omega, h.locals⟩
theorem ok_locals {t : St} (h : t.Ok) : (pLocals t).Ok := ⟨h.many, h.marks, h.params, h.results, by have := Si.take_len t.s (most := 256) (by decide); unfold pLocals; simp only; omega⟩
theorem ok_fits {t : St} (h : t.Ok) : (pFits t).Ok := ⟨h.many, h.marks, h.params, h.results, h.locals⟩
theorem ok_many {t : St} (h : t.Ok) : (pMany t).Ok := ⟨by have := num_most t.s (most := 2000) (by decide); unfold pMany; simp only; omega, h.marks, h.params, h.results, h.locals⟩
theorem ok_code {t : St} (h : t.Ok) : (pCode t).Ok := ⟨h.many, h.marks, h.params, h.results, h.locals⟩
theorem ok_lines {t : St} (h : t.Ok) : (pLines t).Ok := ⟨h.many, h.marks, h.params, h.results, h.locals⟩
theorem ok_nodes {t : St} (h : t.Ok) : (pNodes t).Ok := ⟨h.many, h.marks, h.params, h.results, h.locals⟩
theorem ok_at {t : St} (h : t.Ok) : (pAt t).Ok := ⟨h.many, h.marks, h.params, h.results, h.locals⟩
theorem ok_live {t : St} (h : t.Ok) : (pLive t).Ok := ⟨h.many, h.marks, h.params, h.results, h.locals⟩
end Fn
end Go.Proofs.YtdopheoedpldiaaGreatDoor
