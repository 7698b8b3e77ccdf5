/-
 A cursor in memory: its block, the bytes that it has still, and its error; what a store into its block leaves. Conditions: as each states.
-/
import Derived.Test.YtmhmlhlplfkpaaaGreatDoorInRP
import Derived.Deep.DeepMust
namespace Go.Proofs.YtmhmlhlplfkpaaaGreatDoor
open Go.RowKit
theorem heap_lt {w : World} {g : Nat} {o : Obj} (h : w.heap[g]? = some o) : g < w.heap.size := by
 rcases Nat.lt_or_ge g w.heap.size with h1 | h1
 · exact h1
 · rw [Array.getElem?_eq_none h1] at h; cases h
theorem heap_set {w : World} {g i : Nat} {cur : Array Value} {t : TypeId} {f : Nat × Nat} (h : w.heap[g]? = some (.cells cur t f)) (v : Value) : (w.setCell ⟨g, i, none⟩ v).heap[g]? = some (.cells (cur.setIfInBounds i v) t f) := by
 have hlt := heap_lt h
 rw [Array.getElem?_eq_getElem hlt] at h
 injection h with h
 unfold World.setCell
 simp only
 rw [Array.getElem?_eq_getElem (by simpa using hlt), Array.getElem_modify_self, h]
 simp
section
end
theorem BytesAt.kept {w w' : World} {B n : Nat} {A : Option Addr} {l : List Nat} (h : BytesAt w B A n l) {row : Option Nat} (hg : w.grownBy w' row) (hr : ∀ k, row = some k → B ≤ k) : BytesAt w' B A n l :=
 ⟨h.1, h.2.1, fun hp => by
   obtain ⟨b, off, e, hlt, hc⟩ := h.2.2 hp
   exact ⟨b, off, e, hlt, fun i hi => hg.cell (hc i hi) (fun e => by have := hr b e.symm; omega)⟩⟩
theorem BytesAt.cut {w : World} {B n c k : Nat} {A : Option Addr} {l : List Nat} (h : BytesAt w B A n l) (hk : k ≤ n) (hc : n ≤ c) : BytesAt w B (if c = k then A else A.map (·.add (k * 1))) (n - k) (l.drop k) := by
 refine ⟨by simp [h.1], fun x hx => h.2.1 x (List.mem_of_mem_drop hx), fun hp => ?_⟩
 obtain ⟨b, off, e, hlt, hcell⟩ := h.2.2 (by omega)
 subst e
 rw [if_neg (by omega)]
 refine ⟨b, off + k, ?_, hlt, fun i hi => ?_⟩
 · simp [Addr.add]
 · rw [Nat.add_assoc, hcell (k + i) (by omega)]
   simp [List.getD, List.getElem?_drop]
end Go.Proofs.YtmhmlhlplfkpaaaGreatDoor
namespace Go.Proofs.YtmhmlhlplfkpaaaGreatDoor
open Go.RowKit
def Only (q : Option Addr) (w w' : World) : Prop := w.grownBy w' (q.map (·.block))
end Go.Proofs.YtmhmlhlplfkpaaaGreatDoor
namespace Go.Proofs.YtmhmlhlplfkpaaaGreatDoor
open Go.RowKit
def Same (q : Option Addr) (w w' : World) : Prop := (q ≠ none ∧ w' = w) ∨ (q = none ∧ Below w.heap.size w w')
theorem Same.grown {q : Option Addr} {w w' : World} (h : Same q w w') (row : Option Nat) : w.grownBy w' row := by
 rcases h with ⟨_, rfl⟩ | ⟨_, hb⟩
 · exact World.grownBy.refl _ _
 · exact ⟨hb.os, hb.tape, hb.output, hb.size, fun k hk _ => hb.block k hk⟩
theorem Same.refl (q : Option Addr) (w : World) : Same q w w := by
 cases q with
 | none => exact .inr ⟨rfl, Below.refl _ _⟩
 | some a => exact .inl ⟨by simp, rfl⟩
theorem Same.trans {q : Option Addr} {w w1 w2 : World} (h : Same q w w1) (k : Same q w1 w2) : Same q w w2 := by
 rcases h with ⟨hq, rfl⟩ | ⟨hq, hb⟩
 · exact k
 · rcases k with ⟨hq', _⟩ | ⟨_, hb'⟩
   · exact absurd hq hq'
   · exact .inr ⟨hq, hb.trans (hb'.mono hb.size)⟩
def Told (k : IntKind) (x : Int) (q : Option Addr) (w : World) (e : Ending) (w' : World) : Prop := e = .returned (.int k x) ∧ Same q w w'
def failA (s : List Nat × Nat) (er : Nat) : List Nat × Nat := if er = 0 ∨ s.2 ≠ 0 then s else ([], er)
theorem Only.same {q : Option Addr} {w w' : World} (h : Same q w w') : Only q w w' := h.grown _
end Go.Proofs.YtmhmlhlplfkpaaaGreatDoor
namespace Go.Proofs.YtmhmlhlplfkpaaaGreatDoor
open Go.RowKit
def octB (l : List Nat) : Nat × Nat × Nat := match l with | [] => (0, 0, 3) | c :: _ => (c, 1, 0)
def textB (l : List Nat) (z : Nat) : ByteArray × Nat × Nat := if l.length < z then (str [], 0, 3) else (str (l.take z), z, 0)
end Go.Proofs.YtmhmlhlplfkpaaaGreatDoor
namespace Go.Proofs.YtmhmlhlplfkpaaaGreatDoor
open Go.RowKit
def bitsA (s : List Nat × Nat) : Nat × List Nat × Nat := ((Uv.get s.1).1, failA (s.1.drop (Uv.get s.1).2.1, s.2) (Uv.get s.1).2.2)
def intA (s : List Nat × Nat) : Int × List Nat × Nat := (Uv.unfold_ (Uv.get s.1).1, failA (s.1.drop (Uv.get s.1).2.1, s.2) (Uv.get s.1).2.2)
def byteA (s : List Nat × Nat) : Nat × List Nat × Nat := ((octB s.1).1, failA (s.1.drop (octB s.1).2.1, s.2) (octB s.1).2.2)
def numA (s : List Nat × Nat) (most : Int) : Nat × List Nat × Nat := if most < 0 ∨ most < ((bitsA s).1 : Int) then (0, failA (bitsA s).2 6) else ((bitsA s).1, (bitsA s).2)
theorem Only.trans {q : Option Addr} {w w1 w2 : World} (h : Only q w w1) (k : Only q w1 w2) : Only q w w2 := Lib.grownBy_trans h k
end Go.Proofs.YtmhmlhlplfkpaaaGreatDoor
namespace Go.Proofs.YtmhmlhlplfkpaaaGreatDoor
open Go.RowKit
def textA (s : List Nat × Nat) (most : Int) : ByteArray × List Nat × Nat :=
 ((textB (numA s most).2.1 (numA s most).1).1, failA ((numA s most).2.1.drop (textB (numA s most).2.1 (numA s most).1).2.1, (numA s most).2.2) (textB (numA s most).2.1 (numA s most).1).2.2)
def Holds (w : World) (p : Nat) (v : Value) (t : TypeId) : Prop := w.heap[p]? = some (.cells #[v] t (0, 0))
theorem Holds.cell {w : World} {p : Nat} {v : Value} {t : TypeId} (h : Holds w p v t) : w.cell? ⟨p, 0, none⟩ = some v := by unfold Holds at h; simp [World.cell?, h]
theorem Holds.free {w : World} {p : Nat} {v : Value} {t : TypeId} (h : Holds w p v t) : w.frozen? ⟨p, 0, none⟩ = false := by unfold Holds at h; simp [World.frozen?, h]
theorem Holds.set {w : World} {p : Nat} {v : Value} {t : TypeId} (h : Holds w p v t) (u : Value) : Holds (w.setCell ⟨p, 0, none⟩ u) p u t := (heap_set h _).trans rfl
theorem Holds.kept {w w' : World} {p : Nat} {v : Value} {t : TypeId} (h : Holds w p v t) {row : Option Nat} (hg : w.grownBy w' row) (hne : row ≠ some p) : Holds w' p v t := (hg.block p (heap_lt h) (Ne.symm hne)).trans h
end Go.Proofs.YtmhmlhlplfkpaaaGreatDoor
namespace Go.Proofs.YtmhmlhlplfkpaaaGreatDoor
open Go.RowKit
end Go.Proofs.YtmhmlhlplfkpaaaGreatDoor
namespace Go.Proofs.YtmhmlhlplfkpaaaGreatDoor
end Go.Proofs.YtmhmlhlplfkpaaaGreatDoor
namespace Go.Proofs.YtmhmlhlplfkpaaaGreatDoor
namespace Si
variable {s : List Nat × Nat}
def bytesS : Nat → List Nat × Nat → List Nat × Nat
 | 0, s => s
 | k + 1, s => (byteA (bytesS k s)).2
def byteV (s : List Nat × Nat) (k : Nat) : Nat := (byteA (bytesS k s)).1
def bytesV (s : List Nat × Nat) (k : Nat) : List Int := (List.range k).map fun i => (byteV s i : Int)
def take (s : List Nat × Nat) (most : Int) : List Int × (List Nat × Nat) :=
 if (bytesS (numA s most).1 (numA s most).2).2 ≠ 0 then ([], bytesS (numA s most).1 (numA s most).2)
 else if (bytesV (numA s most).2 (numA s most).1).all may then (bytesV (numA s most).2 (numA s most).1, bytesS (numA s most).1 (numA s most).2)
 else ([], failA (bytesS (numA s most).1 (numA s most).2) 9)
end Si
end Go.Proofs.YtmhmlhlplfkpaaaGreatDoor
namespace Go.Proofs.YtmhmlhlplfkpaaaGreatDoor
open Go.RowKit
end Go.Proofs.YtmhmlhlplfkpaaaGreatDoor
namespace Go.Proofs.YtmhmlhlplfkpaaaGreatDoor
open Go.RowKit
namespace In
def take (s : List Nat × Nat) : (Int × Int) × (List Nat × Nat) :=
 (if (if right ((byteA s).1 : Int) (if numbered ((byteA s).1 : Int) then (intA (if known ((byteA s).1 : Int) then (byteA s).2 else failA (byteA s).2 8)).1 else 0) then (if numbered ((byteA s).1 : Int) then (intA (if known ((byteA s).1 : Int) then (byteA s).2 else failA (byteA s).2 8)).2 else (if known ((byteA s).1 : Int) then (byteA s).2 else failA (byteA s).2 8)) else failA (if numbered ((byteA s).1 : Int) then (intA (if known ((byteA s).1 : Int) then (byteA s).2 else failA (byteA s).2 8)).2 else (if known ((byteA s).1 : Int) then (byteA s).2 else failA (byteA s).2 8)) 2).2 ≠ 0 then (0, 0) else (((byteA s).1 : Int), if numbered ((byteA s).1 : Int) then (intA (if known ((byteA s).1 : Int) then (byteA s).2 else failA (byteA s).2 8)).1 else 0),
  if right ((byteA s).1 : Int) (if numbered ((byteA s).1 : Int) then (intA (if known ((byteA s).1 : Int) then (byteA s).2 else failA (byteA s).2 8)).1 else 0) then (if numbered ((byteA s).1 : Int) then (intA (if known ((byteA s).1 : Int) then (byteA s).2 else failA (byteA s).2 8)).2 else (if known ((byteA s).1 : Int) then (byteA s).2 else failA (byteA s).2 8)) else failA (if numbered ((byteA s).1 : Int) then (intA (if known ((byteA s).1 : Int) then (byteA s).2 else failA (byteA s).2 8)).2 else (if known ((byteA s).1 : Int) then (byteA s).2 else failA (byteA s).2 8)) 2)
end In
theorem Ins.kept {w w' : World} {p g : Nat} {x y : Int} (h : Ins w p x y) (hg : w.grownBy w' (some g)) (hne : g ≠ p) : Ins w' p x y := (hg.block p (ins_lt h) (by intro e; injection e with e; exact hne e.symm)).trans h
end Go.Proofs.YtmhmlhlplfkpaaaGreatDoor
namespace Go.Proofs.YtmhmlhlplfkpaaaGreatDoor
open Go.RowKit
def lastV (r : Ru.Runs) : Option Int := r.getLast?.map (·.2)
end Go.Proofs.YtmhmlhlplfkpaaaGreatDoor
namespace Go.Proofs.YtmhmlhlplfkpaaaGreatDoor
end Go.Proofs.YtmhmlhlplfkpaaaGreatDoor
namespace Go.Proofs.YtmhmlhlplfkpaaaGreatDoor
def formS (s : List Nat × Nat) (left : Int) : List Nat × Nat := if (bitsA s).1 < 1 ∨ left < ((bitsA s).1 : Int) then failA (bitsA s).2 5 else (bitsA s).2
def sameS (s : List Nat × Nat) (last : Option Int) (left : Int) : List Nat × Nat := if last = some (intA (formS s left)).1 then failA (intA (formS s left)).2 5 else (intA (formS s left)).2
def runS (s : List Nat × Nat) (last : Option Int) (left low high : Int) : List Nat × Nat := if (intA (formS s left)).1 < low ∨ high < (intA (formS s left)).1 then failA (sameS s last left) 2 else sameS s last left
section
variable {s : List Nat × Nat} {last : Option Int} {left low high : Int}
end
def takeL (n : Nat) (low high : Int) : Nat → List Nat × Nat → List Int → List Int × (List Nat × Nat)
 | 0, s, out => (out, s)
 | f + 1, s, out =>
   if n ≤ out.length then (out, s)
   else if (runS s out.getLast? ((n - out.length : Nat) : Int) low high).2 ≠ 0 then ([], runS s out.getLast? ((n - out.length : Nat) : Int) low high)
   else takeL n low high f (runS s out.getLast? ((n - out.length : Nat) : Int) low high) (out ++ List.replicate (bitsA s).1 (intA (bitsA s).2).1)
def takeA (s : List Nat × Nat) (n low high : Int) : List Int × (List Nat × Nat) := takeL n.toNat low high (n.toNat + 1) s []
section
variable {n f : Nat} {low high : Int} {s : List Nat × Nat} {out : List Int}
end
end Go.Proofs.YtmhmlhlplfkpaaaGreatDoor
namespace Go.Proofs.YtmhmlhlplfkpaaaGreatDoor
namespace Mp
open Sl (Four)
variable {s : List Nat × Nat} {last : Option Four} {left : Nat}
def bitsS : Nat → List Nat × Nat → List Nat × Nat
 | 0, s => s
 | j + 1, s => (bitsA (bitsS j s)).2
def bitV (s : List Nat × Nat) (j : Nat) : Nat := (bitsA (bitsS j s)).1
def fourV (s : List Nat × Nat) : Four := ⟨bitV s 0, bitV s 1, bitV s 2, bitV s 3⟩
def alike (last : Option Four) (x : Four) : Bool := match last with
 | some y => same y x
 | none => false
abbrev bad (s : List Nat × Nat) (last : Option Four) (left : Nat) : Prop := (bitsA s).1 < 1 ∨ left < (bitsA s).1 ∨ alike last (fourV (bitsA s).2) = true
def runS (s : List Nat × Nat) (last : Option Four) (left : Nat) : List Nat × Nat := if bad s last left then failA (bitsS 4 (bitsA s).2) 5 else bitsS 4 (bitsA s).2
def lastV (r : Runs) : Option Four := r.getLast?.map (·.2)
def takeL (n : Nat) : Nat → List Nat × Nat → Runs → Option Runs × (List Nat × Nat)
 | 0, s, r => (some r, s)
 | f + 1, s, r =>
   if n ≤ (row r).length then (some r, s)
   else if (runS s (lastV r) (n - (row r).length)).2 ≠ 0 then (none, runS s (lastV r) (n - (row r).length))
   else takeL n f (runS s (lastV r) (n - (row r).length)) (r ++ [((bitsA s).1, fourV (bitsA s).2)])
def takeA (s : List Nat × Nat) (n m : Int) : List Four × (List Nat × Nat) :=
 match takeL n.toNat (n.toNat + 1) s [] with
 | (none, s') => ([], s')
 | (some r, s') => if r.all (fun p => p.2.below m) then (row r, s') else ([], failA s' 14)
section
variable {n f : Nat} {r : Runs}
end
end Mp
end Go.Proofs.YtmhmlhlplfkpaaaGreatDoor
namespace Go.Proofs.YtmhmlhlplfkpaaaGreatDoor
namespace Tr
variable {s : List Nat × Nat}
def intsS : Nat → List Nat × Nat → List Nat × Nat
 | 0, s => s
 | k + 1, s => (intA (intsS k s)).2
def intsV (s : List Nat × Nat) (k : Nat) : Int := (intA (intsS k s)).1
def nodeV (s : List Nat × Nat) : Nd := ⟨intsV s 0, intsV s 1, intsV s 2, intsV s 3, intsV s 4, intsV s 5, intsV s 6⟩
def nodesS (k : Nat) (s : List Nat × Nat) : List Nat × Nat := intsS (7 * k) s
def nodesV (s : List Nat × Nat) : Nat → List Nd
 | 0 => []
 | k + 1 => nodesV s k ++ [nodeV (nodesS k s)]
def take (s : List Nat × Nat) : List Nd × (List Nat × Nat) :=
 if (nodesS (numA s 120).1 (numA s 120).2).2 ≠ 0 then ([], nodesS (numA s 120).1 (numA s 120).2)
 else if right (nodesV (numA s 120).2 (numA s 120).1) then (nodesV (numA s 120).2 (numA s 120).1, nodesS (numA s 120).1 (numA s 120).2)
 else ([], failA (nodesS (numA s 120).1 (numA s 120).2) 14)
theorem num_le (s : List Nat × Nat) : (numA s 120).1 ≤ 120 := by
 unfold numA
 split
 · exact Nat.zero_le _
 · rename_i h
   simp only at h ⊢
   omega
end Tr
end Go.Proofs.YtmhmlhlplfkpaaaGreatDoor
namespace Go.Proofs.YtmhmlhlplfkpaaaGreatDoor
namespace In
def insS : Nat → List Nat × Nat → List Nat × Nat
 | 0, s => s
 | k + 1, s => (take (insS k s)).2
def insV (s : List Nat × Nat) : Nat → List (Int × Int)
 | 0 => []
 | k + 1 => insV s k ++ [(take (insS k s)).1]
end In
namespace Fn
structure St where
 f : F
 marks : Nat
 many : Nat
 s : List Nat × Nat
def ask (ok : Bool) (er : Nat) (s : List Nat × Nat) : List Nat × Nat := if ok then s else failA s er
def pName (t : St) : St := { t with f := { t.f with name := (textA t.s 12).1 }, s := ask (Nm.may (textA t.s 12).1) 7 (textA t.s 12).2 }
def pMark (t : St) : St := { t with f := { t.f with inner := decide ((byteA t.s).1 % 2 = 1) }, marks := (byteA t.s).1, s := ask (decide ((byteA t.s).1 ≤ 3)) 5 (byteA t.s).2 }
def pOuter (t : St) : St := { t with f := { t.f with outer := (Si.take t.s 4).1 }, s := (Si.take t.s 4).2 }
def pParams (t : St) : St := { t with f := { t.f with params := (Si.take t.s 8).1 }, s := (Si.take t.s 8).2 }
def pResults (t : St) : St := { t with f := { t.f with results := (Si.take t.s 4).1 }, s := (Si.take t.s 4).2 }
def pLocals (t : St) : St := { t with f := { t.f with locals := (Si.take t.s 256).1 }, s := (Si.take t.s 256).2 }
def pFits (t : St) : St := { t with s := ask (decide (t.f.slots ≤ 256)) 6 t.s }
def pMany (t : St) : St := { t with many := (numA t.s 2000).1, s := ask (decide (0 < (numA t.s 2000).1)) 6 (numA t.s 2000).2 }
def pCode (t : St) : St := { t with f := { t.f with code := t.f.code ++ In.insV t.s t.many }, s := In.insS t.many t.s }
def pLines (t : St) : St := { t with f := { t.f with lines := (takeA t.s (t.many : Int) 0 65535).1 }, s := (takeA t.s (t.many : Int) 0 65535).2 }
def pNodes (t : St) : St := { t with f := { t.f with nodes := (Tr.take t.s).1 }, s := (Tr.take t.s).2 }
def pAt (t : St) : St := { t with f := { t.f with at_ := (takeA t.s (t.many : Int) 0 ((t.f.nodes.length : Int) - 1)).1 }, s := (takeA t.s (t.many : Int) 0 ((t.f.nodes.length : Int) - 1)).2 }
def pLive (t : St) : St := { t with f := { t.f with live := (Mp.takeA t.s (t.many : Int) (t.f.slots : Int)).1 }, s := (Mp.takeA t.s (t.many : Int) (t.f.slots : Int)).2 }
def gTitle (_ : St) : List (St → St) := [pName, pMark]
def gTypes (t : St) : List (St → St) := (if t.f.inner then [pOuter] else []) ++ [pParams, pResults, pLocals, pFits]
def gBody (_ : St) : List (St → St) := [pMany, pCode, pLines]
def gTables (t : St) : List (St → St) := if t.marks / 2 % 2 = 0 then [] else [pNodes, pAt, pLive]
def goP : List (St → St) → St → (List Nat × Nat) ⊕ St
 | [], t => .inr t
 | p :: r, t => if (p t).s.2 ≠ 0 then .inl (p t).s else goP r (p t)
def goG : List (St → List (St → St)) → St → F × (List Nat × Nat)
 | [], t => (t.f, t.s)
 | g :: r, t => match goP (g t) t with
   | .inl s => (F.zero, s)
   | .inr t' => goG r t'
def take (s : List Nat × Nat) : F × (List Nat × Nat) := goG [gTitle, gTypes, gBody, gTables] ⟨F.zero, 0, 0, s⟩
end Fn
namespace Tr
end Tr
namespace Fn
end Fn
end Go.Proofs.YtmhmlhlplfkpaaaGreatDoor
namespace Go.Proofs.YtmhmlhlplfkpaaaGreatDoor
namespace Fn
structure St.Ok (t : St) : Prop where
 many : t.many ≤ 2000
 marks : t.marks < 256
 params : t.f.params.length ≤ 8
 results : t.f.results.length ≤ 4
 locals : t.f.locals.length ≤ 256
theorem St.Ok.slots {t : St} (h : t.Ok) : t.f.slots ≤ 268 := by
 have := h.params; have := h.results; have := h.locals
 unfold F.slots
 omega
theorem ok_fits {t : St} (h : t.Ok) : (pFits t).Ok := ⟨h.many, h.marks, h.params, h.results, h.locals⟩
end Fn
end Go.Proofs.YtmhmlhlplfkpaaaGreatDoor
namespace Go.Proofs.YtmhmlhlplfkpaaaGreatDoor
open Go.RowKit
structure Off (g p : Nat) (w w' : World) : Prop where
 os : w'.os = w.os
 tape : w'.tape = w.tape
 output : w'.output = w.output
 size : w.heap.size ≤ w'.heap.size
 block : ∀ j, j < w.heap.size → j ≠ g → j ≠ p → w'.heap[j]? = w.heap[j]?
theorem Off.refl (g p : Nat) (w : World) : Off g p w w := ⟨rfl, rfl, rfl, Nat.le_refl _, fun _ _ _ _ => rfl⟩
theorem Off.trans {g p : Nat} {a b c : World} (h : Off g p a b) (k : Off g p b c) : Off g p a c :=
 ⟨k.os.trans h.os, k.tape.trans h.tape, k.output.trans h.output, Nat.le_trans h.size k.size, fun j hj h1 h2 => (k.block j (Nat.lt_of_lt_of_le hj h.size) h1 h2).trans (h.block j hj h1 h2)⟩
theorem Off.grown {g p : Nat} {a b : World} (h : a.grownBy b (some g)) : Off g p a b := ⟨h.os, h.tape, h.output, h.size, fun j hj h1 _ => h.block j hj (fun e => by injection e with e; exact h1 e)⟩
theorem Off.below {g p : Nat} {a b : World} (h : Below a.heap.size a b) : Off g p a b := ⟨h.os, h.tape, h.output, h.size, fun j hj _ _ => h.block j hj⟩
theorem Off.set (g p k : Nat) (v : Value) (w : World) : Off g p w (w.setCell ⟨p, k, none⟩ v) :=
 ⟨rfl, rfl, rfl, by simp [World.setCell], fun j _ _ h2 => Below.heap_setCell w ⟨p, k, none⟩ v j h2⟩
structure FnOwn (w : World) (base : Nat) (v : FnV) (f : Fn.F) : Prop where
 name : v.name = f.name
 inner : v.inner = f.inner
 outer : w.ownsRow base 87 1 v.outer.val f.outer.length (vs f.outer)
 params : w.ownsRow base 87 1 v.params.val f.params.length (vs f.params)
 results : w.ownsRow base 87 1 v.results.val f.results.length (vs f.results)
 locals : w.ownsRow base 87 1 v.locals.val f.locals.length (vs f.locals)
 code : w.ownsRow base 48 2 v.code.val f.code.length (ps f.code)
 lines : w.ownsRow base 3 1 v.lines.val f.lines.length (vs f.lines)
 nodes : w.ownsRow base 93 7 v.nodes.val f.nodes.length (nds f.nodes)
 at_ : w.ownsRow base 3 1 v.at_.val f.at_.length (vs f.at_)
 live : w.ownsRow base 70 4 v.live.val f.live.length (sets f.live)
theorem row_off {g p base n size : Nat} {w w' : World} {e : TypeId} {v : Value} {xs : List Value} (h : w.ownsRow base e size v n xs) (ho : Off g p w w') (hg : g < base) (hp : p < base) : w'.ownsRow base e size v n xs :=
 row_kept h fun b hb => by have := h.lt b hb; exact ho.block b this.2 (by omega) (by omega)
theorem FnOwn.off {g p base : Nat} {w w' : World} {v : FnV} {f : Fn.F} (h : FnOwn w base v f) (ho : Off g p w w') (hg : g < base) (hp : p < base) : FnOwn w' base v f :=
 ⟨h.name, h.inner, row_off h.outer ho hg hp, row_off h.params ho hg hp, row_off h.results ho hg hp, row_off h.locals ho hg hp, row_off h.code ho hg hp, row_off h.lines ho hg hp, row_off h.nodes ho hg hp, row_off h.at_ ho hg hp, row_off h.live ho hg hp⟩
theorem nil_own {w : World} {base n size : Nat} {e : TypeId} {s : Sl3} {xs : List Value} (h : w.ownsRow base e size s.val n xs) : s.nilOk ∧ s.n ≤ 9223372036854775807 := by
 rcases h.2 with ⟨hv, hn⟩ | ⟨g, cap, cur, hv, hg, hh, hnc, hcm, _⟩
 · unfold Sl3.val at hv
   injection hv with h1 h2 h3
   exact ⟨fun _ => h3, by omega⟩
 · unfold Sl3.val at hv
   unfold maxLen at hcm
   injection hv with h1 h2 h3
   refine ⟨fun e => ?_, by omega⟩
   rw [h1] at e
   cases e
theorem ints_own {w : World} {base n : Nat} {e : TypeId} {s : Sl3} {l : List Int} (h : w.ownsRow base e 1 s.val n (vs l)) : IntsAt w w.heap.size s.a s.n l := (ints_of_rowE h).2.1
theorem FnOwn.ok {base : Nat} {w : World} {v : FnV} {f : Fn.F} (h : FnOwn w base v f) : FnOk w w.heap.size v f :=
 ⟨h.name, h.inner, ⟨ints_own h.outer, (nil_own h.outer).1⟩, ⟨ints_own h.params, (nil_own h.params).1⟩, ⟨ints_own h.results, (nil_own h.results).1⟩, ⟨ints_own h.locals, (nil_own h.locals).1⟩,
   ⟨(pairs_of_own h.code).2.1, (nil_own h.code).1⟩, ⟨ints_own h.lines, (nil_own h.lines).1⟩, ⟨(nodes_of_own h.nodes).2.1, (nil_own h.nodes).1⟩, ⟨ints_own h.at_, (nil_own h.at_).1⟩, ⟨(sets_of_own h.live).2.1, (nil_own h.live).1⟩⟩
theorem FnOwn.zero (w : World) (base : Nat) : FnOwn w base .zero .zero :=
 ⟨rfl, rfl, World.ownsRow_nil _ _ _ _, World.ownsRow_nil _ _ _ _, World.ownsRow_nil _ _ _ _, World.ownsRow_nil _ _ _ _, World.ownsRow_nil _ _ _ _, World.ownsRow_nil _ _ _ _, World.ownsRow_nil _ _ _ _, World.ownsRow_nil _ _ _ _, World.ownsRow_nil _ _ _ _⟩
section
variable {g p : Nat} {v : FnV} {t : Fn.St} {W W' : World}
end
end Go.Proofs.YtmhmlhlplfkpaaaGreatDoor
