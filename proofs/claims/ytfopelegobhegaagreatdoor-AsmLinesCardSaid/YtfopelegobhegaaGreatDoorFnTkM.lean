/-
 A function taken out of bytes, part by part: the plain mathematics. Conditions: none.
-/
import Derived.Test.YtfopelegobhegaaGreatDoorMpTT
import Derived.Test.YtfopelegobhegaaGreatDoorTrTkM
import Derived.Test.YtfopelegobhegaaGreatDoorRuTT
import Derived.Test.YtfopelegobhegaaGreatDoorInT
namespace Go.Proofs.YtfopelegobhegaaGreatDoor
namespace In
def insS : Nat → List Nat × Nat → List Nat × Nat
 | 0, s => s
 | k + 1, s => (take (insS k s)).2
def insV (s : List Nat × Nat) : Nat → List (Int × Int)
 | 0 => []
 | k + 1 => insV s k ++ [(take (insS k s)).1]
end In
namespace Fn
structure St where
 f : F
 marks : Nat
 many : Nat
 s : List Nat × Nat
def ask (ok : Bool) (er : Nat) (s : List Nat × Nat) : List Nat × Nat := if ok then s else failA s er
def pName (t : St) : St := { t with f := { t.f with name := (textA t.s 12).1 }, s := ask (Nm.may (textA t.s 12).1) 7 (textA t.s 12).2 }
def pMark (t : St) : St := { t with f := { t.f with inner := decide ((byteA t.s).1 % 2 = 1) }, marks := (byteA t.s).1, s := ask (decide ((byteA t.s).1 ≤ 3)) 5 (byteA t.s).2 }
def pOuter (t : St) : St := { t with f := { t.f with outer := (Si.take t.s 4).1 }, s := (Si.take t.s 4).2 }
def pParams (t : St) : St := { t with f := { t.f with params := (Si.take t.s 8).1 }, s := (Si.take t.s 8).2 }
def pResults (t : St) : St := { t with f := { t.f with results := (Si.take t.s 4).1 }, s := (Si.take t.s 4).2 }
def pLocals (t : St) : St := { t with f := { t.f with locals := (Si.take t.s 256).1 }, s := (Si.take t.s 256).2 }
def pFits (t : St) : St := { t with s := ask (decide (t.f.slots ≤ 256)) 6 t.s }
def pMany (t : St) : St := { t with many := (numA t.s 2000).1, s := ask (decide (0 < (numA t.s 2000).1)) 6 (numA t.s 2000).2 }
def pCode (t : St) : St := { t with f := { t.f with code := t.f.code ++ In.insV t.s t.many }, s := In.insS t.many t.s }
def pLines (t : St) : St := { t with f := { t.f with lines := (takeA t.s (t.many : Int) 0 65535).1 }, s := (takeA t.s (t.many : Int) 0 65535).2 }
def pNodes (t : St) : St := { t with f := { t.f with nodes := (Tr.take t.s).1 }, s := (Tr.take t.s).2 }
def pAt (t : St) : St := { t with f := { t.f with at_ := (takeA t.s (t.many : Int) 0 ((t.f.nodes.length : Int) - 1)).1 }, s := (takeA t.s (t.many : Int) 0 ((t.f.nodes.length : Int) - 1)).2 }
def pLive (t : St) : St := { t with f := { t.f with live := (Mp.takeA t.s (t.many : Int) (t.f.slots : Int)).1 }, s := (Mp.takeA t.s (t.many : Int) (t.f.slots : Int)).2 }
def gTitle (_ : St) : List (St → St) := [pName, pMark]
def gTypes (t : St) : List (St → St) := (if t.f.inner then [pOuter] else []) ++ [pParams, pResults, pLocals, pFits]
def gBody (_ : St) : List (St → St) := [pMany, pCode, pLines]
def gTables (t : St) : List (St → St) := if t.marks / 2 % 2 = 0 then [] else [pNodes, pAt, pLive]
def goP : List (St → St) → St → (List Nat × Nat) ⊕ St
 | [], t => .inr t
 | p :: r, t => if (p t).s.2 ≠ 0 then .inl (p t).s else goP r (p t)
def goG : List (St → List (St → St)) → St → F × (List Nat × Nat)
 | [], t => (t.f, t.s)
 | g :: r, t => match goP (g t) t with
   | .inl s => (F.zero, s)
   | .inr t' => goG r t'
def take (s : List Nat × Nat) : F × (List Nat × Nat) := goG [gTitle, gTypes, gBody, gTables] ⟨F.zero, 0, 0, s⟩
end Fn
namespace Tr
end Tr
namespace Fn
end Fn
end Go.Proofs.YtfopelegobhegaaGreatDoor
namespace Go.Proofs.YtfopelegobhegaaGreatDoor
namespace Fn
structure St.Ok (t : St) : Prop where
 many : t.many ≤ 2000
 marks : t.marks < 256
 params : t.f.params.length ≤ 8
 results : t.f.results.length ≤ 4
 locals : t.f.locals.length ≤ 256
theorem St.Ok.slots {t : St} (h : t.Ok) : t.f.slots ≤ 268 := by
 have := h.params; have := h.results; have := h.locals
 unfold F.slots
 omega
end Fn
end Go.Proofs.YtfopelegobhegaaGreatDoor
