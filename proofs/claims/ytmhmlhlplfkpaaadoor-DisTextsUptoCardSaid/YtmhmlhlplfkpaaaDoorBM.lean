/-
 What every layer's texts share: rows that a call owns; a slice of whole numbers in memory. Conditions: none.
-/
import Derived.Test.YtmhmlhlplfkpaaaDoorProg
import Derived.WalkKit
import Derived.WalkSpells
import Derived.WalkLawsBesides
import Derived.Lib.Hide
import Derived.Below
import Derived.Laws.OwnMore
import Derived.Deep.AppendLies
import Derived.LoopTactic
import Derived.Lib.BitFns
namespace Go.Proofs.YtmhmlhlplfkpaaaDoor
open Go.RowKit
theorem ownsRow_below {w w' : World} {b : Nat} {e : TypeId} {size n : Nat} {v : Value} {xs : List Value} (h : w.ownsRow b e size v n xs) (hb : Below w.heap.size w w') : w'.ownsRow b e size v n xs := by
 have hlt := h.lt
 obtain ⟨h1, h2⟩ := h
 refine ⟨h1, ?_⟩
 rcases h2 with h2 | ⟨g, cap, cur, hv, hg, hh, hr⟩
 · exact .inl h2
 · refine .inr ⟨g, cap, cur, hv, hg, ?_, hr⟩
   rw [hb.block g (hlt g (by rw [hv]; rfl)).2]
   exact hh
theorem below_self {w w1 w' : World} (h : Below w.heap.size w w1) (h1 : Below w1.heap.size w1 w') : Below w.heap.size w w' := h.trans (h1.mono h.size)
def BoolP (b : Bool) (w : World) (e : Ending) (w' : World) : Prop := e = .returned (.bool b) ∧ Below w.heap.size w w'
def StrP (s : ByteArray) (w : World) (e : Ending) (w' : World) : Prop := e = .returned (.string s) ∧ Below w.heap.size w w'
def SameP (v : Value) (w : World) (e : Ending) (w' : World) : Prop := e = .returned v ∧ w' = w
def IntsAt (w : World) (B : Nat) (a : Option Addr) (n : Nat) (l : List Int) : Prop :=
 l.length = n ∧ (0 < n → ∃ b off, a = some ⟨b, off, none⟩ ∧ b < B ∧ ∀ i, i < n → w.cell? ⟨b, off + i, none⟩ = some (.int .i64 (l.getD i 0)))
theorem IntsAt.below {w w' : World} {B : Nat} {a : Option Addr} {n : Nat} {l : List Int} (h : IntsAt w B a n l) (hb : Below B w w') : IntsAt w' B a n l := by
 refine ⟨h.1, fun hn => ?_⟩
 obtain ⟨b, off, e, hlt, hc⟩ := h.2 hn
 exact ⟨b, off, e, hlt, fun i hi => (hb.cell (p := ⟨b, off + i, none⟩) hlt).trans (hc i hi)⟩
theorem IntsAt.more {w : World} {B B' : Nat} {a : Option Addr} {n : Nat} {l : List Int} (h : IntsAt w B a n l) (hb : B ≤ B') : IntsAt w B' a n l := by
 refine ⟨h.1, fun hn => ?_⟩
 obtain ⟨b, off, e, hlt, hc⟩ := h.2 hn
 exact ⟨b, off, e, by omega, hc⟩
theorem ints_cell {w : World} {B n : Nat} {a : Option Addr} {l : List Int} (h : IntsAt w B a n l) {k : Nat} (hk : k < n) : ∃ b off x, a = some ⟨b, off, none⟩ ∧ b < B ∧ w.cell? ⟨b, off + k, none⟩ = some (.int .i64 x) ∧ l.getD k 0 = x ∧ k < l.length := by
 obtain ⟨b, off, e, hlt, hc⟩ := h.2 (by omega)
 exact ⟨b, off, _, e, hlt, hc k hk, rfl, by rw [h.1]; exact hk⟩
theorem take_snoc (l : List Int) (k : Nat) (h : k < l.length) : l.take (k + 1) = l.take k ++ [l.getD k 0] := by
 rw [List.take_succ_eq_append_getElem h]
 simp [List.getD, h]
def vs (l : List Int) : List Value := l.map fun c : Int => Value.int .i64 c
theorem vs_append (a b : List Int) : vs (a ++ b) = vs a ++ vs b := List.map_append
end Go.Proofs.YtmhmlhlplfkpaaaDoor
namespace Go.Proofs.YtmhmlhlplfkpaaaDoor.Uv
def put (n : Nat) : List Nat := if n < 128 then [n] else (n % 128 + 128) :: put (n / 128)
termination_by n
decreasing_by omega
def fold (n : Int) : Nat := if n < 0 then (-2 * n - 1).toNat else (2 * n).toNat
end Go.Proofs.YtmhmlhlplfkpaaaDoor.Uv
