/-
  What maps.At, maps.Inside and the document's At, Inside tell of tables of sets. Conditions: the tables can be read; words of 64 bits.
-/
import Derived.Test.YtifkoihhlhadhaaDoorMpAt
import Derived.Test.YtifkoihhlhadhaaDoorSlAA
import Derived.BigQuiet
import Derived.Deep.QuietTactic
import Derived.Deep.DeepMust
import Derived.WalkSmall
namespace Go.Proofs.YtifkoihhlhadhaaDoor
open Go.RowKit

theorem mp_ok {l : List Sl.Four} (h : ∀ s ∈ l, s.ok) {k : Nat} (hk : k < l.length) : (l.getD k Sl.no).ok := by
  have e : l.getD k Sl.no = l[k] := by simp [List.getD, hk]
  rw [e]
  exact h _ (List.getElem_mem hk)

/-- slices.EqualFunc over slots.Inside: as many, and each inside the other's. -/
def InsRel (n : Nat) (l r : List Sl.Four) (w : World) (i : Value) (wr : World) : Prop :=
  ∃ k : Nat, k ≤ n ∧ i = .int .i64 (k : Int) ∧ Below w.heap.size w wr ∧ ∀ j, j < k → (l.getD j Sl.no).inside (r.getD j Sl.no) = true

end Go.Proofs.YtifkoihhlhadhaaDoor
