/-
  Steps in memory: a slice of triples that can be read. Conditions: none.
-/
import Derived.Test.YtmhdpphogmihlaaBase
namespace Go.Proofs.Ytmhdpphogmihlaa
open Go.RowKit

/-- Steps: an operation and a pair each. -/
abbrev Steps : Type := List (Int × Int × Int)

/-- A slice of n steps, below block B. -/
def StepsAt (w : World) (B : Nat) (a : Option Addr) (n : Nat) (l : Steps) : Prop :=
  l.length = n ∧ (0 < n → ∃ b off, a = some ⟨b, off, none⟩ ∧ b < B ∧ ∀ i, i < n → w.cell? ⟨b, off + i * 3, none⟩ = some (.int .i64 (l.getD i (0, 0, 0)).1) ∧ w.cell? ⟨b, off + i * 3 + 1, none⟩ = some (.int .i64 (l.getD i (0, 0, 0)).2.1) ∧ w.cell? ⟨b, off + i * 3 + 2, none⟩ = some (.int .i64 (l.getD i (0, 0, 0)).2.2))
theorem StepsAt.below {w w' : World} {B : Nat} {a : Option Addr} {n : Nat} {l : Steps} (h : StepsAt w B a n l) (hb : Below B w w') : StepsAt w' B a n l := by
  refine ⟨h.1, fun hn => ?_⟩
  obtain ⟨b, off, e, hlt, hc⟩ := h.2 hn
  exact ⟨b, off, e, hlt, fun i hi => ⟨(hb.cell (p := ⟨b, off + i * 3, none⟩) hlt).trans (hc i hi).1, (hb.cell (p := ⟨b, off + i * 3 + 1, none⟩) hlt).trans (hc i hi).2.1, (hb.cell (p := ⟨b, off + i * 3 + 2, none⟩) hlt).trans (hc i hi).2.2⟩⟩
end Go.Proofs.Ytmhdpphogmihlaa
