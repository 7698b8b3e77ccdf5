/-
  What the law's 'one' leaves, and what stands while both cursors take: the invariant of its drawn regions. Conditions: as each states.
-/
import Derived.Test.YtnfflddcekffeaaRefText
import Derived.Test.YtnfflddcekffeaaCurLives
namespace Go.Proofs.Ytnfflddcekffeaa
open Go.RowKit

theorem Cur.nil {w : World} {g : Nat} {s : List Nat × Nat} (h : Cur w g s) : s.2 ≠ 0 → s.1 = [] := by
  obtain ⟨A, n, c, m, e0, _, _, _, _, _, h, _⟩ := h
  exact h

theorem Dat.kept {w w' : World} {B n c : Nat} {A : Option Addr} {s : List Nat × Nat} (h : Dat w B A n c s) {row : Option Nat} (hg : w.grownBy w' row) (hr : ∀ k, row = some k → B ≤ k) : Dat w' B A n c s := fun h0 => ⟨(h h0).1.kept hg hr, (h h0).2⟩

/-- Both cursors go on alike; of what was there only the cursor's block has turned. -/
def OnePost (g B : Nat) (w : World) (e : Ending) (w' : World) : Prop :=
  ∃ (s' : List Nat × Nat) (A' : Option Addr) (n' c' : Nat), e = .returned (.tuple #[.agg #[.slice A' n' c', .int .i64 (s'.2 : Int)], .bool true]) ∧ Cur w' g s' ∧ Dat w' B A' n' c' s' ∧ w.grownBy w' (some g)

section
variable {ci si : Nat} {w0 : World} {g B p5 p6 p9 : Nat} {s s' : List Nat × Nat} {k m : Int} {A1 : Option Addr} {n1 c1 : Nat} {D : Nat → Bool} {w : World}

end
end Go.Proofs.Ytnfflddcekffeaa
