/-
  The example that each statement of layer 2 ends with: lives answers true, and turns nothing that was there. Conditions: none.
-/
import Derived.Test.YtnfflddcekffeaaCurE
namespace Go.Proofs.Ytnfflddcekffeaa
open Go.RowKit

theorem num_300 : numA ([172, 2], 0) 300 = (300, [], 0) := by decide
theorem num_0 : numA ([], 0) 0 = (0, [], 3) := by decide
theorem bytes_ex : ∀ c ∈ [172, 2], c < 256 := by decide

theorem Only.below {g B : Nat} {w0 w w' : World} (h : Only (some ⟨g, 0, none⟩) w w') (hb : Below B w0 w) (hg : B ≤ g) (hB : B ≤ w.heap.size) : Below B w0 w' := hb.grown h hB (fun k hk => by injection hk with hk; subst hk; exact hg)

end Go.Proofs.Ytnfflddcekffeaa
