/-
  What the document's cursor answers: Num, Int. Conditions: where there is no error, the bytes can be read.
-/
import Derived.Test.YtnfflddcekffeaaRefBits
namespace Go.Proofs.Ytnfflddcekffeaa
open Go.RowKit

theorem bitsA_zero {w : World} {B n c : Nat} {A : Option Addr} {s : List Nat × Nat} (h : Dat w B A n c s) (hs : s.2 ≠ 0 → s.1 = []) (he : (bitsA s).2.2 ≠ 0) : (bitsA s).1 = 0 := by
  by_cases h0 : s.2 = 0
  · rcases Uv.get_just (h h0).1.2.1 with ⟨x, hg, _, _, _⟩ | ⟨z, hg, _⟩
    · exfalso
      apply he
      unfold bitsA
      rw [hg]
      unfold failA
      rw [if_pos (.inl rfl)]
      exact h0
    · unfold bitsA
      rw [hg]
  · rw [bitsA_err h0 hs]

theorem bitsA_ok {w : World} {B n c : Nat} {A : Option Addr} {s : List Nat × Nat} (h : Dat w B A n c s) (hs : s.2 ≠ 0 → s.1 = []) (he : (bitsA s).2.2 = 0) : s.2 = 0 ∧ (bitsA s).1 < 18446744073709551616 := by
  by_cases h0 : s.2 = 0
  · exact ⟨h0, get_fst_lt (h h0).1.2.1⟩
  · rw [bitsA_err h0 hs] at he
    exact absurd he h0

theorem ite_self' (most : Int) (s1 : List Nat × Nat) : (if most < 0 ∨ most < ((0 : Nat) : Int) then ((0, s1) : Nat × List Nat × Nat) else (0, s1)) = (0, s1) := by split <;> rfl

end Go.Proofs.Ytnfflddcekffeaa
