/-
  What the document's cursor answers: Text. Conditions: where there is no error, the bytes can be read.
-/
import Derived.Test.YtnfflddcekffeaaRefByte
namespace Go.Proofs.Ytnfflddcekffeaa
open Go.RowKit

theorem failA_nil {s : List Nat × Nat} (hs : s.2 ≠ 0 → s.1 = []) (er : Nat) : (failA s er).2 ≠ 0 → (failA s er).1 = [] := by
  unfold failA
  split
  · exact hs
  · intro _; rfl

theorem bitsA_nil {s : List Nat × Nat} (hs : s.2 ≠ 0 → s.1 = []) : (bitsA s).2.2 ≠ 0 → (bitsA s).2.1 = [] := by
  refine failA_nil (s := (s.1.drop (Uv.get s.1).2.1, s.2)) (fun h => ?_) _
  show s.1.drop _ = []
  rw [hs h]
  simp

theorem numA_err {w : World} {B n c : Nat} {A : Option Addr} {s : List Nat × Nat} (h : Dat w B A n c s) (hs : s.2 ≠ 0 → s.1 = []) (most : Int) (he : (numA s most).2.2 ≠ 0) : (numA s most).1 = 0 ∧ (numA s most).2.1 = [] := by
  unfold numA at he ⊢
  by_cases hm : most < 0 ∨ most < ((bitsA s).1 : Int)
  · rw [if_pos hm] at he ⊢
    exact ⟨rfl, failA_nil (bitsA_nil hs) 6 he⟩
  · rw [if_neg hm] at he ⊢
    exact ⟨bitsA_zero h hs he, bitsA_nil hs he⟩

end Go.Proofs.Ytnfflddcekffeaa
