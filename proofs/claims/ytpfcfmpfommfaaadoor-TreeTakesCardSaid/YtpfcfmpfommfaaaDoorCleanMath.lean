/-
  A cursor that has no bytes where it has an error, step by step: the plain mathematics. Conditions: none.
-/
import Derived.Test.YtpfcfmpfommfaaaDoorCurD
namespace Go.Proofs.YtpfcfmpfommfaaaDoor

/-- The cursor where it has an error has no bytes. -/
def Clean (s : List Nat × Nat) : Prop := s.2 ≠ 0 → s.1 = []
theorem fail_err {s : List Nat × Nat} {er : Nat} (h : er ≠ 0) : (failA s er).2 ≠ 0 := by
  unfold failA
  by_cases h2 : s.2 = 0
  · rw [if_neg (by omega)]; exact h
  · rw [if_pos (.inr h2)]; exact h2
theorem fail_stays {s : List Nat × Nat} (er : Nat) (h : s.2 ≠ 0) : failA s er = s := by unfold failA; rw [if_pos (.inr h)]
theorem fail_sets {s : List Nat × Nat} {er : Nat} (h : s.2 = 0) (he : er ≠ 0) : failA s er = ([], er) := by unfold failA; rw [if_neg (by omega)]
theorem fail_clean {s : List Nat × Nat} (er : Nat) (h : Clean s) : Clean (failA s er) := by
  unfold failA
  split
  · exact h
  · exact fun _ => rfl
theorem drop_clean {s : List Nat × Nat} (k : Nat) (h : Clean s) : Clean (s.1.drop k, s.2) := by
  intro e
  show s.1.drop k = []
  rw [h e, List.drop_nil]
theorem bits_clean {s : List Nat × Nat} (h : Clean s) : Clean (bitsA s).2 := fail_clean _ (drop_clean _ h)
theorem int_clean {s : List Nat × Nat} (h : Clean s) : Clean (intA s).2 := fail_clean _ (drop_clean _ h)
theorem get_nil : Uv.get [] = (0, 0, 3) := rfl
theorem bits_err {s : List Nat × Nat} (h : Clean s) (h0 : s.2 ≠ 0) : bitsA s = (0, s) := by
  obtain ⟨l, e⟩ := s
  obtain rfl : l = [] := h h0
  unfold bitsA
  simp only [get_nil, List.drop_nil]
  rw [fail_stays _ h0]
theorem int_err {s : List Nat × Nat} (h : Clean s) (h0 : s.2 ≠ 0) : intA s = (0, s) := by
  obtain ⟨l, e⟩ := s
  obtain rfl : l = [] := h h0
  unfold intA
  simp only [get_nil, List.drop_nil]
  rw [fail_stays _ h0]
  rfl
theorem num_clean {s : List Nat × Nat} (most : Int) (h : Clean s) : Clean (numA s most).2 := by
  unfold numA
  split
  · exact fail_clean _ (bits_clean h)
  · exact bits_clean h

end Go.Proofs.YtpfcfmpfommfaaaDoor
