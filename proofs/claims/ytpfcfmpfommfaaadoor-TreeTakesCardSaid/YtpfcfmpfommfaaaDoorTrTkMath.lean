/-
  A tree taken out of bytes: the plain mathematics. Conditions: none.
-/
import Derived.Test.YtpfcfmpfommfaaaDoorCleanMath
import Derived.Test.YtpfcfmpfommfaaaDoorTrMath
namespace Go.Proofs.YtpfcfmpfommfaaaDoor

namespace Tr
variable {s : List Nat × Nat}

/-- What is behind k numbers. -/
def intsS : Nat → List Nat × Nat → List Nat × Nat
  | 0, s => s
  | k + 1, s => (intA (intsS k s)).2
/-- Number k of them. -/
def intsV (s : List Nat × Nat) (k : Nat) : Int := (intA (intsS k s)).1
theorem intsS_clean (h : Clean s) : ∀ k, Clean (intsS k s)
  | 0 => h
  | k + 1 => int_clean (intsS_clean h k)
theorem intsS_err (h : Clean s) (h0 : s.2 ≠ 0) : ∀ k, intsS k s = s
  | 0 => rfl
  | k + 1 => by rw [intsS, intsS_err h h0 k, int_err h h0]
theorem intsS_add (a b : Nat) (s : List Nat × Nat) : intsS (a + b) s = intsS b (intsS a s) := by
  induction b with
  | zero => rfl
  | succ b ih => rw [Nat.add_succ, intsS, intsS, ih]
/-- One node. -/
def nodeV (s : List Nat × Nat) : Nd := ⟨intsV s 0, intsV s 1, intsV s 2, intsV s 3, intsV s 4, intsV s 5, intsV s 6⟩
/-- k nodes, and what is behind them. -/
def nodesS (k : Nat) (s : List Nat × Nat) : List Nat × Nat := intsS (7 * k) s
def nodesV (s : List Nat × Nat) : Nat → List Nd
  | 0 => []
  | k + 1 => nodesV s k ++ [nodeV (nodesS k s)]
theorem nodesS_zero (s : List Nat × Nat) : nodesS 0 s = s := rfl
theorem nodesS_succ (k : Nat) (s : List Nat × Nat) : nodesS (k + 1) s = intsS 7 (nodesS k s) := by
  unfold nodesS
  rw [show 7 * (k + 1) = 7 * k + 7 by omega, intsS_add]
theorem nodesV_len (s : List Nat × Nat) : ∀ k, (nodesV s k).length = k
  | 0 => rfl
  | k + 1 => by rw [nodesV, List.length_append, nodesV_len s k, List.length_singleton]
theorem nodesS_clean (h : Clean s) (k : Nat) : Clean (nodesS k s) := intsS_clean h _
/-- An error stays: what comes behind it changes nothing. -/
theorem nodesS_err (h : Clean s) {k : Nat} (he : (nodesS k s).2 ≠ 0) {n : Nat} (hn : k ≤ n) : nodesS n s = nodesS k s := by
  obtain ⟨d, rfl⟩ : ∃ d, n = k + d := ⟨n - k, by omega⟩
  unfold nodesS at he ⊢
  rw [show 7 * (k + d) = 7 * k + 7 * d by omega, intsS_add, intsS_err (intsS_clean h _) he]
/-- The tree that stands next, and what is behind it. -/
def take (s : List Nat × Nat) : List Nd × (List Nat × Nat) :=
  if (nodesS (numA s 120).1 (numA s 120).2).2 ≠ 0 then ([], nodesS (numA s 120).1 (numA s 120).2)
  else if right (nodesV (numA s 120).2 (numA s 120).1) then (nodesV (numA s 120).2 (numA s 120).1, nodesS (numA s 120).1 (numA s 120).2)
  else ([], failA (nodesS (numA s 120).1 (numA s 120).2) 14)
theorem num_le (s : List Nat × Nat) : (numA s 120).1 ≤ 120 := by
  unfold numA
  split
  · exact Nat.zero_le _
  · rename_i h
    simp only at h ⊢
    omega
theorem take_err (h : Clean s) {k : Nat} (hk : k ≤ (numA s 120).1) (he : (nodesS k (numA s 120).2).2 ≠ 0) : take s = ([], nodesS k (numA s 120).2) := by
  have e := nodesS_err (num_clean 120 h) he hk
  unfold take
  rw [e, if_pos he]
theorem take_right (h0 : (nodesS (numA s 120).1 (numA s 120).2).2 = 0) (hr : right (nodesV (numA s 120).2 (numA s 120).1) = true) : take s = (nodesV (numA s 120).2 (numA s 120).1, nodesS (numA s 120).1 (numA s 120).2) := by
  unfold take
  rw [if_neg (by omega), if_pos hr]
theorem take_wrong (h0 : (nodesS (numA s 120).1 (numA s 120).2).2 = 0) (hr : right (nodesV (numA s 120).2 (numA s 120).1) = false) : take s = ([], failA (nodesS (numA s 120).1 (numA s 120).2) 14) := by
  unfold take
  rw [if_neg (by omega), if_neg (by rw [hr]; decide)]
theorem take_clean (h : Clean s) : Clean (take s).2 := by
  have hc := nodesS_clean (num_clean 120 h) (numA s 120).1
  unfold take
  split
  · exact hc
  · split
    · exact hc
    · exact fail_clean _ hc
end Tr
end Go.Proofs.YtpfcfmpfommfaaaDoor
