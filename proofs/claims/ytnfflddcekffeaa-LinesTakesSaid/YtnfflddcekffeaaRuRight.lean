/-
  What runs.repeats and runs.Right answer. Conditions: none but that the runs can be read.
-/
import Derived.BigQuiet
import Derived.Deep.QuietTactic
import Derived.Test.YtnfflddcekffeaaRuAt
namespace Go.Proofs.Ytnfflddcekffeaa
open Go.RowKit

/-- The last one's number. -/
def lastV (r : Ru.Runs) : Option Int := r.getLast?.map (·.2)
theorem lastV_snoc (r : Ru.Runs) (p : Int × Int) : lastV (r ++ [p]) = some p.2 := by simp [lastV]
theorem lastV_take {r : Ru.Runs} {k : Nat} (h : k < r.length) : lastV (r.take (k + 1)) = some (r.getD k (0, 0)).2 := by rw [Ru.taken h (0, 0), lastV_snoc]
theorem lastV_getD {r : Ru.Runs} (h : 0 < r.length) : lastV r = some (r.getD (r.length - 1) (0, 0)).2 := by
  have := lastV_take (r := r) (k := r.length - 1) (by omega)
  rwa [show r.length - 1 + 1 = r.length by omega, List.take_length] at this

set_option maxHeartbeats 1000000 in
set_option maxRecDepth 100000 in
theorem repeats_any (a : Option Addr) (n c B : Nat) (r : Ru.Runs) (v : Int) (w : World) (h : PairsAt w B a n r) (hn : n ≤ 9223372036854775807) :
    Calls Try.prog 51 #[.slice a n c, .int .i64 v] w fun e w' => e = .returned (.bool (decide (lastV r = some v))) ∧ w' = w := by
  have hl := h.1
  by_cases h0 : 0 < n
  · obtain ⟨b, off, rfl, hlb, hc⟩ := h.2 h0
    have hc1 := (hc (n - 1) (by omega)).2
    have HV := Lib.hid (lastV_getD (r := r) (by omega))
    rw [hl] at HV
    clear hc h
    generalize (r.getD (n - 1) (0, 0)).2 = x at *
    obtain ⟨m, rfl⟩ : ∃ m, n = m + 1 := ⟨n - 1, by omega⟩
    simp only [Nat.add_sub_cancel] at hc1
    by_cases hx : x = v
    · subst hx
      rw [decide_eq_true HV.out]
      go_enter Try.func51, Try.ntmps51
      go_wp2
      go_ret
      exact ⟨rfl, rfl⟩
    · have hd : (x == v) = false := by rw [beq_eq_false_iff_ne]; exact hx
      have HD : Hid (decide (lastV r = some v) = false) := Lib.hid (decide_eq_false (by rw [HV.out]; intro e; injection e with e; exact hx e))
      rw [HD.out]
      go_enter Try.func51, Try.ntmps51
      go_wp2
      go_ret
      exact ⟨rfl, rfl⟩
  · obtain rfl : n = 0 := by omega
    have HD : Hid (decide (lastV r = some v) = false) := Lib.hid (by
      rw [List.eq_nil_of_length_eq_zero hl]
      rfl)
    rw [HD.out]
    clear h
    go_enter Try.func51, Try.ntmps51
    go_wp2
    go_ret
    exact ⟨rfl, rfl⟩

theorem rightS_prev (r : Ru.Runs) : ∀ {lf : Int} {pv : Option Int}, Ru.rightS r = some (lf, pv) → pv = lastV r ∧ 0 ≤ lf ∧ lf ≤ 2000 := by
  induction r using Ru.snocRec with
  | nil =>
    intro lf pv h
    injection h with h
    injection h with h1 h2
    subst h1 h2
    exact ⟨rfl, by omega, by omega⟩
  | append_singleton r p ih =>
    intro lf pv h
    rw [Ru.rightS_snoc] at h
    cases hs : Ru.rightS r with
    | none => rw [hs] at h; cases h
    | some st =>
      obtain ⟨l0, p0⟩ := st
      obtain ⟨_, i1, i2⟩ := ih hs
      rw [hs] at h
      simp only [Ru.stepR] at h
      split at h
      · cases h
      · rename_i hc
        injection h with h
        injection h with h1 h2
        rw [lastV_snoc]
        exact ⟨h2.symm, by omega, by omega⟩

def RgRel (w : World) (n : Nat) (r : Ru.Runs) (u i : Value) (wr : World) : Prop :=
  ∃ (k : Nat) (lf : Int), k ≤ n ∧ i = .int .i64 (k : Int) ∧ u = .int .i64 lf ∧ Ru.rightS (r.take k) = some (lf, lastV (r.take k)) ∧ Below w.heap.size w wr

/-- One step, where it goes on. -/
theorem right_go {r : Ru.Runs} {k : Nat} {lf : Int} (hk : k < r.length) (h : Ru.rightS (r.take k) = some (lf, lastV (r.take k))) (h1 : ¬ (r.getD k (0, 0)).1 < 1) (h2 : ¬ lf < (r.getD k (0, 0)).1) (h3 : ¬ lastV (r.take k) = some (r.getD k (0, 0)).2) :
    Ru.rightS (r.take (k + 1)) = some (lf - (r.getD k (0, 0)).1, lastV (r.take (k + 1))) := by
  rw [Ru.rightS_take hk, h, lastV_take hk]
  simp only [Ru.stepR]
  rw [if_neg (by rintro (h | h | h) <;> contradiction)]
theorem right_stop {r : Ru.Runs} {k : Nat} {lf : Int} (hk : k < r.length) (h : Ru.rightS (r.take k) = some (lf, lastV (r.take k))) (hc : (r.getD k (0, 0)).1 < 1 ∨ lf < (r.getD k (0, 0)).1 ∨ lastV (r.take k) = some (r.getD k (0, 0)).2) : Ru.right r = false := by
  apply Ru.right_false (k := k + 1)
  rw [Ru.rightS_take hk, h]
  simp only [Ru.stepR]
  rw [if_pos hc]
theorem right_end {r : Ru.Runs} {k : Nat} {st : Int × Option Int} (hk : r.length ≤ k) (h : Ru.rightS (r.take k) = some st) : Ru.right r = true := by
  rw [List.take_of_length_le hk] at h
  unfold Ru.right
  rw [h]
  rfl

end Go.Proofs.Ytnfflddcekffeaa
