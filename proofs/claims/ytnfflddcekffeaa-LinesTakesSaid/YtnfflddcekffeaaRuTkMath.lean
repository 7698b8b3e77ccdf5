/-
  A row that is taken run by run: the plain mathematics. Conditions: none.
-/
import Derived.Test.YtnfflddcekffeaaBackMath
import Derived.Test.YtnfflddcekffeaaRuRight
namespace Go.Proofs.Ytnfflddcekffeaa

/-- The cursor where it has an error has no bytes. -/
def Clean (s : List Nat × Nat) : Prop := s.2 ≠ 0 → s.1 = []
theorem fail_err {s : List Nat × Nat} {er : Nat} (h : er ≠ 0) : (failA s er).2 ≠ 0 := by
  unfold failA
  by_cases h2 : s.2 = 0
  · rw [if_neg (by omega)]; exact h
  · rw [if_pos (.inr h2)]; exact h2
theorem fail_stays {s : List Nat × Nat} (er : Nat) (h : s.2 ≠ 0) : failA s er = s := by unfold failA; rw [if_pos (.inr h)]
theorem fail_sets {s : List Nat × Nat} {er : Nat} (h : s.2 = 0) (he : er ≠ 0) : failA s er = ([], er) := by unfold failA; rw [if_neg (by omega)]
theorem fail_clean {s : List Nat × Nat} (er : Nat) (h : Clean s) : Clean (failA s er) := by
  unfold failA
  split
  · exact h
  · exact fun _ => rfl
theorem drop_clean {s : List Nat × Nat} (k : Nat) (h : Clean s) : Clean (s.1.drop k, s.2) := by
  intro e
  show s.1.drop k = []
  rw [h e, List.drop_nil]
theorem bits_clean {s : List Nat × Nat} (h : Clean s) : Clean (bitsA s).2 := fail_clean _ (drop_clean _ h)
theorem int_clean {s : List Nat × Nat} (h : Clean s) : Clean (intA s).2 := fail_clean _ (drop_clean _ h)
theorem get_nil : Uv.get [] = (0, 0, 3) := rfl
theorem bits_err {s : List Nat × Nat} (h : Clean s) (h0 : s.2 ≠ 0) : bitsA s = (0, s) := by
  obtain ⟨l, e⟩ := s
  obtain rfl : l = [] := h h0
  unfold bitsA
  simp only [get_nil, List.drop_nil]
  rw [fail_stays _ h0]
theorem int_err {s : List Nat × Nat} (h : Clean s) (h0 : s.2 ≠ 0) : intA s = (0, s) := by
  obtain ⟨l, e⟩ := s
  obtain rfl : l = [] := h h0
  unfold intA
  simp only [get_nil, List.drop_nil]
  rw [fail_stays _ h0]
  rfl

/-- One run taken. -/
def formS (s : List Nat × Nat) (left : Int) : List Nat × Nat := if (bitsA s).1 < 1 ∨ left < ((bitsA s).1 : Int) then failA (bitsA s).2 5 else (bitsA s).2
def sameS (s : List Nat × Nat) (last : Option Int) (left : Int) : List Nat × Nat := if last = some (intA (formS s left)).1 then failA (intA (formS s left)).2 5 else (intA (formS s left)).2
def runS (s : List Nat × Nat) (last : Option Int) (left low high : Int) : List Nat × Nat := if (intA (formS s left)).1 < low ∨ high < (intA (formS s left)).1 then failA (sameS s last left) 2 else sameS s last left

section
variable {s : List Nat × Nat} {last : Option Int} {left low high : Int}
theorem form_clean (h : Clean s) : Clean (formS s left) := by
  unfold formS
  split
  · exact fail_clean _ (bits_clean h)
  · exact bits_clean h
theorem same_clean (h : Clean s) : Clean (sameS s last left) := by
  unfold sameS
  split
  · exact fail_clean _ (int_clean (form_clean h))
  · exact int_clean (form_clean h)
theorem run_clean (h : Clean s) : Clean (runS s last left low high) := by
  unfold runS
  split
  · exact fail_clean _ (same_clean h)
  · exact same_clean h

/-- Behind an error nothing turns. -/
theorem same_err (h : Clean s) (he : (formS s left).2 ≠ 0) : sameS s last left = formS s left := by
  unfold sameS
  rw [int_err (form_clean h) he, fail_stays _ he]
  split <;> rfl
theorem run_err (h : Clean s) (he : (formS s left).2 ≠ 0) : runS s last left low high = formS s left := by
  unfold runS
  rw [same_err h he, fail_stays _ he]
  split <;> rfl
theorem run_bits (h : Clean s) (he : (bitsA s).2.2 ≠ 0) : runS s last left low high = (bitsA s).2 := by
  have hf : formS s left = (bitsA s).2 := by
    unfold formS
    rw [fail_stays _ he]
    split <;> rfl
  rw [run_err h (by rw [hf]; exact he), hf]
theorem run_form (h : Clean s) (h0 : (bitsA s).2.2 = 0) (hc : (bitsA s).1 < 1 ∨ left < ((bitsA s).1 : Int)) : runS s last left low high = ([], 5) := by
  have hf : formS s left = ([], 5) := by
    unfold formS
    rw [if_pos hc, fail_sets h0 (by omega)]
  rw [run_err h (by rw [hf]; simp), hf]
theorem form_ok (hc : ¬ ((bitsA s).1 < 1 ∨ left < ((bitsA s).1 : Int))) : formS s left = (bitsA s).2 := by
  unfold formS
  rw [if_neg hc]
theorem run_int (hc : ¬ ((bitsA s).1 < 1 ∨ left < ((bitsA s).1 : Int))) (he : (intA (bitsA s).2).2.2 ≠ 0) : runS s last left low high = (intA (bitsA s).2).2 := by
  unfold runS sameS
  rw [form_ok hc, fail_stays _ he]
  have : (if last = some (intA (bitsA s).2).1 then (intA (bitsA s).2).2 else (intA (bitsA s).2).2) = (intA (bitsA s).2).2 := by split <;> rfl
  rw [this, fail_stays _ he]
  split <;> rfl
theorem run_same (hc : ¬ ((bitsA s).1 < 1 ∨ left < ((bitsA s).1 : Int))) (h0 : (intA (bitsA s).2).2.2 = 0) (hs : last = some (intA (bitsA s).2).1) : runS s last left low high = ([], 5) := by
  unfold runS sameS
  rw [form_ok hc, if_pos hs, fail_sets h0 (by omega), fail_stays 2 (s := ([], 5)) (by simp)]
  split <;> rfl
theorem run_range (hc : ¬ ((bitsA s).1 < 1 ∨ left < ((bitsA s).1 : Int))) (h0 : (intA (bitsA s).2).2.2 = 0) (hs : ¬ last = some (intA (bitsA s).2).1) (hr : (intA (bitsA s).2).1 < low ∨ high < (intA (bitsA s).2).1) : runS s last left low high = ([], 2) := by
  unfold runS sameS
  rw [form_ok hc, if_neg hs, if_pos hr, fail_sets h0 (by omega)]
theorem run_fine (hc : ¬ ((bitsA s).1 < 1 ∨ left < ((bitsA s).1 : Int))) (hs : ¬ last = some (intA (bitsA s).2).1) (hr : ¬ ((intA (bitsA s).2).1 < low ∨ high < (intA (bitsA s).2).1)) : runS s last left low high = (intA (bitsA s).2).2 := by
  unfold runS sameS
  rw [form_ok hc, if_neg hs, if_neg hr]
/-- Where there is no error the run is fine. -/
theorem run_none (h : Clean s) (he : (runS s last left low high).2 = 0) :
    ¬ ((bitsA s).1 < 1 ∨ left < ((bitsA s).1 : Int)) ∧ ¬ last = some (intA (bitsA s).2).1 ∧ ¬ ((intA (bitsA s).2).1 < low ∨ high < (intA (bitsA s).2).1) ∧ (bitsA s).2.2 = 0 ∧ (intA (bitsA s).2).2.2 = 0 ∧ s.2 = 0 := by
  have h1 : (bitsA s).2.2 = 0 := Decidable.byContradiction fun hn => by rw [run_bits h hn] at he; exact hn he
  have h0 : s.2 = 0 := Decidable.byContradiction fun hn => by rw [bits_err h hn] at h1; exact hn h1
  have h2 : ¬ ((bitsA s).1 < 1 ∨ left < ((bitsA s).1 : Int)) := fun hc => by rw [run_form h h1 hc] at he; cases he
  have h3 : (intA (bitsA s).2).2.2 = 0 := Decidable.byContradiction fun hn => by rw [run_int h2 hn] at he; exact hn he
  have h4 : ¬ last = some (intA (bitsA s).2).1 := fun hc => by rw [run_same h2 h3 hc] at he; cases he
  have h5 : ¬ ((intA (bitsA s).2).1 < low ∨ high < (intA (bitsA s).2).1) := fun hc => by rw [run_range h2 h3 h4 hc] at he; cases he
  exact ⟨h2, h4, h5, h1, h3, h0⟩
end

/-- The row that is taken, behind out, and what the cursor is then. -/
def takeL (n : Nat) (low high : Int) : Nat → List Nat × Nat → List Int → List Int × (List Nat × Nat)
  | 0, s, out => (out, s)
  | f + 1, s, out =>
    if n ≤ out.length then (out, s)
    else if (runS s out.getLast? ((n - out.length : Nat) : Int) low high).2 ≠ 0 then ([], runS s out.getLast? ((n - out.length : Nat) : Int) low high)
    else takeL n low high f (runS s out.getLast? ((n - out.length : Nat) : Int) low high) (out ++ List.replicate (bitsA s).1 (intA (bitsA s).2).1)
def takeA (s : List Nat × Nat) (n low high : Int) : List Int × (List Nat × Nat) := takeL n.toNat low high (n.toNat + 1) s []

section
variable {n f : Nat} {low high : Int} {s : List Nat × Nat} {out : List Int}
theorem takeL_end (h : n ≤ out.length) : takeL n low high f s out = (out, s) := by
  cases f with
  | zero => rfl
  | succ f => rw [takeL, if_pos h]
theorem takeL_err (h : out.length < n) (hf : n - out.length < f) (he : (runS s out.getLast? ((n - out.length : Nat) : Int) low high).2 ≠ 0) : takeL n low high f s out = ([], runS s out.getLast? ((n - out.length : Nat) : Int) low high) := by
  cases f with
  | zero => omega
  | succ f => rw [takeL, if_neg (by omega), if_pos he]
theorem takeL_go (h : out.length < n) (hf : n - out.length < f) (he : (runS s out.getLast? ((n - out.length : Nat) : Int) low high).2 = 0) :
    ∃ f', f = f' + 1 ∧ takeL n low high f s out = takeL n low high f' (runS s out.getLast? ((n - out.length : Nat) : Int) low high) (out ++ List.replicate (bitsA s).1 (intA (bitsA s).2).1) := by
  cases f with
  | zero => omega
  | succ f => exact ⟨f, rfl, by rw [takeL, if_neg (by omega), if_neg (by omega)]⟩
end
theorem takeA_none {s : List Nat × Nat} {n low high : Int} (h : n < 1) : takeA s n low high = ([], s) := takeL_end (by simp; omega)

/-- The last of all numbers is the last run's. -/
theorem flat_last (r : Ru.Runs) (h : ∀ p ∈ r, 1 ≤ p.1) : (Ru.flat r).getLast? = lastV r := by
  rcases Ru.last_cases r with rfl | ⟨pre, p, rfl⟩
  · rfl
  · rw [lastV_snoc, Ru.flat_append, Ru.flat_one]
    have := h p (by simp)
    obtain ⟨k, hk⟩ : ∃ k, p.1.toNat = k + 1 := ⟨p.1.toNat - 1, by omega⟩
    rw [hk, List.replicate_succ', ← List.append_assoc, List.getLast?_concat]

/-- A number that was laid is taken. -/
theorem bitsA_put {x : Nat} (h : x < 18446744073709551616) (r : List Nat) : bitsA (Uv.put x ++ r, 0) = (x, r, 0) := by
  unfold bitsA
  simp only [Uv.get_put h]
  unfold failA
  rw [if_pos (.inl rfl)]
  simp

/-- Runs that were laid are taken, one behind the other. -/
theorem takeL_laid {low high : Int} (b : List Nat) (n : Nat) (hn : n ≤ 9223372036854775807) : ∀ (rest pre : Ru.Runs) (f : Nat), (∀ p ∈ pre ++ rest, 1 ≤ p.1) → (∀ p ∈ rest, low ≤ p.2 ∧ p.2 ≤ high ∧ -9223372036854775808 ≤ p.2 ∧ p.2 ≤ 9223372036854775807) →
    (∃ lf pv, Ru.rightS (pre ++ rest) = some (lf, pv)) → n = (Ru.flat (pre ++ rest)).length → n - (Ru.flat pre).length < f →
    takeL n low high f (Ru.laid rest ++ b, 0) (Ru.flat pre) = (Ru.flat (pre ++ rest), (b, 0))
  | [], pre, f, _, _, _, hl, _ => by
    rw [List.append_nil] at hl ⊢
    exact takeL_end (by omega)
  | p :: rest, pre, f, hpos, hrng, hR, hl, hf => by
    have e : pre ++ p :: rest = (pre ++ [p]) ++ rest := by simp
    have hp1 : 1 ≤ p.1 := hpos p (by simp)
    obtain ⟨r1, r2, r3, r4⟩ := hrng p (by simp)
    have hlen : (Ru.flat pre).length + p.1.toNat ≤ n := by
      rw [hl, e, Ru.flat_append, Ru.flat_append, Ru.flat_one]
      simp
    obtain ⟨m, hm⟩ : ∃ m : Nat, p.1 = (m : Int) := ⟨p.1.toNat, by omega⟩
    have hmn : p.1.toNat = m := by omega
    have hlaid : Ru.laid (p :: rest) ++ b = Uv.put m ++ (Uv.put (Uv.fold p.2) ++ (Ru.laid rest ++ b)) := by
      have : Ru.laid (p :: rest) = Ru.laid [p] ++ Ru.laid rest := Ru.laid_append [p] rest
      rw [this, Ru.laid_one, hmn]
      simp
    have hb : bitsA (Ru.laid (p :: rest) ++ b, 0) = (m, Uv.put (Uv.fold p.2) ++ (Ru.laid rest ++ b), 0) := by rw [hlaid]; exact bitsA_put (by omega) _
    have hi : intA (bitsA (Ru.laid (p :: rest) ++ b, 0)).2 = (p.2, Ru.laid rest ++ b, 0) := by rw [hb]; exact intA_put r3 r4 _
    have hlast : ¬ (Ru.flat pre).getLast? = some p.2 := by
      rw [flat_last pre (fun q hq => hpos q (by simp [hq]))]
      intro hc
      obtain ⟨lf, pv, hS⟩ := hR
      rw [e] at hS
      have hS1 : Ru.rightS (pre ++ [p]) = none := by
        rw [Ru.rightS_snoc]
        cases hq : Ru.rightS pre with
        | none => rfl
        | some st =>
          obtain ⟨l0, p0⟩ := st
          obtain ⟨hpv, _⟩ := rightS_prev pre hq
          simp only [Ru.stepR]
          rw [if_pos (.inr (.inr (by rw [hpv]; exact hc)))]
      unfold Ru.rightS at hS hS1
      rw [List.foldl_append, hS1, Ru.step_none] at hS
      cases hS
    have hrun : runS (Ru.laid (p :: rest) ++ b, 0) (Ru.flat pre).getLast? ((n - (Ru.flat pre).length : Nat) : Int) low high = (Ru.laid rest ++ b, 0) := by
      rw [run_fine (by rw [hb]; simp only; omega) (by rw [hi]; exact hlast) (by rw [hi]; simp only; omega), hi]
    obtain ⟨f', hf', hgo⟩ := takeL_go (n := n) (f := f) (low := low) (high := high) (s := (Ru.laid (p :: rest) ++ b, 0)) (out := Ru.flat pre) (by omega) hf (by rw [hrun])
    rw [hgo, hrun, hi, hb]
    simp only
    have hfl : Ru.flat pre ++ List.replicate m p.2 = Ru.flat (pre ++ [p]) := by rw [Ru.flat_append, Ru.flat_one, hmn]
    rw [hfl, e]
    refine takeL_laid b n hn rest (pre ++ [p]) f' (by rw [← e]; exact hpos) (fun q hq => hrng q (by simp [hq])) (by rw [← e]; exact hR) (by rw [← e]; exact hl) ?_
    rw [Ru.flat_append, Ru.flat_one, List.length_append, List.length_replicate]
    omega

/-- BACK. -/
theorem take_back {l : List Int} {low high : Int} (b : List Nat) (hl : l.length ≤ 2000) (hr : ∀ z ∈ l, low ≤ z ∧ z ≤ high ∧ -9223372036854775808 ≤ z ∧ z ≤ 9223372036854775807) : takeA (Ru.laid (Ru.of l) ++ b, 0) (l.length : Int) low high = (l, (b, 0)) := by
  unfold takeA
  have := takeL_laid (low := low) (high := high) b l.length (by omega) (Ru.of l) [] (l.length + 1) (by simpa using Ru.of_pos l) (fun p hp => ?_) ⟨_, _, by rw [List.nil_append]; exact Ru.rightS_of l hl⟩ (by rw [List.nil_append, Ru.flat_of]) (by simp [Ru.flat])
  · rw [List.nil_append, Ru.flat_of] at this
    rw [Int.toNat_natCast]
    exact this
  · have h1 := Ru.of_pos l p hp
    have : p.2 ∈ Ru.flat (Ru.of l) := List.mem_flatMap.2 ⟨p, hp, List.mem_replicate.2 ⟨by omega, rfl⟩⟩
    rw [Ru.flat_of] at this
    exact hr _ this

/-- What is taken ends clean, and is no longer than it should be. -/
theorem takeL_clean {n : Nat} {low high : Int} : ∀ (f : Nat) (s : List Nat × Nat) (out : List Int), Clean s → out.length ≤ n → Clean (takeL n low high f s out).2 ∧ (takeL n low high f s out).1.length ≤ n
  | 0, s, out, h, hl => ⟨h, hl⟩
  | f + 1, s, out, h, hl => by
    have hr := run_clean (s := s) (last := out.getLast?) (left := ((n - out.length : Nat) : Int)) (low := low) (high := high) h
    rw [takeL]
    by_cases h1 : n ≤ out.length
    · rw [if_pos h1]
      exact ⟨h, hl⟩
    · rw [if_neg h1]
      by_cases h2 : (runS s out.getLast? ((n - out.length : Nat) : Int) low high).2 ≠ 0
      · rw [if_pos h2]
        exact ⟨hr, Nat.zero_le _⟩
      · rw [if_neg h2]
        obtain ⟨n1, _⟩ := run_none h (Decidable.not_not.1 h2)
        refine takeL_clean f _ _ hr ?_
        have := (not_or.1 n1).2
        rw [List.length_append, List.length_replicate]
        generalize (bitsA s).1 = b at *
        omega
theorem takeA_clean {s : List Nat × Nat} {n low high : Int} (h : Clean s) : Clean (takeA s n low high).2 ∧ (takeA s n low high).1.length ≤ n.toNat := takeL_clean _ _ _ h (by simp)

end Go.Proofs.Ytnfflddcekffeaa
