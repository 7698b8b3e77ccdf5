/-
  What tree.within, has, first, body and sized tell. Conditions: the nodes can be read; numbers of their type.
-/
import Derived.Test.YtifkoihhlhadhaaDoorTrAt
namespace Go.Proofs.YtifkoihhlhadhaaDoor
open Go.RowKit

/-- A node as a value. -/
def ndV (n : Tr.Nd) : Value := .agg #[.int .i64 n.p, .int .i64 n.f, .int .i64 n.l, .int .i64 n.a, .int .i64 n.g, .int .i64 n.t, .int .i64 n.r]

def Tr.within (n lo hi : Int) : Bool := decide (lo ≤ n) && decide (n ≤ hi)

set_option maxRecDepth 100000 in
theorem trwithin_any (n lo hi : Int) (w : World) : Calls Tryd.prog 64 #[.int .i64 n, .int .i64 lo, .int .i64 hi] w (SameP (.bool (Tr.within n lo hi)) w) := by
  unfold Tr.within
  by_cases h1 : lo ≤ n
  · by_cases h2 : n ≤ hi
    · rw [decide_eq_true h1, decide_eq_true h2]
      go_enter Tryd.func64, Tryd.ntmps64
      go_wp2
      go_ret
      exact ⟨rfl, rfl⟩
    · have d2 : decide (n ≤ hi) = false := decide_eq_false h2
      rw [decide_eq_true h1, d2]
      go_enter Tryd.func64, Tryd.ntmps64
      go_wp2
      go_ret
      exact ⟨rfl, rfl⟩
  · have d1 : decide (lo ≤ n) = false := decide_eq_false h1
    rw [d1]
    go_enter Tryd.func64, Tryd.ntmps64
    go_wp2
    go_ret
    exact ⟨rfl, rfl⟩

theorem head_kinds (n : Tr.Nd) : (n.p ≠ -1 ∧ Tr.head n = false) ∨ (n.p = -1 ∧ n.l ≠ 0 ∧ Tr.head n = false) ∨ (n.p = -1 ∧ n.l = 0 ∧ n.a ≠ 0 ∧ Tr.head n = false) ∨ (n.p = -1 ∧ n.l = 0 ∧ n.a = 0 ∧ n.r ≠ 0 ∧ Tr.head n = false) ∨ (n.p = -1 ∧ n.l = 0 ∧ n.a = 0 ∧ n.r = 0 ∧ Tr.head n = true) := by
  unfold Tr.head
  by_cases h1 : n.p = -1
  · by_cases h2 : n.l = 0
    · by_cases h3 : n.a = 0
      · by_cases h4 : n.r = 0
        · exact .inr (.inr (.inr (.inr ⟨h1, h2, h3, h4, decide_eq_true ⟨h1, h2, h3, h4⟩⟩)))
        · exact .inr (.inr (.inr (.inl ⟨h1, h2, h3, h4, decide_eq_false (by omega)⟩)))
      · exact .inr (.inr (.inl ⟨h1, h2, h3, decide_eq_false (by omega)⟩))
    · exact .inr (.inl ⟨h1, h2, decide_eq_false (by omega)⟩)
  · exact .inl ⟨h1, decide_eq_false (by omega)⟩

set_option maxRecDepth 100000 in
theorem trfirst_any (n : Tr.Nd) (w : World) : Calls Tryd.prog 47 #[ndV n] w (BoolP (Tr.head n) w) := by
  have HK := head_kinds n
  unfold ndV
  generalize Tr.head n = r at *
  obtain ⟨p, f, l, a, g, t, q⟩ := n
  simp only at HK ⊢
  rcases HK with ⟨h1, rfl⟩ | ⟨rfl, h2, rfl⟩ | ⟨rfl, rfl, h3, rfl⟩ | ⟨rfl, rfl, rfl, h4, rfl⟩ | ⟨rfl, rfl, rfl, rfl, rfl⟩
  · have d1 : (p == -1) = false := beq_eq_false_iff_ne.2 h1
    go_enter Tryd.func47, Tryd.ntmps47
    go_wp2
    go_ret
    exact ⟨rfl, (Below.refl _ _).alloc (Nat.le_refl _) _⟩
  · have d1 : (l == 0) = false := beq_eq_false_iff_ne.2 h2
    go_enter Tryd.func47, Tryd.ntmps47
    go_wp2
    go_ret
    exact ⟨rfl, (Below.refl _ _).alloc (Nat.le_refl _) _⟩
  · have d1 : (a == 0) = false := beq_eq_false_iff_ne.2 h3
    go_enter Tryd.func47, Tryd.ntmps47
    go_wp2
    go_ret
    exact ⟨rfl, (Below.refl _ _).alloc (Nat.le_refl _) _⟩
  · have d1 : (q == 0) = false := beq_eq_false_iff_ne.2 h4
    go_enter Tryd.func47, Tryd.ntmps47
    go_wp2
    go_ret
    exact ⟨rfl, (Below.refl _ _).alloc (Nat.le_refl _) _⟩
  · go_enter Tryd.func47, Tryd.ntmps47
    go_wp2
    go_ret
    exact ⟨rfl, (Below.refl _ _).alloc (Nat.le_refl _) _⟩

/-- What body tells. -/
def Tr.bodyB (n : Tr.Nd) (i free : Int) : Bool := Tr.within n.p 0 (i - 1) && (decide (free ≤ n.a) && Tr.within n.r 1 1999)

set_option maxHeartbeats 1000000 in
set_option maxRecDepth 100000 in
theorem trbody_any (n : Tr.Nd) (i free : Int) (hi : -9223372036854775808 < i ∧ i ≤ 9223372036854775807) (w : World) : Calls Tryd.prog 48 #[ndV n, .int .i64 i, .int .i64 free] w (BoolP (Tr.bodyB n i free) w) := by
  have H1 := fun w => trwithin_any n.p 0 (i - 1) w
  have H2 := Lib.hid (fun w => trwithin_any n.r 1 1999 w)
  obtain ⟨hi1, hi2⟩ := hi
  unfold ndV Tr.bodyB
  generalize Tr.within n.p 0 (i - 1) = r1 at *
  generalize Tr.within n.r 1 1999 = r2 at *
  obtain ⟨p, f, l, a, g, t, q⟩ := n
  simp only at H1 H2 ⊢
  cases r1
  · go_enter Tryd.func48, Tryd.ntmps48
    go_wp2_with (go_at_call 64; refine (H1 _).mono ?_; rintro _ w1 ⟨rfl, he⟩; obtain rfl := he.symm; clear H1)
    go_ret
    exact ⟨rfl, (Below.refl _ _).alloc (Nat.le_refl _) _⟩
  by_cases h : free ≤ a
  · have d : decide (free ≤ a) = true := decide_eq_true h
    rw [d]
    go_enter Tryd.func48, Tryd.ntmps48
    go_wp2_with (first
      | (go_at_call 64; refine (H1 _).mono ?_; rintro _ w1 ⟨rfl, he⟩; obtain rfl := he.symm; clear H1)
      | (go_at_call 64; refine (H2.out _).mono ?_; rintro _ w1 ⟨rfl, he⟩; obtain rfl := he.symm; clear H2))
    go_ret
    exact ⟨by cases r2 <;> rfl, (Below.refl _ _).alloc (Nat.le_refl _) _⟩
  · have d : decide (free ≤ a) = false := decide_eq_false h
    rw [d]
    go_enter Tryd.func48, Tryd.ntmps48
    go_wp2_with (go_at_call 64; refine (H1 _).mono ?_; rintro _ w1 ⟨rfl, he⟩; obtain rfl := he.symm; clear H1)
    go_ret
    exact ⟨rfl, (Below.refl _ _).alloc (Nat.le_refl _) _⟩

/-- What sized tells. -/
def Tr.sizedB (n : Tr.Nd) : Bool := Tr.within n.f 0 39 && (Tr.within n.l 0 65535 && (Tr.within n.g 0 8 && (Tr.within n.a 0 256 && Tr.within n.t (n.a + n.g) 256)))

set_option maxHeartbeats 2000000 in
set_option maxRecDepth 100000 in
theorem trsized_any (n : Tr.Nd) (w : World) : Calls Tryd.prog 49 #[ndV n] w (BoolP (Tr.sizedB n) w) := by
  have HW := Lib.hid trwithin_any
  unfold ndV
  obtain ⟨p, f, l, a, g, t, q⟩ := n
  have H1 := fun w => trwithin_any f 0 39 w
  have H2 := Lib.hid (fun w => trwithin_any l 0 65535 w)
  have H3 := Lib.hid (fun w => trwithin_any g 0 8 w)
  have H4 := Lib.hid (fun w => trwithin_any a 0 256 w)
  have H5 := Lib.hid (fun w => trwithin_any t (a + g) 256 w)
  show Calls _ _ _ _ (BoolP (Tr.within f 0 39 && (Tr.within l 0 65535 && (Tr.within g 0 8 && (Tr.within a 0 256 && Tr.within t (a + g) 256)))) w)
  cases h1 : Tr.within f 0 39
  · rw [h1] at H1
    clear h1 H2 H3 H4 H5
    go_enter Tryd.func49, Tryd.ntmps49
    go_wp2_with (go_at_call 64; refine (H1 _).mono ?_; rintro _ w1 ⟨rfl, he⟩; obtain rfl := he.symm; clear H1)
    go_ret
    exact ⟨rfl, (Below.refl _ _).alloc (Nat.le_refl _) _⟩
  rw [h1] at H1
  clear h1
  cases h2 : Tr.within l 0 65535
  · rw [h2] at H2
    clear h2 H3 H4 H5
    go_enter Tryd.func49, Tryd.ntmps49
    go_wp2_with (first
      | (go_at_call 64; refine (H1 _).mono ?_; rintro _ w1 ⟨rfl, he⟩; obtain rfl := he.symm; clear H1)
      | (go_at_call 64; refine (H2.out _).mono ?_; rintro _ w1 ⟨rfl, he⟩; obtain rfl := he.symm; clear H2))
    go_ret
    exact ⟨rfl, (Below.refl _ _).alloc (Nat.le_refl _) _⟩
  rw [h2] at H2
  clear h2
  cases h3 : Tr.within g 0 8
  · rw [h3] at H3
    clear h3 H4 H5
    go_enter Tryd.func49, Tryd.ntmps49
    go_wp2_with (first
      | (go_at_call 64; refine (H1 _).mono ?_; rintro _ w1 ⟨rfl, he⟩; obtain rfl := he.symm; clear H1)
      | (go_at_call 64; refine (H2.out _).mono ?_; rintro _ w1 ⟨rfl, he⟩; obtain rfl := he.symm; clear H2)
      | (go_at_call 64; refine (H3.out _).mono ?_; rintro _ w1 ⟨rfl, he⟩; obtain rfl := he.symm; clear H3))
    go_ret
    exact ⟨rfl, (Below.refl _ _).alloc (Nat.le_refl _) _⟩
  have hg : 0 ≤ g ∧ g ≤ 8 := by unfold Tr.within at h3; simpa using h3
  rw [h3] at H3
  clear h3
  cases h4 : Tr.within a 0 256
  · rw [h4] at H4
    clear h4 H5
    go_enter Tryd.func49, Tryd.ntmps49
    go_wp2_with (first
      | (go_at_call 64; refine (H1 _).mono ?_; rintro _ w1 ⟨rfl, he⟩; obtain rfl := he.symm; clear H1)
      | (go_at_call 64; refine (H2.out _).mono ?_; rintro _ w1 ⟨rfl, he⟩; obtain rfl := he.symm; clear H2)
      | (go_at_call 64; refine (H3.out _).mono ?_; rintro _ w1 ⟨rfl, he⟩; obtain rfl := he.symm; clear H3)
      | (go_at_call 64; refine (H4.out _).mono ?_; rintro _ w1 ⟨rfl, he⟩; obtain rfl := he.symm; clear H4))
    go_ret
    exact ⟨rfl, (Below.refl _ _).alloc (Nat.le_refl _) _⟩
  have ha : 0 ≤ a ∧ a ≤ 256 := by unfold Tr.within at h4; simpa using h4
  rw [h4] at H4
  clear h4
  obtain ⟨hg1, hg2⟩ := hg
  obtain ⟨ha1, ha2⟩ := ha
  generalize Tr.within t (a + g) 256 = r at *
  go_enter Tryd.func49, Tryd.ntmps49
  go_wp2_with (first
    | (go_at_call 64; refine (H1 _).mono ?_; rintro _ w1 ⟨rfl, he⟩; obtain rfl := he.symm; clear H1)
    | (go_at_call 64; refine (H2.out _).mono ?_; rintro _ w1 ⟨rfl, he⟩; obtain rfl := he.symm; clear H2)
    | (go_at_call 64; refine (H3.out _).mono ?_; rintro _ w1 ⟨rfl, he⟩; obtain rfl := he.symm; clear H3)
    | (go_at_call 64; refine (H4.out _).mono ?_; rintro _ w1 ⟨rfl, he⟩; obtain rfl := he.symm; clear H4)
    | (go_at_call 64; refine (H5.out _).mono ?_; rintro _ w1 ⟨rfl, he⟩; obtain rfl := he.symm; clear H5))
  go_ret
  exact ⟨by cases r <;> rfl, (Below.refl _ _).alloc (Nat.le_refl _) _⟩
end Go.Proofs.YtifkoihhlhadhaaDoor
