/-
  The document's example of plane; what Two makes of small whole numbers. Conditions: none.
-/
import Derived.Test.YtmhdpphogmihlaaPlB
namespace Go.Proofs.Ytmhdpphogmihlaa
open Go.RowKit

namespace Pl
open Ieee
theorem prod_small {a b : Int} {B C : Nat} (ha : a.natAbs ≤ B) (hb : b.natAbs ≤ C) : (a * b).natAbs ≤ B * C := by
  rw [Int.natAbs_mul]
  exact Nat.mul_le_mul ha hb

/-- A sum of small whole numbers. -/
theorem just_add {ar ai br bi re im : Nat} {a b c d : Int} (ha : D (double.read ar) a) (hb : D (double.read ai) b) (hc : D (double.read br) c) (hd : D (double.read bi) d) (la : a.natAbs ≤ 1048576) (lb : b.natAbs ≤ 1048576) (lc : c.natAbs ≤ 1048576) (ld : d.natAbs ≤ 1048576) (h : TwoR 16 ar ai br bi re im) : D (double.read re) (a + c) ∧ D (double.read im) (b + d) := by
  rcases h with ⟨_, h1, h2⟩ | ⟨h, _⟩ | ⟨h, _⟩ | ⟨h, _⟩
  · exact ⟨ha.add hc (by omega) h1, hb.add hd (by omega) h2⟩
  · omega
  · omega
  · exact absurd rfl h

/-- A difference of small whole numbers. -/
theorem just_sub {ar ai br bi re im : Nat} {a b c d : Int} (ha : D (double.read ar) a) (hb : D (double.read ai) b) (hc : D (double.read br) c) (hd : D (double.read bi) d) (la : a.natAbs ≤ 1048576) (lb : b.natAbs ≤ 1048576) (lc : c.natAbs ≤ 1048576) (ld : d.natAbs ≤ 1048576) (h : TwoR 17 ar ai br bi re im) : D (double.read re) (a - c) ∧ D (double.read im) (b - d) := by
  rcases h with ⟨h, _⟩ | ⟨_, h1, h2⟩ | ⟨h, _⟩ | ⟨_, h, _⟩
  · omega
  · exact ⟨ha.sub hc (by omega) h1, hb.sub hd (by omega) h2⟩
  · omega
  · exact absurd rfl h

/-- A product of small whole numbers. -/
theorem just_mul {ar ai br bi re im : Nat} {a b c d : Int} (ha : D (double.read ar) a) (hb : D (double.read ai) b) (hc : D (double.read br) c) (hd : D (double.read bi) d) (la : a.natAbs ≤ 1048576) (lb : b.natAbs ≤ 1048576) (lc : c.natAbs ≤ 1048576) (ld : d.natAbs ≤ 1048576) (h : TwoR 18 ar ai br bi re im) : D (double.read re) (a * c - b * d) ∧ D (double.read im) (a * d + b * c) := by
  rcases h with ⟨h, _⟩ | ⟨h, _⟩ | ⟨_, p, q, s, t, h1, h2, h3, h4, h5, h6⟩ | ⟨_, _, h, _⟩
  · omega
  · omega
  · have k1 := prod_small la lc
    have k2 := prod_small lb ld
    have k3 := prod_small la ld
    have k4 := prod_small lb lc
    have d1 := ha.mul hc (by omega) h1
    have d2 := hb.mul hd (by omega) h2
    have d3 := ha.mul hd (by omega) h4
    have d4 := hb.mul hc (by omega) h5
    generalize a * c = ac at *
    generalize b * d = bd at *
    generalize a * d = ad at *
    generalize b * c = bc at *
    exact ⟨d1.sub d2 (by omega) h3, d3.add d4 (by omega) h6⟩
  · exact absurd rfl h

theorem al_self (x : Nat) : al x x = true := al_of (.inl rfl)
theorem al_one : al (floatOfInt .f64 1) 0 = false := by decide +kernel
end Pl

/-- i times i. -/
theorem lives_two (w : World) : Calls Try.prog 7 #[.int .i64 18, .complex .f64 (floatOfInt .f64 0) (floatOfInt .f64 1), .complex .f64 (floatOfInt .f64 0) (floatOfInt .f64 1)] w fun e w' => ∃ re im, e = .returned (.complex .f64 re im) ∧ Pl.part 19 re im = -1 ∧ w' = w := by
  refine (two_any 18 _ _ _ _ w).mono ?_
  rintro _ w' ⟨re, im, rfl, hr, _, hn⟩
  have h0 := Pl.D.int 0 (by decide)
  have h1 := Pl.D.int 1 (by decide)
  obtain ⟨d1, d2⟩ := Pl.just_mul h0 h1 h0 h1 (by decide) (by decide) (by decide) (by decide) hr
  refine ⟨re, im, rfl, ?_, ?_⟩
  · exact d1.near (by decide)
  · rcases hn with h | h | h
    · exact h
    · exact absurd h d1.not_nan
    · exact absurd h d2.not_nan

set_option maxRecDepth 100000 in
theorem lives_any (w : World) : Calls Try.prog 13 #[] w fun e w' => e = .returned (.bool true) ∧ w' = w := by
  have H1 := pair_any 0 1 w
  have H2 := lives_two w
  have H3 := same_any (floatOfInt .f64 0) (floatOfInt .f64 1) (floatOfInt .f64 0) (floatOfInt .f64 1) w
  have H4 := same_any (floatOfInt .f64 0) (floatOfInt .f64 1) 0 0 w
  rw [Pl.al_self, Pl.al_self] at H3
  rw [Pl.al_one, Bool.and_false] at H4
  generalize floatOfInt .f64 0 = x at *
  generalize floatOfInt .f64 1 = y at *
  go_enter Try.func13, Try.ntmps13
  go_wp2_with (first
    | (go_at_call 5; with_reducible refine H1.mono ?_; rintro _ w1 ⟨rfl, he⟩; obtain rfl := he.symm)
    | (go_at_call 7; with_reducible refine H2.mono ?_; rintro _ w1 ⟨re, im, rfl, hp, he⟩; obtain rfl := he.symm)
    | (go_at_call 11; refine (part_any _ _ _ _).mono ?_; rintro _ w1 ⟨rfl, he⟩; obtain rfl := he.symm; rw [hp])
    | (go_at_call 10; with_reducible refine H3.mono ?_; rintro _ w1 ⟨rfl, he⟩; obtain rfl := he.symm)
    | (go_at_call 10; with_reducible refine H4.mono ?_; rintro _ w1 ⟨rfl, he⟩; obtain rfl := he.symm))
  go_ret
  exact ⟨rfl, rfl⟩
end Go.Proofs.Ytmhdpphogmihlaa
