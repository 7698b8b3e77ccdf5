/-
  What tree.within, has, first, body and sized tell. Conditions: the nodes can be read; numbers of their type.
  What tree.Right tells. Conditions: the nodes can be read.
-/
import Derived.Test.YtngkjmghhoemgaaAtA
import Derived.Test.YtngkjmghhoemgaaReg
namespace Go.Proofs.Ytngkjmghhoemgaa
open Go.RowKit

/-- A node as a value. -/
def ndV (n : Tr.Nd) : Value := .agg #[.int .i64 n.p, .int .i64 n.f, .int .i64 n.l, .int .i64 n.a, .int .i64 n.g, .int .i64 n.t, .int .i64 n.r]

def Tr.within (n lo hi : Int) : Bool := decide (lo ≤ n) && decide (n ≤ hi)

set_option maxRecDepth 100000 in
theorem trwithin_any (n lo hi : Int) (w : World) : Calls Try.prog 52 #[.int .i64 n, .int .i64 lo, .int .i64 hi] w (SameP (.bool (Tr.within n lo hi)) w) := by
  unfold Tr.within
  by_cases h1 : lo ≤ n
  · by_cases h2 : n ≤ hi
    · rw [decide_eq_true h1, decide_eq_true h2]
      go_enter Try.func52, Try.ntmps52
      go_wp2
      go_ret
      exact ⟨rfl, rfl⟩
    · have d2 : decide (n ≤ hi) = false := decide_eq_false h2
      rw [decide_eq_true h1, d2]
      go_enter Try.func52, Try.ntmps52
      go_wp2
      go_ret
      exact ⟨rfl, rfl⟩
  · have d1 : decide (lo ≤ n) = false := decide_eq_false h1
    rw [d1]
    go_enter Try.func52, Try.ntmps52
    go_wp2
    go_ret
    exact ⟨rfl, rfl⟩

set_option maxRecDepth 100000 in
theorem trhas_any (a : Option Addr) (n c : Nat) (x : Int) (w : World) (hn : n ≤ 9223372036854775807) : Calls Try.prog 49 #[.slice a n c, .int .i64 x] w (SameP (.bool (decide (0 ≤ x ∧ x < (n : Int)))) w) := by
  have H := trwithin_any x 0 ((n : Int) - 1) w
  rw [show Tr.within x 0 ((n : Int) - 1) = decide (0 ≤ x ∧ x < (n : Int)) by unfold Tr.within; rw [Bool.eq_iff_iff]; simp; omega] at H
  generalize decide (0 ≤ x ∧ x < (n : Int)) = r at *
  go_enter Try.func49, Try.ntmps49
  go_wp2_with (go_at_call 52; refine H.mono ?_; rintro _ w1 ⟨rfl, he⟩; obtain rfl := he.symm)
  go_ret
  exact ⟨rfl, rfl⟩

theorem head_kinds (n : Tr.Nd) : (n.p ≠ -1 ∧ Tr.head n = false) ∨ (n.p = -1 ∧ n.l ≠ 0 ∧ Tr.head n = false) ∨ (n.p = -1 ∧ n.l = 0 ∧ n.a ≠ 0 ∧ Tr.head n = false) ∨ (n.p = -1 ∧ n.l = 0 ∧ n.a = 0 ∧ n.r ≠ 0 ∧ Tr.head n = false) ∨ (n.p = -1 ∧ n.l = 0 ∧ n.a = 0 ∧ n.r = 0 ∧ Tr.head n = true) := by
  unfold Tr.head
  by_cases h1 : n.p = -1
  · by_cases h2 : n.l = 0
    · by_cases h3 : n.a = 0
      · by_cases h4 : n.r = 0
        · exact .inr (.inr (.inr (.inr ⟨h1, h2, h3, h4, decide_eq_true ⟨h1, h2, h3, h4⟩⟩)))
        · exact .inr (.inr (.inr (.inl ⟨h1, h2, h3, h4, decide_eq_false (by omega)⟩)))
      · exact .inr (.inr (.inl ⟨h1, h2, h3, decide_eq_false (by omega)⟩))
    · exact .inr (.inl ⟨h1, h2, decide_eq_false (by omega)⟩)
  · exact .inl ⟨h1, decide_eq_false (by omega)⟩

/-- What body tells. -/
def Tr.bodyB (n : Tr.Nd) (i free : Int) : Bool := Tr.within n.p 0 (i - 1) && (decide (free ≤ n.a) && Tr.within n.r 1 1999)

/-- What sized tells. -/
def Tr.sizedB (n : Tr.Nd) : Bool := Tr.within n.f 0 39 && (Tr.within n.l 0 65535 && (Tr.within n.g 0 8 && (Tr.within n.a 0 256 && Tr.within n.t (n.a + n.g) 256)))

end Go.Proofs.Ytngkjmghhoemgaa

namespace Go.Proofs.Ytngkjmghhoemgaa
open Go.RowKit

theorem body_ok {k : Nat} {to : Int} {n : Tr.Nd} (h0 : 0 ≤ to) (hk : k ≠ 0) : Tr.ok k to n = (Tr.bodyB n (k : Int) to && Tr.sizedB n) := by
  unfold Tr.ok Tr.fits Tr.other Tr.bodyB Tr.sizedB Tr.within
  rw [if_neg hk, Bool.eq_iff_iff]
  simp
  omega
theorem first_ok {n : Tr.Nd} (h : Tr.head n = true) : Tr.ok 0 0 n = Tr.sizedB n := by
  unfold Tr.ok
  rw [if_pos rfl, h, Bool.and_true]
  unfold Tr.head at h
  unfold Tr.fits Tr.sizedB Tr.within
  rw [Bool.eq_iff_iff]
  simp at h ⊢
  omega
theorem sized_to {n : Tr.Nd} (h : Tr.sizedB n = true) : 0 ≤ n.t := by
  unfold Tr.sizedB Tr.within at h
  simp at h
  omega

def RtA (_ : Nat) (p0 p1 p2 p3 p4 p5 p6 : Int) (sb : Bool) (_ : Unit) : Nat → Value → Prop
  | 0, v => v = .int .i64 (0 : Int)
  | 1, v => v = .bool false
  | 2, v => v = .bool false
  | 3, v => v = undef
  | 4, v => v = undef
  | 5, v => v = undef
  | 6, v => v = undef
  | 7, v => v = undef
  | 8, v => v = undef
  | 9, v => v = undef
  | 10, v => v = undef
  | 11, v => v = undef
  | 12, v => v = undef
  | 13, v => v = .bool false
  | 14, v => v = .bool false
  | 15, v => v = .agg #[.int .i64 p0, .int .i64 p1, .int .i64 p2, .int .i64 p3, .int .i64 p4, .int .i64 p5, .int .i64 p6]
  | 16, v => v = .bool sb
  | 17, v => v = .bool (!sb)
  | 18, v => v = .bool (!sb)
  | _, _ => True

def RtB (b off n c j _ : Nat) (to p0 p1 p2 p3 p4 p5 p6 : Int) (_ : Unit) : Nat → Value → Prop
  | 0, v => v = .int .i64 ((j : Int) + 1)
  | 1, v => v = .bool true
  | 2, v => v = .bool true
  | 3, v => v = .agg #[.int .i64 p0, .int .i64 p1, .int .i64 p2, .int .i64 p3, .int .i64 p4, .int .i64 p5, .int .i64 p6]
  | 4, v => v = .int .i64 ((j : Int) + 1)
  | 5, v => v = .slice (some ⟨b, off, none⟩) n c
  | 6, v => v = .int .i64 ((j : Int) + 1)
  | 7, v => v = .int .i64 (j : Int)
  | 8, v => v = .pointer (some ⟨b, off + j * 7, none⟩)
  | 9, v => v = .pointer (some ⟨b, off + j * 7 + 5, none⟩)
  | 10, v => v = .int .i64 to
  | 11, v => v = .bool false
  | 12, v => v = .bool true
  | 13, v => v = .bool true
  | 14, v => v = .bool true
  | 15, v => v = undef
  | 16, v => v = undef
  | 17, v => v = undef
  | 18, v => v = .bool true
  | _, _ => True

def RtC (b off n c j _ : Nat) (to p0 p1 p2 p3 p4 p5 p6 : Int) (sb : Bool) (_ : Unit) : Nat → Value → Prop
  | 0, v => v = .int .i64 ((j : Int) + 1)
  | 1, v => v = .bool true
  | 2, v => v = .bool true
  | 3, v => v = .agg #[.int .i64 p0, .int .i64 p1, .int .i64 p2, .int .i64 p3, .int .i64 p4, .int .i64 p5, .int .i64 p6]
  | 4, v => v = .int .i64 ((j : Int) + 1)
  | 5, v => v = .slice (some ⟨b, off, none⟩) n c
  | 6, v => v = .int .i64 ((j : Int) + 1)
  | 7, v => v = .int .i64 (j : Int)
  | 8, v => v = .pointer (some ⟨b, off + j * 7, none⟩)
  | 9, v => v = .pointer (some ⟨b, off + j * 7 + 5, none⟩)
  | 10, v => v = .int .i64 to
  | 11, v => v = .bool true
  | 12, v => v = .bool false
  | 13, v => v = .bool false
  | 14, v => v = .bool false
  | 15, v => v = .agg #[.int .i64 p0, .int .i64 p1, .int .i64 p2, .int .i64 p3, .int .i64 p4, .int .i64 p5, .int .i64 p6]
  | 16, v => v = .bool sb
  | 17, v => v = .bool (!sb)
  | 18, v => v = .bool (!sb)
  | _, _ => True

/-- Between two rounds: k nodes are looked at; what is left decides. -/
def TrRel (n : Nat) (l : List Tr.Nd) (w : World) (i : Value) (wr : World) : Prop :=
  ∃ k : Nat, k ≤ n ∧ i = .int .i64 (k : Int) ∧ Tr.run 0 0 l = Tr.run k (Tr.tos l k) (l.drop k) ∧ 0 ≤ Tr.tos l k ∧ Below w.heap.size w wr

end Go.Proofs.Ytngkjmghhoemgaa
