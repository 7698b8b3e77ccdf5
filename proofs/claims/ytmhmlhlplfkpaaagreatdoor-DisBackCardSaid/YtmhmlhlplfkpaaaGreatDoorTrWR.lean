/-
 What tree.within, has, first, body and sized tell. Conditions: the nodes can be read; numbers of their type.
-/
import Derived.Test.YtmhmlhlplfkpaaaGreatDoorAtA
import Derived.Test.YtmhmlhlplfkpaaaGreatDoorReg
set_option maxRecDepth 100000
namespace Go.Proofs.YtmhmlhlplfkpaaaGreatDoor
open Go.RowKit
def ndV (n : Tr.Nd) : Value := .agg #[.int .i64 n.p, .int .i64 n.f, .int .i64 n.l, .int .i64 n.a, .int .i64 n.g, .int .i64 n.t, .int .i64 n.r]
def Tr.within (n lo hi : Int) : Bool := decide (lo ≤ n) && decide (n ≤ hi)
theorem trwithin_any (n lo hi : Int) (w : World) : Calls Tryz.prog 136 #[.int .i64 n, .int .i64 lo, .int .i64 hi] w (SameP (.bool (Tr.within n lo hi)) w) := by
 unfold Tr.within
 by_cases h1 : lo ≤ n
 · by_cases h2 : n ≤ hi
   · rw [decide_eq_true h1, decide_eq_true h2]
     go_enter Tryz.func136, Tryz.ntmps136
     go_wp2
     go_ret
     exact ⟨rfl, rfl⟩
   · have d2 : decide (n ≤ hi) = false := decide_eq_false h2
     rw [decide_eq_true h1, d2]
     go_enter Tryz.func136, Tryz.ntmps136
     go_wp2
     go_ret
     exact ⟨rfl, rfl⟩
 · have d1 : decide (lo ≤ n) = false := decide_eq_false h1
   rw [d1]
   go_enter Tryz.func136, Tryz.ntmps136
   go_wp2
   go_ret
   exact ⟨rfl, rfl⟩
theorem trhas_any (a : Option Addr) (n c : Nat) (x : Int) (w : World) (hn : n ≤ 9223372036854775807) : Calls Tryz.prog 111 #[.slice a n c, .int .i64 x] w (SameP (.bool (decide (0 ≤ x ∧ x < (n : Int)))) w) := by
 have H := trwithin_any x 0 ((n : Int) - 1) w
 rw [show Tr.within x 0 ((n : Int) - 1) = decide (0 ≤ x ∧ x < (n : Int)) by unfold Tr.within; rw [Bool.eq_iff_iff]; simp; omega] at H
 generalize decide (0 ≤ x ∧ x < (n : Int)) = r at *
 go_enter Tryz.func111, Tryz.ntmps111
 go_wp2_with (go_at_call 136; refine H.mono ?_; rintro _ w1 ⟨rfl, he⟩; obtain rfl := he.symm)
 go_ret
 exact ⟨rfl, rfl⟩
theorem head_kinds (n : Tr.Nd) : (n.p ≠ -1 ∧ Tr.head n = false) ∨ (n.p = -1 ∧ n.l ≠ 0 ∧ Tr.head n = false) ∨ (n.p = -1 ∧ n.l = 0 ∧ n.a ≠ 0 ∧ Tr.head n = false) ∨ (n.p = -1 ∧ n.l = 0 ∧ n.a = 0 ∧ n.r ≠ 0 ∧ Tr.head n = false) ∨ (n.p = -1 ∧ n.l = 0 ∧ n.a = 0 ∧ n.r = 0 ∧ Tr.head n = true) := by
 unfold Tr.head
 by_cases h1 : n.p = -1
 · by_cases h2 : n.l = 0
   · by_cases h3 : n.a = 0
     · by_cases h4 : n.r = 0
       · exact .inr (.inr (.inr (.inr ⟨h1, h2, h3, h4, decide_eq_true ⟨h1, h2, h3, h4⟩⟩)))
       · exact .inr (.inr (.inr (.inl ⟨h1, h2, h3, h4, decide_eq_false (by omega)⟩)))
     · exact .inr (.inr (.inl ⟨h1, h2, h3, decide_eq_false (by omega)⟩))
   · exact .inr (.inl ⟨h1, h2, decide_eq_false (by omega)⟩)
 · exact .inl ⟨h1, decide_eq_false (by omega)⟩
theorem trfirst_any (n : Tr.Nd) (w : World) : Calls Tryz.prog 179 #[ndV n] w (BoolP (Tr.head n) w) := by
 have HK := head_kinds n
 unfold ndV
 generalize Tr.head n = r at *
 obtain ⟨p, f, l, a, g, t, q⟩ := n
 simp only at HK ⊢
 rcases HK with ⟨h1, rfl⟩ | ⟨rfl, h2, rfl⟩ | ⟨rfl, rfl, h3, rfl⟩ | ⟨rfl, rfl, rfl, h4, rfl⟩ | ⟨rfl, rfl, rfl, rfl, rfl⟩
 · have d1 : (p == -1) = false := beq_eq_false_iff_ne.2 h1
   go_enter Tryz.func179, Tryz.ntmps179
   go_wp2
   go_ret
   exact ⟨rfl, (Below.refl _ _).alloc (Nat.le_refl _) _⟩
 · have d1 : (l == 0) = false := beq_eq_false_iff_ne.2 h2
   go_enter Tryz.func179, Tryz.ntmps179
   go_wp2
   go_ret
   exact ⟨rfl, (Below.refl _ _).alloc (Nat.le_refl _) _⟩
 · have d1 : (a == 0) = false := beq_eq_false_iff_ne.2 h3
   go_enter Tryz.func179, Tryz.ntmps179
   go_wp2
   go_ret
   exact ⟨rfl, (Below.refl _ _).alloc (Nat.le_refl _) _⟩
 · have d1 : (q == 0) = false := beq_eq_false_iff_ne.2 h4
   go_enter Tryz.func179, Tryz.ntmps179
   go_wp2
   go_ret
   exact ⟨rfl, (Below.refl _ _).alloc (Nat.le_refl _) _⟩
 · go_enter Tryz.func179, Tryz.ntmps179
   go_wp2
   go_ret
   exact ⟨rfl, (Below.refl _ _).alloc (Nat.le_refl _) _⟩
def Tr.bodyB (n : Tr.Nd) (i free : Int) : Bool := Tr.within n.p 0 (i - 1) && (decide (free ≤ n.a) && Tr.within n.r 1 1999)
set_option maxHeartbeats 1000000 in
theorem trbody_any (n : Tr.Nd) (i free : Int) (hi : -9223372036854775808 < i ∧ i ≤ 9223372036854775807) (w : World) : Calls Tryz.prog 180 #[ndV n, .int .i64 i, .int .i64 free] w (BoolP (Tr.bodyB n i free) w) := by
 have H1 := fun w => trwithin_any n.p 0 (i - 1) w
 have H2 := Lib.hid (fun w => trwithin_any n.r 1 1999 w)
 obtain ⟨hi1, hi2⟩ := hi
 unfold ndV Tr.bodyB
 generalize Tr.within n.p 0 (i - 1) = r1 at *
 generalize Tr.within n.r 1 1999 = r2 at *
 obtain ⟨p, f, l, a, g, t, q⟩ := n
 simp only at H1 H2 ⊢
 cases r1
 · go_enter Tryz.func180, Tryz.ntmps180
   go_wp2_with (go_at_call 136; refine (H1 _).mono ?_; rintro _ w1 ⟨rfl, he⟩; obtain rfl := he.symm; clear H1)
   go_ret
   exact ⟨rfl, (Below.refl _ _).alloc (Nat.le_refl _) _⟩
 by_cases h : free ≤ a
 · have d : decide (free ≤ a) = true := decide_eq_true h
   rw [d]
   go_enter Tryz.func180, Tryz.ntmps180
   go_wp2_with (first
     | (go_at_call 136; refine (H1 _).mono ?_; rintro _ w1 ⟨rfl, he⟩; obtain rfl := he.symm; clear H1)
     | (go_at_call 136; refine (H2.out _).mono ?_; rintro _ w1 ⟨rfl, he⟩; obtain rfl := he.symm; clear H2))
   go_ret
   exact ⟨by cases r2 <;> rfl, (Below.refl _ _).alloc (Nat.le_refl _) _⟩
 · have d : decide (free ≤ a) = false := decide_eq_false h
   rw [d]
   go_enter Tryz.func180, Tryz.ntmps180
   go_wp2_with (go_at_call 136; refine (H1 _).mono ?_; rintro _ w1 ⟨rfl, he⟩; obtain rfl := he.symm; clear H1)
   go_ret
   exact ⟨rfl, (Below.refl _ _).alloc (Nat.le_refl _) _⟩
def Tr.sizedB (n : Tr.Nd) : Bool := Tr.within n.f 0 39 && (Tr.within n.l 0 65535 && (Tr.within n.g 0 8 && (Tr.within n.a 0 256 && Tr.within n.t (n.a + n.g) 256)))
set_option maxHeartbeats 2000000 in
theorem trsized_any (n : Tr.Nd) (w : World) : Calls Tryz.prog 181 #[ndV n] w (BoolP (Tr.sizedB n) w) := by
 have HW := Lib.hid trwithin_any
 unfold ndV
 obtain ⟨p, f, l, a, g, t, q⟩ := n
 have H1 := fun w => trwithin_any f 0 39 w
 have H2 := Lib.hid (fun w => trwithin_any l 0 65535 w)
 have H3 := Lib.hid (fun w => trwithin_any g 0 8 w)
 have H4 := Lib.hid (fun w => trwithin_any a 0 256 w)
 have H5 := Lib.hid (fun w => trwithin_any t (a + g) 256 w)
 show Calls _ _ _ _ (BoolP (Tr.within f 0 39 && (Tr.within l 0 65535 && (Tr.within g 0 8 && (Tr.within a 0 256 && Tr.within t (a + g) 256)))) w)
 cases h1 : Tr.within f 0 39
 · rw [h1] at H1
   clear h1 H2 H3 H4 H5
   go_enter Tryz.func181, Tryz.ntmps181
   go_wp2_with (go_at_call 136; refine (H1 _).mono ?_; rintro _ w1 ⟨rfl, he⟩; obtain rfl := he.symm; clear H1)
   go_ret
   exact ⟨rfl, (Below.refl _ _).alloc (Nat.le_refl _) _⟩
 rw [h1] at H1
 clear h1
 cases h2 : Tr.within l 0 65535
 · rw [h2] at H2
   clear h2 H3 H4 H5
   go_enter Tryz.func181, Tryz.ntmps181
   go_wp2_with (first
     | (go_at_call 136; refine (H1 _).mono ?_; rintro _ w1 ⟨rfl, he⟩; obtain rfl := he.symm; clear H1)
     | (go_at_call 136; refine (H2.out _).mono ?_; rintro _ w1 ⟨rfl, he⟩; obtain rfl := he.symm; clear H2))
   go_ret
   exact ⟨rfl, (Below.refl _ _).alloc (Nat.le_refl _) _⟩
 rw [h2] at H2
 clear h2
 cases h3 : Tr.within g 0 8
 · rw [h3] at H3
   clear h3 H4 H5
   go_enter Tryz.func181, Tryz.ntmps181
   go_wp2_with (first
     | (go_at_call 136; refine (H1 _).mono ?_; rintro _ w1 ⟨rfl, he⟩; obtain rfl := he.symm; clear H1)
     | (go_at_call 136; refine (H2.out _).mono ?_; rintro _ w1 ⟨rfl, he⟩; obtain rfl := he.symm; clear H2)
     | (go_at_call 136; refine (H3.out _).mono ?_; rintro _ w1 ⟨rfl, he⟩; obtain rfl := he.symm; clear H3))
   go_ret
   exact ⟨rfl, (Below.refl _ _).alloc (Nat.le_refl _) _⟩
 have hg : 0 ≤ g ∧ g ≤ 8 := by unfold Tr.within at h3; simpa using h3
 rw [h3] at H3
 clear h3
 cases h4 : Tr.within a 0 256
 · rw [h4] at H4
   clear h4 H5
   go_enter Tryz.func181, Tryz.ntmps181
   go_wp2_with (first
     | (go_at_call 136; refine (H1 _).mono ?_; rintro _ w1 ⟨rfl, he⟩; obtain rfl := he.symm; clear H1)
     | (go_at_call 136; refine (H2.out _).mono ?_; rintro _ w1 ⟨rfl, he⟩; obtain rfl := he.symm; clear H2)
     | (go_at_call 136; refine (H3.out _).mono ?_; rintro _ w1 ⟨rfl, he⟩; obtain rfl := he.symm; clear H3)
     | (go_at_call 136; refine (H4.out _).mono ?_; rintro _ w1 ⟨rfl, he⟩; obtain rfl := he.symm; clear H4))
   go_ret
   exact ⟨rfl, (Below.refl _ _).alloc (Nat.le_refl _) _⟩
 have ha : 0 ≤ a ∧ a ≤ 256 := by unfold Tr.within at h4; simpa using h4
 rw [h4] at H4
 clear h4
 obtain ⟨hg1, hg2⟩ := hg
 obtain ⟨ha1, ha2⟩ := ha
 generalize Tr.within t (a + g) 256 = r at *
 go_enter Tryz.func181, Tryz.ntmps181
 go_wp2_with (first
   | (go_at_call 136; refine (H1 _).mono ?_; rintro _ w1 ⟨rfl, he⟩; obtain rfl := he.symm; clear H1)
   | (go_at_call 136; refine (H2.out _).mono ?_; rintro _ w1 ⟨rfl, he⟩; obtain rfl := he.symm; clear H2)
   | (go_at_call 136; refine (H3.out _).mono ?_; rintro _ w1 ⟨rfl, he⟩; obtain rfl := he.symm; clear H3)
   | (go_at_call 136; refine (H4.out _).mono ?_; rintro _ w1 ⟨rfl, he⟩; obtain rfl := he.symm; clear H4)
   | (go_at_call 136; refine (H5.out _).mono ?_; rintro _ w1 ⟨rfl, he⟩; obtain rfl := he.symm; clear H5))
 go_ret
 exact ⟨by cases r <;> rfl, (Below.refl _ _).alloc (Nat.le_refl _) _⟩
end Go.Proofs.YtmhmlhlplfkpaaaGreatDoor
namespace Go.Proofs.YtmhmlhlplfkpaaaGreatDoor
open Go.RowKit
theorem body_ok {k : Nat} {to : Int} {n : Tr.Nd} (h0 : 0 ≤ to) (hk : k ≠ 0) : Tr.ok k to n = (Tr.bodyB n (k : Int) to && Tr.sizedB n) := by
 unfold Tr.ok Tr.fits Tr.other Tr.bodyB Tr.sizedB Tr.within
 rw [if_neg hk, Bool.eq_iff_iff]
 simp
 omega
theorem first_ok {n : Tr.Nd} (h : Tr.head n = true) : Tr.ok 0 0 n = Tr.sizedB n := by
 unfold Tr.ok
 rw [if_pos rfl, h, Bool.and_true]
 unfold Tr.head at h
 unfold Tr.fits Tr.sizedB Tr.within
 rw [Bool.eq_iff_iff]
 simp at h ⊢
 omega
theorem sized_to {n : Tr.Nd} (h : Tr.sizedB n = true) : 0 ≤ n.t := by
 unfold Tr.sizedB Tr.within at h
 simp at h
 omega
def RtA (_ : Nat) (p0 p1 p2 p3 p4 p5 p6 : Int) (sb : Bool) (_ : Unit) : Nat → Value → Prop
 | 0, v => v = .int .i64 (0 : Int)
 | 1, v => v = .bool false
 | 2, v => v = .bool false
 | 3, v => v = undef
 | 4, v => v = undef
 | 5, v => v = undef
 | 6, v => v = undef
 | 7, v => v = undef
 | 8, v => v = undef
 | 9, v => v = undef
 | 10, v => v = undef
 | 11, v => v = undef
 | 12, v => v = undef
 | 13, v => v = .bool false
 | 14, v => v = .bool false
 | 15, v => v = .agg #[.int .i64 p0, .int .i64 p1, .int .i64 p2, .int .i64 p3, .int .i64 p4, .int .i64 p5, .int .i64 p6]
 | 16, v => v = .bool sb
 | 17, v => v = .bool (!sb)
 | 18, v => v = .bool (!sb)
 | _, _ => True
def RtB (b off n c j _ : Nat) (to p0 p1 p2 p3 p4 p5 p6 : Int) (_ : Unit) : Nat → Value → Prop
 | 0, v => v = .int .i64 ((j : Int) + 1)
 | 1, v => v = .bool true
 | 2, v => v = .bool true
 | 3, v => v = .agg #[.int .i64 p0, .int .i64 p1, .int .i64 p2, .int .i64 p3, .int .i64 p4, .int .i64 p5, .int .i64 p6]
 | 4, v => v = .int .i64 ((j : Int) + 1)
 | 5, v => v = .slice (some ⟨b, off, none⟩) n c
 | 6, v => v = .int .i64 ((j : Int) + 1)
 | 7, v => v = .int .i64 (j : Int)
 | 8, v => v = .pointer (some ⟨b, off + j * 7, none⟩)
 | 9, v => v = .pointer (some ⟨b, off + j * 7 + 5, none⟩)
 | 10, v => v = .int .i64 to
 | 11, v => v = .bool false
 | 12, v => v = .bool true
 | 13, v => v = .bool true
 | 14, v => v = .bool true
 | 15, v => v = undef
 | 16, v => v = undef
 | 17, v => v = undef
 | 18, v => v = .bool true
 | _, _ => True
def RtC (b off n c j _ : Nat) (to p0 p1 p2 p3 p4 p5 p6 : Int) (sb : Bool) (_ : Unit) : Nat → Value → Prop
 | 0, v => v = .int .i64 ((j : Int) + 1)
 | 1, v => v = .bool true
 | 2, v => v = .bool true
 | 3, v => v = .agg #[.int .i64 p0, .int .i64 p1, .int .i64 p2, .int .i64 p3, .int .i64 p4, .int .i64 p5, .int .i64 p6]
 | 4, v => v = .int .i64 ((j : Int) + 1)
 | 5, v => v = .slice (some ⟨b, off, none⟩) n c
 | 6, v => v = .int .i64 ((j : Int) + 1)
 | 7, v => v = .int .i64 (j : Int)
 | 8, v => v = .pointer (some ⟨b, off + j * 7, none⟩)
 | 9, v => v = .pointer (some ⟨b, off + j * 7 + 5, none⟩)
 | 10, v => v = .int .i64 to
 | 11, v => v = .bool true
 | 12, v => v = .bool false
 | 13, v => v = .bool false
 | 14, v => v = .bool false
 | 15, v => v = .agg #[.int .i64 p0, .int .i64 p1, .int .i64 p2, .int .i64 p3, .int .i64 p4, .int .i64 p5, .int .i64 p6]
 | 16, v => v = .bool sb
 | 17, v => v = .bool (!sb)
 | 18, v => v = .bool (!sb)
 | _, _ => True
def TrRel (n : Nat) (l : List Tr.Nd) (w : World) (i : Value) (wr : World) : Prop :=
 ∃ k : Nat, k ≤ n ∧ i = .int .i64 (k : Int) ∧ Tr.run 0 0 l = Tr.run k (Tr.tos l k) (l.drop k) ∧ 0 ≤ Tr.tos l k ∧ Below w.heap.size w wr
set_option maxHeartbeats 2000000 in
theorem trright_any (a : Option Addr) (n c : Nat) (l : List Tr.Nd) (w : World) (h : NodesAt w w.heap.size a n l) (hn : n ≤ 9223372036854775807) :
   Calls Tryz.prog 162 #[.slice a n c] w (BoolP (Tr.right l) w) := by
 have hl : l.length = n := h.1
 by_cases h1 : n < 1
 · have d1 : decide ((n : Int) < 1) = true := decide_eq_true (by omega)
   rw [show Tr.right l = false by unfold Tr.right; rw [decide_eq_false (p := 1 ≤ l.length) (by omega)]; rfl]
   clear h hl
   go_enter Tryz.func162, Tryz.ntmps162
   go_wp2
   go_ret
   exact ⟨rfl, Below.refl _ _⟩
 by_cases h2 : 120 < n
 · have d2 : decide ((120 : Int) < (n : Int)) = true := decide_eq_true (by omega)
   rw [show Tr.right l = false by unfold Tr.right; rw [decide_eq_false (p := l.length ≤ 120) (by omega), Bool.and_false]; rfl]
   clear h hl
   go_enter Tryz.func162, Tryz.ntmps162
   go_wp2
   go_ret
   exact ⟨rfl, Below.refl _ _⟩
 have HR : Hid (Tr.right l = Tr.run 0 0 l) := Lib.hid (by unfold Tr.right; rw [decide_eq_true (p := 1 ≤ l.length) (by omega), decide_eq_true (p := l.length ≤ 120) (by omega)]; rfl)
 have H := Lib.hid h
 obtain ⟨b, off, x, rfl, hlt, hx, hkl, c0, c1, c2, c3, c4, c5, c6⟩ := nodes_cell h (k := 0) (by omega)
 have HF := trfirst_any x w
 have HX := Lib.hid (And.intro hx hkl)
 have HL := Lib.hid hl
 have hn1 : 0 < n := by omega
 have HLt := Lib.hid hlt
 clear h hl hx hkl hlt
 unfold ndV at HF
 simp only [Nat.zero_mul, Nat.add_zero] at c0 c1 c2 c3 c4 c5 c6
 go_enter Tryz.func162, Tryz.ntmps162
 cases hd : Tr.head x with
 | false =>
   have HE : Hid (Tr.right l = false) := Lib.hid (by
     rw [HR.out, show Tr.run 0 0 l = Tr.run 0 0 (l.drop 0) by rfl, Tr.run_at HX.out.2, HX.out.1, show Tr.ok 0 0 x = false by unfold Tr.ok; rw [if_pos rfl, hd, Bool.and_false]]
     rfl)
   rw [hd] at HF
   go_wp2_with (go_at_call 179; refine HF.mono ?_; rintro _ w1 ⟨rfl, hb1⟩)
   go_ret
   exact ⟨by rw [HE.out]; rfl, hb1⟩
 | true =>
   rw [hd] at HF
   have HD := Lib.hid hd
   clear hd
   go_wp2_with (go_at_call 179; refine HF.mono ?_; rintro _ w1 ⟨rfl, hb1⟩; have HB1 := Lib.hid hb1; clear hb1 c0 c1 c2 c3 c4 c5 c6)
   clear HF
   go_loopw [3, 4, 22] (fun _ _ i wr => TrRel n l w i wr) (fun _ _ i _ => n - (intOf i).toNat)
   case atStart => exact ⟨0, Nat.zero_le _, rfl, rfl, Int.le_refl _, HB1.out⟩
   case round =>
     obtain ⟨k, hk, rfl, hrun, hto, hB⟩ := hrel
     have HB := Lib.hid hB
     clear hB
     by_cases hlt : k < n
     · obtain ⟨b2, off2, y, ea, hlt2, hy, hky, d0, d1, d2, d3, d4, d5, d6⟩ := nodes_cell (H.out.below HB.out) hlt
       injection ea with ea
       injection ea with eb eo
       subst eb eo
       have HRun := Lib.hid hrun
       rw [Tr.run_at hky, hy] at hrun
       have HStep := Lib.hid hrun
       have HTo := Lib.hid hto
       have HY := Lib.hid (And.intro hy hky)
       clear hrun hto hy hky
       have HSz := Lib.hid (fun W => trsized_any y W)
       have HBd := Lib.hid (fun (hi : -9223372036854775808 < (k : Int) ∧ (k : Int) ≤ 9223372036854775807) W => trbody_any y (k : Int) (Tr.tos l k) hi W)
       have HTS : Hid (Tr.tos l (k + 1) = y.t) := Lib.hid (by rw [Tr.tos_succ, HY.out.1])
       have HHead : Hid (k = 0 → Tr.head y = true) := Lib.hid (by rintro rfl; rw [← HY.out.1, HX.out.1]; exact HD.out)
       have HStT := Lib.hid (sized_to (n := y))
       obtain ⟨p0, p1, p2, p3, p4, p5, p6⟩ := y
       dsimp only at d0 d1 d2 d3 d4 d5 d6
       unfold ndV at HSz HBd
       dsimp only at HSz HBd HTS HStT HStep
       generalize hs : Tr.sizedB ⟨p0, p1, p2, p3, p4, p5, p6⟩ = sb at HSz HStT
       have HS := Lib.hid hs
       clear hs
       rcases k with _ | j
       · have HOk : Hid (Tr.ok 0 (Tr.tos l 0) ⟨p0, p1, p2, p3, p4, p5, p6⟩ = sb) := Lib.hid (by rw [show Tr.tos l 0 = 0 from rfl, first_ok (HHead.out rfl), HS.out])
         clear HS HHead HBd HRun HY HTo
         simp only [Nat.zero_mul, Nat.add_zero] at d0 d1 d2 d3 d4 d5 d6
         go_wp2
         have hh := heap_alloc_new wr (.cells #[.int .i64 p0, .int .i64 p1, .int .i64 p2, .int .i64 p3, .int .i64 p4, .int .i64 p5, .int .i64 p6] 93)
         have q0 := cell_of_row _ _ 0 _ _ _ hh
         have q1 := cell_of_row _ _ 1 _ _ _ hh
         have q2 := cell_of_row _ _ 2 _ _ _ hh
         have q3 := cell_of_row _ _ 3 _ _ _ hh
         have q4 := cell_of_row _ _ 4 _ _ _ hh
         have q5 := cell_of_row _ _ 5 _ _ _ hh
         have q6 := cell_of_row _ _ 6 _ _ _ hh
         have hlp : wr.heap.size < (wr.alloc (.cells #[.int .i64 p0, .int .i64 p1, .int .i64 p2, .int .i64 p3, .int .i64 p4, .int .i64 p5, .int .i64 p6] 93)).heap.size := by simp
         have HBA := Lib.hid (HB.out.alloc HB.out.size (.cells #[.int .i64 p0, .int .i64 p1, .int .i64 p2, .int .i64 p3, .int .i64 p4, .int .i64 p5, .int .i64 p6] 93))
         clear hh
         generalize wr.alloc (.cells #[.int .i64 p0, .int .i64 p1, .int .i64 p2, .int .i64 p3, .int .i64 p4, .int .i64 p5, .int .i64 p6] 93) = w1 at *
         generalize hp : wr.heap.size = p at *
         refine region_k () 47 (fun _ _ W => Below w1.heap.size w1 W) (RtA p p0 p1 p2 p3 p4 p5 p6 sb) (by kernel_rfl) (by kernel_rfl) (by kernel_rfl) rfl rfl (Below.refl _ _).drew ?_ ?_
         · refine ⟨?_, ?_, ?_, ?_, ?_, ?_, ?_, ?_, ?_, ?_, ?_, ?_, ?_, ?_, ?_, ?_, ?_, ?_, ?_, trivial⟩
           · intro x D a w hI hdep hD0 K hK
             have e3 : a.eval (.tmp 3) = .int .i64 (0 : Int) := hI.read 3 rfl
             refine ok_value (wanted_none rfl) (v := .int .i64 (0 : Int)) ?_ (hK x _ _ (hI.world) (fun _ _ _ h => h) rfl)
             obtain ⟨ec, ef⟩ := ecs a; clear hI hdep hK; generalize a.eval = ρ at e3 ec ef ⊢; go_simp
           · intro x D a w hI hdep hD0 K hK
             have e27 : a.eval (.tmp 27) = .int .i64 (0 : Int) := hI.good 0 27 (dep_of hdep 0 rfl) rfl
             refine ok_value (wanted_none rfl) (v := .bool false) ?_ (hK x _ _ (hI.world) (fun _ _ _ h => h) rfl)
             obtain ⟨ec, ef⟩ := ecs a; clear hI hdep hK; generalize a.eval = ρ at e27 ec ef ⊢; go_simp
           · intro x D a w hI hdep hD0 K hK
             have e28 : a.eval (.tmp 28) = .bool false := hI.good 1 28 (dep_of hdep 1 rfl) rfl
             refine ok_value (wanted_none rfl) (v := .bool false) ?_ (hK x _ _ (hI.world) (fun _ _ _ h => h) rfl)
             obtain ⟨ec, ef⟩ := ecs a; clear hI hdep hK; generalize a.eval = ρ at e28 ec ef ⊢; go_simp
           · intro x D a w hI hdep hD0 K hK
             have eg : a.eval (.tmp 29) = .bool false := hI.good 2 29 (dep_of hdep 2 rfl) rfl
             refine ok_not rfl rfl hI.size (by simp) eg (by decide) (hK x undef _ (hI.world) (fun _ _ _ h => h) rfl)
           · intro x D a w hI hdep hD0 K hK
             have eg : a.eval (.tmp 29) = .bool false := hI.good 2 29 (dep_of hdep 2 rfl) rfl
             refine ok_not rfl rfl hI.size (by simp) eg (by decide) (hK x undef _ (hI.world) (fun _ _ _ h => h) rfl)
           · intro x D a w hI hdep hD0 K hK
             have eg : a.eval (.tmp 29) = .bool false := hI.good 2 29 (dep_of hdep 2 rfl) rfl
             refine ok_not rfl rfl hI.size (by simp) eg (by decide) (hK x undef _ (hI.world) (fun _ _ _ h => h) rfl)
           · intro x D a w hI hdep hD0 K hK
             have eg : a.eval (.tmp 29) = .bool false := hI.good 2 29 (dep_of hdep 2 rfl) rfl
             refine ok_not rfl rfl hI.size (by simp) eg (by decide) (hK x undef _ (hI.world) (fun _ _ _ h => h) rfl)
           · intro x D a w hI hdep hD0 K hK
             have eg : a.eval (.tmp 29) = .bool false := hI.good 2 29 (dep_of hdep 2 rfl) rfl
             refine ok_not rfl rfl hI.size (by simp) eg (by decide) (hK x undef _ (hI.world) (fun _ _ _ h => h) rfl)
           · intro x D a w hI hdep hD0 K hK
             have eg : a.eval (.tmp 29) = .bool false := hI.good 2 29 (dep_of hdep 2 rfl) rfl
             refine ok_not rfl rfl hI.size (by simp) eg (by decide) (hK x undef _ (hI.world) (fun _ _ _ h => h) rfl)
           · intro x D a w hI hdep hD0 K hK
             have eg : a.eval (.tmp 29) = .bool false := hI.good 2 29 (dep_of hdep 2 rfl) rfl
             refine ok_not rfl rfl hI.size (by simp) eg (by decide) (hK x undef _ (hI.world) (fun _ _ _ h => h) rfl)
           · intro x D a w hI hdep hD0 K hK
             have eg : a.eval (.tmp 29) = .bool false := hI.good 2 29 (dep_of hdep 2 rfl) rfl
             refine ok_not rfl rfl hI.size (by simp) eg (by decide) (hK x undef _ (hI.world) (fun _ _ _ h => h) rfl)
           · intro x D a w hI hdep hD0 K hK
             have eg : a.eval (.tmp 29) = .bool false := hI.good 2 29 (dep_of hdep 2 rfl) rfl
             refine ok_not rfl rfl hI.size (by simp) eg (by decide) (hK x undef _ (hI.world) (fun _ _ _ h => h) rfl)
           · intro x D a w hI hdep hD0 K hK
             have eg : a.eval (.tmp 29) = .bool false := hI.good 2 29 (dep_of hdep 2 rfl) rfl
             refine ok_not rfl rfl hI.size (by simp) eg (by decide) (hK x undef _ (hI.world) (fun _ _ _ h => h) rfl)
           · intro x D a w hI hdep hD0 K hK
             have e29 : a.eval (.tmp 29) = .bool false := hI.good 2 29 (dep_of hdep 2 rfl) rfl
             refine ok_value (wanted_none rfl) (v := .bool false) ?_ (hK x _ _ (hI.world) (fun _ _ _ h => h) rfl)
             obtain ⟨ec, ef⟩ := ecs a; clear hI hdep hK; generalize a.eval = ρ at e29 ec ef ⊢; go_simp
           · intro x D a w hI hdep hD0 K hK
             have e40 : a.eval (.tmp 40) = .bool false := hI.good 13 40 (dep_of hdep 13 rfl) rfl
             refine ok_value (wanted_none rfl) (v := .bool false) ?_ (hK x _ _ (hI.world) (fun _ _ _ h => h) rfl)
             obtain ⟨ec, ef⟩ := ecs a; clear hI hdep hK; generalize a.eval = ρ at e40 ec ef ⊢; go_simp
           · intro x D a w hI hdep hD0 K hK
             have eg : a.eval (.tmp 41) = .bool false := hI.good 14 41 (dep_of hdep 14 rfl) rfl
             have e4 : a.eval (.tmp 4) = .pointer (some ⟨p, 0, none⟩) := hI.read 4 rfl
             have x0 := (hI.world.cell (p := ⟨p, 0, none⟩) hlp).trans q0
             have x1 := (hI.world.cell (p := ⟨p, 1, none⟩) hlp).trans q1
             have x2 := (hI.world.cell (p := ⟨p, 2, none⟩) hlp).trans q2
             have x3 := (hI.world.cell (p := ⟨p, 3, none⟩) hlp).trans q3
             have x4 := (hI.world.cell (p := ⟨p, 4, none⟩) hlp).trans q4
             have x5 := (hI.world.cell (p := ⟨p, 5, none⟩) hlp).trans q5
             have x6 := (hI.world.cell (p := ⟨p, 6, none⟩) hlp).trans q6
             refine ok_value (wanted_is rfl rfl hI.size (by simp) eg) (v := .agg #[.int .i64 p0, .int .i64 p1, .int .i64 p2, .int .i64 p3, .int .i64 p4, .int .i64 p5, .int .i64 p6]) ?_ (hK x _ _ (hI.world) (fun _ _ _ h => h) rfl)
             obtain ⟨ec, ef⟩ := ecs a; clear hI hdep hK; generalize a.eval = ρ at eg e4 ec ef ⊢; go_simp
           · intro x D a w hI hdep hD0 K hK
             have eg : a.eval (.tmp 41) = .bool false := hI.good 14 41 (dep_of hdep 14 rfl) rfl
             have e42 : a.eval (.tmp 42) = .agg #[.int .i64 p0, .int .i64 p1, .int .i64 p2, .int .i64 p3, .int .i64 p4, .int .i64 p5, .int .i64 p6] := hI.good 15 42 (dep_of hdep 15 rfl) rfl
             refine ok_call (wanted_is rfl rfl hI.size (by simp) eg) (f := 181) (args := #[.agg #[.int .i64 p0, .int .i64 p1, .int .i64 p2, .int .i64 p3, .int .i64 p4, .int .i64 p5, .int .i64 p6]]) ?_ (HSz.out w) ?_
             · obtain ⟨ec, ef⟩ := ecs a; clear hI hdep hK; generalize a.eval = ρ at eg e42 ec ef ⊢; go_simp
             · rintro e w2 ⟨rfl, hb2⟩
               exact ⟨_, rfl, hK x _ _ (hI.world.trans (hb2.mono hI.world.size)) (fun _ _ _ h => h) rfl⟩
           · intro x D a w hI hdep hD0 K hK
             have eg : a.eval (.tmp 41) = .bool false := hI.good 14 41 (dep_of hdep 14 rfl) rfl
             have e43 : a.eval (.tmp 43) = .bool sb := hI.good 16 43 (dep_of hdep 16 rfl) rfl
             refine ok_value (wanted_is rfl rfl hI.size (by simp) eg) (v := .bool (!sb)) ?_ (hK x _ _ (hI.world) (fun _ _ _ h => h) rfl)
             obtain ⟨ec, ef⟩ := ecs a; clear hI hdep hK; generalize a.eval = ρ at eg e43 ec ef ⊢; go_simp
           · intro x D a w hI hdep hD0 K hK
             have e41 : a.eval (.tmp 41) = .bool false := hI.good 14 41 (dep_of hdep 14 rfl) rfl
             have e44 : a.eval (.tmp 44) = .bool (!sb) := hI.good 17 44 (dep_of hdep 17 rfl) rfl
             refine ok_value (wanted_none rfl) (v := .bool (!sb)) ?_ (hK x _ _ (hI.world) (fun _ _ _ h => h) rfl)
             obtain ⟨ec, ef⟩ := ecs a; clear hI hdep hK; generalize a.eval = ρ at e41 e44 ec ef ⊢; go_simp
         · intro x D a w hI hD
           have hfr := hI.frame [(27, .int .i64 (0 : Int)), (28, .bool false), (29, .bool false), (30, undef), (31, undef), (32, undef), (33, undef), (34, undef), (35, undef), (36, undef), (37, undef), (38, undef), (39, undef), (40, .bool false), (41, .bool false), (42, .agg #[.int .i64 p0, .int .i64 p1, .int .i64 p2, .int .i64 p3, .int .i64 p4, .int .i64 p5, .int .i64 p6]), (43, .bool sb), (44, .bool (!sb)), (45, .bool (!sb))] (all_cons (hI.good 0 27 (hD 0 (by decide)) rfl) (all_cons (hI.good 1 28 (hD 1 (by decide)) rfl) (all_cons (hI.good 2 29 (hD 2 (by decide)) rfl) (all_cons (hI.good 3 30 (hD 3 (by decide)) rfl) (all_cons (hI.good 4 31 (hD 4 (by decide)) rfl) (all_cons (hI.good 5 32 (hD 5 (by decide)) rfl) (all_cons (hI.good 6 33 (hD 6 (by decide)) rfl) (all_cons (hI.good 7 34 (hD 7 (by decide)) rfl) (all_cons (hI.good 8 35 (hD 8 (by decide)) rfl) (all_cons (hI.good 9 36 (hD 9 (by decide)) rfl) (all_cons (hI.good 10 37 (hD 10 (by decide)) rfl) (all_cons (hI.good 11 38 (hD 11 (by decide)) rfl) (all_cons (hI.good 12 39 (hD 12 (by decide)) rfl) (all_cons (hI.good 13 40 (hD 13 (by decide)) rfl) (all_cons (hI.good 14 41 (hD 14 (by decide)) rfl) (all_cons (hI.good 15 42 (hD 15 (by decide)) rfl) (all_cons (hI.good 16 43 (hD 16 (by decide)) rfl) (all_cons (hI.good 17 44 (hD 17 (by decide)) rfl) (all_cons (hI.good 18 45 (hD 18 (by decide)) rfl) all_nil))))))))))))))))))) rfl
           have hW := hI.world
           clear hI
           subst hfr
           simp only [List.foldl_cons, List.foldl_nil, List.setIfInBounds_toArray, List.set_cons_succ, List.set_cons_zero]
           have HB2 := Lib.hid (HBA.out.trans (hW.mono HBA.out.size))
           clear hW hD q0 q1 q2 q3 q4 q5 q6
           cases sb with
           | false =>
             have HE : Hid (Tr.right l = false) := Lib.hid (by rw [HR.out, HStep.out, HOk.out]; rfl)
             go_wp2
             go_ret
             exact ⟨by rw [HE.out]; rfl, HB2.out⟩
           | true =>
             go_wp2
             go_roundw
             case rel => exact ⟨1, hlt, by go_num, by rw [HStep.out, HOk.out, Bool.true_and, HTS.out], by rw [HTS.out]; exact HStT.out rfl, HB2.out⟩
             case measure => simp [intOf]; omega
       · have HOk : Hid (Tr.ok (j + 1) (Tr.tos l (j + 1)) ⟨p0, p1, p2, p3, p4, p5, p6⟩ = (Tr.bodyB ⟨p0, p1, p2, p3, p4, p5, p6⟩ ((j + 1 : Nat) : Int) (Tr.tos l (j + 1)) && sb)) := Lib.hid (by rw [body_ok HTo.out (by omega), HS.out])
         obtain ⟨b3, off3, z, ea, hlt3, hz, hkz, _, _, _, _, _, ct, _⟩ := nodes_cell (H.out.below HB.out) (show j < n by omega)
         injection ea with ea
         injection ea with eb eo
         subst eb eo
         have ht : Tr.tos l (j + 1) = z.t := by rw [Tr.tos_succ, hz]
         rw [← ht] at ct
         have HBo := Lib.hid (HBd.out (by omega))
         generalize Tr.tos l (j + 1) = to at HBo HOk HStep ct
         generalize hb : Tr.bodyB ⟨p0, p1, p2, p3, p4, p5, p6⟩ ((j + 1 : Nat) : Int) to = bb at HBo HOk
         rw [show ((j + 1 : Nat) : Int) = (j : Int) + 1 by omega] at HBo
         have hjn : (j : Int) < (n : Int) := by omega
         clear HS HHead HBd HRun HY HTo ht hz hkz hb
         cases bb with
         | false =>
           have HE : Hid (Tr.right l = false) := Lib.hid (by rw [HR.out, HStep.out, HOk.out]; rfl)
           go_wp2
           have hh := heap_alloc_new wr (.cells #[.int .i64 p0, .int .i64 p1, .int .i64 p2, .int .i64 p3, .int .i64 p4, .int .i64 p5, .int .i64 p6] 93)
           have q0 := cell_of_row _ _ 0 _ _ _ hh
           have q1 := cell_of_row _ _ 1 _ _ _ hh
           have q2 := cell_of_row _ _ 2 _ _ _ hh
           have q3 := cell_of_row _ _ 3 _ _ _ hh
           have q4 := cell_of_row _ _ 4 _ _ _ hh
           have q5 := cell_of_row _ _ 5 _ _ _ hh
           have q6 := cell_of_row _ _ 6 _ _ _ hh
           have hlp : wr.heap.size < (wr.alloc (.cells #[.int .i64 p0, .int .i64 p1, .int .i64 p2, .int .i64 p3, .int .i64 p4, .int .i64 p5, .int .i64 p6] 93)).heap.size := by simp
           have HBA := Lib.hid (HB.out.alloc HB.out.size (.cells #[.int .i64 p0, .int .i64 p1, .int .i64 p2, .int .i64 p3, .int .i64 p4, .int .i64 p5, .int .i64 p6] 93))
           clear hh
           have hlb : b < (wr.alloc (.cells #[.int .i64 p0, .int .i64 p1, .int .i64 p2, .int .i64 p3, .int .i64 p4, .int .i64 p5, .int .i64 p6] 93)).heap.size := by have := HB.out.size; have := HLt.out; simp; omega
           have ct := (((Below.refl wr.heap.size wr).alloc (Nat.le_refl _) (.cells #[.int .i64 p0, .int .i64 p1, .int .i64 p2, .int .i64 p3, .int .i64 p4, .int .i64 p5, .int .i64 p6] 93)).cell (p := ⟨b, off + j * 7 + 5, none⟩) (by have := HB.out.size; have := HLt.out; show b < _; omega)).trans ct
           generalize wr.alloc (.cells #[.int .i64 p0, .int .i64 p1, .int .i64 p2, .int .i64 p3, .int .i64 p4, .int .i64 p5, .int .i64 p6] 93) = w1 at *
           generalize hp : wr.heap.size = p at *
           refine region_k () 47 (fun _ _ W => Below w1.heap.size w1 W) (RtB b off n c j p to p0 p1 p2 p3 p4 p5 p6) (by kernel_rfl) (by kernel_rfl) (by kernel_rfl) rfl rfl (Below.refl _ _).drew ?_ ?_
           · refine ⟨?_, ?_, ?_, ?_, ?_, ?_, ?_, ?_, ?_, ?_, ?_, ?_, ?_, ?_, ?_, ?_, ?_, ?_, ?_, trivial⟩
             · intro x D a w hI hdep hD0 K hK
               have e3 : a.eval (.tmp 3) = .int .i64 ((j : Int) + 1) := hI.read 3 rfl
               refine ok_value (wanted_none rfl) (v := .int .i64 ((j : Int) + 1)) ?_ (hK x _ _ (hI.world) (fun _ _ _ h => h) rfl)
               obtain ⟨ec, ef⟩ := ecs a; clear hI hdep hK; generalize a.eval = ρ at e3 ec ef ⊢; go_simp
             · intro x D a w hI hdep hD0 K hK
               have e27 : a.eval (.tmp 27) = .int .i64 ((j : Int) + 1) := hI.good 0 27 (dep_of hdep 0 rfl) rfl
               refine ok_value (wanted_none rfl) (v := .bool true) ?_ (hK x _ _ (hI.world) (fun _ _ _ h => h) rfl)
               obtain ⟨ec, ef⟩ := ecs a; clear hI hdep hK; generalize a.eval = ρ at e27 ec ef ⊢; go_simp
             · intro x D a w hI hdep hD0 K hK
               have e28 : a.eval (.tmp 28) = .bool true := hI.good 1 28 (dep_of hdep 1 rfl) rfl
               refine ok_value (wanted_none rfl) (v := .bool true) ?_ (hK x _ _ (hI.world) (fun _ _ _ h => h) rfl)
               obtain ⟨ec, ef⟩ := ecs a; clear hI hdep hK; generalize a.eval = ρ at e28 ec ef ⊢; go_simp
             · intro x D a w hI hdep hD0 K hK
               have eg : a.eval (.tmp 29) = .bool true := hI.good 2 29 (dep_of hdep 2 rfl) rfl
               have e4 : a.eval (.tmp 4) = .pointer (some ⟨p, 0, none⟩) := hI.read 4 rfl
               have x0 := (hI.world.cell (p := ⟨p, 0, none⟩) hlp).trans q0
               have x1 := (hI.world.cell (p := ⟨p, 1, none⟩) hlp).trans q1
               have x2 := (hI.world.cell (p := ⟨p, 2, none⟩) hlp).trans q2
               have x3 := (hI.world.cell (p := ⟨p, 3, none⟩) hlp).trans q3
               have x4 := (hI.world.cell (p := ⟨p, 4, none⟩) hlp).trans q4
               have x5 := (hI.world.cell (p := ⟨p, 5, none⟩) hlp).trans q5
               have x6 := (hI.world.cell (p := ⟨p, 6, none⟩) hlp).trans q6
               refine ok_value (wanted_is rfl rfl hI.size (by simp) eg) (v := .agg #[.int .i64 p0, .int .i64 p1, .int .i64 p2, .int .i64 p3, .int .i64 p4, .int .i64 p5, .int .i64 p6]) ?_ (hK x _ _ (hI.world) (fun _ _ _ h => h) rfl)
               obtain ⟨ec, ef⟩ := ecs a; clear hI hdep hK; generalize a.eval = ρ at eg e4 ec ef ⊢; go_simp
             · intro x D a w hI hdep hD0 K hK
               have eg : a.eval (.tmp 29) = .bool true := hI.good 2 29 (dep_of hdep 2 rfl) rfl
               have e3 : a.eval (.tmp 3) = .int .i64 ((j : Int) + 1) := hI.read 3 rfl
               refine ok_value (wanted_is rfl rfl hI.size (by simp) eg) (v := .int .i64 ((j : Int) + 1)) ?_ (hK x _ _ (hI.world) (fun _ _ _ h => h) rfl)
               obtain ⟨ec, ef⟩ := ecs a; clear hI hdep hK; generalize a.eval = ρ at eg e3 ec ef ⊢; go_simp
             · intro x D a w hI hdep hD0 K hK
               have eg : a.eval (.tmp 29) = .bool true := hI.good 2 29 (dep_of hdep 2 rfl) rfl
               have e0 : a.eval (.tmp 0) = .slice (some ⟨b, off, none⟩) n c := hI.read 0 rfl
               refine ok_value (wanted_is rfl rfl hI.size (by simp) eg) (v := .slice (some ⟨b, off, none⟩) n c) ?_ (hK x _ _ (hI.world) (fun _ _ _ h => h) rfl)
               obtain ⟨ec, ef⟩ := ecs a; clear hI hdep hK; generalize a.eval = ρ at eg e0 ec ef ⊢; go_simp
             · intro x D a w hI hdep hD0 K hK
               have eg : a.eval (.tmp 29) = .bool true := hI.good 2 29 (dep_of hdep 2 rfl) rfl
               have e3 : a.eval (.tmp 3) = .int .i64 ((j : Int) + 1) := hI.read 3 rfl
               refine ok_value (wanted_is rfl rfl hI.size (by simp) eg) (v := .int .i64 ((j : Int) + 1)) ?_ (hK x _ _ (hI.world) (fun _ _ _ h => h) rfl)
               obtain ⟨ec, ef⟩ := ecs a; clear hI hdep hK; generalize a.eval = ρ at eg e3 ec ef ⊢; go_simp
             · intro x D a w hI hdep hD0 K hK
               have eg : a.eval (.tmp 29) = .bool true := hI.good 2 29 (dep_of hdep 2 rfl) rfl
               have e33 : a.eval (.tmp 33) = .int .i64 ((j : Int) + 1) := hI.good 6 33 (dep_of hdep 6 rfl) rfl
               refine ok_value (wanted_is rfl rfl hI.size (by simp) eg) (v := .int .i64 (j : Int)) ?_ (hK x _ _ (hI.world) (fun _ _ _ h => h) rfl)
               obtain ⟨ec, ef⟩ := ecs a; clear hI hdep hK; generalize a.eval = ρ at eg e33 ec ef ⊢; go_simp
               rw [IntKind.wrap_i64]
               omega
             · intro x D a w hI hdep hD0 K hK
               have eg : a.eval (.tmp 29) = .bool true := hI.good 2 29 (dep_of hdep 2 rfl) rfl
               have e32 : a.eval (.tmp 32) = .slice (some ⟨b, off, none⟩) n c := hI.good 5 32 (dep_of hdep 5 rfl) rfl
               have e34 : a.eval (.tmp 34) = .int .i64 (j : Int) := hI.good 7 34 (dep_of hdep 7 rfl) rfl
               refine ok_value (wanted_is rfl rfl hI.size (by simp) eg) (v := .pointer (some ⟨b, off + j * 7, none⟩)) ?_ (hK x _ _ (hI.world) (fun _ _ _ h => h) rfl)
               obtain ⟨ec, ef⟩ := ecs a; clear hI hdep hK; generalize a.eval = ρ at eg e32 e34 ec ef ⊢; go_simp
             · intro x D a w hI hdep hD0 K hK
               have eg : a.eval (.tmp 29) = .bool true := hI.good 2 29 (dep_of hdep 2 rfl) rfl
               have e35 : a.eval (.tmp 35) = .pointer (some ⟨b, off + j * 7, none⟩) := hI.good 8 35 (dep_of hdep 8 rfl) rfl
               refine ok_value (wanted_is rfl rfl hI.size (by simp) eg) (v := .pointer (some ⟨b, off + j * 7 + 5, none⟩)) ?_ (hK x _ _ (hI.world) (fun _ _ _ h => h) rfl)
               obtain ⟨ec, ef⟩ := ecs a; clear hI hdep hK; generalize a.eval = ρ at eg e35 ec ef ⊢; go_simp
             · intro x D a w hI hdep hD0 K hK
               have eg : a.eval (.tmp 29) = .bool true := hI.good 2 29 (dep_of hdep 2 rfl) rfl
               have e36 : a.eval (.tmp 36) = .pointer (some ⟨b, off + j * 7 + 5, none⟩) := hI.good 9 36 (dep_of hdep 9 rfl) rfl
               have x0 := (hI.world.cell (p := ⟨b, off + j * 7 + 5, none⟩) hlb).trans ct
               refine ok_value (wanted_is rfl rfl hI.size (by simp) eg) (v := .int .i64 to) ?_ (hK x _ _ (hI.world) (fun _ _ _ h => h) rfl)
               obtain ⟨ec, ef⟩ := ecs a; clear hI hdep hK; generalize a.eval = ρ at eg e36 ec ef ⊢; go_simp
             · intro x D a w hI hdep hD0 K hK
               have eg : a.eval (.tmp 29) = .bool true := hI.good 2 29 (dep_of hdep 2 rfl) rfl
               have e30 : a.eval (.tmp 30) = .agg #[.int .i64 p0, .int .i64 p1, .int .i64 p2, .int .i64 p3, .int .i64 p4, .int .i64 p5, .int .i64 p6] := hI.good 3 30 (dep_of hdep 3 rfl) rfl
               have e31 : a.eval (.tmp 31) = .int .i64 ((j : Int) + 1) := hI.good 4 31 (dep_of hdep 4 rfl) rfl
               have e37 : a.eval (.tmp 37) = .int .i64 to := hI.good 10 37 (dep_of hdep 10 rfl) rfl
               refine ok_call (wanted_is rfl rfl hI.size (by simp) eg) (f := 180) (args := #[.agg #[.int .i64 p0, .int .i64 p1, .int .i64 p2, .int .i64 p3, .int .i64 p4, .int .i64 p5, .int .i64 p6], .int .i64 ((j : Int) + 1), .int .i64 to]) ?_ (HBo.out w) ?_
               · obtain ⟨ec, ef⟩ := ecs a; clear hI hdep hK; generalize a.eval = ρ at eg e30 e31 e37 ec ef ⊢; go_simp
               · rintro e w2 ⟨rfl, hb2⟩
                 exact ⟨_, rfl, hK x _ _ (hI.world.trans (hb2.mono hI.world.size)) (fun _ _ _ h => h) rfl⟩
             · intro x D a w hI hdep hD0 K hK
               have eg : a.eval (.tmp 29) = .bool true := hI.good 2 29 (dep_of hdep 2 rfl) rfl
               have e38 : a.eval (.tmp 38) = .bool false := hI.good 11 38 (dep_of hdep 11 rfl) rfl
               refine ok_value (wanted_is rfl rfl hI.size (by simp) eg) (v := .bool true) ?_ (hK x _ _ (hI.world) (fun _ _ _ h => h) rfl)
               obtain ⟨ec, ef⟩ := ecs a; clear hI hdep hK; generalize a.eval = ρ at eg e38 ec ef ⊢; go_simp
             · intro x D a w hI hdep hD0 K hK
               have e29 : a.eval (.tmp 29) = .bool true := hI.good 2 29 (dep_of hdep 2 rfl) rfl
               have e39 : a.eval (.tmp 39) = .bool true := hI.good 12 39 (dep_of hdep 12 rfl) rfl
               refine ok_value (wanted_none rfl) (v := .bool true) ?_ (hK x _ _ (hI.world) (fun _ _ _ h => h) rfl)
               obtain ⟨ec, ef⟩ := ecs a; clear hI hdep hK; generalize a.eval = ρ at e29 e39 ec ef ⊢; go_simp
             · intro x D a w hI hdep hD0 K hK
               have e40 : a.eval (.tmp 40) = .bool true := hI.good 13 40 (dep_of hdep 13 rfl) rfl
               refine ok_value (wanted_none rfl) (v := .bool true) ?_ (hK x _ _ (hI.world) (fun _ _ _ h => h) rfl)
               obtain ⟨ec, ef⟩ := ecs a; clear hI hdep hK; generalize a.eval = ρ at e40 ec ef ⊢; go_simp
             · intro x D a w hI hdep hD0 K hK
               have eg : a.eval (.tmp 41) = .bool true := hI.good 14 41 (dep_of hdep 14 rfl) rfl
               refine ok_not rfl rfl hI.size (by simp) eg (by decide) (hK x undef _ (hI.world) (fun _ _ _ h => h) rfl)
             · intro x D a w hI hdep hD0 K hK
               have eg : a.eval (.tmp 41) = .bool true := hI.good 14 41 (dep_of hdep 14 rfl) rfl
               refine ok_not rfl rfl hI.size (by simp) eg (by decide) (hK x undef _ (hI.world) (fun _ _ _ h => h) rfl)
             · intro x D a w hI hdep hD0 K hK
               have eg : a.eval (.tmp 41) = .bool true := hI.good 14 41 (dep_of hdep 14 rfl) rfl
               refine ok_not rfl rfl hI.size (by simp) eg (by decide) (hK x undef _ (hI.world) (fun _ _ _ h => h) rfl)
             · intro x D a w hI hdep hD0 K hK
               have e41 : a.eval (.tmp 41) = .bool true := hI.good 14 41 (dep_of hdep 14 rfl) rfl
               refine ok_value (wanted_none rfl) (v := .bool true) ?_ (hK x _ _ (hI.world) (fun _ _ _ h => h) rfl)
               obtain ⟨ec, ef⟩ := ecs a; clear hI hdep hK; generalize a.eval = ρ at e41 ec ef ⊢; go_simp
           · intro x D a w hI hD
             have hfr := hI.frame [(27, .int .i64 ((j : Int) + 1)), (28, .bool true), (29, .bool true), (30, .agg #[.int .i64 p0, .int .i64 p1, .int .i64 p2, .int .i64 p3, .int .i64 p4, .int .i64 p5, .int .i64 p6]), (31, .int .i64 ((j : Int) + 1)), (32, .slice (some ⟨b, off, none⟩) n c), (33, .int .i64 ((j : Int) + 1)), (34, .int .i64 (j : Int)), (35, .pointer (some ⟨b, off + j * 7, none⟩)), (36, .pointer (some ⟨b, off + j * 7 + 5, none⟩)), (37, .int .i64 to), (38, .bool false), (39, .bool true), (40, .bool true), (41, .bool true), (42, undef), (43, undef), (44, undef), (45, .bool true)] (all_cons (hI.good 0 27 (hD 0 (by decide)) rfl) (all_cons (hI.good 1 28 (hD 1 (by decide)) rfl) (all_cons (hI.good 2 29 (hD 2 (by decide)) rfl) (all_cons (hI.good 3 30 (hD 3 (by decide)) rfl) (all_cons (hI.good 4 31 (hD 4 (by decide)) rfl) (all_cons (hI.good 5 32 (hD 5 (by decide)) rfl) (all_cons (hI.good 6 33 (hD 6 (by decide)) rfl) (all_cons (hI.good 7 34 (hD 7 (by decide)) rfl) (all_cons (hI.good 8 35 (hD 8 (by decide)) rfl) (all_cons (hI.good 9 36 (hD 9 (by decide)) rfl) (all_cons (hI.good 10 37 (hD 10 (by decide)) rfl) (all_cons (hI.good 11 38 (hD 11 (by decide)) rfl) (all_cons (hI.good 12 39 (hD 12 (by decide)) rfl) (all_cons (hI.good 13 40 (hD 13 (by decide)) rfl) (all_cons (hI.good 14 41 (hD 14 (by decide)) rfl) (all_cons (hI.good 15 42 (hD 15 (by decide)) rfl) (all_cons (hI.good 16 43 (hD 16 (by decide)) rfl) (all_cons (hI.good 17 44 (hD 17 (by decide)) rfl) (all_cons (hI.good 18 45 (hD 18 (by decide)) rfl) all_nil))))))))))))))))))) rfl
             have hW := hI.world
             clear hI
             subst hfr
             simp only [List.foldl_cons, List.foldl_nil, List.setIfInBounds_toArray, List.set_cons_succ, List.set_cons_zero]
             have HB2 := Lib.hid (HBA.out.trans (hW.mono HBA.out.size))
             clear hW hD q0 q1 q2 q3 q4 q5 q6
             go_wp2
             go_ret
             exact ⟨by rw [HE.out]; rfl, HB2.out⟩
         | true =>
           go_wp2
           have hh := heap_alloc_new wr (.cells #[.int .i64 p0, .int .i64 p1, .int .i64 p2, .int .i64 p3, .int .i64 p4, .int .i64 p5, .int .i64 p6] 93)
           have q0 := cell_of_row _ _ 0 _ _ _ hh
           have q1 := cell_of_row _ _ 1 _ _ _ hh
           have q2 := cell_of_row _ _ 2 _ _ _ hh
           have q3 := cell_of_row _ _ 3 _ _ _ hh
           have q4 := cell_of_row _ _ 4 _ _ _ hh
           have q5 := cell_of_row _ _ 5 _ _ _ hh
           have q6 := cell_of_row _ _ 6 _ _ _ hh
           have hlp : wr.heap.size < (wr.alloc (.cells #[.int .i64 p0, .int .i64 p1, .int .i64 p2, .int .i64 p3, .int .i64 p4, .int .i64 p5, .int .i64 p6] 93)).heap.size := by simp
           have HBA := Lib.hid (HB.out.alloc HB.out.size (.cells #[.int .i64 p0, .int .i64 p1, .int .i64 p2, .int .i64 p3, .int .i64 p4, .int .i64 p5, .int .i64 p6] 93))
           clear hh
           have hlb : b < (wr.alloc (.cells #[.int .i64 p0, .int .i64 p1, .int .i64 p2, .int .i64 p3, .int .i64 p4, .int .i64 p5, .int .i64 p6] 93)).heap.size := by have := HB.out.size; have := HLt.out; simp; omega
           have ct := (((Below.refl wr.heap.size wr).alloc (Nat.le_refl _) (.cells #[.int .i64 p0, .int .i64 p1, .int .i64 p2, .int .i64 p3, .int .i64 p4, .int .i64 p5, .int .i64 p6] 93)).cell (p := ⟨b, off + j * 7 + 5, none⟩) (by have := HB.out.size; have := HLt.out; show b < _; omega)).trans ct
           generalize wr.alloc (.cells #[.int .i64 p0, .int .i64 p1, .int .i64 p2, .int .i64 p3, .int .i64 p4, .int .i64 p5, .int .i64 p6] 93) = w1 at *
           generalize hp : wr.heap.size = p at *
           refine region_k () 47 (fun _ _ W => Below w1.heap.size w1 W) (RtC b off n c j p to p0 p1 p2 p3 p4 p5 p6 sb) (by kernel_rfl) (by kernel_rfl) (by kernel_rfl) rfl rfl (Below.refl _ _).drew ?_ ?_
           · refine ⟨?_, ?_, ?_, ?_, ?_, ?_, ?_, ?_, ?_, ?_, ?_, ?_, ?_, ?_, ?_, ?_, ?_, ?_, ?_, trivial⟩
             · intro x D a w hI hdep hD0 K hK
               have e3 : a.eval (.tmp 3) = .int .i64 ((j : Int) + 1) := hI.read 3 rfl
               refine ok_value (wanted_none rfl) (v := .int .i64 ((j : Int) + 1)) ?_ (hK x _ _ (hI.world) (fun _ _ _ h => h) rfl)
               obtain ⟨ec, ef⟩ := ecs a; clear hI hdep hK; generalize a.eval = ρ at e3 ec ef ⊢; go_simp
             · intro x D a w hI hdep hD0 K hK
               have e27 : a.eval (.tmp 27) = .int .i64 ((j : Int) + 1) := hI.good 0 27 (dep_of hdep 0 rfl) rfl
               refine ok_value (wanted_none rfl) (v := .bool true) ?_ (hK x _ _ (hI.world) (fun _ _ _ h => h) rfl)
               obtain ⟨ec, ef⟩ := ecs a; clear hI hdep hK; generalize a.eval = ρ at e27 ec ef ⊢; go_simp
             · intro x D a w hI hdep hD0 K hK
               have e28 : a.eval (.tmp 28) = .bool true := hI.good 1 28 (dep_of hdep 1 rfl) rfl
               refine ok_value (wanted_none rfl) (v := .bool true) ?_ (hK x _ _ (hI.world) (fun _ _ _ h => h) rfl)
               obtain ⟨ec, ef⟩ := ecs a; clear hI hdep hK; generalize a.eval = ρ at e28 ec ef ⊢; go_simp
             · intro x D a w hI hdep hD0 K hK
               have eg : a.eval (.tmp 29) = .bool true := hI.good 2 29 (dep_of hdep 2 rfl) rfl
               have e4 : a.eval (.tmp 4) = .pointer (some ⟨p, 0, none⟩) := hI.read 4 rfl
               have x0 := (hI.world.cell (p := ⟨p, 0, none⟩) hlp).trans q0
               have x1 := (hI.world.cell (p := ⟨p, 1, none⟩) hlp).trans q1
               have x2 := (hI.world.cell (p := ⟨p, 2, none⟩) hlp).trans q2
               have x3 := (hI.world.cell (p := ⟨p, 3, none⟩) hlp).trans q3
               have x4 := (hI.world.cell (p := ⟨p, 4, none⟩) hlp).trans q4
               have x5 := (hI.world.cell (p := ⟨p, 5, none⟩) hlp).trans q5
               have x6 := (hI.world.cell (p := ⟨p, 6, none⟩) hlp).trans q6
               refine ok_value (wanted_is rfl rfl hI.size (by simp) eg) (v := .agg #[.int .i64 p0, .int .i64 p1, .int .i64 p2, .int .i64 p3, .int .i64 p4, .int .i64 p5, .int .i64 p6]) ?_ (hK x _ _ (hI.world) (fun _ _ _ h => h) rfl)
               obtain ⟨ec, ef⟩ := ecs a; clear hI hdep hK; generalize a.eval = ρ at eg e4 ec ef ⊢; go_simp
             · intro x D a w hI hdep hD0 K hK
               have eg : a.eval (.tmp 29) = .bool true := hI.good 2 29 (dep_of hdep 2 rfl) rfl
               have e3 : a.eval (.tmp 3) = .int .i64 ((j : Int) + 1) := hI.read 3 rfl
               refine ok_value (wanted_is rfl rfl hI.size (by simp) eg) (v := .int .i64 ((j : Int) + 1)) ?_ (hK x _ _ (hI.world) (fun _ _ _ h => h) rfl)
               obtain ⟨ec, ef⟩ := ecs a; clear hI hdep hK; generalize a.eval = ρ at eg e3 ec ef ⊢; go_simp
             · intro x D a w hI hdep hD0 K hK
               have eg : a.eval (.tmp 29) = .bool true := hI.good 2 29 (dep_of hdep 2 rfl) rfl
               have e0 : a.eval (.tmp 0) = .slice (some ⟨b, off, none⟩) n c := hI.read 0 rfl
               refine ok_value (wanted_is rfl rfl hI.size (by simp) eg) (v := .slice (some ⟨b, off, none⟩) n c) ?_ (hK x _ _ (hI.world) (fun _ _ _ h => h) rfl)
               obtain ⟨ec, ef⟩ := ecs a; clear hI hdep hK; generalize a.eval = ρ at eg e0 ec ef ⊢; go_simp
             · intro x D a w hI hdep hD0 K hK
               have eg : a.eval (.tmp 29) = .bool true := hI.good 2 29 (dep_of hdep 2 rfl) rfl
               have e3 : a.eval (.tmp 3) = .int .i64 ((j : Int) + 1) := hI.read 3 rfl
               refine ok_value (wanted_is rfl rfl hI.size (by simp) eg) (v := .int .i64 ((j : Int) + 1)) ?_ (hK x _ _ (hI.world) (fun _ _ _ h => h) rfl)
               obtain ⟨ec, ef⟩ := ecs a; clear hI hdep hK; generalize a.eval = ρ at eg e3 ec ef ⊢; go_simp
             · intro x D a w hI hdep hD0 K hK
               have eg : a.eval (.tmp 29) = .bool true := hI.good 2 29 (dep_of hdep 2 rfl) rfl
               have e33 : a.eval (.tmp 33) = .int .i64 ((j : Int) + 1) := hI.good 6 33 (dep_of hdep 6 rfl) rfl
               refine ok_value (wanted_is rfl rfl hI.size (by simp) eg) (v := .int .i64 (j : Int)) ?_ (hK x _ _ (hI.world) (fun _ _ _ h => h) rfl)
               obtain ⟨ec, ef⟩ := ecs a; clear hI hdep hK; generalize a.eval = ρ at eg e33 ec ef ⊢; go_simp
               rw [IntKind.wrap_i64]
               omega
             · intro x D a w hI hdep hD0 K hK
               have eg : a.eval (.tmp 29) = .bool true := hI.good 2 29 (dep_of hdep 2 rfl) rfl
               have e32 : a.eval (.tmp 32) = .slice (some ⟨b, off, none⟩) n c := hI.good 5 32 (dep_of hdep 5 rfl) rfl
               have e34 : a.eval (.tmp 34) = .int .i64 (j : Int) := hI.good 7 34 (dep_of hdep 7 rfl) rfl
               refine ok_value (wanted_is rfl rfl hI.size (by simp) eg) (v := .pointer (some ⟨b, off + j * 7, none⟩)) ?_ (hK x _ _ (hI.world) (fun _ _ _ h => h) rfl)
               obtain ⟨ec, ef⟩ := ecs a; clear hI hdep hK; generalize a.eval = ρ at eg e32 e34 ec ef ⊢; go_simp
             · intro x D a w hI hdep hD0 K hK
               have eg : a.eval (.tmp 29) = .bool true := hI.good 2 29 (dep_of hdep 2 rfl) rfl
               have e35 : a.eval (.tmp 35) = .pointer (some ⟨b, off + j * 7, none⟩) := hI.good 8 35 (dep_of hdep 8 rfl) rfl
               refine ok_value (wanted_is rfl rfl hI.size (by simp) eg) (v := .pointer (some ⟨b, off + j * 7 + 5, none⟩)) ?_ (hK x _ _ (hI.world) (fun _ _ _ h => h) rfl)
               obtain ⟨ec, ef⟩ := ecs a; clear hI hdep hK; generalize a.eval = ρ at eg e35 ec ef ⊢; go_simp
             · intro x D a w hI hdep hD0 K hK
               have eg : a.eval (.tmp 29) = .bool true := hI.good 2 29 (dep_of hdep 2 rfl) rfl
               have e36 : a.eval (.tmp 36) = .pointer (some ⟨b, off + j * 7 + 5, none⟩) := hI.good 9 36 (dep_of hdep 9 rfl) rfl
               have x0 := (hI.world.cell (p := ⟨b, off + j * 7 + 5, none⟩) hlb).trans ct
               refine ok_value (wanted_is rfl rfl hI.size (by simp) eg) (v := .int .i64 to) ?_ (hK x _ _ (hI.world) (fun _ _ _ h => h) rfl)
               obtain ⟨ec, ef⟩ := ecs a; clear hI hdep hK; generalize a.eval = ρ at eg e36 ec ef ⊢; go_simp
             · intro x D a w hI hdep hD0 K hK
               have eg : a.eval (.tmp 29) = .bool true := hI.good 2 29 (dep_of hdep 2 rfl) rfl
               have e30 : a.eval (.tmp 30) = .agg #[.int .i64 p0, .int .i64 p1, .int .i64 p2, .int .i64 p3, .int .i64 p4, .int .i64 p5, .int .i64 p6] := hI.good 3 30 (dep_of hdep 3 rfl) rfl
               have e31 : a.eval (.tmp 31) = .int .i64 ((j : Int) + 1) := hI.good 4 31 (dep_of hdep 4 rfl) rfl
               have e37 : a.eval (.tmp 37) = .int .i64 to := hI.good 10 37 (dep_of hdep 10 rfl) rfl
               refine ok_call (wanted_is rfl rfl hI.size (by simp) eg) (f := 180) (args := #[.agg #[.int .i64 p0, .int .i64 p1, .int .i64 p2, .int .i64 p3, .int .i64 p4, .int .i64 p5, .int .i64 p6], .int .i64 ((j : Int) + 1), .int .i64 to]) ?_ (HBo.out w) ?_
               · obtain ⟨ec, ef⟩ := ecs a; clear hI hdep hK; generalize a.eval = ρ at eg e30 e31 e37 ec ef ⊢; go_simp
               · rintro e w2 ⟨rfl, hb2⟩
                 exact ⟨_, rfl, hK x _ _ (hI.world.trans (hb2.mono hI.world.size)) (fun _ _ _ h => h) rfl⟩
             · intro x D a w hI hdep hD0 K hK
               have eg : a.eval (.tmp 29) = .bool true := hI.good 2 29 (dep_of hdep 2 rfl) rfl
               have e38 : a.eval (.tmp 38) = .bool true := hI.good 11 38 (dep_of hdep 11 rfl) rfl
               refine ok_value (wanted_is rfl rfl hI.size (by simp) eg) (v := .bool false) ?_ (hK x _ _ (hI.world) (fun _ _ _ h => h) rfl)
               obtain ⟨ec, ef⟩ := ecs a; clear hI hdep hK; generalize a.eval = ρ at eg e38 ec ef ⊢; go_simp
             · intro x D a w hI hdep hD0 K hK
               have e29 : a.eval (.tmp 29) = .bool true := hI.good 2 29 (dep_of hdep 2 rfl) rfl
               have e39 : a.eval (.tmp 39) = .bool false := hI.good 12 39 (dep_of hdep 12 rfl) rfl
               refine ok_value (wanted_none rfl) (v := .bool false) ?_ (hK x _ _ (hI.world) (fun _ _ _ h => h) rfl)
               obtain ⟨ec, ef⟩ := ecs a; clear hI hdep hK; generalize a.eval = ρ at e29 e39 ec ef ⊢; go_simp
             · intro x D a w hI hdep hD0 K hK
               have e40 : a.eval (.tmp 40) = .bool false := hI.good 13 40 (dep_of hdep 13 rfl) rfl
               refine ok_value (wanted_none rfl) (v := .bool false) ?_ (hK x _ _ (hI.world) (fun _ _ _ h => h) rfl)
               obtain ⟨ec, ef⟩ := ecs a; clear hI hdep hK; generalize a.eval = ρ at e40 ec ef ⊢; go_simp
             · intro x D a w hI hdep hD0 K hK
               have eg : a.eval (.tmp 41) = .bool false := hI.good 14 41 (dep_of hdep 14 rfl) rfl
               have e4 : a.eval (.tmp 4) = .pointer (some ⟨p, 0, none⟩) := hI.read 4 rfl
               have x0 := (hI.world.cell (p := ⟨p, 0, none⟩) hlp).trans q0
               have x1 := (hI.world.cell (p := ⟨p, 1, none⟩) hlp).trans q1
               have x2 := (hI.world.cell (p := ⟨p, 2, none⟩) hlp).trans q2
               have x3 := (hI.world.cell (p := ⟨p, 3, none⟩) hlp).trans q3
               have x4 := (hI.world.cell (p := ⟨p, 4, none⟩) hlp).trans q4
               have x5 := (hI.world.cell (p := ⟨p, 5, none⟩) hlp).trans q5
               have x6 := (hI.world.cell (p := ⟨p, 6, none⟩) hlp).trans q6
               refine ok_value (wanted_is rfl rfl hI.size (by simp) eg) (v := .agg #[.int .i64 p0, .int .i64 p1, .int .i64 p2, .int .i64 p3, .int .i64 p4, .int .i64 p5, .int .i64 p6]) ?_ (hK x _ _ (hI.world) (fun _ _ _ h => h) rfl)
               obtain ⟨ec, ef⟩ := ecs a; clear hI hdep hK; generalize a.eval = ρ at eg e4 ec ef ⊢; go_simp
             · intro x D a w hI hdep hD0 K hK
               have eg : a.eval (.tmp 41) = .bool false := hI.good 14 41 (dep_of hdep 14 rfl) rfl
               have e42 : a.eval (.tmp 42) = .agg #[.int .i64 p0, .int .i64 p1, .int .i64 p2, .int .i64 p3, .int .i64 p4, .int .i64 p5, .int .i64 p6] := hI.good 15 42 (dep_of hdep 15 rfl) rfl
               refine ok_call (wanted_is rfl rfl hI.size (by simp) eg) (f := 181) (args := #[.agg #[.int .i64 p0, .int .i64 p1, .int .i64 p2, .int .i64 p3, .int .i64 p4, .int .i64 p5, .int .i64 p6]]) ?_ (HSz.out w) ?_
               · obtain ⟨ec, ef⟩ := ecs a; clear hI hdep hK; generalize a.eval = ρ at eg e42 ec ef ⊢; go_simp
               · rintro e w2 ⟨rfl, hb2⟩
                 exact ⟨_, rfl, hK x _ _ (hI.world.trans (hb2.mono hI.world.size)) (fun _ _ _ h => h) rfl⟩
             · intro x D a w hI hdep hD0 K hK
               have eg : a.eval (.tmp 41) = .bool false := hI.good 14 41 (dep_of hdep 14 rfl) rfl
               have e43 : a.eval (.tmp 43) = .bool sb := hI.good 16 43 (dep_of hdep 16 rfl) rfl
               refine ok_value (wanted_is rfl rfl hI.size (by simp) eg) (v := .bool (!sb)) ?_ (hK x _ _ (hI.world) (fun _ _ _ h => h) rfl)
               obtain ⟨ec, ef⟩ := ecs a; clear hI hdep hK; generalize a.eval = ρ at eg e43 ec ef ⊢; go_simp
             · intro x D a w hI hdep hD0 K hK
               have e41 : a.eval (.tmp 41) = .bool false := hI.good 14 41 (dep_of hdep 14 rfl) rfl
               have e44 : a.eval (.tmp 44) = .bool (!sb) := hI.good 17 44 (dep_of hdep 17 rfl) rfl
               refine ok_value (wanted_none rfl) (v := .bool (!sb)) ?_ (hK x _ _ (hI.world) (fun _ _ _ h => h) rfl)
               obtain ⟨ec, ef⟩ := ecs a; clear hI hdep hK; generalize a.eval = ρ at e41 e44 ec ef ⊢; go_simp
           · intro x D a w hI hD
             have hfr := hI.frame [(27, .int .i64 ((j : Int) + 1)), (28, .bool true), (29, .bool true), (30, .agg #[.int .i64 p0, .int .i64 p1, .int .i64 p2, .int .i64 p3, .int .i64 p4, .int .i64 p5, .int .i64 p6]), (31, .int .i64 ((j : Int) + 1)), (32, .slice (some ⟨b, off, none⟩) n c), (33, .int .i64 ((j : Int) + 1)), (34, .int .i64 (j : Int)), (35, .pointer (some ⟨b, off + j * 7, none⟩)), (36, .pointer (some ⟨b, off + j * 7 + 5, none⟩)), (37, .int .i64 to), (38, .bool true), (39, .bool false), (40, .bool false), (41, .bool false), (42, .agg #[.int .i64 p0, .int .i64 p1, .int .i64 p2, .int .i64 p3, .int .i64 p4, .int .i64 p5, .int .i64 p6]), (43, .bool sb), (44, .bool (!sb)), (45, .bool (!sb))] (all_cons (hI.good 0 27 (hD 0 (by decide)) rfl) (all_cons (hI.good 1 28 (hD 1 (by decide)) rfl) (all_cons (hI.good 2 29 (hD 2 (by decide)) rfl) (all_cons (hI.good 3 30 (hD 3 (by decide)) rfl) (all_cons (hI.good 4 31 (hD 4 (by decide)) rfl) (all_cons (hI.good 5 32 (hD 5 (by decide)) rfl) (all_cons (hI.good 6 33 (hD 6 (by decide)) rfl) (all_cons (hI.good 7 34 (hD 7 (by decide)) rfl) (all_cons (hI.good 8 35 (hD 8 (by decide)) rfl) (all_cons (hI.good 9 36 (hD 9 (by decide)) rfl) (all_cons (hI.good 10 37 (hD 10 (by decide)) rfl) (all_cons (hI.good 11 38 (hD 11 (by decide)) rfl) (all_cons (hI.good 12 39 (hD 12 (by decide)) rfl) (all_cons (hI.good 13 40 (hD 13 (by decide)) rfl) (all_cons (hI.good 14 41 (hD 14 (by decide)) rfl) (all_cons (hI.good 15 42 (hD 15 (by decide)) rfl) (all_cons (hI.good 16 43 (hD 16 (by decide)) rfl) (all_cons (hI.good 17 44 (hD 17 (by decide)) rfl) (all_cons (hI.good 18 45 (hD 18 (by decide)) rfl) all_nil))))))))))))))))))) rfl
             have hW := hI.world
             clear hI
             subst hfr
             simp only [List.foldl_cons, List.foldl_nil, List.setIfInBounds_toArray, List.set_cons_succ, List.set_cons_zero]
             have HB2 := Lib.hid (HBA.out.trans (hW.mono HBA.out.size))
             clear hW hD q0 q1 q2 q3 q4 q5 q6
             cases sb with
             | false =>
               have HE : Hid (Tr.right l = false) := Lib.hid (by rw [HR.out, HStep.out, HOk.out]; rfl)
               go_wp2
               go_ret
               exact ⟨by rw [HE.out]; rfl, HB2.out⟩
             | true =>
               go_wp2
               go_roundw
               case rel => exact ⟨j + 2, hlt, by go_num, by rw [HStep.out, HOk.out, Bool.true_and, Bool.true_and, HTS.out], by rw [HTS.out]; exact HStT.out rfl, HB2.out⟩
               case measure => simp [intOf]; omega
     · have HE : Hid (Tr.right l = true) := Lib.hid (by rw [HR.out, hrun, Tr.run_end (by rw [HL.out]; omega)])
       clear hrun hto
       go_wp2
       go_ret
       exact ⟨by rw [HE.out]; rfl, HB.out⟩
end Go.Proofs.YtmhmlhlplfkpaaaGreatDoor
