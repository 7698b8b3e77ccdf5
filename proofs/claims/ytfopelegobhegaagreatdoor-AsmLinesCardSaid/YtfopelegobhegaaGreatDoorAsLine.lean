/-
 What asm.Line and the document's Line tell of any text. Conditions: the text is shorter than 2^32 - 15; the library's variables are laid.
-/
import Derived.Test.YtfopelegobhegaaGreatDoorAsC
import Derived.Test.YtfopelegobhegaaGreatDoorInO
set_option maxRecDepth 100000
namespace Go.Proofs.YtfopelegobhegaaGreatDoor
open Go.RowKit
namespace As
def line (s : ByteArray) : ((Int × Int) × Int) × Nat :=
 if (In.num (ahead 32 s)).2 ≠ 0 ∨ (In.num (ahead 32 s)).1 < 0 ∨ 65535 < (In.num (ahead 32 s)).1 ∨ (behind 32 s).size = 0 then (((0, 0), 0), 19)
 else if (In.read (behind 32 s)).2 ≠ 0 then (((0, 0), 0), (In.read (behind 32 s)).2) else (((In.read (behind 32 s)).1, (In.num (ahead 32 s)).1), 0)
theorem line_bad {s : ByteArray} {n : Int} {er : Nat} (h : In.num (ahead 32 s) = (n, er)) (hb : er ≠ 0 ∨ n < 0 ∨ 65535 < n ∨ (behind 32 s).size = 0) : line s = (((0, 0), 0), 19) := by
 unfold line
 rw [h, if_pos hb]
theorem line_not {s : ByteArray} {n : Int} {er : Nat} {x : Int × Int} (h : In.num (ahead 32 s) = (n, 0)) (h0 : 0 ≤ n) (h1 : n ≤ 65535) (h2 : (behind 32 s).size ≠ 0) (hr : In.read (behind 32 s) = (x, er)) (he : er ≠ 0) : line s = (((0, 0), 0), er) := by
 unfold line
 rw [h, if_neg (by simp only; omega), hr, if_pos he]
theorem line_ok {s : ByteArray} {n : Int} {x : Int × Int} (h : In.num (ahead 32 s) = (n, 0)) (h0 : 0 ≤ n) (h1 : n ≤ 65535) (h2 : (behind 32 s).size ≠ 0) (hr : In.read (behind 32 s) = (x, 0)) : line s = ((x, n), 0) := by
 unfold line
 rw [h, if_neg (by simp only; omega), hr, if_neg (by simp)]
end As
def LineP (s : ByteArray) (w : World) (e : Ending) (w' : World) : Prop :=
 e = .returned (.tuple #[.agg #[.int .i64 (As.line s).1.1.1, .int .i64 (As.line s).1.1.2], .int .i64 (As.line s).1.2, .int .i64 ((As.line s).2 : Int)]) ∧ Below w.heap.size w w'
theorem retLine {s : ByteArray} {op a n c : Int} {e : Nat} (h : As.line s = (((op, a), n), e)) (hc : c = (e : Int) := by rfl) :
   Ending.returned (.tuple #[.agg #[.int .i64 op, .int .i64 a], .int .i64 n, .int .i64 c]) = .returned (.tuple #[.agg #[.int .i64 (As.line s).1.1.1, .int .i64 (As.line s).1.1.2], .int .i64 (As.line s).1.2, .int .i64 ((As.line s).2 : Int)]) := by rw [h, hc]
set_option maxHeartbeats 4000000 in
theorem asline_any (s : ByteArray) (hs : s.size < 4294967281) (w : World) (hg : Glob w) : Calls Tryz.prog 5 #[.string s] w (LineP s w) := by
 have b0 := (Below.refl w.heap.size w).alloc (Nat.le_refl _) (.cells #[.int .i64 0, .int .i64 0] 25)
 have HG0 := Lib.hid (hg.below b0)
 have R0 := Lib.hid (Ins.new w 0 0)
 have B0 := Lib.hid b0
 have HC := ascut_blank s (by omega) (w.alloc (.cells #[.int .i64 0, .int .i64 0] 25))
 have hA1 := As.ahead_size 32 s
 have hB1 := As.behind_le 32 s
 obtain ⟨n, er, hn⟩ : ∃ n er, In.num (As.ahead 32 s) = (n, er) := ⟨_, _, rfl⟩
 obtain ⟨x, e2, hr⟩ : ∃ x e2, In.read (As.behind 32 s) = (x, e2) := ⟨_, _, rfl⟩
 have HBad := Lib.hid (fun h => As.line_bad hn h)
 have HNot := Lib.hid (fun (he : er = 0) h0 h1 h2 he2 => As.line_not (hn.trans (by rw [he])) h0 h1 h2 hr he2)
 have HOk := Lib.hid (fun (he : er = 0) h0 h1 h2 (he2 : e2 = 0) => As.line_ok (hn.trans (by rw [he])) h0 h1 h2 (hr.trans (by rw [he2])))
 have HNu := fun W hW => innumber_any (As.ahead 32 s) (by omega) W hW
 have HRe := fun W hW => inread_any (As.behind 32 s) (by omega) W hW
 unfold NumP at HNu
 unfold ReadP at HRe
 rw [hn] at HNu
 rw [hr] at HRe
 dsimp only at HNu HRe
 clear hn hr b0 hg hA1 hB1 hs
 generalize As.ahead 32 s = A at *
 generalize As.behind 32 s = B at *
 generalize As.more 32 s = m at *
 go_enter Tryz.func5, Tryz.ntmps5
 go_wp2_with fail
 refine HC.mono ?_
 rintro _ w1 ⟨rfl, k, rfl⟩
 have b1 := below_drewN (Below.refl (w.alloc (.cells #[.int .i64 0, .int .i64 0] 25)).heap.size (w.alloc (.cells #[.int .i64 0, .int .i64 0] 25))) k
 have HG1 := Lib.hid (HG0.out.below b1)
 have R1 := Lib.hid (R0.out.on b1)
 have B1 := Lib.hid (B0.out.trans (b1.mono B0.out.size))
 generalize (w.alloc (.cells #[.int .i64 0, .int .i64 0] 25)).drewN k = w1 at *
 clear b1 HG0 R0 B0 HC
 go_wp2_with fail
 refine (HNu _ HG1.out).mono ?_
 rintro _ w2 ⟨rfl, b2⟩
 have HG2 := Lib.hid (HG1.out.below b2)
 have R2 := Lib.hid (R1.out.on b2)
 have B2 := Lib.hid (B1.out.trans (b2.mono B1.out.size))
 clear b2 HG1 R1 B1 HNu
 have x0 := R2.out.c0
 have x1 := R2.out.c1
 have f0 := R2.out.f 0
 have f1 := R2.out.f 1
 by_cases he : er = 0
 rotate_left
 · have HL := Lib.hid (HBad.out (.inl he))
   have hb : ((er : Int) != 0) = true := by rw [bne_iff_ne]; omega
   clear he HNot HOk HBad
   go_wp2
   exact bodyPost_ret (v := .tuple #[.agg #[.int .i64 0, .int .i64 0], .int .i64 0, .int .i64 19]) (by simp [results, Tryz.results5, go_sem, x0, x1]) rfl ⟨retLine HL.out, (B2.out.setCell (by simp) _).setCell (by simp) _⟩
 have hb : ((er : Int) != 0) = false := by rw [bne_eq_false_iff_eq]; omega
 by_cases h0 : n < 0
 · have HL := Lib.hid (HBad.out (.inr (.inl h0)))
   clear he HNot HOk HBad
   go_wp2
   exact bodyPost_ret (v := .tuple #[.agg #[.int .i64 0, .int .i64 0], .int .i64 0, .int .i64 19]) (by simp [results, Tryz.results5, go_sem, x0, x1]) rfl ⟨retLine HL.out, (B2.out.setCell (by simp) _).setCell (by simp) _⟩
 have hd0 : decide (n < 0) = false := decide_eq_false h0
 by_cases h1 : 65535 < n
 · have HL := Lib.hid (HBad.out (.inr (.inr (.inl h1))))
   clear he HNot HOk HBad h0
   go_wp2
   exact bodyPost_ret (v := .tuple #[.agg #[.int .i64 0, .int .i64 0], .int .i64 0, .int .i64 19]) (by simp [results, Tryz.results5, go_sem, x0, x1]) rfl ⟨retLine HL.out, (B2.out.setCell (by simp) _).setCell (by simp) _⟩
 have hd1 : decide (65535 < n) = false := decide_eq_false h1
 by_cases h2 : B.size = 0
 · have HL := Lib.hid (HBad.out (.inr (.inr (.inr h2))))
   obtain rfl := empty_of h2
   clear he HNot HOk HBad h0 h1 h2
   go_wp2
   exact bodyPost_ret (v := .tuple #[.agg #[.int .i64 0, .int .i64 0], .int .i64 0, .int .i64 19]) (by simp [results, Tryz.results5, go_sem, x0, x1]) rfl ⟨retLine HL.out, (B2.out.setCell (by simp) _).setCell (by simp) _⟩
 have hd2 := not_empty h2
 have HNo := Lib.hid (fun he2 => HNot.out he (by omega) (by omega) h2 he2)
 have HO := Lib.hid (fun he2 => HOk.out he (by omega) (by omega) h2 he2)
 clear he HNot HOk HBad h0 h1 h2 x0 x1 f0 f1
 go_wp2_with fail
 refine (HRe _ HG2.out).mono ?_
 rintro _ w3 ⟨rfl, b3⟩
 have R3 := Lib.hid (R2.out.on b3)
 have B3 := Lib.hid (B2.out.trans (b3.mono B2.out.size))
 have b4 := (Below.refl w3.heap.size w3).alloc (Nat.le_refl _) (.cells #[.int .i64 x.1, .int .i64 x.2] 25)
 have R4 := Lib.hid (R3.out.on b4)
 have B4 := Lib.hid (B3.out.trans (b4.mono B3.out.size))
 have I4 := Lib.hid (Ins.new w3 x.1 x.2)
 have x0 := R4.out.c0
 have x1 := R4.out.c1
 have f0 := R4.out.f 0
 have f1 := R4.out.f 1
 have y0 := I4.out.c0
 have y1 := I4.out.c1
 clear b3 b4 HRe R2 R3 B2
 by_cases he2 : e2 = 0
 · subst he2
   have HL := Lib.hid (HO.out rfl)
   clear HNo HO
   go_wp2
   exact bodyPost_ret (v := .tuple #[.agg #[.int .i64 x.1, .int .i64 x.2], .int .i64 n, .int .i64 0]) (by simp [results, Tryz.results5, go_sem, x0, x1]) rfl ⟨retLine HL.out, (B4.out.setCell (by simp) _).setCell (by simp) _⟩
 · have HL := Lib.hid (HNo.out he2)
   have hb2 : ((e2 : Int) != 0) = true := by rw [bne_iff_ne]; omega
   clear HNo HO he2
   go_wp2
   exact bodyPost_ret (v := .tuple #[.agg #[.int .i64 0, .int .i64 0], .int .i64 0, .int .i64 (e2 : Int)]) (by simp [results, Tryz.results5, go_sem, x0, x1]) rfl ⟨retLine HL.out, (B4.out.setCell (by simp) _).setCell (by simp) _⟩
end Go.Proofs.YtfopelegobhegaaGreatDoor
