/-
 What the document's Line tells of any text. Conditions: the text is shorter than 2^32 - 15.
-/
import Derived.Test.YtfopelegobhegaaGreatDoorAsLine
set_option maxRecDepth 100000
namespace Go.Proofs.YtfopelegobhegaaGreatDoor
open Go.RowKit
set_option maxHeartbeats 8000000 in
theorem rasline_any (s : ByteArray) (hs : s.size < 4294967281) (w : World) : Calls Tryz.prog 6 #[.string s] w (LineP s w) := by
 have R0 := Lib.hid (Ins.new w 0 0)
 have B0 := Lib.hid ((Below.refl w.heap.size w).alloc (Nat.le_refl _) (.cells #[.int .i64 0, .int .i64 0] 25))
 have hA1 := As.ahead_size 32 s
 have hB1 := As.behind_le 32 s
 obtain ⟨n, er, hn⟩ : ∃ n er, In.num (As.ahead 32 s) = (n, er) := ⟨_, _, rfl⟩
 obtain ⟨x, e2, hr⟩ : ∃ x e2, In.read (As.behind 32 s) = (x, e2) := ⟨_, _, rfl⟩
 have HBad := Lib.hid (fun h => As.line_bad hn h)
 have HNot := Lib.hid (fun (he : er = 0) h0 h1 h2 he2 => As.line_not (hn.trans (by rw [he])) h0 h1 h2 hr he2)
 have HOk := Lib.hid (fun (he : er = 0) h0 h1 h2 (he2 : e2 = 0) => As.line_ok (hn.trans (by rw [he])) h0 h1 h2 (hr.trans (by rw [he2])))
 have HNu := fun W => rnumber_any (As.ahead 32 s) (by omega) W
 have HRe := fun W => rinread_any (As.behind 32 s) (by omega) W
 unfold NumP at HNu
 unfold ReadP at HRe
 rw [hn] at HNu
 rw [hr] at HRe
 dsimp only at HNu HRe
 have hal := As.at_le 32 s
 obtain ⟨q, hq⟩ : ∃ q, As.at_ 32 s = q := ⟨_, rfl⟩
 have HQ := Lib.hid hq
 rw [hq] at hal
 have hA : s.extract 0 q = As.ahead 32 s := by rw [As.ahead, hq]
 have hB : s.extract (q + 1) s.size = As.behind 32 s := by rw [As.behind, hq]
 have hBz : (As.behind 32 s).size = s.size - (q + 1) := by rw [As.behind, hq, ByteArray.size_extract]; omega
 have HBz := Lib.hid hBz
 clear hn hr hA1 hB1 hq hBz
 generalize As.ahead 32 s = A at *
 generalize As.behind 32 s = B at *
 go_enter Tryz.func6, Tryz.ntmps6
 go_wp2
 go_loopw [5] (fun i wr => ∃ p : Nat, p ≤ q ∧ i = .int .i64 (p : Int) ∧ wr = w.alloc (.cells #[.int .i64 0, .int .i64 0] 25)) (fun i _ => s.size - (intOf i).toNat)
 case atStart => exact ⟨0, by omega, rfl, rfl⟩
 case round =>
   obtain ⟨p, hp, rfl, rfl⟩ := hrel
   by_cases hlt : p < q
   · have hps : p < s.size := by omega
     have hn := In.at_lt (s := s) (p := p) (by rw [show In.at_ s = q from HQ.out]; exact hlt) hps
     have hd : (((s[p]'hps).toNat : Int) != 32) = true := by rw [bne_iff_ne]; omega
     clear hn
     go_wp2
     go_roundw
     case rel => exact ⟨p + 1, by omega, by go_num, by trivial⟩
     case measure => simp [intOf]; omega
   · obtain rfl : p = q := by omega
     clear hlt hp
     generalize w.alloc (.cells #[.int .i64 0, .int .i64 0] 25) = w1 at *
     have hex1 : ∀ W, (Instr.slice 9 (.string s) none (some (.int .i64 (p : Int))) none).run Tryz.prog W = .ok (.string A) W := by
       intro W
       rw [← hA, run_slice_string_h (P := Tryz.prog) (s := s) (w := W) (t := 9) Tryz.underlying9 .i64 (p : Int) (by omega) (by omega)]
       congr 2
     have hex2 : p < s.size → ∀ W, (Instr.slice 9 (.string s) (some (.int .i64 ((p : Int) + 1))) none none).run Tryz.prog W = .ok (.string B) W := by
       intro hps W
       rw [← hB, run_slice_string_l (P := Tryz.prog) (s := s) (w := W) (t := 9) Tryz.underlying9 .i64 ((p : Int) + 1) (by omega) (by omega)]
       congr 2
     have HEx2 := Lib.hid hex2
     have HHit := Lib.hid (fun h : p < s.size => show (s[p]'h).toNat = 32 from by
       have := In.at_hit (s := s) (by rw [show In.at_ s = p from HQ.out]; exact h)
       simpa only [show In.at_ s = p from HQ.out] using this)
     clear hA hB hex2 HQ
     by_cases hps : p < s.size
     · have hd : (((s[p]'hps).toNat : Int) != 32) = false := by rw [HHit.out hps]; rfl
       clear HHit
       go_wp2_with fail
       refine (HNu _).mono ?_
       rintro _ w2 ⟨rfl, b2⟩
       have R2 := Lib.hid (R0.out.on b2)
       have B2 := Lib.hid (B0.out.trans (b2.mono B0.out.size))
       clear b2 HNu
       have x0 := R2.out.c0
       have x1 := R2.out.c1
       have f0 := R2.out.f 0
       have f1 := R2.out.f 1
       by_cases he : er = 0
       rotate_left
       · have HL := Lib.hid (HBad.out (.inl he))
         have hb : ((er : Int) != 0) = true := by rw [bne_iff_ne]; omega
         clear he HNot HOk HBad
         go_wp2
         exact bodyPost_ret (v := .tuple #[.agg #[.int .i64 0, .int .i64 0], .int .i64 0, .int .i64 19]) (by simp [results, Tryz.results6, go_sem, x0, x1]) rfl ⟨retLine HL.out, (B2.out.setCell (by simp) _).setCell (by simp) _⟩
       have hb : ((er : Int) != 0) = false := by rw [bne_eq_false_iff_eq]; omega
       by_cases h0 : n < 0
       · have HL := Lib.hid (HBad.out (.inr (.inl h0)))
         clear he HNot HOk HBad
         go_wp2
         exact bodyPost_ret (v := .tuple #[.agg #[.int .i64 0, .int .i64 0], .int .i64 0, .int .i64 19]) (by simp [results, Tryz.results6, go_sem, x0, x1]) rfl ⟨retLine HL.out, (B2.out.setCell (by simp) _).setCell (by simp) _⟩
       have hd0 : decide (n < 0) = false := decide_eq_false h0
       by_cases h1 : 65535 < n
       · have HL := Lib.hid (HBad.out (.inr (.inr (.inl h1))))
         clear he HNot HOk HBad h0
         go_wp2
         exact bodyPost_ret (v := .tuple #[.agg #[.int .i64 0, .int .i64 0], .int .i64 0, .int .i64 19]) (by simp [results, Tryz.results6, go_sem, x0, x1]) rfl ⟨retLine HL.out, (B2.out.setCell (by simp) _).setCell (by simp) _⟩
       have hd1 : decide (65535 < n) = false := decide_eq_false h1
       by_cases h2 : B.size = 0
       · have HL := Lib.hid (HBad.out (.inr (.inr (.inr h2))))
         have hd2 : decide ((s.size : Int) - 1 ≤ (p : Int)) = true := decide_eq_true (by have := HBz.out; omega)
         clear he HNot HOk HBad h0 h1 h2
         go_wp2
         exact bodyPost_ret (v := .tuple #[.agg #[.int .i64 0, .int .i64 0], .int .i64 0, .int .i64 19]) (by simp [results, Tryz.results6, go_sem, x0, x1]) rfl ⟨retLine HL.out, (B2.out.setCell (by simp) _).setCell (by simp) _⟩
       have hd2 : decide ((s.size : Int) - 1 ≤ (p : Int)) = false := decide_eq_false (by have := HBz.out; omega)
       have HNo := Lib.hid (fun he2 => HNot.out he (by omega) (by omega) h2 he2)
       have HO := Lib.hid (fun he2 => HOk.out he (by omega) (by omega) h2 he2)
       have hex2 := HEx2.out hps
       clear he HNot HOk HBad h0 h1 h2 x0 x1 f0 f1
       go_wp2_with fail
       refine (HRe _).mono ?_
       rintro _ w3 ⟨rfl, b3⟩
       have R3 := Lib.hid (R2.out.on b3)
       have B3 := Lib.hid (B2.out.trans (b3.mono B2.out.size))
       have b4 := (Below.refl w3.heap.size w3).alloc (Nat.le_refl _) (.cells #[.int .i64 x.1, .int .i64 x.2] 25)
       have R4 := Lib.hid (R3.out.on b4)
       have B4 := Lib.hid (B3.out.trans (b4.mono B3.out.size))
       have I4 := Lib.hid (Ins.new w3 x.1 x.2)
       have x0 := R4.out.c0
       have x1 := R4.out.c1
       have f0 := R4.out.f 0
       have f1 := R4.out.f 1
       have y0 := I4.out.c0
       have y1 := I4.out.c1
       clear b3 b4 HRe R2 R3 B2
       by_cases he2 : e2 = 0
       · subst he2
         have HL := Lib.hid (HO.out rfl)
         clear HNo HO
         go_wp2
         exact bodyPost_ret (v := .tuple #[.agg #[.int .i64 x.1, .int .i64 x.2], .int .i64 n, .int .i64 0]) (by simp [results, Tryz.results6, go_sem, x0, x1]) rfl ⟨retLine HL.out, (B4.out.setCell (by simp) _).setCell (by simp) _⟩
       · have HL := Lib.hid (HNo.out he2)
         have hb2 : ((e2 : Int) != 0) = true := by rw [bne_iff_ne]; omega
         clear HNo HO he2
         go_wp2
         exact bodyPost_ret (v := .tuple #[.agg #[.int .i64 0, .int .i64 0], .int .i64 0, .int .i64 (e2 : Int)]) (by simp [results, Tryz.results6, go_sem, x0, x1]) rfl ⟨retLine HL.out, (B4.out.setCell (by simp) _).setCell (by simp) _⟩
     · have hpn : decide (p < s.size) = false := decide_eq_false hps
       clear HHit HEx2 HRe
       go_wp2_with fail
       refine (HNu _).mono ?_
       rintro _ w2 ⟨rfl, b2⟩
       have R2 := Lib.hid (R0.out.on b2)
       have B2 := Lib.hid (B0.out.trans (b2.mono B0.out.size))
       clear b2 HNu
       have x0 := R2.out.c0
       have x1 := R2.out.c1
       have f0 := R2.out.f 0
       have f1 := R2.out.f 1
       by_cases he : er = 0
       rotate_left
       · have HL := Lib.hid (HBad.out (.inl he))
         have hb : ((er : Int) != 0) = true := by rw [bne_iff_ne]; omega
         clear he HNot HOk HBad
         go_wp2
         exact bodyPost_ret (v := .tuple #[.agg #[.int .i64 0, .int .i64 0], .int .i64 0, .int .i64 19]) (by simp [results, Tryz.results6, go_sem, x0, x1]) rfl ⟨retLine HL.out, (B2.out.setCell (by simp) _).setCell (by simp) _⟩
       have hb : ((er : Int) != 0) = false := by rw [bne_eq_false_iff_eq]; omega
       by_cases h0 : n < 0
       · have HL := Lib.hid (HBad.out (.inr (.inl h0)))
         clear he HNot HOk HBad
         go_wp2
         exact bodyPost_ret (v := .tuple #[.agg #[.int .i64 0, .int .i64 0], .int .i64 0, .int .i64 19]) (by simp [results, Tryz.results6, go_sem, x0, x1]) rfl ⟨retLine HL.out, (B2.out.setCell (by simp) _).setCell (by simp) _⟩
       have hd0 : decide (n < 0) = false := decide_eq_false h0
       by_cases h1 : 65535 < n
       · have HL := Lib.hid (HBad.out (.inr (.inr (.inl h1))))
         clear he HNot HOk HBad h0
         go_wp2
         exact bodyPost_ret (v := .tuple #[.agg #[.int .i64 0, .int .i64 0], .int .i64 0, .int .i64 19]) (by simp [results, Tryz.results6, go_sem, x0, x1]) rfl ⟨retLine HL.out, (B2.out.setCell (by simp) _).setCell (by simp) _⟩
       have hd1 : decide (65535 < n) = false := decide_eq_false h1
       have HL := Lib.hid (HBad.out (.inr (.inr (.inr (by have := HBz.out; omega)))))
       have hd2 : decide ((s.size : Int) - 1 ≤ (p : Int)) = true := decide_eq_true (by omega)
       clear he HNot HOk HBad h0 h1
       go_wp2
       exact bodyPost_ret (v := .tuple #[.agg #[.int .i64 0, .int .i64 0], .int .i64 0, .int .i64 19]) (by simp [results, Tryz.results6, go_sem, x0, x1]) rfl ⟨retLine HL.out, (B2.out.setCell (by simp) _).setCell (by simp) _⟩
end Go.Proofs.YtfopelegobhegaaGreatDoor
