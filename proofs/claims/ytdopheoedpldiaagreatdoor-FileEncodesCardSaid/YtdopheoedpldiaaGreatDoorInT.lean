/-
 What instr.Take takes. Conditions: none (a cursor that a call made).
-/
import Derived.Test.YtdopheoedpldiaaGreatDoorInBB
import Derived.Test.YtdopheoedpldiaaGreatDoorInR
import Derived.Test.YtdopheoedpldiaaGreatDoorCurM
set_option maxRecDepth 100000
namespace Go.Proofs.YtdopheoedpldiaaGreatDoor
open Go.RowKit
theorem failA_ne (s : List Nat × Nat) {er : Nat} (h : er ≠ 0) : (failA s er).2 ≠ 0 := by
 rw [fail_snd]
 split <;> omega
theorem failA_err {s : List Nat × Nat} (h : s.2 ≠ 0) (er : Nat) : failA s er = s := by
 unfold failA
 rw [if_pos (.inr h)]
namespace In
def take (s : List Nat × Nat) : (Int × Int) × (List Nat × Nat) :=
 (if (if right ((byteA s).1 : Int) (if numbered ((byteA s).1 : Int) then (intA (if known ((byteA s).1 : Int) then (byteA s).2 else failA (byteA s).2 8)).1 else 0) then (if numbered ((byteA s).1 : Int) then (intA (if known ((byteA s).1 : Int) then (byteA s).2 else failA (byteA s).2 8)).2 else (if known ((byteA s).1 : Int) then (byteA s).2 else failA (byteA s).2 8)) else failA (if numbered ((byteA s).1 : Int) then (intA (if known ((byteA s).1 : Int) then (byteA s).2 else failA (byteA s).2 8)).2 else (if known ((byteA s).1 : Int) then (byteA s).2 else failA (byteA s).2 8)) 2).2 ≠ 0 then (0, 0) else (((byteA s).1 : Int), if numbered ((byteA s).1 : Int) then (intA (if known ((byteA s).1 : Int) then (byteA s).2 else failA (byteA s).2 8)).1 else 0),
  if right ((byteA s).1 : Int) (if numbered ((byteA s).1 : Int) then (intA (if known ((byteA s).1 : Int) then (byteA s).2 else failA (byteA s).2 8)).1 else 0) then (if numbered ((byteA s).1 : Int) then (intA (if known ((byteA s).1 : Int) then (byteA s).2 else failA (byteA s).2 8)).2 else (if known ((byteA s).1 : Int) then (byteA s).2 else failA (byteA s).2 8)) else failA (if numbered ((byteA s).1 : Int) then (intA (if known ((byteA s).1 : Int) then (byteA s).2 else failA (byteA s).2 8)).2 else (if known ((byteA s).1 : Int) then (byteA s).2 else failA (byteA s).2 8)) 2)
theorem known_not {op : Int} (h : known op = false) : numbered op = false ∧ ∀ a, right op a = false := by
 have hk : ¬ (0 ≤ op ∧ op < 35) := by rw [← known_iff, h]; decide
 refine ⟨?_, fun a => ?_⟩
 · unfold numbered
   rw [kind_out hk]
   decide
 · unfold right
   rw [h]
   rfl
theorem take_op {s s1 : List Nat × Nat} {b : Nat} (hb : byteA s = (b, s1)) (hk : known (b : Int) = false) : take s = ((0, 0), failA s1 8) := by
 obtain ⟨hn, hr⟩ := known_not hk
 have h2 : failA (failA s1 8) 2 = failA s1 8 := failA_err (failA_ne _ (by decide)) _
 have h3 := failA_ne s1 (er := 8) (by decide)
 unfold take
 rw [hb]
 simp only [hk, hn, hr, Bool.false_eq_true, if_false, h2, if_pos h3]
theorem take_bare {s s1 : List Nat × Nat} {b : Nat} (hb : byteA s = (b, s1)) (hk : known (b : Int) = true) (hn : numbered (b : Int) = false) : take s = (if s1.2 ≠ 0 then (0, 0) else ((b : Int), 0), s1) := by
 have hr := bare_right (known_iff.1 hk) hn
 unfold take
 rw [hb]
 simp only [hk, hn, hr, Bool.false_eq_true, if_false, if_true]
theorem take_both {s s1 s3 : List Nat × Nat} {b : Nat} {a : Int} (hb : byteA s = (b, s1)) (hk : known (b : Int) = true) (hn : numbered (b : Int) = true) (hi : intA s1 = (a, s3)) (hr : right (b : Int) a = true) : take s = (if s3.2 ≠ 0 then (0, 0) else ((b : Int), a), s3) := by
 unfold take
 rw [hb]
 simp only [hk, hn, if_true, hi, hr]
theorem take_arg {s s1 s3 : List Nat × Nat} {b : Nat} {a : Int} (hb : byteA s = (b, s1)) (hk : known (b : Int) = true) (hn : numbered (b : Int) = true) (hi : intA s1 = (a, s3)) (hr : right (b : Int) a = false) : take s = ((0, 0), failA s3 2) := by
 have h3 := failA_ne s3 (er := 2) (by decide)
 unfold take
 rw [hb]
 simp only [hk, hn, if_true, hi, hr, Bool.false_eq_true, if_false, if_pos h3]
theorem byte_lt {s : List Nat × Nat} (h : ∀ c ∈ s.1, c < 256) : (byteA s).1 < 256 := by
 unfold byteA octB
 cases hl : s.1 with
 | nil => exact Nat.zero_lt_succ _
 | cons c r => exact h c (by rw [hl]; simp)
end In
theorem Ins.kept {w w' : World} {p g : Nat} {x y : Int} (h : Ins w p x y) (hg : w.grownBy w' (some g)) (hne : g ≠ p) : Ins w' p x y := (hg.block p (ins_lt h) (by intro e; injection e with e; exact hne e.symm)).trans h
theorem cur_of {w : World} {g : Nat} {s : List Nat × Nat} (h : CurP w (some ⟨g, 0, none⟩) s) : Cur w g s := by
 rcases h with ⟨h, _⟩ | ⟨g', he, h⟩
 · cases h
 · injection he with he
   injection he with he
   subst he
   exact h
theorem kept_below {w w' : World} {g : Nat} {s : List Nat × Nat} (h : Cur w g s) (hb : Below w.heap.size w w') : Cur w' g s :=
 h.kept (row := none) ⟨hb.os, hb.tape, hb.output, hb.size, fun k hk _ => hb.block k hk⟩ (by simp)
def TakeI (g : Nat) (s : List Nat × Nat) (w : World) (e : Ending) (w' : World) : Prop :=
 e = .returned (.agg #[.int .i64 (In.take s).1.1, .int .i64 (In.take s).1.2]) ∧ Cur w' g (In.take s).2 ∧ w.grownBy w' (some g)
theorem TakeI.mk' {g : Nat} {s s' : List Nat × Nat} {a b : Int} {w w' : World} (ht : In.take s = ((a, b), s')) (hc : Cur w' g s') (hg : w.grownBy w' (some g)) : TakeI g s w (.returned (.agg #[.int .i64 a, .int .i64 b])) w' := by
 unfold TakeI
 rw [ht]
 exact ⟨rfl, hc, hg⟩
theorem cur_store {w0 w : World} {g p : Nat} {s : List Nat × Nat} (h : Cur w g s) (hg : w0.grownBy w (some g)) (hp : w0.heap.size ≤ p) (hgp : g < p) (i : Nat) (v : Value) : Cur (w.setCell ⟨p, i, none⟩ v) g s ∧ w0.grownBy (w.setCell ⟨p, i, none⟩ v) (some g) :=
 ⟨h.kept (row := some p) (Lib.grownBy_setB (World.grownBy.refl _ _) _ _) (fun k e => by injection e with e; omega), grown_set hg hp _ _⟩
set_option maxHeartbeats 4000000 in
theorem intake_cur (g : Nat) (s : List Nat × Nat) (w : World) (h : Cur w g s) : Calls Tryz.prog 172 #[.pointer (some ⟨g, 0, none⟩)] w (TakeI g s w) := by
 have hgl := h.lt
 have hne : g ≠ w.heap.size := by omega
 have G0 : w.grownBy (w.alloc (.cells #[.int .i64 0, .int .i64 0] 68)) (some g) := World.grownBy_alloc _ _ _
 have C0 := h.kept (World.grownBy_alloc w (.cells #[.int .i64 0, .int .i64 0] 68) none) (by simp)
 have HC0 := Lib.hid C0
 have HG0 := Lib.hid G0
 have R0 := Lib.hid (Ins.new w 0 0)
 have hbl := In.byte_lt (s := s) h.byte
 have HBy := Lib.hid (byte_any (some ⟨g, 0, none⟩) s _ (.inr ⟨g, rfl, C0⟩))
 obtain ⟨b, s1, hb⟩ : ∃ b s1, byteA s = (b, s1) := ⟨_, _, rfl⟩
 rw [hb] at HBy hbl
 dsimp only at HBy hbl
 have HB := Lib.hid hb
 clear h hb C0 G0
 go_enter Tryz.func172, Tryz.ntmps172
 go_wp2_with fail
 refine HBy.out.mono ?_
 rintro _ w1 ⟨rfl, hc1, ho1⟩
 have C1 := Lib.hid (cur_of hc1)
 have R1 := Lib.hid (R0.out.kept ho1 hne)
 have G1 := Lib.hid (Lib.grownBy_trans HG0.out ho1)
 clear hc1 ho1 HBy HC0 HG0 R0
 have hbl2 : (b : Int) < 256 := by omega
 have HKn := known_any (b : Int)
 cases hk : In.known (b : Int) with
 | false =>
   rw [hk] at HKn
   have HT := Lib.hid (In.take_op HB.out hk)
   obtain ⟨hn, hr⟩ := In.known_not hk
   have HNb := numbered_any (b : Int)
   rw [hn] at HNb
   have HRt := inright_any (b : Int) 0
   rw [hr] at HRt
   have hef := failA_ne s1 (er := 8) (by decide)
   have hee : failA (failA s1 8) 2 = failA s1 8 := failA_err hef 2
   clear hk hn hr
   go_wp2_with (go_at_call 123; refine (HKn _).mono ?_; rintro _ wa ⟨rfl, he⟩; obtain rfl := he.symm; refine Hid.out ?_)
   have hjg : g < w1.heap.size := C1.out.lt
   have hjr : w.heap.size < w1.heap.size := R1.out.lt
   have I2 := Lib.hid (Ins.new w1 (b : Int) 0)
   have R2 := Lib.hid (R1.out.alloc (.cells #[.int .i64 (b : Int), .int .i64 0] 68))
   have C2 := Lib.hid (C1.out.kept (World.grownBy_alloc w1 (.cells #[.int .i64 (b : Int), .int .i64 0] 68) none) (by simp))
   have G2 := Lib.hid (Lib.grownBy_allocR G1.out (.cells #[.int .i64 (b : Int), .int .i64 0] 68))
   generalize w1.alloc (.cells #[.int .i64 (b : Int), .int .i64 0] 68) = w2 at *
   generalize w1.heap.size = j at *
   have hnj : g ≠ j := by omega
   have y0 := I2.out.c0
   have y1 := I2.out.c1
   refine Lib.hid ?_
   go_wp2_with fail
   refine (fail_any (some ⟨g, 0, none⟩) s1 8 _ (.inr ⟨g, rfl, C2.out⟩) (by omega)).mono ?_
   rintro _ w3 ⟨rfl, hc3, ho3⟩
   have C3 := Lib.hid (cur_of hc3)
   have R3 := Lib.hid (R2.out.kept ho3 hne)
   have I3 := Lib.hid (I2.out.kept ho3 hnj)
   have G3 := Lib.hid (Lib.grownBy_trans G2.out ho3)
   clear hc3 ho3
   clear y0 y1
   have y0 := I3.out.c0
   have y1 := I3.out.c1
   generalize failA s1 8 = s2 at *
   go_wp2_with fail
   refine (HNb _).mono ?_
   rintro _ w4 ⟨rfl, b4⟩
   have C4 := Lib.hid (kept_below C3.out b4)
   have R4 := Lib.hid (R3.out.on b4)
   have I4 := Lib.hid (I3.out.on b4)
   have G4 := Lib.hid (Lib.grownBy_below G3.out b4)
   clear b4 y0 y1
   have y0 := I4.out.c0
   have y1 := I4.out.c1
   go_wp2_with fail
   refine (HRt _).mono ?_
   rintro _ w5 ⟨rfl, b5⟩
   have C5 := Lib.hid (kept_below C4.out b5)
   have R5 := Lib.hid (R4.out.on b5)
   have I5 := Lib.hid (I4.out.on b5)
   have G5 := Lib.hid (Lib.grownBy_below G4.out b5)
   clear b5 y0 y1
   have y0 := I5.out.c0
   have y1 := I5.out.c1
   go_wp2_with fail
   refine (fail_any (some ⟨g, 0, none⟩) s2 2 _ (.inr ⟨g, rfl, C5.out⟩) (by omega)).mono ?_
   rintro _ w6 ⟨rfl, hc6, ho6⟩
   have C6 := Lib.hid (cur_of hc6)
   have R6 := Lib.hid (R5.out.kept ho6 hne)
   have I6 := Lib.hid (I5.out.kept ho6 hnj)
   have G6 := Lib.hid (Lib.grownBy_trans G5.out ho6)
   clear hc6 ho6
   clear y0 y1
   have y0 := I6.out.c0
   have y1 := I6.out.c1
   have heb : ((s2.2 : Int) != 0) = true := by rw [bne_iff_ne]; omega
   have HE := Lib.hid hee
   rw [hee] at C6
   clear hee hef
   go_wp2_with fail
   refine (err_any (some ⟨g, 0, none⟩) s2 _ (.inr ⟨g, rfl, C6.out⟩)).mono ?_
   rintro _ we ⟨rfl, hs⟩
   obtain ⟨_, rfl⟩ | ⟨hx, _⟩ := hs
   rotate_left
   · cases hx
   · have x0 := R6.out.c0
     have x1 := R6.out.c1
     have f0 := R6.out.f 0
     have f1 := R6.out.f 1
     go_wp2
     obtain ⟨c5, g5⟩ := cur_store C6.out G6.out (Nat.le_refl _) hgl 0 (.int .i64 0)
     obtain ⟨c6, g6⟩ := cur_store c5 g5 (Nat.le_refl _) hgl 1 (.int .i64 0)
     exact bodyPost_ret (v := .agg #[.int .i64 0, .int .i64 0]) (by simp [results, Tryz.results172, go_sem, x0, x1]) rfl (TakeI.mk' HT.out c6 g6)
 | true =>
   rw [hk] at HKn
   have HNb := numbered_any (b : Int)
   cases hn : In.numbered (b : Int) with
   | false =>
     rw [hn] at HNb
     have HT := Lib.hid (In.take_bare HB.out hk hn)
     have HRt := inright_any (b : Int) 0
     rw [In.bare_right (In.known_iff.1 hk) hn] at HRt
     clear hk hn
     go_wp2_with (go_at_call 123; refine (HKn _).mono ?_; rintro _ wa ⟨rfl, he⟩; obtain rfl := he.symm; refine Hid.out ?_)
     have hjg : g < w1.heap.size := C1.out.lt
     have hjr : w.heap.size < w1.heap.size := R1.out.lt
     have I2 := Lib.hid (Ins.new w1 (b : Int) 0)
     have R2 := Lib.hid (R1.out.alloc (.cells #[.int .i64 (b : Int), .int .i64 0] 68))
     have C2 := Lib.hid (C1.out.kept (World.grownBy_alloc w1 (.cells #[.int .i64 (b : Int), .int .i64 0] 68) none) (by simp))
     have G2 := Lib.hid (Lib.grownBy_allocR G1.out (.cells #[.int .i64 (b : Int), .int .i64 0] 68))
     generalize w1.alloc (.cells #[.int .i64 (b : Int), .int .i64 0] 68) = w2 at *
     generalize w1.heap.size = j at *
     have hnj : g ≠ j := by omega
     have y0 := I2.out.c0
     have y1 := I2.out.c1
     refine Lib.hid ?_
     go_wp2_with fail
     refine (HNb _).mono ?_
     rintro _ w3 ⟨rfl, b3⟩
     have C3 := Lib.hid (kept_below C2.out b3)
     have R3 := Lib.hid (R2.out.on b3)
     have I3 := Lib.hid (I2.out.on b3)
     have G3 := Lib.hid (Lib.grownBy_below G2.out b3)
     clear b3 y0 y1
     have y0 := I3.out.c0
     have y1 := I3.out.c1
     go_wp2_with fail
     refine (HRt _).mono ?_
     rintro _ w4 ⟨rfl, b4⟩
     have C4 := Lib.hid (kept_below C3.out b4)
     have R4 := Lib.hid (R3.out.on b4)
     have I4 := Lib.hid (I3.out.on b4)
     have G4 := Lib.hid (Lib.grownBy_below G3.out b4)
     clear b4 y0 y1
     have y0 := I4.out.c0
     have y1 := I4.out.c1
     go_wp2_with fail
     refine (err_any (some ⟨g, 0, none⟩) s1 _ (.inr ⟨g, rfl, C4.out⟩)).mono ?_
     rintro _ we ⟨rfl, hs⟩
     obtain ⟨_, rfl⟩ | ⟨hx, _⟩ := hs
     rotate_left
     · cases hx
     · by_cases he : s1.2 = 0
       · have heb : ((s1.2 : Int) != 0) = false := by rw [bne_eq_false_iff_eq]; omega
         have HT' : Hid (In.take s = (((b : Int), 0), s1)) := Lib.hid (HT.out.trans (by rw [if_neg (not_not_intro he)]))
         clear he
         have x0 := R4.out.c0
         have x1 := R4.out.c1
         have f0 := R4.out.f 0
         have f1 := R4.out.f 1
         go_wp2
         obtain ⟨c5, g5⟩ := cur_store C4.out G4.out (Nat.le_refl _) hgl 0 (.int .i64 (b : Int))
         obtain ⟨c6, g6⟩ := cur_store c5 g5 (Nat.le_refl _) hgl 1 (.int .i64 0)
         exact bodyPost_ret (v := .agg #[.int .i64 (b : Int), .int .i64 0]) (by simp [results, Tryz.results172, go_sem, x0, x1]) rfl (TakeI.mk' HT'.out c6 g6)
       · have heb : ((s1.2 : Int) != 0) = true := by rw [bne_iff_ne]; omega
         have HT' : Hid (In.take s = ((0, 0), s1)) := Lib.hid (HT.out.trans (by rw [if_pos he]))
         clear he
         have x0 := R4.out.c0
         have x1 := R4.out.c1
         have f0 := R4.out.f 0
         have f1 := R4.out.f 1
         go_wp2
         obtain ⟨c5, g5⟩ := cur_store C4.out G4.out (Nat.le_refl _) hgl 0 (.int .i64 0)
         obtain ⟨c6, g6⟩ := cur_store c5 g5 (Nat.le_refl _) hgl 1 (.int .i64 0)
         exact bodyPost_ret (v := .agg #[.int .i64 0, .int .i64 0]) (by simp [results, Tryz.results172, go_sem, x0, x1]) rfl (TakeI.mk' HT'.out c6 g6)
   | true =>
     rw [hn] at HNb
     have HK := Lib.hid (And.intro hk hn)
     clear hk hn
     obtain ⟨z, s3, hi⟩ : ∃ z s3, intA s1 = (z, s3) := ⟨_, _, rfl⟩
     have HI := Lib.hid hi
     go_wp2_with (go_at_call 123; refine (HKn _).mono ?_; rintro _ wa ⟨rfl, he⟩; obtain rfl := he.symm; refine Hid.out ?_)
     have hjg : g < w1.heap.size := C1.out.lt
     have hjr : w.heap.size < w1.heap.size := R1.out.lt
     have I2 := Lib.hid (Ins.new w1 (b : Int) 0)
     have R2 := Lib.hid (R1.out.alloc (.cells #[.int .i64 (b : Int), .int .i64 0] 68))
     have C2 := Lib.hid (C1.out.kept (World.grownBy_alloc w1 (.cells #[.int .i64 (b : Int), .int .i64 0] 68) none) (by simp))
     have G2 := Lib.hid (Lib.grownBy_allocR G1.out (.cells #[.int .i64 (b : Int), .int .i64 0] 68))
     generalize w1.alloc (.cells #[.int .i64 (b : Int), .int .i64 0] 68) = w2 at *
     generalize w1.heap.size = j at *
     have hnj : g ≠ j := by omega
     have y0 := I2.out.c0
     have y1 := I2.out.c1
     refine Lib.hid ?_
     clear hi
     go_wp2_with fail
     refine (HNb _).mono ?_
     rintro _ w3 ⟨rfl, b3⟩
     have C3 := Lib.hid (kept_below C2.out b3)
     have R3 := Lib.hid (R2.out.on b3)
     have I3 := Lib.hid (I2.out.on b3)
     have G3 := Lib.hid (Lib.grownBy_below G2.out b3)
     clear b3 y0 y1
     have y0 := I3.out.c0
     have y1 := I3.out.c1
     have HIn := int_any (some ⟨g, 0, none⟩) s1 w3 (.inr ⟨g, rfl, C3.out⟩)
     rw [HI.out] at HIn
     dsimp only at HIn
     go_wp2_with fail
     refine HIn.mono ?_
     rintro _ v4 ⟨rfl, hc4, ho4⟩
     have hI := I3.out.kept ho4 hnj
     obtain ⟨c4, g4⟩ := cur_store (cur_of hc4) (Lib.grownBy_trans G3.out ho4) (Nat.le_of_lt hjr) hjg 1 (.int .i64 z)
     have C4 := Lib.hid c4
     have G4 := Lib.hid g4
     have I4 := Lib.hid (hI.set1 z)
     have R4 : Hid (Ins (v4.setCell ⟨j, 1, none⟩ (.int .i64 z)) w.heap.size 0 0) := Lib.hid ((R3.out.kept ho4 hne).below ((Below.refl j v4).setCell (p := ⟨j, 1, none⟩) (Nat.le_refl _) (.int .i64 z)) hjr)
     clear y0 y1
     have y0 := hI.c0
     have y1 := hI.c1
     have e1 := hI.f 1
     clear hc4 ho4 c4 g4 HIn
     have HRt := inright_any (b : Int) z
     obtain ⟨rr, hr⟩ : ∃ rr, In.right (b : Int) z = rr := ⟨_, rfl⟩
     rw [hr] at HRt
     have HRr := Lib.hid hr
     clear hr
     have k0 := I4.out.c0
     have k1 := I4.out.c1
     go_wp2_with fail
     refine (HRt _).mono ?_
     rintro _ w5 ⟨rfl, b5⟩
     have C5 := Lib.hid (kept_below C4.out b5)
     have R5 := Lib.hid (R4.out.on b5)
     have I5 := Lib.hid (I4.out.on b5)
     have G5 := Lib.hid (Lib.grownBy_below G4.out b5)
     clear b5 y0 y1
     clear k0 k1 e1 hI
     have y0 := I5.out.c0
     have y1 := I5.out.c1
     cases rr with
     | true =>
       have HT := Lib.hid (In.take_both HB.out HK.out.1 HK.out.2 HI.out HRr.out)
       go_wp2_with fail
       refine (err_any (some ⟨g, 0, none⟩) s3 _ (.inr ⟨g, rfl, C5.out⟩)).mono ?_
       rintro _ we ⟨rfl, hs⟩
       obtain ⟨_, rfl⟩ | ⟨hx, _⟩ := hs
       rotate_left
       · cases hx
       · by_cases he : s3.2 = 0
         · have heb : ((s3.2 : Int) != 0) = false := by rw [bne_eq_false_iff_eq]; omega
           have HT' : Hid (In.take s = (((b : Int), z), s3)) := Lib.hid (HT.out.trans (by rw [if_neg (not_not_intro he)]))
           clear he
           have x0 := R5.out.c0
           have x1 := R5.out.c1
           have f0 := R5.out.f 0
           have f1 := R5.out.f 1
           go_wp2
           obtain ⟨c5, g5⟩ := cur_store C5.out G5.out (Nat.le_refl _) hgl 0 (.int .i64 (b : Int))
           obtain ⟨c6, g6⟩ := cur_store c5 g5 (Nat.le_refl _) hgl 1 (.int .i64 z)
           exact bodyPost_ret (v := .agg #[.int .i64 (b : Int), .int .i64 z]) (by simp [results, Tryz.results172, go_sem, x0, x1]) rfl (TakeI.mk' HT'.out c6 g6)
         · have heb : ((s3.2 : Int) != 0) = true := by rw [bne_iff_ne]; omega
           have HT' : Hid (In.take s = ((0, 0), s3)) := Lib.hid (HT.out.trans (by rw [if_pos he]))
           clear he
           have x0 := R5.out.c0
           have x1 := R5.out.c1
           have f0 := R5.out.f 0
           have f1 := R5.out.f 1
           go_wp2
           obtain ⟨c5, g5⟩ := cur_store C5.out G5.out (Nat.le_refl _) hgl 0 (.int .i64 0)
           obtain ⟨c6, g6⟩ := cur_store c5 g5 (Nat.le_refl _) hgl 1 (.int .i64 0)
           exact bodyPost_ret (v := .agg #[.int .i64 0, .int .i64 0]) (by simp [results, Tryz.results172, go_sem, x0, x1]) rfl (TakeI.mk' HT'.out c6 g6)
     | false =>
       have HT := Lib.hid (In.take_arg HB.out HK.out.1 HK.out.2 HI.out HRr.out)
       have hef := failA_ne s3 (er := 2) (by decide)
       go_wp2_with fail
       refine (fail_any (some ⟨g, 0, none⟩) s3 2 _ (.inr ⟨g, rfl, C5.out⟩) (by omega)).mono ?_
       rintro _ w6 ⟨rfl, hc6, ho6⟩
       have C6 := Lib.hid (cur_of hc6)
       have R6 := Lib.hid (R5.out.kept ho6 hne)
       have I6 := Lib.hid (I5.out.kept ho6 hnj)
       have G6 := Lib.hid (Lib.grownBy_trans G5.out ho6)
       clear hc6 ho6
       clear y0 y1
       have y0 := I6.out.c0
       have y1 := I6.out.c1
       generalize failA s3 2 = s4 at *
       have heb : ((s4.2 : Int) != 0) = true := by rw [bne_iff_ne]; omega
       clear hef
       go_wp2_with fail
       refine (err_any (some ⟨g, 0, none⟩) s4 _ (.inr ⟨g, rfl, C6.out⟩)).mono ?_
       rintro _ we ⟨rfl, hs⟩
       obtain ⟨_, rfl⟩ | ⟨hx, _⟩ := hs
       rotate_left
       · cases hx
       · have x0 := R6.out.c0
         have x1 := R6.out.c1
         have f0 := R6.out.f 0
         have f1 := R6.out.f 1
         go_wp2
         obtain ⟨c5, g5⟩ := cur_store C6.out G6.out (Nat.le_refl _) hgl 0 (.int .i64 0)
         obtain ⟨c6, g6⟩ := cur_store c5 g5 (Nat.le_refl _) hgl 1 (.int .i64 0)
         exact bodyPost_ret (v := .agg #[.int .i64 0, .int .i64 0]) (by simp [results, Tryz.results172, go_sem, x0, x1]) rfl (TakeI.mk' HT.out c6 g6)
end Go.Proofs.YtdopheoedpldiaaGreatDoor
