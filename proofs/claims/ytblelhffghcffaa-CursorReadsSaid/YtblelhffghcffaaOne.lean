/-
  The law's 'one': whatever is asked, both cursors tell the same, and go on alike. Conditions: none.
-/
import Derived.Test.YtblelhffghcffaaOne0
import Derived.Test.YtblelhffghcffaaOne1
import Derived.Test.YtblelhffghcffaaOne2
import Derived.Test.YtblelhffghcffaaOne3
import Derived.Test.YtblelhffghcffaaOne4
namespace Go.Proofs.Ytblelhffghcffaa
open Go.RowKit

theorem and_15 (m : Int) : ∃ er : Nat, er ≤ 15 ∧ bits .and .i64 m 15 = (er : Int) := by
  have h : (BitVec.ofInt 64 m &&& BitVec.ofInt 64 15).toNat ≤ 15 := by
    rw [BitVec.toNat_and]
    exact Nat.and_le_right
  refine ⟨(BitVec.ofInt 64 m &&& BitVec.ofInt 64 15).toNat, h, ?_⟩
  show IntKind.i64.wrap ((BitVec.ofInt 64 m &&& BitVec.ofInt 64 15).toNat : Int) = _
  rw [IntKind.wrap_i64]
  omega

set_option maxHeartbeats 2000000 in
set_option maxRecDepth 100000 in
theorem one_5 (g : Nat) (A : Option Addr) (n c B : Nat) (s : List Nat × Nat) (k m : Int) (w0 : World) (hc : Cur w0 g s) (hd : Dat w0 B A n c s) (hBg : B ≤ g)
    (t0 : (k.tmod 6 == 0) = false) (t1 : (k.tmod 6 == 1) = false) (t2 : (k.tmod 6 == 2) = false) (t3 : (k.tmod 6 == 3) = false) (t4 : (k.tmod 6 == 4) = false) :
    Calls Try.prog 7 #[.pointer (some ⟨g, 0, none⟩), .agg #[.slice A n c, .int .i64 (s.2 : Int)], .agg #[.int .i64 k, .int .i64 m]] w0 (OnePost g B w0) := by
  obtain ⟨er, hr, hand⟩ := and_15 m
  have hlt := hc.lt
  have HF := Lib.hid (fun W (h : Cur W g s) => fail_cur g s er W h (by omega))
  have HG := Lib.hid (fun W => rFail_any A n c s.2 er W)
  have HS := Lib.hid (fail_snd s er)
  have hdd : Dat w0 B A n c (failA s er) := by
    intro h0
    have h1 : failA s er = s := by
      rw [fail_snd] at h0
      unfold failA
      rw [if_pos]
      by_cases h2 : s.2 = 0
      · rw [if_pos h2] at h0; exact .inl h0
      · exact .inr h2
    rw [h1] at h0 ⊢
    exact hd h0
  have HD := Lib.hid hdd
  have HW := Lib.hid hc
  have HA := Lib.hid hand
  clear hd hc hdd hand
  go_enter Try.func7, Try.ntmps7
  go_wp2_with fail
  rw [HA.out]
  have hg0 : w0.grownBy (((w0.alloc (.cells #[.slice A n c, .int .i64 (s.2 : Int)] 28)).alloc (.cells #[.int .i64 k, .int .i64 m] 32)).alloc (.cells #[.slice none 0 0, .int .i64 0] 28)) none := Lib.grownBy_allocR (Lib.grownBy_allocR (World.grownBy_alloc _ _ _) _) _
  refine (HF.out _ (HW.out.kept hg0 (by simp))).mono ?_
  rintro r w1 ⟨rfl, hc1, hg1⟩
  have q4 : Two w1 w0.heap.size (.slice A n c) (.int .i64 (s.2 : Int)) := (((Two.new w0 _ _).alloc _).alloc _).kept hg1 (by intro e; injection e with e; omega)
  have q6 := (Two.new ((w0.alloc (.cells #[.slice A n c, .int .i64 (s.2 : Int)] 28)).alloc (.cells #[.int .i64 k, .int .i64 m] 32)) (.slice none 0 0) (.int .i64 0)).kept hg1 (by simp; omega)
  simp only [World.size_alloc] at q6
  have hg01 : w0.grownBy w1 (some g) := Lib.grownBy_trans ⟨hg0.os, hg0.tape, hg0.output, hg0.size, fun k hk _ => hg0.block k hk (by simp)⟩ hg1
  have x0 := q4.c0
  have x1 := q4.c1
  have HQ := Lib.hid q6
  have HG1 := Lib.hid hg01
  have HC1 := Lib.hid hc1
  clear hc1 hg1 hg0 q4 q6 hg01 HF HW
  go_wp2_with fail
  refine (HG.out _).mono ?_
  rintro r w2 ⟨rfl, hbl⟩
  rw [← HS.out]
  have q6 := HQ.out.below hbl HQ.out.lt
  have z0 := q6.c0
  have z1 := q6.c1
  have g0 := q6.f 0
  have g1 := q6.f 1
  have hg2 : w1.grownBy w2 none := ⟨hbl.os, hbl.tape, hbl.output, hbl.size, fun k hk _ => hbl.block k hk⟩
  have hq6 := q6.set (.slice A n c) (.int .i64 ((failA s er).2 : Int))
  have hgs : w2.grownBy ((w2.setCell ⟨w0.heap.size + 1 + 1, 0, none⟩ (.slice A n c)).setCell ⟨w0.heap.size + 1 + 1, 1, none⟩ (.int .i64 ((failA s er).2 : Int))) (some (w0.heap.size + 1 + 1)) := Lib.grownBy_setB (Lib.grownBy_setB (World.grownBy.refl _ _) _ _) _ _
  have HC2 := Lib.hid ((HC1.out.kept hg2 (by simp)).kept hgs (fun k hk => by injection hk with hk; omega))
  have HG2 := Lib.hid (Lib.grownBy_trans HG1.out (⟨hg2.os, hg2.tape, hg2.output, hg2.size, fun k hk _ => hg2.block k hk (by simp)⟩ : w1.grownBy w2 (some g)))
  have HG3 := Lib.hid (grown_set (grown_set HG2.out (p := w0.heap.size + 1 + 1) (by omega) 0 (.slice A n c)) (p := w0.heap.size + 1 + 1) (by omega) 1 (.int .i64 ((failA s er).2 : Int)))
  clear hbl q6 hg2 hq6 hgs HQ HG1 HC1 HG
  go_wp2
  refine bodyPost_ret (v := .tuple #[.agg #[.slice A n c, .int .i64 ((failA s er).2 : Int)], .bool true]) (by simp [results, Try.results7, go_sem, z0, z1]) rfl ⟨failA s er, A, n, c, rfl, HC2.out, HD.out.kept HG3.out (fun k hk => by injection hk with hk; omega), HG3.out⟩

theorem one_any (g : Nat) (A : Option Addr) (n c B : Nat) (s : List Nat × Nat) (k m : Int) (w0 : World) (hc : Cur w0 g s) (hd : Dat w0 B A n c s) (hBg : B ≤ g) (h1 : -9223372036854775808 ≤ m) (h2 : m ≤ 9223372036854775807) :
    Calls Try.prog 7 #[.pointer (some ⟨g, 0, none⟩), .agg #[.slice A n c, .int .i64 (s.2 : Int)], .agg #[.int .i64 k, .int .i64 m]] w0 (OnePost g B w0) := by
  rcases Bool.eq_false_or_eq_true (k.tmod 6 == 0) with t0 | t0
  · exact one_0 g A n c B s k m w0 hc hd hBg h1 h2 t0
  rcases Bool.eq_false_or_eq_true (k.tmod 6 == 1) with t1 | t1
  · exact one_1 g A n c B s k m w0 hc hd hBg t0 t1
  rcases Bool.eq_false_or_eq_true (k.tmod 6 == 2) with t2 | t2
  · exact one_2 g A n c B s k m w0 hc hd hBg t0 t1 t2
  rcases Bool.eq_false_or_eq_true (k.tmod 6 == 3) with t3 | t3
  · exact one_3 g A n c B s k m w0 hc hd hBg h1 h2 t0 t1 t2 t3
  rcases Bool.eq_false_or_eq_true (k.tmod 6 == 4) with t4 | t4
  · exact one_4 g A n c B s k m w0 hc hd hBg t0 t1 t2 t3 t4
  · exact one_5 g A n c B s k m w0 hc hd hBg t0 t1 t2 t3 t4
end Go.Proofs.Ytblelhffghcffaa
