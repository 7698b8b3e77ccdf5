/-
  What the document's cursor answers: Num, Int. Conditions: where there is no error, the bytes can be read.
-/
import Derived.Test.YtpfcfmpfommfaaaDoorRefBits
namespace Go.Proofs.YtpfcfmpfommfaaaDoor
open Go.RowKit

theorem bitsA_zero {w : World} {B n c : Nat} {A : Option Addr} {s : List Nat × Nat} (h : Dat w B A n c s) (hs : s.2 ≠ 0 → s.1 = []) (he : (bitsA s).2.2 ≠ 0) : (bitsA s).1 = 0 := by
  by_cases h0 : s.2 = 0
  · rcases Uv.get_just (h h0).1.2.1 with ⟨x, hg, _, _, _⟩ | ⟨z, hg, _⟩
    · exfalso
      apply he
      unfold bitsA
      rw [hg]
      unfold failA
      rw [if_pos (.inl rfl)]
      exact h0
    · unfold bitsA
      rw [hg]
  · rw [bitsA_err h0 hs]

theorem bitsA_ok {w : World} {B n c : Nat} {A : Option Addr} {s : List Nat × Nat} (h : Dat w B A n c s) (hs : s.2 ≠ 0 → s.1 = []) (he : (bitsA s).2.2 = 0) : s.2 = 0 ∧ (bitsA s).1 < 18446744073709551616 := by
  by_cases h0 : s.2 = 0
  · exact ⟨h0, get_fst_lt (h h0).1.2.1⟩
  · rw [bitsA_err h0 hs] at he
    exact absurd he h0

theorem ite_self' (most : Int) (s1 : List Nat × Nat) : (if most < 0 ∨ most < ((0 : Nat) : Int) then ((0, s1) : Nat × List Nat × Nat) else (0, s1)) = (0, s1) := by split <;> rfl

set_option maxRecDepth 100000 in
set_option maxHeartbeats 1000000 in
theorem rNum_any (A : Option Addr) (n c B : Nat) (s : List Nat × Nat) (most : Int) (w : World) (h : Dat w B A n c s) (hs : s.2 ≠ 0 → s.1 = []) (hB : B ≤ w.heap.size) (h1 : -9223372036854775808 ≤ most) (h2 : most ≤ 9223372036854775807) :
    Calls Tryd.prog 51 #[.agg #[.slice A n c, .int .i64 (s.2 : Int)], .int .i64 most] w (RefP (.int .i64 (numA s most).1) B (numA s most).2 w) := by
  have HD := Lib.hid (fun W (hb : Below B w W) (hW : B ≤ W.heap.size) => rBits_any A n c B s W (h.below hb) hs hW)
  have hz := bitsA_zero h hs
  have ho := bitsA_ok h hs
  unfold numA
  clear h hs
  generalize (bitsA s).1 = x at *
  generalize (bitsA s).2 = s1 at *
  by_cases he : s1.2 = 0
  · obtain ⟨h0, hx⟩ := ho he
    have hf : failA s1 6 = ([], 6) := by unfold failA; rw [if_neg (by omega)]
    have HF := Lib.hid (fun w => rfail_any A n c 0 6 w)
    rw [if_pos rfl] at HF
    rw [hf]
    rw [h0] at HD ⊢
    have HE := Lib.hid he
    clear hf ho hz h0
    by_cases hm : most < 0 ∨ most < (x : Int)
    · rw [if_pos hm]
      have HM := Lib.hid hm
      clear he
      have hcase : most < 0 ∨ ∃ k : Nat, most = k ∧ k < x := by
        rcases hm with hm | hm
        · exact .inl hm
        · by_cases h0 : most < 0
          · exact .inl h0
          · obtain ⟨k, rfl⟩ := Int.eq_ofNat_of_zero_le (show 0 ≤ most by omega)
            exact .inr ⟨k, rfl, by omega⟩
      clear hm HM
      rcases hcase with hm | ⟨k, rfl, hk⟩
      all_goals
        go_enter Tryd.func51, Tryd.ntmps51
        go_wp2_with fail
        refine (HD.out _ (((Below.refl _ _).alloc hB _).alloc (by simp; omega) _) (by simp; omega)).mono ?_
        rintro r w1 ⟨A1, n1, c1, rfl, hd1, hbl⟩
        rw [HE.out]
        have t5 := (((Two.new _ (.slice none 0 0) (.int .i64 0)).below hbl (by simp)).alloc (.cells #[.slice A1 n1 c1, .int .i64 0] 42))
        have t2 := (((Two.new w (.slice A n c) (.int .i64 0)).alloc (.cells #[.slice none 0 0, .int .i64 0] 42)).below hbl (by simp; omega)).alloc (.cells #[.slice A1 n1 c1, .int .i64 0] 42)
        simp only [World.size_alloc] at t5
        have y0 := t2.c0
        have y1 := t2.c1
        have HT := Lib.hid t5
        have HB1 := Lib.hid ((((Below.refl w.heap.size w).alloc (Nat.le_refl _) _).alloc (by simp) _).trans (hbl.mono (by simp; omega)))
        have hz1 := HB1.out.size
        clear hbl hd1 t5 t2
        go_wp2_with fail
        refine (HF.out _).mono ?_
        rintro r w3 ⟨rfl, hbl3⟩
        have t5 := HT.out.below hbl3 HT.out.lt
        have z0 := t5.c0
        have z1 := t5.c1
        have g0 := t5.f 0
        have g1 := t5.f 1
        have t6 := t5.set (.slice A n c) (.int .i64 6)
        have v0 := t6.c0
        have v1 := t6.c1
        have HB3 := Lib.hid ((HB1.out.alloc hz1 (.cells #[.slice A1 n1 c1, .int .i64 0] 42)).trans (hbl3.mono (by simp; omega)))
        clear hbl3 t5 t6 HT HB1
        go_wp2
        exact bodyPost_ret (v := .tuple #[.int .i64 0, .agg #[.slice A n c, .int .i64 6]]) (by simp [results, Tryd.results51, go_sem, z0, z1]) rfl ⟨A, n, c, rfl, fun h => absurd h (by simp), (HB3.out.setCell (by simp) _).setCell (by simp) _⟩
    · rw [if_neg hm]
      obtain ⟨k, rfl⟩ := Int.eq_ofNat_of_zero_le (show 0 ≤ most by omega)
      have hk : x ≤ k := by omega
      clear hm h1 HF he
      go_enter Tryd.func51, Tryd.ntmps51
      go_wp2_with fail
      refine (HD.out _ (((Below.refl _ _).alloc hB _).alloc (by simp; omega) _) (by simp; omega)).mono ?_
      rintro r w1 ⟨A1, n1, c1, rfl, hd1, hbl⟩
      rw [HE.out]
      have t5 := (((Two.new _ (.slice none 0 0) (.int .i64 0)).below hbl (by simp)).alloc (.cells #[.slice A1 n1 c1, .int .i64 0] 42))
      simp only [World.size_alloc] at t5
      have y0 := t5.c0
      have y1 := t5.c1
      have g0 := t5.f 0
      have g1 := t5.f 1
      have HB1 := Lib.hid ((((Below.refl w.heap.size w).alloc (Nat.le_refl _) _).alloc (by simp) _).trans (hbl.mono (by simp; omega)))
      have hz1 := HB1.out.size
      have HD1 := Lib.hid hd1
      clear hbl hd1 t5
      go_wp2
      go_region
      go_wp2
      refine bodyPost_ret (v := .tuple #[.int .i64 (x : Int), .agg #[.slice A1 n1 c1, .int .i64 0]]) (by simp [results, Tryd.results51, go_sem, y0, y1]) rfl ⟨A1, n1, c1, by rw [HE.out]; rfl, HD1.out.below ?_, ?_⟩
      · exact (((((Below.refl B w1).alloc (by omega) _).setCell (by simp; omega) _).setCell (by simp; omega) _)).drew
      · exact ((((HB1.out).alloc hz1 _).setCell (by simp) _).setCell (by simp) _).drew
  · have hx0 := hz he
    subst hx0
    have hf : failA s1 6 = s1 := by unfold failA; rw [if_pos (.inr he)]
    rw [hf, ite_self' most s1]
    have hb : ((s1.2 : Int) == 0) = false := by rw [beq_eq_false_iff_ne]; omega
    have HE := Lib.hid he
    generalize he0 : s.2 = e0 at *
    clear hf ho hz he he0
    go_enter Tryd.func51, Tryd.ntmps51
    go_wp2_with fail
    refine (HD.out _ (((Below.refl _ _).alloc hB _).alloc (by simp; omega) _) (by simp; omega)).mono ?_
    rintro r w1 ⟨A1, n1, c1, rfl, hd1, hbl⟩
    have t5 := (((Two.new _ (.slice none 0 0) (.int .i64 0)).below hbl (by simp)).alloc (.cells #[.slice A1 n1 c1, .int .i64 (s1.2 : Int)] 42))
    simp only [World.size_alloc] at t5
    have y0 := t5.c0
    have y1 := t5.c1
    have g0 := t5.f 0
    have g1 := t5.f 1
    have HB1 := Lib.hid ((((Below.refl w.heap.size w).alloc (Nat.le_refl _) _).alloc (by simp) _).trans (hbl.mono (by simp; omega)))
    have hz1 := HB1.out.size
    clear hbl hd1 t5
    go_wp2
    go_region
    go_wp2
    exact bodyPost_ret (v := .tuple #[.int .i64 0, .agg #[.slice A1 n1 c1, .int .i64 (s1.2 : Int)]]) (by simp [results, Tryd.results51, go_sem, y0, y1]) rfl ⟨A1, n1, c1, rfl, fun h => absurd h HE.out, ((((HB1.out).alloc hz1 _).setCell (by simp) _).setCell (by simp) _).drew⟩
end Go.Proofs.YtpfcfmpfommfaaaDoor
