/-
  What the document's cursor answers: Text. Conditions: where there is no error, the bytes can be read.
-/
import Derived.Test.YtblelhffghcffaaRefByte
namespace Go.Proofs.Ytblelhffghcffaa
open Go.RowKit

theorem failA_nil {s : List Nat × Nat} (hs : s.2 ≠ 0 → s.1 = []) (er : Nat) : (failA s er).2 ≠ 0 → (failA s er).1 = [] := by
  unfold failA
  split
  · exact hs
  · intro _; rfl

theorem bitsA_nil {s : List Nat × Nat} (hs : s.2 ≠ 0 → s.1 = []) : (bitsA s).2.2 ≠ 0 → (bitsA s).2.1 = [] := by
  refine failA_nil (s := (s.1.drop (Uv.get s.1).2.1, s.2)) (fun h => ?_) _
  show s.1.drop _ = []
  rw [hs h]
  simp

theorem numA_err {w : World} {B n c : Nat} {A : Option Addr} {s : List Nat × Nat} (h : Dat w B A n c s) (hs : s.2 ≠ 0 → s.1 = []) (most : Int) (he : (numA s most).2.2 ≠ 0) : (numA s most).1 = 0 ∧ (numA s most).2.1 = [] := by
  unfold numA at he ⊢
  by_cases hm : most < 0 ∨ most < ((bitsA s).1 : Int)
  · rw [if_pos hm] at he ⊢
    exact ⟨rfl, failA_nil (bitsA_nil hs) 6 he⟩
  · rw [if_neg hm] at he ⊢
    exact ⟨bitsA_zero h hs he, bitsA_nil hs he⟩

set_option maxHeartbeats 2000000 in
theorem rText_any (A : Option Addr) (n c B : Nat) (s : List Nat × Nat) (most : Int) (w : World) (h : Dat w B A n c s) (hs : s.2 ≠ 0 → s.1 = []) (hB : B ≤ w.heap.size) (h1 : -9223372036854775808 ≤ most) (h2 : most ≤ 9223372036854775807) :
    Calls Try.prog 26 #[.agg #[.slice A n c, .int .i64 (s.2 : Int)], .int .i64 most] w (RefP (.string (textA s most).1) B (textA s most).2 w) := by
  have HD := Lib.hid (fun W (hb : Below B w W) (hW : B ≤ W.heap.size) => rNum_any A n c B s most W (h.below hb) hs hW h1 h2)
  have hz := numA_err h hs most
  have hle := numA_le s most h2
  unfold textA
  clear h hs
  generalize (numA s most).1 = z at *
  generalize (numA s most).2 = s1 at *
  generalize he0 : s.2 = e0 at *
  clear he0
  by_cases he : s1.2 = 0
  · have HE := Lib.hid he
    clear hz
    by_cases hlen : s1.1.length < z
    · have ht : textB s1.1 z = (str [], 0, 3) := by unfold textB; rw [if_pos hlen]
      have hf : failA (s1.1.drop (str [], 0, 3).2.1, s1.2) (str [], 0, 3).2.2 = ([], 3) := by
        unfold failA
        rw [if_neg (by simp [he])]
      rw [ht, hf]
      clear ht hf he
      have HF := Lib.hid (fun A1 n1 c1 w => rfail_any A1 n1 c1 0 3 w)
      simp only [if_true] at HF
      go_enter Try.func26, Try.ntmps26
      go_wp2_with fail
      refine (HD.out _ (((Below.refl _ _).alloc hB _).alloc (by simp; omega) _) (by simp; omega)).mono ?_
      rintro r w1 ⟨A1, n1, c1, rfl, hd1, hbl⟩
      rw [HE.out]
      have hn1 : n1 < z := by have := (hd1 HE.out).1.1; omega
      have hc1 : n1 ≤ c1 ∧ c1 ≤ 9223372036854775807 := (hd1 HE.out).2
      obtain ⟨hc1, hc2⟩ := hc1
      have t5 := (((Two.new _ (.slice none 0 0) (.int .i64 0)).below hbl (by simp)).alloc (.cells #[.slice A1 n1 c1, .int .i64 0] 28))
      simp only [World.size_alloc] at t5
      have HT := Lib.hid t5
      have HB1 := Lib.hid ((((Below.refl w.heap.size w).alloc (Nat.le_refl _) _).alloc (by simp) _).trans (hbl.mono (by simp; omega)))
      have hz1 := HB1.out.size
      clear hbl hd1 t5 HD hlen
      go_wp2_with fail
      refine (HF.out _ _ _ _).mono ?_
      rintro r w3 ⟨rfl, hbl3⟩
      have t5 := HT.out.below hbl3 HT.out.lt
      have z0 := t5.c0
      have z1 := t5.c1
      have g0 := t5.f 0
      have g1 := t5.f 1
      have HB3 := Lib.hid ((HB1.out.alloc hz1 (.cells #[.slice A1 n1 c1, .int .i64 0] 28)).trans (hbl3.mono (by simp; omega)))
      clear hbl3 t5 HT HB1
      go_wp2
      exact bodyPost_ret (v := .tuple #[.string (str []), .agg #[.slice A1 n1 c1, .int .i64 3]]) (by simp [results, Try.results26, go_sem, z0, z1]; rfl) rfl ⟨A1, n1, c1, rfl, fun h => absurd h (by simp), (HB3.out.setCell (by simp) _).setCell (by simp) _⟩
    · have ht : textB s1.1 z = (str (s1.1.take z), z, 0) := by unfold textB; rw [if_neg hlen]
      have hf : failA (s1.1.drop (str (s1.1.take z), z, 0).2.1, s1.2) (str (s1.1.take z), z, 0).2.2 = (s1.1.drop z, 0) := by
        unfold failA
        rw [if_pos (.inl rfl)]
        simp only [he]
      rw [ht, hf]
      clear ht hf he
      go_enter Try.func26, Try.ntmps26
      go_wp2_with fail
      refine (HD.out _ (((Below.refl _ _).alloc hB _).alloc (by simp; omega) _) (by simp; omega)).mono ?_
      rintro r w1 ⟨A1, n1, c1, rfl, hd1, hbl⟩
      rw [HE.out]
      obtain ⟨hb1, hc1, hc2⟩ := hd1 HE.out
      have hn1 : z ≤ n1 := by have := hb1.1; omega
      have t5 := (((Two.new _ (.slice none 0 0) (.int .i64 0)).below hbl (by simp)).alloc (.cells #[.slice A1 n1 c1, .int .i64 0] 28))
      simp only [World.size_alloc] at t5
      have y0 := t5.c0
      have y1 := t5.c1
      have g0 := t5.f 0
      have g1 := t5.f 1
      have HB1 := Lib.hid ((((Below.refl w.heap.size w).alloc (Nat.le_refl _) _).alloc (by simp) _).trans (hbl.mono (by simp; omega)))
      have hz1 := HB1.out.size
      have hbt : BytesAt w1 B A1 z (s1.1.take z) := ⟨by simp; have := hb1.1; omega, fun x hx => hb1.2.1 x (List.mem_of_mem_take hx), fun hp => by
        obtain ⟨b, off, e, hlt, hc⟩ := hb1.2.2 (by omega)
        refine ⟨b, off, e, hlt, fun i hi => ?_⟩
        rw [hc i (by omega)]
        simp [List.getD, hi]⟩
      have hcv := conv_bytes (c := c1) (hbt.below (((Below.refl B w1).alloc (by omega) (.cells #[.slice A1 n1 c1, .int .i64 0] 28)).drew))
      have HC := Lib.hid (hb1.cut hn1 hc1)
      clear hbl hd1 t5 HD hlen hbt hb1
      by_cases hck : c1 = z
      · subst hck
        obtain rfl : n1 = c1 := by omega
        go_wp2
        go_region
        go_wp2
        refine bodyPost_ret (v := .tuple #[.string (str (s1.1.take n1)), .agg #[.slice A1 0 0, .int .i64 0]]) (by simp [results, Try.results26, go_sem, y0, y1]) rfl ⟨A1, 0, 0, rfl, fun _ => ⟨?_, by omega, by omega⟩, ((((HB1.out).alloc hz1 _).setCell (by simp) _).setCell (by simp) _).drew⟩
        have h := HC.out
        rw [if_pos trivial, Nat.sub_self] at h
        exact h.below (((((Below.refl B w1).alloc (by omega) _).setCell (by simp; omega) _).setCell (by simp; omega) _)).drew
      · go_wp2
        go_region
        go_wp2
        refine bodyPost_ret (v := .tuple #[.string (str (s1.1.take z)), .agg #[.slice (Option.map (fun x => x.add z) A1) (n1 - z) (c1 - z), .int .i64 0]]) (by simp [results, Try.results26, go_sem, y0, y1]) rfl ⟨_, n1 - z, c1 - z, rfl, fun _ => ⟨?_, by omega, by omega⟩, ((((HB1.out).alloc hz1 _).setCell (by simp) _).setCell (by simp) _).drew⟩
        have h := HC.out
        rw [if_neg hck, Nat.mul_one] at h
        exact h.below (((((Below.refl B w1).alloc (by omega) _).setCell (by simp; omega) _).setCell (by simp; omega) _)).drew
  · obtain ⟨hz0, hl0⟩ := hz he
    subst hz0
    have hv : textB s1.1 0 = (str [], 0, 0) := by rw [hl0]; rfl
    have hf : failA (s1.1.drop (str [], 0, 0).2.1, s1.2) (str [], 0, 0).2.2 = s1 := by
      unfold failA
      rw [if_pos (.inl rfl)]
      rfl
    rw [hv, hf]
    have hb : ((s1.2 : Int) != 0) = true := by rw [bne_iff_ne]; omega
    have HE := Lib.hid he
    clear hf hz he hv hl0
    go_enter Try.func26, Try.ntmps26
    go_wp2_with fail
    refine (HD.out _ (((Below.refl _ _).alloc hB _).alloc (by simp; omega) _) (by simp; omega)).mono ?_
    rintro r w1 ⟨A1, n1, c1, rfl, hd1, hbl⟩
    have t5 := (((Two.new _ (.slice none 0 0) (.int .i64 0)).below hbl (by simp)).alloc (.cells #[.slice A1 n1 c1, .int .i64 (s1.2 : Int)] 28))
    simp only [World.size_alloc] at t5
    have y0 := t5.c0
    have y1 := t5.c1
    have g0 := t5.f 0
    have g1 := t5.f 1
    have HB1 := Lib.hid ((((Below.refl w.heap.size w).alloc (Nat.le_refl _) _).alloc (by simp) _).trans (hbl.mono (by simp; omega)))
    have hz1 := HB1.out.size
    clear hbl hd1 t5 HD
    go_wp2
    go_region
    go_wp2
    exact bodyPost_ret (v := .tuple #[.string (str []), .agg #[.slice A1 n1 c1, .int .i64 (s1.2 : Int)]]) (by simp [results, Try.results26, go_sem, y0, y1]; rfl) rfl ⟨A1, n1, c1, rfl, fun h => absurd h HE.out, ((((HB1.out).alloc hz1 _).setCell (by simp) _).setCell (by simp) _).drew⟩
end Go.Proofs.Ytblelhffghcffaa
