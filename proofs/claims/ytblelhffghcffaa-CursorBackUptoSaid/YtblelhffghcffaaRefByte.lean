/-
  What the document's cursor answers: Byte. Conditions: where there is no error, the bytes can be read.
-/
import Derived.Test.YtblelhffghcffaaRefInt
namespace Go.Proofs.Ytblelhffghcffaa
open Go.RowKit

set_option maxHeartbeats 1000000 in
theorem rByte_any (A : Option Addr) (n c B : Nat) (s : List Nat × Nat) (w : World) (h : Dat w B A n c s) (hs : s.2 ≠ 0 → s.1 = []) (hB : B ≤ w.heap.size) :
    Calls Try.prog 25 #[.agg #[.slice A n c, .int .i64 (s.2 : Int)]] w (RefP (.int .u8 (byteA s).1) B (byteA s).2 w) := by
  by_cases h0 : s.2 = 0
  · obtain ⟨hb, hnc, hc⟩ := h h0
    by_cases hn : n = 0
    · have hl : s.1 = [] := List.eq_nil_of_length_eq_zero (by rw [hb.1, hn])
      have hv : byteA s = (0, [], 3) := by
        obtain ⟨l, e⟩ := s
        simp only at hl h0
        subst hl h0
        rfl
      have HF := Lib.hid (fun w => rfail_any A 0 c 0 3 w)
      rw [if_pos rfl] at HF
      rw [hv, h0]
      subst hn
      clear h hs hb hl hv h0
      go_enter Try.func25, Try.ntmps25
      go_wp2_with fail
      refine (HF.out _).mono ?_
      rintro r w1 ⟨rfl, hbl⟩
      have t5 := (Two.new _ (.slice none 0 0) (.int .i64 0)).below hbl (by simp)
      simp only [World.size_alloc] at t5
      have y0 := t5.c0
      have y1 := t5.c1
      have g0 := t5.f 0
      have g1 := t5.f 1
      have HB1 := Lib.hid ((((Below.refl w.heap.size w).alloc (Nat.le_refl _) _).alloc (by simp) _).trans (hbl.mono (by simp; omega)))
      clear hbl t5
      go_wp2
      exact bodyPost_ret (v := .tuple #[.int .u8 0, .agg #[.slice A 0 c, .int .i64 3]]) (by simp [results, Try.results25, go_sem, y0, y1]) rfl ⟨A, 0, c, rfl, fun h => absurd h (by simp), (HB1.out.setCell (by simp) _).setCell (by simp) _⟩
    · obtain ⟨x, r, hl⟩ : ∃ x r, s.1 = x :: r := by
        cases hl : s.1 with
        | nil => have := hb.1; rw [hl] at this; simp at this; omega
        | cons x r => exact ⟨x, r, rfl⟩
      obtain ⟨b, off, hA, hbB, hcell⟩ := hb.2.2 (by omega)
      subst hA
      have hx := hcell 0 (by omega)
      rw [hl] at hx
      simp only [List.getD_cons_zero, Nat.add_zero] at hx
      have hv : byteA s = (x, r, 0) := by
        obtain ⟨l, e⟩ := s
        simp only at hl h0
        subst hl h0
        rfl
      have hcut := hb.cut (k := 1) (c := c) (by omega) hnc
      rw [hl, List.drop_one, List.tail_cons] at hcut
      have HC := Lib.hid hcut
      have hbw : b < w.heap.size := by omega
      have hn1 : 0 < n := by omega
      rw [hv, h0]
      clear h hs hb hl hv h0 hcell hcut hn
      by_cases hck : c = 1
      · subst hck
        obtain rfl : n = 1 := by omega
        go_enter Try.func25, Try.ntmps25
        go_wp2
        go_region
        go_wp2
        refine bodyPost_ret (v := .tuple #[.int .u8 (x : Int), .agg #[.slice (some ⟨b, off, none⟩) 0 0, .int .i64 0]]) (by simp [results, Try.results25, go_sem]) rfl ⟨_, 0, 0, rfl, fun _ => ⟨?_, by omega, by omega⟩, (((Below.refl _ _).alloc (Nat.le_refl _) _).alloc (by simp) _).drew⟩
        have h := HC.out
        rw [if_pos trivial] at h
        exact h.below ((((Below.refl _ _).alloc hB _).alloc (by simp; omega) _).drew)
      · go_enter Try.func25, Try.ntmps25
        go_wp2
        go_region
        go_wp2
        refine bodyPost_ret (v := .tuple #[.int .u8 (x : Int), .agg #[.slice (some ⟨b, off + 1, none⟩) (n - 1) (c - 1), .int .i64 0]]) (by simp [results, Try.results25, go_sem]) rfl ⟨_, n - 1, c - 1, rfl, fun _ => ⟨?_, by omega, by omega⟩, (((Below.refl _ _).alloc (Nat.le_refl _) _).alloc (by simp) _).drew⟩
        have h := HC.out
        rw [if_neg hck] at h
        exact h.below ((((Below.refl _ _).alloc hB _).alloc (by simp; omega) _).drew)
  · have hv : byteA s = (0, s) := by
      obtain ⟨l, e⟩ := s
      obtain rfl : l = [] := hs h0
      show (0, failA ([], e) 3) = _
      unfold failA
      rw [if_pos (.inr h0)]
    rw [hv]
    have hb : ((s.2 : Int) != 0) = true := by rw [bne_iff_ne]; omega
    clear h hs hv
    generalize he : s.2 = e at *
    have HE := Lib.hid he
    clear he
    go_enter Try.func25, Try.ntmps25
    go_wp2
    go_region
    go_wp2
    refine bodyPost_ret (v := .tuple #[.int .u8 0, .agg #[.slice A n c, .int .i64 (e : Int)]]) (by simp [results, Try.results25, go_sem]) rfl ⟨A, n, c, ?_, fun h => absurd (HE.out ▸ h) h0, (((Below.refl _ _).alloc (Nat.le_refl _) _).alloc (by simp) _).drew⟩
    rw [HE.out]
    rfl
end Go.Proofs.Ytblelhffghcffaa
