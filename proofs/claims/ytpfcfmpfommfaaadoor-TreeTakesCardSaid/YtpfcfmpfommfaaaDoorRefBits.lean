/-
  What the document's cursor answers: Bits. Conditions: where there is no error, the bytes can be read.
-/
import Derived.Test.YtpfcfmpfommfaaaDoorRefCur
namespace Go.Proofs.YtpfcfmpfommfaaaDoor
open Go.RowKit

theorem bitsA_err {s : List Nat × Nat} (h0 : s.2 ≠ 0) (hs : s.2 ≠ 0 → s.1 = []) : bitsA s = (0, s) := by
  obtain ⟨l, e⟩ := s
  obtain rfl : l = [] := hs h0
  show (0, failA ([], e) 3) = _
  unfold failA
  rw [if_pos (.inr h0)]

set_option maxRecDepth 100000 in
set_option maxHeartbeats 1000000 in
theorem rBits_any (A : Option Addr) (n c B : Nat) (s : List Nat × Nat) (w : World) (h : Dat w B A n c s) (hs : s.2 ≠ 0 → s.1 = []) (hB : B ≤ w.heap.size) :
    Calls Tryd.prog 71 #[.agg #[.slice A n c, .int .i64 (s.2 : Int)]] w (RefP (.int .u64 (bitsA s).1) B (bitsA s).2 w) := by
  by_cases h0 : s.2 = 0
  · obtain ⟨hb, hnc, hc⟩ := h h0
    have HG := Lib.hid (fun W (hW : BytesAt W B A n s.1) => rget_any A n c B s.1 W hW (by omega))
    have HB := Lib.hid hb
    rcases Uv.get_just hb.2.1 with ⟨x, hg, hput, hl, hx⟩ | ⟨z, hg, hz⟩
    · have hk : (Uv.put x).length ≤ n := by rw [hb.1] at hl; exact hl
      have hv : bitsA s = (x, s.1.drop (Uv.put x).length, 0) := by
        unfold bitsA failA
        rw [hg, if_pos (.inl rfl)]
        simp only [h0]
      rw [hv, h0]
      rw [hg] at HG
      have HC := Lib.hid (hb.cut hk hnc)
      clear h hs hb hv hg h0 hl hput
      generalize (Uv.put x).length = k at *
      simp only at HG
      go_enter Tryd.func71, Tryd.ntmps71
      go_wp2_with (go_at_call 85; refine (HG.out _ (HB.out.below (((Below.refl _ _).alloc hB _).alloc (by simp; omega) _))).mono ?_; unfold Triple; rintro e w' ⟨rfl, rfl⟩)
      by_cases hck : c = k
      · go_region
        go_wp2
        refine bodyPost_ret (v := .tuple #[.int .u64 (x : Int), .agg #[.slice A (n - k) 0, .int .i64 0]]) (by simp [results, Tryd.results71, go_sem]) rfl ⟨A, n - k, 0, rfl, fun _ => ⟨?_, by omega, by omega⟩, (((Below.refl _ _).alloc (Nat.le_refl _) _).alloc (by simp) _).drew⟩
        have h := HC.out
        rw [if_pos hck] at h
        exact h.below ((((Below.refl _ _).alloc hB _).alloc (by simp; omega) _).drew)
      · go_region
        go_wp2
        refine bodyPost_ret (v := .tuple #[.int .u64 (x : Int), .agg #[.slice (Option.map (fun x => x.add k) A) (n - k) (c - k), .int .i64 0]]) (by simp [results, Tryd.results71, go_sem]) rfl ⟨_, n - k, c - k, rfl, fun _ => ⟨?_, by omega, by omega⟩, (((Below.refl _ _).alloc (Nat.le_refl _) _).alloc (by simp) _).drew⟩
        have h := HC.out
        rw [if_neg hck, Nat.mul_one] at h
        exact h.below ((((Below.refl _ _).alloc hB _).alloc (by simp; omega) _).drew)
    · have hv : bitsA s = (0, [], z) := by
        unfold bitsA failA
        rw [hg, if_neg (by simp only; omega)]
      rw [hv, h0]
      rw [hg] at HG
      have hzb : ((z : Int) != 0) = true := by rw [bne_iff_ne]; omega
      have HF := Lib.hid (fun w => rfail_any A n c 0 z w)
      rw [if_pos rfl] at HF
      clear h hs hb hv hg h0
      simp only at HG
      go_enter Tryd.func71, Tryd.ntmps71
      go_wp2_with (first
        | (go_at_call 85; refine (HG.out _ (HB.out.below (((Below.refl _ _).alloc hB _).alloc (by simp; omega) _))).mono ?_; unfold Triple; rintro e w' ⟨rfl, rfl⟩))
      refine (HF.out _).mono ?_
      rintro r w1 ⟨rfl, hbl⟩
      obtain ⟨hc1, hf1⟩ := bcell2 hbl
      have hz1 := hbl.size
      simp at hz1
      have HBL := Lib.hid hbl
      clear hbl
      go_wp2
      exact bodyPost_ret (v := .tuple #[.int .u64 0, .agg #[.slice A n c, .int .i64 (z : Int)]]) (by simp [results, Tryd.results71, go_sem, hc1]) rfl ⟨A, n, c, rfl, fun h => absurd h (by simp only; omega), ((((Below.refl _ _).alloc (Nat.le_refl _) _).alloc (by simp) _).trans (HBL.out.mono (by simp; omega))).setCell (by simp) _ |>.setCell (by simp) _⟩
  · rw [bitsA_err h0 hs]
    have hb : ((s.2 : Int) != 0) = true := by rw [bne_iff_ne]; omega
    have H := Lib.hid h
    clear h hs
    generalize he : s.2 = e at *
    have HE := Lib.hid he
    clear he
    go_enter Tryd.func71, Tryd.ntmps71
    go_wp2
    go_region
    go_wp2
    refine bodyPost_ret (v := .tuple #[.int .u64 0, .agg #[.slice A n c, .int .i64 (e : Int)]]) (by simp [results, Tryd.results71, go_sem]) rfl ⟨A, n, c, ?_, fun h => absurd (HE.out ▸ h) h0, (((Below.refl _ _).alloc (Nat.le_refl _) _).alloc (by simp) _).drew⟩
    rw [HE.out]
    rfl
end Go.Proofs.YtpfcfmpfommfaaaDoor
