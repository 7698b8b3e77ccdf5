/-
  What the document's cursor answers: Int. Conditions: where there is no error, the bytes can be read.
-/
import Derived.Test.YtpfcfmpfommfaaaDoorRefNum
namespace Go.Proofs.YtpfcfmpfommfaaaDoor
open Go.RowKit

set_option maxRecDepth 100000 in
set_option maxHeartbeats 1000000 in
theorem rInt_any (A : Option Addr) (n c B : Nat) (s : List Nat × Nat) (w : World) (h : Dat w B A n c s) (hs : s.2 ≠ 0 → s.1 = []) (hB : B ≤ w.heap.size) :
    Calls Tryd.prog 52 #[.agg #[.slice A n c, .int .i64 (s.2 : Int)]] w (RefP (.int .i64 (intA s).1) B (intA s).2 w) := by
  have HD := Lib.hid (fun W (hb : Below B w W) (hW : B ≤ W.heap.size) => rBits_any A n c B s W (h.below hb) hs hW)
  have hz := bitsA_zero h hs
  have ho := bitsA_ok h hs
  have hv : intA s = (Uv.unfold_ (bitsA s).1, (bitsA s).2) := rfl
  rw [hv]
  clear h hs hv
  generalize (bitsA s).1 = x at *
  generalize (bitsA s).2 = s1 at *
  by_cases he : s1.2 = 0
  · obtain ⟨h0, hx⟩ := ho he
    rw [h0] at HD ⊢
    have HE := Lib.hid he
    clear ho hz h0 he
    go_enter Tryd.func52, Tryd.ntmps52
    go_wp2_with fail
    refine (HD.out _ (((Below.refl _ _).alloc hB _).alloc (by simp; omega) _) (by simp; omega)).mono ?_
    rintro r w1 ⟨A1, n1, c1, rfl, hd1, hbl⟩
    rw [HE.out]
    have t5 := (((Two.new _ (.slice none 0 0) (.int .i64 0)).below hbl (by simp)).alloc (.cells #[.slice A1 n1 c1, .int .i64 0] 42))
    simp only [World.size_alloc] at t5
    have y0 := t5.c0
    have y1 := t5.c1
    have g0 := t5.f 0
    have g1 := t5.f 1
    have HB1 := Lib.hid ((((Below.refl w.heap.size w).alloc (Nat.le_refl _) _).alloc (by simp) _).trans (hbl.mono (by simp; omega)))
    have hz1 := HB1.out.size
    have HD1 := Lib.hid hd1
    clear hbl hd1 t5 HD
    go_wp2
    go_region_with (go_at_call 73; ((with_reducible refine (runfold_any x _ hx).mono ?_); rintro e w' ⟨rfl, rfl⟩))
    all_goals
      go_wp2
      refine bodyPost_ret (v := .tuple #[.int .i64 (Uv.unfold_ x), .agg #[.slice A1 n1 c1, .int .i64 0]]) (by simp [results, Tryd.results52, go_sem, y0, y1]) rfl ⟨A1, n1, c1, by rw [HE.out]; rfl, HD1.out.below ?_, ?_⟩
      · exact (((((Below.refl B w1).alloc (by omega) _).setCell (by simp; omega) _).setCell (by simp; omega) _)).drew
      · exact ((((HB1.out).alloc hz1 _).setCell (by simp) _).setCell (by simp) _).drew
  · have hx0 := hz he
    subst hx0
    have hb : ((s1.2 : Int) != 0) = true := by rw [bne_iff_ne]; omega
    have HE := Lib.hid he
    generalize he0 : s.2 = e0 at *
    clear ho hz he he0
    go_enter Tryd.func52, Tryd.ntmps52
    go_wp2_with fail
    refine (HD.out _ (((Below.refl _ _).alloc hB _).alloc (by simp; omega) _) (by simp; omega)).mono ?_
    rintro r w1 ⟨A1, n1, c1, rfl, hd1, hbl⟩
    have t5 := (((Two.new _ (.slice none 0 0) (.int .i64 0)).below hbl (by simp)).alloc (.cells #[.slice A1 n1 c1, .int .i64 (s1.2 : Int)] 42))
    simp only [World.size_alloc] at t5
    have y0 := t5.c0
    have y1 := t5.c1
    have g0 := t5.f 0
    have g1 := t5.f 1
    have HB1 := Lib.hid ((((Below.refl w.heap.size w).alloc (Nat.le_refl _) _).alloc (by simp) _).trans (hbl.mono (by simp; omega)))
    have hz1 := HB1.out.size
    clear hbl hd1 t5 HD
    go_wp2
    go_region
    go_wp2
    exact bodyPost_ret (v := .tuple #[.int .i64 0, .agg #[.slice A1 n1 c1, .int .i64 (s1.2 : Int)]]) (by simp [results, Tryd.results52, go_sem, y0, y1]) rfl ⟨A1, n1, c1, rfl, fun h => absurd h HE.out, ((((HB1.out).alloc hz1 _).setCell (by simp) _).setCell (by simp) _).drew⟩
end Go.Proofs.YtpfcfmpfommfaaaDoor
