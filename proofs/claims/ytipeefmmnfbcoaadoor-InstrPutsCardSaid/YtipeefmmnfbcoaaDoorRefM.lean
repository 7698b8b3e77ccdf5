/-
  What the document's cursor answers (fail, Fail, Left, End, Bits). Conditions: where there is no error, the bytes can be read.
  What the document's cursor answers: Bits. Conditions: where there is no error, the bytes can be read.
  What the document's cursor answers: Num, Int. Conditions: where there is no error, the bytes can be read.
  What the document's cursor answers: Int. Conditions: where there is no error, the bytes can be read.
  What the document's cursor answers: Byte. Conditions: where there is no error, the bytes can be read.
  What the document's cursor answers: Text. Conditions: where there is no error, the bytes can be read.
  What the law's 'one' leaves, and what stands while both cursors take: the invariant of its drawn regions. Conditions: as each states.
  What was laid one behind the other is taken one behind the other: the plain mathematics. Conditions: numbers of their types; texts shorter than 2^63.
-/
import Derived.Test.YtipeefmmnfbcoaaDoorCurM
import Derived.Test.YtipeefmmnfbcoaaDoorRefGet
import Derived.RegionTactic
import Derived.ChangeAlike
namespace Go.Proofs.YtipeefmmnfbcoaaDoor
open Go.RowKit

/-- The document's cursor: where there is no error, its bytes are those of s. -/
def Dat (w : World) (B : Nat) (A : Option Addr) (n c : Nat) (s : List Nat × Nat) : Prop := s.2 = 0 → BytesAt w B A n s.1 ∧ n ≤ c ∧ c ≤ 9223372036854775807

theorem Dat.below {w w' : World} {B n c : Nat} {A : Option Addr} {s : List Nat × Nat} (h : Dat w B A n c s) (hb : Below B w w') : Dat w' B A n c s := fun h0 => ⟨(h h0).1.below hb, (h h0).2⟩

/-- Something is told, and a cursor. -/
def RefP (v : Value) (B : Nat) (s' : List Nat × Nat) (w : World) (e : Ending) (w' : World) : Prop :=
  ∃ A' n' c', e = .returned (.tuple #[v, .agg #[.slice A' n' c', .int .i64 (s'.2 : Int)]]) ∧ Dat w' B A' n' c' s' ∧ Below w.heap.size w w'

set_option maxHeartbeats 400000 in
theorem rfail_any (A : Option Addr) (n c e er : Nat) (w : World) :
    Calls Tryd.prog 67 #[.agg #[.slice A n c, .int .i64 (e : Int)], .int .i64 (er : Int)] w fun r w' => r = .returned (.agg #[.slice A n c, .int .i64 ((if e = 0 then er else e : Nat) : Int)]) ∧ Below w.heap.size w w' := by
  by_cases h : e = 0
  · subst h
    rw [if_pos rfl]
    go_enter Tryd.func67, Tryd.ntmps67
    go_wp2
    exact bodyPost_ret (v := .agg #[.slice A n c, .int .i64 (er : Int)]) (by simp [results, Tryd.results67, go_sem]) rfl ⟨rfl, ((Below.refl _ _).alloc (Nat.le_refl _) _).alloc (by simp) _⟩
  · rw [if_neg h]
    have hb : ((e : Int) == 0) = false := by rw [beq_eq_false_iff_ne]; omega
    go_enter Tryd.func67, Tryd.ntmps67
    go_wp2
    exact bodyPost_ret (v := .agg #[.slice A n c, .int .i64 (e : Int)]) (by simp [results, Tryd.results67, go_sem]) rfl ⟨rfl, ((Below.refl _ _).alloc (Nat.le_refl _) _).alloc (by simp) _⟩

theorem bcell2 {W w1 : World} (hb : Below W.heap.size W w1) : (∀ b o, b < W.heap.size → w1.cell? ⟨b, o, none⟩ = W.cell? ⟨b, o, none⟩) ∧ (∀ b o, b < W.heap.size → w1.frozen? ⟨b, o, none⟩ = W.frozen? ⟨b, o, none⟩) :=
  ⟨fun b o h => hb.cell (p := ⟨b, o, none⟩) h, fun b o h => hb.frozen (p := ⟨b, o, none⟩) h⟩

/-- Block p is one of the document's cursors. -/
def Two (w : World) (p : Nat) (x y : Value) : Prop := w.heap[p]? = some (.cells #[x, y] 40 (0, 0))
theorem Two.new (w : World) (x y : Value) : Two (w.alloc (.cells #[x, y] 40)) w.heap.size x y := heap_alloc_new _ _
section
variable {w : World} {p : Nat} {x y : Value} (h : Two w p x y)
include h
theorem Two.lt : p < w.heap.size := heap_lt h
theorem Two.c0 : w.cell? ⟨p, 0, none⟩ = some x := by unfold Two at h; simp [World.cell?, h]
theorem Two.c1 : w.cell? ⟨p, 1, none⟩ = some y := by unfold Two at h; simp [World.cell?, h]
theorem Two.f (i : Nat) : w.frozen? ⟨p, i, none⟩ = false := by unfold Two at h; simp [World.frozen?, h]
theorem Two.alloc (o : Obj) : Two (w.alloc o) p x y := (Below.heap_alloc w o p (heap_lt h)).trans h
theorem Two.below {w' : World} {B : Nat} (hb : Below B w w') (hp : p < B) : Two w' p x y := (hb.block p hp).trans h
theorem Two.kept {w' : World} {row : Option Nat} (hg : w.grownBy w' row) (hne : row ≠ some p) : Two w' p x y := (hg.block p (heap_lt h) (Ne.symm hne)).trans h
theorem Two.set (x' y' : Value) : Two ((w.setCell ⟨p, 0, none⟩ x').setCell ⟨p, 1, none⟩ y') p x' y' := (heap_set (heap_set h _) _).trans rfl
end

theorem fail_snd (s : List Nat × Nat) (er : Nat) : (failA s er).2 = if s.2 = 0 then er else s.2 := by
  unfold failA
  by_cases h : s.2 = 0
  · rw [if_pos h]
    by_cases he : er = 0
    · rw [if_pos (.inl he), he, h]
    · rw [if_neg (by omega)]
  · rw [if_neg h, if_pos (.inr h)]

set_option maxHeartbeats 400000 in
theorem rFail_any (A : Option Addr) (n c e er : Nat) (w : World) :
    Calls Tryd.prog 44 #[.agg #[.slice A n c, .int .i64 (e : Int)], .int .i64 (er : Int)] w fun r w' => r = .returned (.agg #[.slice A n c, .int .i64 ((if e = 0 then er else e : Nat) : Int)]) ∧ Below w.heap.size w w' := by
  have HF := Lib.hid (fun w => rfail_any A n c e er w)
  generalize (if e = 0 then er else e) = x at *
  go_enter Tryd.func44, Tryd.ntmps44
  go_wp2_with fail
  refine (HF.out _).mono ?_
  rintro r w1 ⟨rfl, hb⟩
  obtain ⟨hc, hf⟩ := bcell2 hb
  have hz := hb.size
  simp at hz
  have HB := Lib.hid hb
  clear hb
  go_wp2
  exact bodyPost_ret (v := .agg #[.slice A n c, .int .i64 (x : Int)]) (by simp [results, Tryd.results44, go_sem, hc]) rfl ⟨rfl, ((((Below.refl _ _).alloc (Nat.le_refl _) _).alloc (by simp) _).trans (HB.out.mono (by simp; omega))).setCell (by simp) _ |>.setCell (by simp) _⟩

set_option maxHeartbeats 400000 in
theorem rLeft_any (A : Option Addr) (n c B : Nat) (s : List Nat × Nat) (w : World) (h : Dat w B A n c s) (hs : s.2 ≠ 0 → s.1 = []) :
    Calls Tryd.prog 20 #[.agg #[.slice A n c, .int .i64 (s.2 : Int)]] w fun r w' => r = .returned (.int .i64 (s.1.length : Int)) ∧ Below w.heap.size w w' := by
  by_cases h0 : s.2 = 0
  · obtain ⟨hb, hnc, hc⟩ := h h0
    have hl := hb.1
    rw [h0, hl]
    clear h hs hb hl h0
    go_enter Tryd.func20, Tryd.ntmps20
    go_wp2
    go_ret
    exact ⟨rfl, (Below.refl _ _).alloc (Nat.le_refl _) _⟩
  · rw [hs h0]
    have hb : ((s.2 : Int) != 0) = true := by rw [bne_iff_ne]; omega
    clear h hs h0
    generalize s.2 = e at *
    go_enter Tryd.func20, Tryd.ntmps20
    go_wp2
    go_ret
    exact ⟨rfl, (Below.refl _ _).alloc (Nat.le_refl _) _⟩

end Go.Proofs.YtipeefmmnfbcoaaDoor

namespace Go.Proofs.YtipeefmmnfbcoaaDoor
open Go.RowKit

theorem bitsA_err {s : List Nat × Nat} (h0 : s.2 ≠ 0) (hs : s.2 ≠ 0 → s.1 = []) : bitsA s = (0, s) := by
  obtain ⟨l, e⟩ := s
  obtain rfl : l = [] := hs h0
  show (0, failA ([], e) 3) = _
  unfold failA
  rw [if_pos (.inr h0)]

set_option maxHeartbeats 1000000 in
theorem rBits_any (A : Option Addr) (n c B : Nat) (s : List Nat × Nat) (w : World) (h : Dat w B A n c s) (hs : s.2 ≠ 0 → s.1 = []) (hB : B ≤ w.heap.size) :
    Calls Tryd.prog 68 #[.agg #[.slice A n c, .int .i64 (s.2 : Int)]] w (RefP (.int .u64 (bitsA s).1) B (bitsA s).2 w) := by
  by_cases h0 : s.2 = 0
  · obtain ⟨hb, hnc, hc⟩ := h h0
    have HG := Lib.hid (fun W (hW : BytesAt W B A n s.1) => rget_any A n c B s.1 W hW (by omega))
    have HB := Lib.hid hb
    rcases Uv.get_just hb.2.1 with ⟨x, hg, hput, hl, hx⟩ | ⟨z, hg, hz⟩
    · have hk : (Uv.put x).length ≤ n := by rw [hb.1] at hl; exact hl
      have hv : bitsA s = (x, s.1.drop (Uv.put x).length, 0) := by
        unfold bitsA failA
        rw [hg, if_pos (.inl rfl)]
        simp only [h0]
      rw [hv, h0]
      rw [hg] at HG
      have HC := Lib.hid (hb.cut hk hnc)
      clear h hs hb hv hg h0 hl hput
      generalize (Uv.put x).length = k at *
      simp only at HG
      go_enter Tryd.func68, Tryd.ntmps68
      go_wp2_with (go_at_call 78; refine (HG.out _ (HB.out.below (((Below.refl _ _).alloc hB _).alloc (by simp; omega) _))).mono ?_; unfold Triple; rintro e w' ⟨rfl, rfl⟩)
      by_cases hck : c = k
      · go_region
        go_wp2
        refine bodyPost_ret (v := .tuple #[.int .u64 (x : Int), .agg #[.slice A (n - k) 0, .int .i64 0]]) (by simp [results, Tryd.results68, go_sem]) rfl ⟨A, n - k, 0, rfl, fun _ => ⟨?_, by omega, by omega⟩, (((Below.refl _ _).alloc (Nat.le_refl _) _).alloc (by simp) _).drew⟩
        have h := HC.out
        rw [if_pos hck] at h
        exact h.below ((((Below.refl _ _).alloc hB _).alloc (by simp; omega) _).drew)
      · go_region
        go_wp2
        refine bodyPost_ret (v := .tuple #[.int .u64 (x : Int), .agg #[.slice (Option.map (fun x => x.add k) A) (n - k) (c - k), .int .i64 0]]) (by simp [results, Tryd.results68, go_sem]) rfl ⟨_, n - k, c - k, rfl, fun _ => ⟨?_, by omega, by omega⟩, (((Below.refl _ _).alloc (Nat.le_refl _) _).alloc (by simp) _).drew⟩
        have h := HC.out
        rw [if_neg hck, Nat.mul_one] at h
        exact h.below ((((Below.refl _ _).alloc hB _).alloc (by simp; omega) _).drew)
    · have hv : bitsA s = (0, [], z) := by
        unfold bitsA failA
        rw [hg, if_neg (by simp only; omega)]
      rw [hv, h0]
      rw [hg] at HG
      have hzb : ((z : Int) != 0) = true := by rw [bne_iff_ne]; omega
      have HF := Lib.hid (fun w => rfail_any A n c 0 z w)
      rw [if_pos rfl] at HF
      clear h hs hb hv hg h0
      simp only at HG
      go_enter Tryd.func68, Tryd.ntmps68
      go_wp2_with (first
        | (go_at_call 78; refine (HG.out _ (HB.out.below (((Below.refl _ _).alloc hB _).alloc (by simp; omega) _))).mono ?_; unfold Triple; rintro e w' ⟨rfl, rfl⟩))
      refine (HF.out _).mono ?_
      rintro r w1 ⟨rfl, hbl⟩
      obtain ⟨hc1, hf1⟩ := bcell2 hbl
      have hz1 := hbl.size
      simp at hz1
      have HBL := Lib.hid hbl
      clear hbl
      go_wp2
      exact bodyPost_ret (v := .tuple #[.int .u64 0, .agg #[.slice A n c, .int .i64 (z : Int)]]) (by simp [results, Tryd.results68, go_sem, hc1]) rfl ⟨A, n, c, rfl, fun h => absurd h (by simp only; omega), ((((Below.refl _ _).alloc (Nat.le_refl _) _).alloc (by simp) _).trans (HBL.out.mono (by simp; omega))).setCell (by simp) _ |>.setCell (by simp) _⟩
  · rw [bitsA_err h0 hs]
    have hb : ((s.2 : Int) != 0) = true := by rw [bne_iff_ne]; omega
    have H := Lib.hid h
    clear h hs
    generalize he : s.2 = e at *
    have HE := Lib.hid he
    clear he
    go_enter Tryd.func68, Tryd.ntmps68
    go_wp2
    go_region
    go_wp2
    refine bodyPost_ret (v := .tuple #[.int .u64 0, .agg #[.slice A n c, .int .i64 (e : Int)]]) (by simp [results, Tryd.results68, go_sem]) rfl ⟨A, n, c, ?_, fun h => absurd (HE.out ▸ h) h0, (((Below.refl _ _).alloc (Nat.le_refl _) _).alloc (by simp) _).drew⟩
    rw [HE.out]
    rfl
end Go.Proofs.YtipeefmmnfbcoaaDoor

namespace Go.Proofs.YtipeefmmnfbcoaaDoor
open Go.RowKit

theorem bitsA_zero {w : World} {B n c : Nat} {A : Option Addr} {s : List Nat × Nat} (h : Dat w B A n c s) (hs : s.2 ≠ 0 → s.1 = []) (he : (bitsA s).2.2 ≠ 0) : (bitsA s).1 = 0 := by
  by_cases h0 : s.2 = 0
  · rcases Uv.get_just (h h0).1.2.1 with ⟨x, hg, _, _, _⟩ | ⟨z, hg, _⟩
    · exfalso
      apply he
      unfold bitsA
      rw [hg]
      unfold failA
      rw [if_pos (.inl rfl)]
      exact h0
    · unfold bitsA
      rw [hg]
  · rw [bitsA_err h0 hs]

theorem bitsA_ok {w : World} {B n c : Nat} {A : Option Addr} {s : List Nat × Nat} (h : Dat w B A n c s) (hs : s.2 ≠ 0 → s.1 = []) (he : (bitsA s).2.2 = 0) : s.2 = 0 ∧ (bitsA s).1 < 18446744073709551616 := by
  by_cases h0 : s.2 = 0
  · exact ⟨h0, get_fst_lt (h h0).1.2.1⟩
  · rw [bitsA_err h0 hs] at he
    exact absurd he h0

theorem ite_self' (most : Int) (s1 : List Nat × Nat) : (if most < 0 ∨ most < ((0 : Nat) : Int) then ((0, s1) : Nat × List Nat × Nat) else (0, s1)) = (0, s1) := by split <;> rfl

end Go.Proofs.YtipeefmmnfbcoaaDoor

namespace Go.Proofs.YtipeefmmnfbcoaaDoor
open Go.RowKit

set_option maxHeartbeats 1000000 in
theorem rInt_any (A : Option Addr) (n c B : Nat) (s : List Nat × Nat) (w : World) (h : Dat w B A n c s) (hs : s.2 ≠ 0 → s.1 = []) (hB : B ≤ w.heap.size) :
    Calls Tryd.prog 45 #[.agg #[.slice A n c, .int .i64 (s.2 : Int)]] w (RefP (.int .i64 (intA s).1) B (intA s).2 w) := by
  have HD := Lib.hid (fun W (hb : Below B w W) (hW : B ≤ W.heap.size) => rBits_any A n c B s W (h.below hb) hs hW)
  have hz := bitsA_zero h hs
  have ho := bitsA_ok h hs
  have hv : intA s = (Uv.unfold_ (bitsA s).1, (bitsA s).2) := rfl
  rw [hv]
  clear h hs hv
  generalize (bitsA s).1 = x at *
  generalize (bitsA s).2 = s1 at *
  by_cases he : s1.2 = 0
  · obtain ⟨h0, hx⟩ := ho he
    rw [h0] at HD ⊢
    have HE := Lib.hid he
    clear ho hz h0 he
    go_enter Tryd.func45, Tryd.ntmps45
    go_wp2_with fail
    refine (HD.out _ (((Below.refl _ _).alloc hB _).alloc (by simp; omega) _) (by simp; omega)).mono ?_
    rintro r w1 ⟨A1, n1, c1, rfl, hd1, hbl⟩
    rw [HE.out]
    have t5 := (((Two.new _ (.slice none 0 0) (.int .i64 0)).below hbl (by simp)).alloc (.cells #[.slice A1 n1 c1, .int .i64 0] 40))
    simp only [World.size_alloc] at t5
    have y0 := t5.c0
    have y1 := t5.c1
    have g0 := t5.f 0
    have g1 := t5.f 1
    have HB1 := Lib.hid ((((Below.refl w.heap.size w).alloc (Nat.le_refl _) _).alloc (by simp) _).trans (hbl.mono (by simp; omega)))
    have hz1 := HB1.out.size
    have HD1 := Lib.hid hd1
    clear hbl hd1 t5 HD
    go_wp2
    go_region_with (go_at_call 69; ((with_reducible refine (runfold_any x _ hx).mono ?_); rintro e w' ⟨rfl, rfl⟩))
    all_goals
      go_wp2
      refine bodyPost_ret (v := .tuple #[.int .i64 (Uv.unfold_ x), .agg #[.slice A1 n1 c1, .int .i64 0]]) (by simp [results, Tryd.results45, go_sem, y0, y1]) rfl ⟨A1, n1, c1, by rw [HE.out]; rfl, HD1.out.below ?_, ?_⟩
      · exact (((((Below.refl B w1).alloc (by omega) _).setCell (by simp; omega) _).setCell (by simp; omega) _)).drew
      · exact ((((HB1.out).alloc hz1 _).setCell (by simp) _).setCell (by simp) _).drew
  · have hx0 := hz he
    subst hx0
    have hb : ((s1.2 : Int) != 0) = true := by rw [bne_iff_ne]; omega
    have HE := Lib.hid he
    generalize he0 : s.2 = e0 at *
    clear ho hz he he0
    go_enter Tryd.func45, Tryd.ntmps45
    go_wp2_with fail
    refine (HD.out _ (((Below.refl _ _).alloc hB _).alloc (by simp; omega) _) (by simp; omega)).mono ?_
    rintro r w1 ⟨A1, n1, c1, rfl, hd1, hbl⟩
    have t5 := (((Two.new _ (.slice none 0 0) (.int .i64 0)).below hbl (by simp)).alloc (.cells #[.slice A1 n1 c1, .int .i64 (s1.2 : Int)] 40))
    simp only [World.size_alloc] at t5
    have y0 := t5.c0
    have y1 := t5.c1
    have g0 := t5.f 0
    have g1 := t5.f 1
    have HB1 := Lib.hid ((((Below.refl w.heap.size w).alloc (Nat.le_refl _) _).alloc (by simp) _).trans (hbl.mono (by simp; omega)))
    have hz1 := HB1.out.size
    clear hbl hd1 t5 HD
    go_wp2
    go_region
    go_wp2
    exact bodyPost_ret (v := .tuple #[.int .i64 0, .agg #[.slice A1 n1 c1, .int .i64 (s1.2 : Int)]]) (by simp [results, Tryd.results45, go_sem, y0, y1]) rfl ⟨A1, n1, c1, rfl, fun h => absurd h HE.out, ((((HB1.out).alloc hz1 _).setCell (by simp) _).setCell (by simp) _).drew⟩
end Go.Proofs.YtipeefmmnfbcoaaDoor

namespace Go.Proofs.YtipeefmmnfbcoaaDoor
open Go.RowKit

set_option maxHeartbeats 1000000 in
theorem rByte_any (A : Option Addr) (n c B : Nat) (s : List Nat × Nat) (w : World) (h : Dat w B A n c s) (hs : s.2 ≠ 0 → s.1 = []) (hB : B ≤ w.heap.size) :
    Calls Tryd.prog 43 #[.agg #[.slice A n c, .int .i64 (s.2 : Int)]] w (RefP (.int .u8 (byteA s).1) B (byteA s).2 w) := by
  by_cases h0 : s.2 = 0
  · obtain ⟨hb, hnc, hc⟩ := h h0
    by_cases hn : n = 0
    · have hl : s.1 = [] := List.eq_nil_of_length_eq_zero (by rw [hb.1, hn])
      have hv : byteA s = (0, [], 3) := by
        obtain ⟨l, e⟩ := s
        simp only at hl h0
        subst hl h0
        rfl
      have HF := Lib.hid (fun w => rfail_any A 0 c 0 3 w)
      rw [if_pos rfl] at HF
      rw [hv, h0]
      subst hn
      clear h hs hb hl hv h0
      go_enter Tryd.func43, Tryd.ntmps43
      go_wp2_with fail
      refine (HF.out _).mono ?_
      rintro r w1 ⟨rfl, hbl⟩
      have t5 := (Two.new _ (.slice none 0 0) (.int .i64 0)).below hbl (by simp)
      simp only [World.size_alloc] at t5
      have y0 := t5.c0
      have y1 := t5.c1
      have g0 := t5.f 0
      have g1 := t5.f 1
      have HB1 := Lib.hid ((((Below.refl w.heap.size w).alloc (Nat.le_refl _) _).alloc (by simp) _).trans (hbl.mono (by simp; omega)))
      clear hbl t5
      go_wp2
      exact bodyPost_ret (v := .tuple #[.int .u8 0, .agg #[.slice A 0 c, .int .i64 3]]) (by simp [results, Tryd.results43, go_sem, y0, y1]) rfl ⟨A, 0, c, rfl, fun h => absurd h (by simp), (HB1.out.setCell (by simp) _).setCell (by simp) _⟩
    · obtain ⟨x, r, hl⟩ : ∃ x r, s.1 = x :: r := by
        cases hl : s.1 with
        | nil => have := hb.1; rw [hl] at this; simp at this; omega
        | cons x r => exact ⟨x, r, rfl⟩
      obtain ⟨b, off, hA, hbB, hcell⟩ := hb.2.2 (by omega)
      subst hA
      have hx := hcell 0 (by omega)
      rw [hl] at hx
      simp only [List.getD_cons_zero, Nat.add_zero] at hx
      have hv : byteA s = (x, r, 0) := by
        obtain ⟨l, e⟩ := s
        simp only at hl h0
        subst hl h0
        rfl
      have hcut := hb.cut (k := 1) (c := c) (by omega) hnc
      rw [hl, List.drop_one, List.tail_cons] at hcut
      have HC := Lib.hid hcut
      have hbw : b < w.heap.size := by omega
      have hn1 : 0 < n := by omega
      rw [hv, h0]
      clear h hs hb hl hv h0 hcell hcut hn
      by_cases hck : c = 1
      · subst hck
        obtain rfl : n = 1 := by omega
        go_enter Tryd.func43, Tryd.ntmps43
        go_wp2
        go_region
        go_wp2
        refine bodyPost_ret (v := .tuple #[.int .u8 (x : Int), .agg #[.slice (some ⟨b, off, none⟩) 0 0, .int .i64 0]]) (by simp [results, Tryd.results43, go_sem]) rfl ⟨_, 0, 0, rfl, fun _ => ⟨?_, by omega, by omega⟩, (((Below.refl _ _).alloc (Nat.le_refl _) _).alloc (by simp) _).drew⟩
        have h := HC.out
        rw [if_pos trivial] at h
        exact h.below ((((Below.refl _ _).alloc hB _).alloc (by simp; omega) _).drew)
      · go_enter Tryd.func43, Tryd.ntmps43
        go_wp2
        go_region
        go_wp2
        refine bodyPost_ret (v := .tuple #[.int .u8 (x : Int), .agg #[.slice (some ⟨b, off + 1, none⟩) (n - 1) (c - 1), .int .i64 0]]) (by simp [results, Tryd.results43, go_sem]) rfl ⟨_, n - 1, c - 1, rfl, fun _ => ⟨?_, by omega, by omega⟩, (((Below.refl _ _).alloc (Nat.le_refl _) _).alloc (by simp) _).drew⟩
        have h := HC.out
        rw [if_neg hck] at h
        exact h.below ((((Below.refl _ _).alloc hB _).alloc (by simp; omega) _).drew)
  · have hv : byteA s = (0, s) := by
      obtain ⟨l, e⟩ := s
      obtain rfl : l = [] := hs h0
      show (0, failA ([], e) 3) = _
      unfold failA
      rw [if_pos (.inr h0)]
    rw [hv]
    have hb : ((s.2 : Int) != 0) = true := by rw [bne_iff_ne]; omega
    clear h hs hv
    generalize he : s.2 = e at *
    have HE := Lib.hid he
    clear he
    go_enter Tryd.func43, Tryd.ntmps43
    go_wp2
    go_region
    go_wp2
    refine bodyPost_ret (v := .tuple #[.int .u8 0, .agg #[.slice A n c, .int .i64 (e : Int)]]) (by simp [results, Tryd.results43, go_sem]) rfl ⟨A, n, c, ?_, fun h => absurd (HE.out ▸ h) h0, (((Below.refl _ _).alloc (Nat.le_refl _) _).alloc (by simp) _).drew⟩
    rw [HE.out]
    rfl
end Go.Proofs.YtipeefmmnfbcoaaDoor

namespace Go.Proofs.YtipeefmmnfbcoaaDoor
open Go.RowKit

theorem failA_nil {s : List Nat × Nat} (hs : s.2 ≠ 0 → s.1 = []) (er : Nat) : (failA s er).2 ≠ 0 → (failA s er).1 = [] := by
  unfold failA
  split
  · exact hs
  · intro _; rfl

theorem bitsA_nil {s : List Nat × Nat} (hs : s.2 ≠ 0 → s.1 = []) : (bitsA s).2.2 ≠ 0 → (bitsA s).2.1 = [] := by
  refine failA_nil (s := (s.1.drop (Uv.get s.1).2.1, s.2)) (fun h => ?_) _
  show s.1.drop _ = []
  rw [hs h]
  simp

theorem numA_err {w : World} {B n c : Nat} {A : Option Addr} {s : List Nat × Nat} (h : Dat w B A n c s) (hs : s.2 ≠ 0 → s.1 = []) (most : Int) (he : (numA s most).2.2 ≠ 0) : (numA s most).1 = 0 ∧ (numA s most).2.1 = [] := by
  unfold numA at he ⊢
  by_cases hm : most < 0 ∨ most < ((bitsA s).1 : Int)
  · rw [if_pos hm] at he ⊢
    exact ⟨rfl, failA_nil (bitsA_nil hs) 6 he⟩
  · rw [if_neg hm] at he ⊢
    exact ⟨bitsA_zero h hs he, bitsA_nil hs he⟩

end Go.Proofs.YtipeefmmnfbcoaaDoor

namespace Go.Proofs.YtipeefmmnfbcoaaDoor
open Go.RowKit

theorem Cur.nil {w : World} {g : Nat} {s : List Nat × Nat} (h : Cur w g s) : s.2 ≠ 0 → s.1 = [] := by
  obtain ⟨A, n, c, m, e0, _, _, _, _, _, h, _⟩ := h
  exact h

theorem Dat.kept {w w' : World} {B n c : Nat} {A : Option Addr} {s : List Nat × Nat} (h : Dat w B A n c s) {row : Option Nat} (hg : w.grownBy w' row) (hr : ∀ k, row = some k → B ≤ k) : Dat w' B A n c s := fun h0 => ⟨(h h0).1.kept hg hr, (h h0).2⟩

/-- Both cursors go on alike; of what was there only the cursor's block has turned. -/
def OnePost (g B : Nat) (w : World) (e : Ending) (w' : World) : Prop :=
  ∃ (s' : List Nat × Nat) (A' : Option Addr) (n' c' : Nat), e = .returned (.tuple #[.agg #[.slice A' n' c', .int .i64 (s'.2 : Int)], .bool true]) ∧ Cur w' g s' ∧ Dat w' B A' n' c' s' ∧ w.grownBy w' (some g)

section
variable {ci si : Nat} {w0 : World} {g B p5 p6 p9 : Nat} {s s' : List Nat × Nat} {k m : Int} {A1 : Option Addr} {n1 c1 : Nat} {D : Nat → Bool} {w : World}

end
end Go.Proofs.YtipeefmmnfbcoaaDoor

namespace Go.Proofs.YtipeefmmnfbcoaaDoor

/-- A text's bytes. -/
def nats (s : ByteArray) : List Nat := s.data.toList.map UInt8.toNat
theorem nats_length (s : ByteArray) : (nats s).length = s.size := by
  unfold nats
  rw [List.length_map, Array.length_toList]
  rfl
theorem nats_byte (s : ByteArray) : ∀ c ∈ nats s, c < 256 := by
  intro c hc
  obtain ⟨b, _, rfl⟩ := List.mem_map.1 hc
  exact b.toNat_lt
theorem str_nats (s : ByteArray) : str (nats s) = s := by
  apply ByteArray.ext
  simp [str, nats, Function.comp_def]
theorem nats_getD (s : ByteArray) (j : Nat) (h : j < s.size) : (nats s).getD j 0 = (s.data.toList.getD j 0).toNat := by
  have h' : j < s.data.size := h
  simp only [nats, List.getD, List.getElem?_map, Array.getElem?_toList, Array.getElem?_eq_getElem h', Option.map_some, Option.getD_some]

def laidI : List Int → List Nat
  | [] => []
  | z :: r => Uv.put (Uv.fold z) ++ laidI r
def laidS : List ByteArray → List Nat
  | [] => []
  | s :: r => (Uv.put s.size ++ nats s) ++ laidS r

theorem laidI_append (a b : List Int) : laidI (a ++ b) = laidI a ++ laidI b := by
  induction a with
  | nil => rfl
  | cons z r ih => simp [laidI, ih]
theorem laidS_append (a b : List ByteArray) : laidS (a ++ b) = laidS a ++ laidS b := by
  induction a with
  | nil => rfl
  | cons z r ih => simp [laidS, ih]

theorem take_succ_getD {α : Type} {l : List α} {k : Nat} (h : k < l.length) (d : α) : l.take (k + 1) = l.take k ++ [l.getD k d] := by
  rw [List.take_succ_eq_append_getElem h]
  simp [List.getD, h]
theorem drop_getD {α : Type} {l : List α} {k : Nat} (h : k < l.length) (d : α) : l.drop k = l.getD k d :: l.drop (k + 1) := by
  rw [List.drop_eq_getElem_cons h]
  simp [List.getD, h]

theorem laidI_snoc {l : List Int} {k : Nat} (h : k < l.length) : laidI (l.take (k + 1)) = laidI (l.take k) ++ Uv.put (Uv.fold (l.getD k 0)) := by
  rw [take_succ_getD h 0, laidI_append]
  simp [laidI]
theorem laidS_snoc {l : List ByteArray} {k : Nat} (h : k < l.length) : laidS (l.take (k + 1)) = laidS (l.take k) ++ (Uv.put (l.getD k .empty).size ++ nats (l.getD k .empty)) := by
  rw [take_succ_getD h .empty, laidS_append]
  simp [laidS]
theorem laidI_drop {l : List Int} {k : Nat} (h : k < l.length) : laidI (l.drop k) = Uv.put (Uv.fold (l.getD k 0)) ++ laidI (l.drop (k + 1)) := by
  rw [drop_getD h 0]
  rfl
theorem laidS_drop {l : List ByteArray} {k : Nat} (h : k < l.length) : laidS (l.drop k) = (Uv.put (l.getD k .empty).size ++ nats (l.getD k .empty)) ++ laidS (l.drop (k + 1)) := by
  rw [drop_getD h .empty]
  rfl

theorem laidI_byte (l : List Int) : ∀ c ∈ laidI l, c < 256 := by
  induction l with
  | nil => simp [laidI]
  | cons z r ih =>
    intro c hc
    rcases List.mem_append.1 hc with h | h
    · exact Uv.put_byte _ c h
    · exact ih c h
theorem laidS_byte (l : List ByteArray) : ∀ c ∈ laidS l, c < 256 := by
  induction l with
  | nil => simp [laidS]
  | cons z r ih =>
    intro c hc
    rcases List.mem_append.1 hc with h | h
    · rcases List.mem_append.1 h with h | h
      · exact Uv.put_byte _ c h
      · exact nats_byte z c h
    · exact ih c h

/-- How many bytes all texts have. -/
def tot : List ByteArray → Nat
  | [] => 0
  | s :: r => s.size + tot r
theorem tot_take (l : List ByteArray) (k : Nat) : tot (l.take k) ≤ tot l := by
  induction l generalizing k with
  | nil => simp
  | cons s r ih =>
    cases k with
    | zero => simp [tot]
    | succ k => simp only [List.take_succ_cons, tot]; have := ih k; omega
theorem tot_mem {l : List ByteArray} {k : Nat} (h : k < l.length) : (l.getD k .empty).size ≤ tot l := by
  induction l generalizing k with
  | nil => simp at h
  | cons s r ih =>
    cases k with
    | zero => simp [tot]
    | succ k =>
      have := ih (k := k) (by simpa using h)
      simp only [List.getD_cons_succ, tot]
      omega

theorem laidI_len {l : List Int} (h : ∀ z ∈ l, -9223372036854775808 ≤ z ∧ z ≤ 9223372036854775807) : (laidI l).length ≤ 10 * l.length := by
  induction l with
  | nil => simp [laidI]
  | cons z r ih =>
    have h1 := h z (by simp)
    have h2 := Uv.put_len_10 (Uv.fold_lt h1.1 h1.2)
    have := ih (fun z hz => h z (by simp [hz]))
    simp only [laidI, List.length_append, List.length_cons]
    omega
theorem laidS_len {l : List ByteArray} (h : tot l ≤ 1048576) : (laidS l).length ≤ 10 * l.length + tot l := by
  induction l with
  | nil => simp [laidS]
  | cons s r ih =>
    simp only [tot] at h
    have h2 := Uv.put_len_10 (n := s.size) (by omega)
    have := ih (by omega)
    simp only [laidS, List.length_append, List.length_cons, tot, nats_length]
    omega

/-- A number that was laid is taken. -/
theorem intA_put {x : Int} (h1 : -9223372036854775808 ≤ x) (h2 : x ≤ 9223372036854775807) (r : List Nat) : intA (Uv.put (Uv.fold x) ++ r, 0) = (x, r, 0) := by
  unfold intA
  simp only [Uv.get_put (Uv.fold_lt h1 h2), Uv.unfold_fold]
  unfold failA
  rw [if_pos (.inl rfl)]
  simp

/-- A text that was laid is taken. -/
theorem textA_put {s : ByteArray} (h : s.size ≤ 9223372036854775807) (r : List Nat) : textA ((Uv.put s.size ++ nats s) ++ r, 0) (s.size : Int) = (s, r, 0) := by
  have hb : bitsA ((Uv.put s.size ++ nats s) ++ r, 0) = (s.size, nats s ++ r, 0) := by
    unfold bitsA
    rw [List.append_assoc]
    simp only [Uv.get_put (n := s.size) (by omega)]
    unfold failA
    rw [if_pos (.inl rfl)]
    simp
  have hn : numA ((Uv.put s.size ++ nats s) ++ r, 0) (s.size : Int) = (s.size, nats s ++ r, 0) := by
    unfold numA
    rw [hb, if_neg (by simp only; omega)]
  have hl := nats_length s
  have ht : textB (nats s ++ r) s.size = (s, s.size, 0) := by
    unfold textB
    rw [if_neg (by simp [hl])]
    rw [List.take_append_of_le_length (by omega), List.take_of_length_le (by omega), str_nats]
  unfold textA
  rw [hn]
  simp only [ht]
  unfold failA
  rw [if_pos (.inl rfl)]
  rw [List.drop_append_of_le_length (by omega), List.drop_of_length_le (by omega)]
  rfl
end Go.Proofs.YtipeefmmnfbcoaaDoor
