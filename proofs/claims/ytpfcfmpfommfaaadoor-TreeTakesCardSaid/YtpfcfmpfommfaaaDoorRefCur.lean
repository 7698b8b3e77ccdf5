/-
  What the document's cursor answers (fail, Fail, Left, End, Bits). Conditions: where there is no error, the bytes can be read.
-/
import Derived.Test.YtpfcfmpfommfaaaDoorCurE
import Derived.Test.YtpfcfmpfommfaaaDoorRefGet
import Derived.RegionTactic
import Derived.ChangeAlike
namespace Go.Proofs.YtpfcfmpfommfaaaDoor
open Go.RowKit

/-- The document's cursor: where there is no error, its bytes are those of s. -/
def Dat (w : World) (B : Nat) (A : Option Addr) (n c : Nat) (s : List Nat × Nat) : Prop := s.2 = 0 → BytesAt w B A n s.1 ∧ n ≤ c ∧ c ≤ 9223372036854775807

theorem Dat.below {w w' : World} {B n c : Nat} {A : Option Addr} {s : List Nat × Nat} (h : Dat w B A n c s) (hb : Below B w w') : Dat w' B A n c s := fun h0 => ⟨(h h0).1.below hb, (h h0).2⟩

theorem Cur.nil {w : World} {g : Nat} {s : List Nat × Nat} (h : Cur w g s) : s.2 ≠ 0 → s.1 = [] := by
  obtain ⟨A, n, c, m, e0, _, _, _, _, _, h, _⟩ := h
  exact h

theorem Dat.kept {w w' : World} {B n c : Nat} {A : Option Addr} {s : List Nat × Nat} (h : Dat w B A n c s) {row : Option Nat} (hg : w.grownBy w' row) (hr : ∀ k, row = some k → B ≤ k) : Dat w' B A n c s := fun h0 => ⟨(h h0).1.kept hg hr, (h h0).2⟩

/-- Something is told, and a cursor. -/
def RefP (v : Value) (B : Nat) (s' : List Nat × Nat) (w : World) (e : Ending) (w' : World) : Prop :=
  ∃ A' n' c', e = .returned (.tuple #[v, .agg #[.slice A' n' c', .int .i64 (s'.2 : Int)]]) ∧ Dat w' B A' n' c' s' ∧ Below w.heap.size w w'

set_option maxRecDepth 100000 in
set_option maxHeartbeats 400000 in
theorem rfail_any (A : Option Addr) (n c e er : Nat) (w : World) :
    Calls Tryd.prog 72 #[.agg #[.slice A n c, .int .i64 (e : Int)], .int .i64 (er : Int)] w fun r w' => r = .returned (.agg #[.slice A n c, .int .i64 ((if e = 0 then er else e : Nat) : Int)]) ∧ Below w.heap.size w w' := by
  by_cases h : e = 0
  · subst h
    rw [if_pos rfl]
    go_enter Tryd.func72, Tryd.ntmps72
    go_wp2
    exact bodyPost_ret (v := .agg #[.slice A n c, .int .i64 (er : Int)]) (by simp [results, Tryd.results72, go_sem]) rfl ⟨rfl, ((Below.refl _ _).alloc (Nat.le_refl _) _).alloc (by simp) _⟩
  · rw [if_neg h]
    have hb : ((e : Int) == 0) = false := by rw [beq_eq_false_iff_ne]; omega
    go_enter Tryd.func72, Tryd.ntmps72
    go_wp2
    exact bodyPost_ret (v := .agg #[.slice A n c, .int .i64 (e : Int)]) (by simp [results, Tryd.results72, go_sem]) rfl ⟨rfl, ((Below.refl _ _).alloc (Nat.le_refl _) _).alloc (by simp) _⟩

theorem bcell2 {W w1 : World} (hb : Below W.heap.size W w1) : (∀ b o, b < W.heap.size → w1.cell? ⟨b, o, none⟩ = W.cell? ⟨b, o, none⟩) ∧ (∀ b o, b < W.heap.size → w1.frozen? ⟨b, o, none⟩ = W.frozen? ⟨b, o, none⟩) :=
  ⟨fun b o h => hb.cell (p := ⟨b, o, none⟩) h, fun b o h => hb.frozen (p := ⟨b, o, none⟩) h⟩

/-- Block p is one of the document's cursors. -/
def Two (w : World) (p : Nat) (x y : Value) : Prop := w.heap[p]? = some (.cells #[x, y] 42 (0, 0))
set_option maxRecDepth 100000 in
theorem Two.new (w : World) (x y : Value) : Two (w.alloc (.cells #[x, y] 42)) w.heap.size x y := heap_alloc_new _ _
section
variable {w : World} {p : Nat} {x y : Value} (h : Two w p x y)
include h
theorem Two.lt : p < w.heap.size := heap_lt h
theorem Two.c0 : w.cell? ⟨p, 0, none⟩ = some x := by unfold Two at h; simp [World.cell?, h]
theorem Two.c1 : w.cell? ⟨p, 1, none⟩ = some y := by unfold Two at h; simp [World.cell?, h]
theorem Two.f (i : Nat) : w.frozen? ⟨p, i, none⟩ = false := by unfold Two at h; simp [World.frozen?, h]
theorem Two.alloc (o : Obj) : Two (w.alloc o) p x y := (Below.heap_alloc w o p (heap_lt h)).trans h
theorem Two.below {w' : World} {B : Nat} (hb : Below B w w') (hp : p < B) : Two w' p x y := (hb.block p hp).trans h
theorem Two.kept {w' : World} {row : Option Nat} (hg : w.grownBy w' row) (hne : row ≠ some p) : Two w' p x y := (hg.block p (heap_lt h) (Ne.symm hne)).trans h
theorem Two.set (x' y' : Value) : Two ((w.setCell ⟨p, 0, none⟩ x').setCell ⟨p, 1, none⟩ y') p x' y' := (heap_set (heap_set h _) _).trans rfl
end

theorem fail_snd (s : List Nat × Nat) (er : Nat) : (failA s er).2 = if s.2 = 0 then er else s.2 := by
  unfold failA
  by_cases h : s.2 = 0
  · rw [if_pos h]
    by_cases he : er = 0
    · rw [if_pos (.inl he), he, h]
    · rw [if_neg (by omega)]
  · rw [if_neg h, if_pos (.inr h)]

set_option maxRecDepth 100000 in
set_option maxHeartbeats 400000 in
theorem rFail_any (A : Option Addr) (n c e er : Nat) (w : World) :
    Calls Tryd.prog 53 #[.agg #[.slice A n c, .int .i64 (e : Int)], .int .i64 (er : Int)] w fun r w' => r = .returned (.agg #[.slice A n c, .int .i64 ((if e = 0 then er else e : Nat) : Int)]) ∧ Below w.heap.size w w' := by
  have HF := Lib.hid (fun w => rfail_any A n c e er w)
  generalize (if e = 0 then er else e) = x at *
  go_enter Tryd.func53, Tryd.ntmps53
  go_wp2_with fail
  refine (HF.out _).mono ?_
  rintro r w1 ⟨rfl, hb⟩
  obtain ⟨hc, hf⟩ := bcell2 hb
  have hz := hb.size
  simp at hz
  have HB := Lib.hid hb
  clear hb
  go_wp2
  exact bodyPost_ret (v := .agg #[.slice A n c, .int .i64 (x : Int)]) (by simp [results, Tryd.results53, go_sem, hc]) rfl ⟨rfl, ((((Below.refl _ _).alloc (Nat.le_refl _) _).alloc (by simp) _).trans (HB.out.mono (by simp; omega))).setCell (by simp) _ |>.setCell (by simp) _⟩

set_option maxRecDepth 100000 in
set_option maxHeartbeats 400000 in
theorem rLeft_any (A : Option Addr) (n c B : Nat) (s : List Nat × Nat) (w : World) (h : Dat w B A n c s) (hs : s.2 ≠ 0 → s.1 = []) :
    Calls Tryd.prog 30 #[.agg #[.slice A n c, .int .i64 (s.2 : Int)]] w fun r w' => r = .returned (.int .i64 (s.1.length : Int)) ∧ Below w.heap.size w w' := by
  by_cases h0 : s.2 = 0
  · obtain ⟨hb, hnc, hc⟩ := h h0
    have hl := hb.1
    rw [h0, hl]
    clear h hs hb hl h0
    go_enter Tryd.func30, Tryd.ntmps30
    go_wp2
    go_ret
    exact ⟨rfl, (Below.refl _ _).alloc (Nat.le_refl _) _⟩
  · rw [hs h0]
    have hb : ((s.2 : Int) != 0) = true := by rw [bne_iff_ne]; omega
    clear h hs h0
    generalize s.2 = e at *
    go_enter Tryd.func30, Tryd.ntmps30
    go_wp2
    go_ret
    exact ⟨rfl, (Below.refl _ _).alloc (Nat.le_refl _) _⟩

end Go.Proofs.YtpfcfmpfommfaaaDoor
