/-
  What slices.Clone (of bytes), cursor.New, some, Err, Left, End and Fail answer, and what they leave. Conditions: lengths within the reach.
-/
import Derived.Test.YtpfcfmpfommfaaaDoorCur
namespace Go.Proofs.YtpfcfmpfommfaaaDoor
open Go.RowKit

def ClonePost (n : Nat) (l : List Nat) (w : World) (e : Ending) (w' : World) : Prop :=
  ∃ A' c', e = .returned (.slice A' n c') ∧ BytesAt w' w'.heap.size A' n l ∧ n ≤ c' ∧ c' ≤ 9223372036854775807 ∧ Below w.heap.size w w'

set_option maxRecDepth 100000 in
theorem eql_nil (w : World) (a : Option Addr) (n c n' c' : Nat) : (binOp .eql 25 (.slice a n c) (.slice none n' c')).run Tryd.prog w = .ok (.bool a.isNone) w := Lib.run_eql_slice_nil w _ _ a n c n' c' Tryd.underlying25

set_option maxRecDepth 100000 in
set_option maxHeartbeats 400000 in
theorem clone_any (A : Option Addr) (n c : Nat) (l : List Nat) (w : World) (h : BytesAt w w.heap.size A n l) (hn : n ≤ 140737488355328) :
    Calls Tryd.prog 50 #[.slice A n c] w (ClonePost n l w) := by
  have q := eql_nil
  cases A with
  | none =>
    have hn0 : n = 0 := by
      rcases Nat.eq_zero_or_pos n with h0 | h0
      · exact h0
      · obtain ⟨b, off, h, _⟩ := h.2.2 h0
        cases h
    subst hn0
    have H := Lib.hid h
    clear h
    go_enter Tryd.func50, Tryd.ntmps50
    go_wp2
    go_ret
    exact ⟨none, 0, rfl, H.out, Nat.le_refl _, by omega, Below.refl _ _⟩
  | some ad =>
    have hown0 := World.ownsRow_lit (base := w.heap.size) (e := 5) (size := 1) w #[] 0 (Nat.le_refl _) (by decide) rfl
    obtain ⟨v2, w2, hr2, hown2, hg2⟩ := append_bytes (c := c) hown0 (h.below ((Below.refl _ _).alloc (Nat.le_refl _) _)) (by simp) (by simp) (by simp; omega)
    have hb2 : Below w.heap.size w w2 := ((Below.refl _ _).alloc (Nat.le_refl _) _).grown hg2 (by simp) (fun k hk => (hown0.lt k hk).1)
    have hlb := h.2.1
    have hl := h.1
    have HR := Lib.hid (hr2 25 rfl)
    have HB := Lib.hid hb2
    have HO := Lib.hid hown2
    have HL := Lib.hid hl
    clear hown0 hr2 hown2 hg2 hb2 h hl
    go_enter Tryd.func50, Tryd.ntmps50
    go_wp2_with (at_builtin; refine Lib.wpList_append_run _ rfl (.tmp 5) (.tmp 6) _ _ rfl _ _ rfl rfl _ _ HR.out ?_)
    go_ret
    have ho := HO.out
    simp only [Nat.zero_add] at ho
    have hbs : (#[] : Array Value).toList ++ bs l = bs l := by simp
    rcases ho.2 with ⟨rfl, h0⟩ | ⟨g, cap, cur, rfl, _, hg, hnc, hcm, _, ht⟩
    · subst h0
      have : l = [] := List.eq_nil_of_length_eq_zero HL.out
      subst this
      exact ⟨none, 0, rfl, ⟨rfl, by simp, by simp⟩, Nat.le_refl _, by omega, HB.out⟩
    · unfold maxLen at hcm
      refine ⟨_, cap, rfl, bytesAt_own (cur := cur) hg HL.out (by simpa using ht) hlb, hnc, by omega, HB.out⟩

def NewCur (l : List Nat) (w : World) (e : Ending) (w' : World) : Prop :=
  ∃ g, e = .returned (.pointer (some ⟨g, 0, none⟩)) ∧ w.heap.size ≤ g ∧ Cur w' g (l, 0) ∧ Below w.heap.size w w'

set_option maxRecDepth 100000 in
set_option maxHeartbeats 400000 in
theorem new_any (A : Option Addr) (n c : Nat) (l : List Nat) (w : World) (h : BytesAt w w.heap.size A n l) (hn : n ≤ 140737488355328) :
    Calls Tryd.prog 24 #[.slice A n c] w (NewCur l w) := by
  have HC := Lib.hid (clone_any A n c l w h hn)
  clear h
  go_enter Tryd.func24, Tryd.ntmps24
  go_wp2_with (go_at_call 50; refine HC.out.mono ?_; rintro e w1 ⟨A', c', rfl, hb, h1, h2, hbl⟩)
  go_ret
  refine ⟨w1.heap.size, rfl, hbl.size, ⟨A', n, c', true, 0, heap_alloc_new w1 _, ?_, h1, h2, rfl, by simp, by simp⟩, hbl.alloc hbl.size _⟩
  exact hb.below ((Below.refl _ _).alloc (Nat.le_refl _) _)

/-- A cursor or nil, as a pointer: nil has no bytes, and ErrMade. -/
def CurP (w : World) (q : Option Addr) (s : List Nat × Nat) : Prop := (q = none ∧ s = ([], 1)) ∨ ∃ g, q = some ⟨g, 0, none⟩ ∧ Cur w g s

def SomePost (q : Option Addr) (s : List Nat × Nat) (w : World) (e : Ending) (w' : World) : Prop :=
  ∃ g, e = .returned (.pointer (some ⟨g, 0, none⟩)) ∧ Cur w' g s ∧ ((q = some ⟨g, 0, none⟩ ∧ w' = w) ∨ (q = none ∧ w.heap.size ≤ g ∧ Below w.heap.size w w'))

set_option maxRecDepth 100000 in
set_option maxHeartbeats 400000 in
theorem some_any (q : Option Addr) (s : List Nat × Nat) (w : World) (h : CurP w q s) : Calls Tryd.prog 57 #[.pointer q] w (SomePost q s w) := by
  rcases h with ⟨rfl, rfl⟩ | ⟨g, rfl, h⟩
  · go_enter Tryd.func57, Tryd.ntmps57
    go_wp2
    go_ret
    exact ⟨w.heap.size, rfl, ⟨none, 0, 0, false, 0, heap_alloc_new w _, ⟨rfl, by simp, by simp⟩, Nat.le_refl _, by omega, rfl, by simp, by simp⟩, .inr ⟨rfl, Nat.le_refl _, (Below.refl _ _).alloc (Nat.le_refl _) _⟩⟩
  · have H := Lib.hid h
    clear h
    go_enter Tryd.func57, Tryd.ntmps57
    go_wp2
    go_ret
    exact ⟨g, rfl, H.out, .inl ⟨rfl, rfl⟩⟩

/-- What a call on q leaves: of what was there only the cursor's own block has turned. -/
def Only (q : Option Addr) (w w' : World) : Prop := w.grownBy w' (q.map (·.block))

theorem Only.of_some {q : Option Addr} {g : Nat} {w w1 w2 : World} (h : (q = some ⟨g, 0, none⟩ ∧ w1 = w) ∨ (q = none ∧ w.heap.size ≤ g ∧ Below w.heap.size w w1)) (hg : w1.grownBy w2 (some g)) : Only q w w2 := by
  rcases h with ⟨rfl, rfl⟩ | ⟨rfl, hg0, hb⟩
  · exact hg
  · refine ⟨hg.os.trans hb.os, hg.tape.trans hb.tape, hg.output.trans hb.output, Nat.le_trans hb.size hg.size, fun k hk _ => ?_⟩
    rw [hg.block k (Nat.lt_of_lt_of_le hk hb.size) (by intro e; injection e with e; omega), hb.block k hk]
theorem CurP.of_some {q : Option Addr} {g : Nat} {w w1 w2 : World} {s : List Nat × Nat} (h : (q = some ⟨g, 0, none⟩ ∧ w1 = w) ∨ (q = none ∧ w.heap.size ≤ g ∧ Below w.heap.size w w1)) (hc : Cur w2 g s) (hs : q = none → s = ([], 1)) : CurP w2 q s := by
  rcases h with ⟨rfl, rfl⟩ | ⟨rfl, _, _⟩
  · exact .inr ⟨g, rfl, hc⟩
  · exact .inl ⟨rfl, hs rfl⟩
end Go.Proofs.YtpfcfmpfommfaaaDoor
