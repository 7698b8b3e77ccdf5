/-
  What a cursor's Err, Left, End and Fail answer, and what they leave. Conditions: none.
-/
import Derived.Test.YtpfcfmpfommfaaaDoorCurA
namespace Go.Proofs.YtpfcfmpfommfaaaDoor
open Go.RowKit

/-- Nothing has turned; of nil's sake a block may be new. -/
def Same (q : Option Addr) (w w' : World) : Prop := (q ≠ none ∧ w' = w) ∨ (q = none ∧ Below w.heap.size w w')

theorem Same.of_some {q : Option Addr} {g : Nat} {w w1 : World} (h : (q = some ⟨g, 0, none⟩ ∧ w1 = w) ∨ (q = none ∧ w.heap.size ≤ g ∧ Below w.heap.size w w1)) : Same q w w1 := by
  rcases h with ⟨rfl, rfl⟩ | ⟨rfl, _, hb⟩
  · exact .inl ⟨by simp, rfl⟩
  · exact .inr ⟨rfl, hb⟩
theorem Same.grown {q : Option Addr} {w w' : World} (h : Same q w w') (row : Option Nat) : w.grownBy w' row := by
  rcases h with ⟨_, rfl⟩ | ⟨_, hb⟩
  · exact World.grownBy.refl _ _
  · exact ⟨hb.os, hb.tape, hb.output, hb.size, fun k hk _ => hb.block k hk⟩
theorem Same.refl (q : Option Addr) (w : World) : Same q w w := by
  cases q with
  | none => exact .inr ⟨rfl, Below.refl _ _⟩
  | some a => exact .inl ⟨by simp, rfl⟩
theorem Same.trans {q : Option Addr} {w w1 w2 : World} (h : Same q w w1) (k : Same q w1 w2) : Same q w w2 := by
  rcases h with ⟨hq, rfl⟩ | ⟨hq, hb⟩
  · exact k
  · rcases k with ⟨hq', _⟩ | ⟨_, hb'⟩
    · exact absurd hq hq'
    · exact .inr ⟨hq, hb.trans (hb'.mono hb.size)⟩
theorem CurP.same {q : Option Addr} {w w' : World} {s : List Nat × Nat} (h : CurP w q s) (k : Same q w w') : CurP w' q s := by
  rcases k with ⟨_, rfl⟩ | ⟨rfl, _⟩
  · exact h
  · rcases h with h | ⟨g, h, _⟩
    · exact .inl h
    · cases h

/-- A number is told; nothing has turned. -/
def Told (k : IntKind) (x : Int) (q : Option Addr) (w : World) (e : Ending) (w' : World) : Prop := e = .returned (.int k x) ∧ Same q w w'

set_option maxRecDepth 100000 in
set_option maxHeartbeats 400000 in
theorem err_any (q : Option Addr) (s : List Nat × Nat) (w : World) (h : CurP w q s) : Calls Tryd.prog 28 #[.pointer q] w (Told .i64 s.2 q w) := by
  have HS := Lib.hid (some_any q s w h)
  clear h
  go_enter Tryd.func28, Tryd.ntmps28
  go_wp2_with fail
  refine HS.out.mono ?_
  rintro e w1 ⟨g, rfl, ⟨A, n, c, m, e0, hc, _, _, _, hs, _, _⟩, hq⟩
  have c1 := hc.c1
  have c2 := hc.c2
  have HQ := Lib.hid hq
  have HE := Lib.hid hs
  clear hc hq hs HS
  cases m with
  | false =>
    go_wp2
    go_ret
    exact ⟨ret_int (by rw [HE.out]; rfl), Same.of_some HQ.out⟩
  | true =>
    go_wp2
    go_ret
    exact ⟨ret_int (by rw [HE.out]; rfl), Same.of_some HQ.out⟩

set_option maxRecDepth 100000 in
set_option maxHeartbeats 400000 in
theorem left_any (q : Option Addr) (s : List Nat × Nat) (w : World) (h : CurP w q s) : Calls Tryd.prog 29 #[.pointer q] w (Told .i64 s.1.length q w) := by
  have HS := Lib.hid (some_any q s w h)
  clear h
  go_enter Tryd.func29, Tryd.ntmps29
  go_wp2_with fail
  refine HS.out.mono ?_
  rintro e w1 ⟨g, rfl, ⟨A, n, c, m, e0, hc, hb, _, _, _, _, _⟩, hq⟩
  have c0 := hc.c0
  have HQ := Lib.hid hq
  have HB := Lib.hid hb.1
  clear hc hq hb HS
  go_wp2
  go_ret
  exact ⟨ret_int (by rw [HB.out]), Same.of_some HQ.out⟩

/-- What End tells. -/
def endA (s : List Nat × Nat) : Nat := if s.2 ≠ 0 then s.2 else if 0 < s.1.length then 4 else 0

/-- The first error stays. -/
def failA (s : List Nat × Nat) (er : Nat) : List Nat × Nat := if er = 0 ∨ s.2 ≠ 0 then s else ([], er)

/-- The cursor's new state; of what was there only its block has turned. -/
def Turned (v : Value) (q : Option Addr) (s' : List Nat × Nat) (w : World) (e : Ending) (w' : World) : Prop := e = .returned v ∧ CurP w' q s' ∧ Only q w w'

theorem Only.same {q : Option Addr} {w w' : World} (h : Same q w w') : Only q w w' := h.grown _

set_option maxRecDepth 100000 in
set_option maxHeartbeats 400000 in
theorem fail_any (q : Option Addr) (s : List Nat × Nat) (er : Nat) (w : World) (h : CurP w q s) (hr : er ≤ 9223372036854775807) :
    Calls Tryd.prog 56 #[.pointer q, .int .i64 (er : Int)] w (Turned (.tuple #[]) q (failA s er) w) := by
  have H := Lib.hid h
  have HS := Lib.hid (err_any q s w h)
  by_cases h0 : er = 0
  · subst h0
    have hf : failA s 0 = s := by unfold failA; rw [if_pos (.inl rfl)]
    rw [hf]
    clear hf h
    go_enter Tryd.func56, Tryd.ntmps56
    go_wp2
    go_end0
    exact ⟨rfl, H.out, World.grownBy.refl _ _⟩
  by_cases he : s.2 = 0
  · have hf : failA s er = ([], er) := by unfold failA; rw [if_neg (by omega)]
    rw [hf]
    clear hf
    rcases h with ⟨rfl, rfl⟩ | ⟨g, rfl, A, n, c, m, e0, hc, hb, _, _, hs, _, _⟩
    · cases he
    · rw [he] at HS hs
      obtain rfl : m = true := by cases m with
        | true => rfl
        | false => cases hs
      have hs0 : e0 = 0 := by simpa using hs.symm
      subst hs0
      have f2 := hc.f 2
      have f0 := hc.f 0
      have c2 := hc.c2
      have c0 := hc.c0
      have hb0 : ((er : Int) == 0) = false := by rw [beq_eq_false_iff_ne]; omega
      have HC := Lib.hid hc
      clear hc hs hb h0 he
      go_enter Tryd.func56, Tryd.ntmps56
      go_wp2_with (go_at_call 28; refine HS.out.mono ?_; rintro e w1 ⟨rfl, ⟨_, rfl⟩ | ⟨hx, _⟩⟩ <;> first | cases hx | skip)
      go_end0
      refine ⟨rfl, .inr ⟨g, rfl, none, 0, 0, true, er, (HC.out.set2 er).set0 none 0 0, ⟨rfl, by simp, by simp⟩, Nat.le_refl _, by omega, rfl, by simp, hr⟩, ?_⟩
      exact Lib.grownBy_setB (Lib.grownBy_setB (World.grownBy.refl _ _) _ _) _ _
  · have hf : failA s er = s := by unfold failA; rw [if_pos (.inr he)]
    rw [hf]
    have hb0 : ((er : Int) == 0) = false := by rw [beq_eq_false_iff_ne]; omega
    have hb : ((s.2 : Int) != 0) = true := by rw [bne_iff_ne]; omega
    clear hf h he h0
    go_enter Tryd.func56, Tryd.ntmps56
    go_wp2_with (go_at_call 28; refine HS.out.mono ?_; rintro e w1 ⟨rfl, hs1⟩)
    go_end0
    exact ⟨rfl, H.out.same hs1, Only.same hs1⟩
end Go.Proofs.YtpfcfmpfommfaaaDoor
