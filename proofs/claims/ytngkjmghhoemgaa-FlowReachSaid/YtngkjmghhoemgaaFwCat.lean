/-
  Three rows of whole numbers put behind each other by slices.Concat, over the library's contract of slices.Grow. Conditions: not more than a million numbers in each.
-/
import Derived.Shelf.Spec.SlicesGrow
import Derived.Test.YtngkjmghhoemgaaFwA
import Derived.LoopN
namespace Go.Proofs
open Go.Shelf
def Try.growI_ren : Go.Shelf.Ren := ⟨fun | 4 => 47 | n => n, fun | 22 => 24 | 25 => 3 | 3 => 3 | 4 => 4 | 9 => 9 | 20 => 20 | 0 => 0 | n => n, fun | n => n⟩
set_option maxRecDepth 100000 in
theorem Try.growI : Go.Proofs.Lays8.n4 Try.prog Try.growI_ren := {
  mixed := by kernel_rfl
  f4 := ⟨Try.f47.name, by decide, Try.func47.trans (congrArg some (by kernel_rfl))⟩
  t0 := Try.underlying0
  a0 := Try.isAgg0
  z0 := Try.sizeOf0
  v0 := Try.zeroValue0
  t3 := Try.underlying3
  a3 := Try.isAgg3
  z3 := Try.sizeOf3
  v3 := Try.zeroValue3
  t4 := Try.underlying4
  a4 := Try.isAgg4
  z4 := Try.sizeOf4
  v4 := Try.zeroValue4
  t9 := Try.underlying9
  a9 := Try.isAgg9
  z9 := Try.sizeOf9
  v9 := Try.zeroValue9
  t20 := Try.underlying20
  a20 := Try.isAgg20
  z20 := Try.sizeOf20
  v20 := Try.zeroValue20
  t22 := Try.underlying24
  a22 := Try.isAgg24
  z22 := Try.sizeOf24
  v22 := Try.zeroValue24 }
end Go.Proofs
namespace Go.Proofs.Ytngkjmghhoemgaa
open Go.RowKit

set_option maxRecDepth 100000 in
theorem grow_ints (n : Nat) (w : World) (hn : n ≤ 1000000000) : Calls Try.prog 47 #[.slice none 0 0, .int .i64 (n : Int)] w fun e w' => ∃ v, e = .returned v ∧ Rq w' w.heap.size v [] ∧ Below w.heap.size w w' := by
  obtain ⟨i0, hi, hz0, hz1, hz2⟩ := info_parts info_int
  rcases Nat.eq_zero_or_pos n with h0 | h0
  · subst h0
    refine (Any8.slices_Grow_room Try.growI none 0 0 0 w (Nat.le_refl _) (by omega) (by omega) (Nat.le_refl _)).mono ?_
    rintro _ w' ⟨rfl, rfl⟩
    exact ⟨_, rfl, Rq.nil _ _, Below.refl _ _⟩
  · have hh := Any8.slices_Grow_grow Try.growI i0 (.int .i64 0) hi hz0 (by omega) none 0 0 n [] w (Nat.le_refl _) (by omega) (by rw [hz2]; omega) (by omega) (by simp) (fun _ => rfl) (fun a h => by cases h)
    refine hh.mono ?_
    rintro _ w' ⟨rfl, rfl⟩
    refine ⟨_, rfl, ?_, ((Below.refl w.heap.size w).drew).alloc (Nat.le_refl _) _⟩
    have hnew := heap_alloc_new w.drew (.cells (([] : List Value).toArray ++ Builtin.zeroCells (Value.int .i64 0).cells (0 + n - 0) ++ Builtin.zeroCells (Value.int .i64 0).cells (grownCap w (0 + n) 0 3 - (0 + n))) 3)
    have hge := grownCap_ge w (0 + n) 0 3
    refine .inr ⟨w.heap.size, 0, grownCap w (0 + n) 0 3, _, rfl, Nat.le_refl _, hnew, Nat.zero_le _, ?_, fun i h => by simp at h⟩
    rw [Array.size_append, Array.size_append, size_zeroCells, size_zeroCells]
    simp [Value.cells]
    omega

set_option maxRecDepth 100000 in
set_option maxHeartbeats 4000000 in
theorem concat3_any (p : Nat) (A0 A1 A2 : Option Addr) (n0 n1 n2 c0 c1 c2 : Nat) (l0 l1 l2 : List Int) (w : World) (hp : p < w.heap.size)
    (q0 : w.cell? ⟨p, 0, none⟩ = some (.slice A0 n0 c0)) (q1 : w.cell? ⟨p, 1, none⟩ = some (.slice A1 n1 c1)) (q2 : w.cell? ⟨p, 2, none⟩ = some (.slice A2 n2 c2))
    (h0 : IntsAt w w.heap.size A0 n0 l0) (h1 : IntsAt w w.heap.size A1 n1 l1) (h2 : IntsAt w w.heap.size A2 n2 l2) (b0 : n0 ≤ 2000000) (b1 : n1 ≤ 2000000) (b2 : n2 ≤ 2000000) :
    Calls Try.prog 33 #[.slice (some ⟨p, 0, none⟩) 3 3] w (RowP (l0 ++ (l1 ++ l2)) w) := by
  have HP := Lib.hid hp
  have HI := Lib.hid (And.intro h0 (And.intro h1 h2))
  have HLn := Lib.hid (And.intro h0.1 h1.1)
  have HBd := Lib.hid (And.intro b0 (And.intro b1 b2))
  have HG := Lib.hid (fun W => grow_ints (n0 + n1 + n2) W (by omega))
  rw [Int.natCast_add, Int.natCast_add] at HG
  have e1 : wrap64 (n0 : Int) = (n0 : Int) := by unfold wrap64; omega
  have e2 : wrap64 ((n0 : Int) + (n1 : Int)) = (n0 : Int) + (n1 : Int) := by unfold wrap64; omega
  have e3 : wrap64 ((n0 : Int) + (n1 : Int) + (n2 : Int)) = (n0 : Int) + (n1 : Int) + (n2 : Int) := by unfold wrap64; omega
  have d1 : decide ((n0 : Int) < 0) = false := decide_eq_false (by omega)
  have d2 : decide ((n0 : Int) + (n1 : Int) < 0) = false := decide_eq_false (by omega)
  have d3 : decide ((n0 : Int) + (n1 : Int) + (n2 : Int) < 0) = false := decide_eq_false (by omega)
  clear h0 h1 h2 b0 b1 b2 hp
  go_enter Try.func33, Try.ntmps33
  go_wp2
  refine wp_loop_rounds 4 ?_
  rw [rounds_succ]
  go_wp2
  rw [rounds_succ]
  go_wp2
  rw [rounds_succ]
  go_wp2
  rw [rounds_succ]
  go_wp2_with (go_at_call 47; refine (HG.out _).mono ?_; rintro _ w1 ⟨v1, rfl, hq, hb⟩; have HQ1 := Lib.hid hq; have HB1 := Lib.hid hb; clear hq hb; have x0 := (HB1.out.cell (p := ⟨p, 0, none⟩) HP.out).trans q0; have x1 := (HB1.out.cell (p := ⟨p, 1, none⟩) HP.out).trans q1; have x2 := (HB1.out.cell (p := ⟨p, 2, none⟩) HP.out).trans q2)
  refine wp_loop_rounds 4 ?_
  rw [rounds_succ]
  go_wp2_with (at_builtin; refine wpList_append_q rfl rfl (.tmp 31) (.tmp 32) rfl (base := w.heap.size) rfl HQ1.out rfl (HI.out.1.below HB1.out) HB1.out.size (by have := HBd.out; have := HLn.out; simp; omega) ?_; intro v2 w2 hq hg _; have HQ2 := Lib.hid hq; have HB2 := Lib.hid (below_append HB1.out HQ1.out hg); clear hq hg; have y1 := (HB2.out.cell (p := ⟨p, 1, none⟩) HP.out).trans q1; have y2 := (HB2.out.cell (p := ⟨p, 2, none⟩) HP.out).trans q2)
  rw [rounds_succ]
  go_wp2_with (at_builtin; refine wpList_append_q rfl rfl (.tmp 31) (.tmp 32) rfl (base := w.heap.size) rfl HQ2.out rfl (HI.out.2.1.below HB2.out) HB2.out.size (by have := HBd.out; have := HLn.out; simp; omega) ?_; intro v3 w3 hq hg _; have HQ3 := Lib.hid hq; have HB3 := Lib.hid (below_append HB2.out HQ2.out hg); clear hq hg; have z2 := (HB3.out.cell (p := ⟨p, 2, none⟩) HP.out).trans q2)
  rw [rounds_succ]
  go_wp2_with (at_builtin; refine wpList_append_q rfl rfl (.tmp 31) (.tmp 32) rfl (base := w.heap.size) rfl HQ3.out rfl (HI.out.2.2.below HB3.out) HB3.out.size (by have := HBd.out; have := HLn.out; simp; omega) ?_; intro v4 w4 hq hg _; have HQ4 := Lib.hid hq; have HB4 := Lib.hid (below_append HB3.out HQ3.out hg); clear hq hg)
  rw [rounds_succ]
  go_wp2
  go_ret
  have hq := HQ4.out
  rw [List.nil_append, List.append_assoc] at hq
  exact ⟨_, rfl, hq, HB4.out⟩
end Go.Proofs.Ytngkjmghhoemgaa
