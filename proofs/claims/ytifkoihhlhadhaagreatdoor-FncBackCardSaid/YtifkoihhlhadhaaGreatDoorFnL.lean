/-
  The example that ends every law of the layer; whether a function has few of everything. Conditions: the library's table is laid.
-/
import Derived.Test.YtifkoihhlhadhaaGreatDoorFnCanL
import Derived.Test.YtifkoihhlhadhaaGreatDoorFnEqS
namespace Go.Proofs.YtifkoihhlhadhaaGreatDoor
open Go.RowKit

/-- The function that returns, in memory. -/
def retF : Fn.F := ⟨⟨#[102]⟩, false, [], [], [], [], [(25, 0)], [1], [], [], []⟩
def retV (b : Nat) : FnV := ⟨⟨#[102]⟩, false, .nil, .nil, .nil, .nil, ⟨some ⟨b, 0, none⟩, 1, 1⟩, ⟨some ⟨b + 1, 0, none⟩, 1, 1⟩, .nil, .nil, .nil⟩
theorem retF_can : retF.can = 0 := by decide
theorem zero_can : Fn.F.zero.can = 7 := by decide
theorem ret_not : ¬ retF = Fn.F.zero := fun e => by
  have h := congrArg (fun f => f.lines.length) e
  simp [retF, Fn.F.zero] at h
theorem ret_wf : retF.Wf := ⟨fun p hp => by obtain rfl := List.mem_singleton.1 (show p ∈ [((25 : Int), (0 : Int))] from hp); exact ⟨⟨by decide, by decide⟩, ⟨by decide, by decide⟩⟩, fun z hz => by obtain rfl := List.mem_singleton.1 (show z ∈ [(1 : Int)] from hz); decide, fun n hn => (by cases hn), fun z hz => (by cases hz), fun s hs => (by cases hs)⟩
theorem zero_wf : Fn.F.zero.Wf := ⟨fun p hp => (by cases hp), fun p hp => (by cases hp), fun p hp => (by cases hp), fun p hp => (by cases hp), fun p hp => (by cases hp)⟩
theorem ret_len (b : Nat) : (retV b).Len := ⟨show (1 : Nat) ≤ _ by decide, show (0 : Nat) ≤ _ by decide, show (0 : Nat) ≤ _ by decide, show (0 : Nat) ≤ _ by decide, show (0 : Nat) ≤ _ by decide, show (1 : Nat) ≤ _ by decide, show (1 : Nat) ≤ _ by decide, show (0 : Nat) ≤ _ by decide, show (0 : Nat) ≤ _ by decide, show (0 : Nat) ≤ _ by decide⟩
theorem zero_len : FnV.zero.Len := by constructor <;> decide
set_option maxRecDepth 100000 in
theorem ret_ok (w : World) (o : Obj) : FnOk (((w.alloc (.cells #[.int .i64 25, .int .i64 0] 46)).alloc (.cells #[.int .i64 1] 3)).alloc o) (((w.alloc (.cells #[.int .i64 25, .int .i64 0] 46)).alloc (.cells #[.int .i64 1] 3)).alloc o).heap.size (retV w.heap.size) retF := by
  have h1 : (((w.alloc (.cells #[.int .i64 25, .int .i64 0] 46)).alloc (.cells #[.int .i64 1] 3)).alloc o).heap[w.heap.size]? = some (.cells #[.int .i64 25, .int .i64 0] 46 (0, 0)) := (Below.heap_alloc _ _ _ (by simp; omega)).trans ((Below.heap_alloc _ _ _ (by simp)).trans (heap_alloc_new w _))
  have h2 : (((w.alloc (.cells #[.int .i64 25, .int .i64 0] 46)).alloc (.cells #[.int .i64 1] 3)).alloc o).heap[w.heap.size + 1]? = some (.cells #[.int .i64 1] 3 (0, 0)) := by
    refine (Below.heap_alloc _ _ _ (by simp)).trans ?_
    have := heap_alloc_new (w.alloc (.cells #[.int .i64 25, .int .i64 0] 46)) (.cells #[.int .i64 1] 3)
    simpa only [World.size_alloc] using this
  refine ⟨rfl, rfl, ⟨intsN _ _, fun _ => rfl⟩, ⟨intsN _ _, fun _ => rfl⟩, ⟨intsN _ _, fun _ => rfl⟩, ⟨intsN _ _, fun _ => rfl⟩, ⟨⟨rfl, fun _ => ⟨w.heap.size, 0, rfl, by simp; omega, fun i hi => ?_⟩⟩, fun e => by cases e⟩, ⟨⟨rfl, fun _ => ⟨w.heap.size + 1, 0, rfl, by simp, fun i hi => ?_⟩⟩, fun e => by cases e⟩, ⟨nodes_nil _ _, fun _ => rfl⟩, ⟨intsN _ _, fun _ => rfl⟩, ⟨sets_nil _ _, fun _ => rfl⟩⟩
  · obtain rfl : i = 0 := by have : i < 1 := hi; omega
    exact ⟨cell_of_row _ _ 0 _ _ _ h1, cell_of_row _ _ 1 _ _ _ h1⟩
  · obtain rfl : i = 0 := by have : i < 1 := hi; omega
    exact cell_of_row _ _ 0 _ _ _ h2

set_option maxRecDepth 100000 in
set_option maxHeartbeats 8000000 in
theorem lives15_any (w : World) (hT : Tab w) (hg : 0 < w.heap.size) : Calls Tryz.prog 6 #[] w (BoolP true w) := by
  have hb0 : Below w.heap.size w (((w.alloc (.cells #[.int .i64 25, .int .i64 0] 46)).alloc (.cells #[.int .i64 1] 3)).alloc (.cells (retV w.heap.size).cells 28)) := (((Below.refl _ _).alloc (Nat.le_refl _) _).alloc (by simp) _).alloc (by simp; omega) _
  have O1 := Lib.hid (ret_ok w (.cells (retV w.heap.size).cells 28))
  have A1 : Hid (FnAt (((w.alloc (.cells #[.int .i64 25, .int .i64 0] 46)).alloc (.cells #[.int .i64 1] 3)).alloc (.cells (retV w.heap.size).cells 28)) (w.heap.size + 1 + 1) (retV w.heap.size)) := Lib.hid (by
    have := FnAt.new ((w.alloc (.cells #[.int .i64 25, .int .i64 0] 46)).alloc (.cells #[.int .i64 1] 3)) (retV w.heap.size)
    simpa only [World.size_alloc] using this)
  have B1 := Lib.hid hb0
  have T1 := Lib.hid (tab_below hT hb0 hg)
  have G1 := Lib.hid (Nat.lt_of_lt_of_le hg hb0.size)
  have HCan := fncan_any _ _ _ O1.out (ret_len _) ret_wf T1.out G1.out
  rw [retF_can] at HCan
  have HZ := Lib.hid (fun (W : World) (t : Tab W) g => fncan_any .zero .zero W (FnOk.zero W _) zero_len zero_wf t g)
  rw [zero_can] at HZ
  have HEq := Lib.hid (fun (W : World) (o : FnOk W W.heap.size (retV w.heap.size) retF) => fnsame_any _ _ retF retF W o o (ret_len _))
  have HNe := Lib.hid (fun (W : World) (o : FnOk W W.heap.size (retV w.heap.size) retF) => fnsame_any _ .zero retF .zero W o (FnOk.zero W _) (ret_len _))
  have HBa := Lib.hid (fun (W : World) => fnbare_any (retV w.heap.size) W)
  rw [show (retV w.heap.size).bare = true from rfl] at HBa
  have c0 := A1.out.c0; have c1 := A1.out.c1; have c2 := A1.out.c2; have c3 := A1.out.c3; have c4 := A1.out.c4; have c5 := A1.out.c5; have c6 := A1.out.c6; have c7 := A1.out.c7; have c8 := A1.out.c8; have c9 := A1.out.c9; have c10 := A1.out.c10
  clear hb0 hT hg
  go_enter Tryz.func6, Tryz.ntmps6
  go_wp2_with (first
    | (go_at_call 7; refine HCan.mono ?_; rintro _ w2 ⟨rfl, hb2⟩; clear HCan; have A2 := Lib.hid (A1.out.on hb2); have O2 := Lib.hid (O1.out.on hb2); have B2 := Lib.hid (B1.out.trans (hb2.mono B1.out.size)); have T2 := Lib.hid (tab_below T1.out hb2 G1.out); have G2 := Lib.hid (Nat.lt_of_lt_of_le G1.out hb2.size); clear hb2; have c0 := A2.out.c0; have c1 := A2.out.c1; have c2 := A2.out.c2; have c3 := A2.out.c3; have c4 := A2.out.c4; have c5 := A2.out.c5; have c6 := A2.out.c6; have c7 := A2.out.c7; have c8 := A2.out.c8; have c9 := A2.out.c9; have c10 := A2.out.c10)
    | (go_at_call 7; refine (HZ.out w2 T2.out G2.out).mono ?_; rintro _ w3 ⟨rfl, hb3⟩; have A3 := Lib.hid (A2.out.on hb3); have O3 := Lib.hid (O2.out.on hb3); have B3 := Lib.hid (B2.out.trans (hb3.mono B2.out.size)); have T3 := Lib.hid (tab_below T2.out hb3 G2.out); have G3 := Lib.hid (Nat.lt_of_lt_of_le G2.out hb3.size); clear hb3; have c0 := A3.out.c0; have c1 := A3.out.c1; have c2 := A3.out.c2; have c3 := A3.out.c3; have c4 := A3.out.c4; have c5 := A3.out.c5; have c6 := A3.out.c6; have c7 := A3.out.c7; have c8 := A3.out.c8; have c9 := A3.out.c9; have c10 := A3.out.c10)
    | (go_at_call 9; refine (HBa.out w3).mono ?_; rintro _ w4 ⟨rfl, hb4⟩; have A4 := Lib.hid (A3.out.on hb4); have O4 := Lib.hid (O3.out.on hb4); have B4 := Lib.hid (B3.out.trans (hb4.mono B3.out.size)); have T4 := Lib.hid (tab_below T3.out hb4 G3.out); have G4 := Lib.hid (Nat.lt_of_lt_of_le G3.out hb4.size); clear hb4; have c0 := A4.out.c0; have c1 := A4.out.c1; have c2 := A4.out.c2; have c3 := A4.out.c3; have c4 := A4.out.c4; have c5 := A4.out.c5; have c6 := A4.out.c6; have c7 := A4.out.c7; have c8 := A4.out.c8; have c9 := A4.out.c9; have c10 := A4.out.c10)
    | (go_at_call 19; refine (HEq.out w4 O4.out).mono ?_; rintro _ w5 ⟨b, rfl, hb, hb5⟩; clear HEq; obtain rfl := hb.2 (by first | trivial | rfl); clear hb; have A5 := Lib.hid (A4.out.on hb5); have O5 := Lib.hid (O4.out.on hb5); have B5 := Lib.hid (B4.out.trans (hb5.mono B4.out.size)); have T5 := Lib.hid (tab_below T4.out hb5 G4.out); have G5 := Lib.hid (Nat.lt_of_lt_of_le G4.out hb5.size); clear hb5; have c0 := A5.out.c0; have c1 := A5.out.c1; have c2 := A5.out.c2; have c3 := A5.out.c3; have c4 := A5.out.c4; have c5 := A5.out.c5; have c6 := A5.out.c6; have c7 := A5.out.c7; have c8 := A5.out.c8; have c9 := A5.out.c9; have c10 := A5.out.c10)
    | (go_at_call 19; refine (HNe.out w5 O5.out).mono ?_; rintro _ w6 ⟨b, rfl, hb, hb6⟩; obtain rfl : b = false := (by cases b with | true => exact absurd (hb.1 rfl) ret_not | false => rfl); clear hb; have B6 := Lib.hid (B5.out.trans (hb6.mono B5.out.size)); clear hb6))
  go_ret
  exact ⟨rfl, B6.out⟩
end Go.Proofs.YtifkoihhlhadhaaGreatDoor
