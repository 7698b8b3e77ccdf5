/-
  From the readings to the walks: sets that came in; the table of math/bits, where it is laid. Conditions: none.
  From the readings to the walks: a function that came in. Conditions: none.
-/
import Derived.Test.YtngkjmghhoemgaaRows
import Derived.Test.YtngkjmghhoemgaaSlAA
import Derived.Test.YtngkjmghhoemgaaMpMA
import Derived.ProofKit
import Derived.LaidMore
import Derived.OpenShut
import Derived.Stop.Joined
import Derived.SizedLaws
import Derived.ChangeOld
import Derived.Deep.SlicePairs
import Derived.Test.YtngkjmghhoemgaaAtA
import Derived.ChangeArms
import Derived.ChangeSame
import Derived.Deep.Strs
namespace Go.Proofs.Ytngkjmghhoemgaa
open Go.ChangeShapes Go.WideShapes Go.ChangeAt Go.RowKit

set_option maxRecDepth 100000 in
theorem own : ownKnob Try.prog.godebug = none := by kernel_rfl
set_option maxRecDepth 100000 in
theorem laidOut : laidOutB Try.prog = true := by kernel_rfl
set_option maxRecDepth 100000 in
theorem cells_u8 : Try.prog.cellsOf 5 = 1 := by kernel_rfl
set_option maxRecDepth 100000 in
theorem cells_set : Try.prog.cellsOf 75 = 4 := by kernel_rfl

theorem one_of_take {cs : List Value} {i : Nat} {v : Value} (h : (cs.drop (i * 1)).take 1 = [v]) : cs[i]? = some v := by
  have := congrArg (fun l => l[0]?) h
  simpa using this

theorem choose_list {α : Type} (d : α) (P : Nat → α → Prop) : ∀ n, (∀ i, i < n → ∃ x, P i x) → ∃ l : List α, l.length = n ∧ ∀ i, i < n → P i (l.getD i d)
  | 0, _ => ⟨[], rfl, fun i hi => by omega⟩
  | n + 1, h => by
    obtain ⟨l, hl, hp⟩ := choose_list d P n (fun i hi => h i (by omega))
    obtain ⟨x, hx⟩ := h n (by omega)
    refine ⟨l ++ [x], by simp [hl], fun i hi => ?_⟩
    by_cases hin : i < n
    · have e : (l ++ [x]).getD i d = l.getD i d := by
        have hil : i < l.length := by omega
        simp [List.getD, List.getElem?_append_left hil]
      rw [e]
      exact hp i hin
    · obtain rfl : i = n := by omega
      have e : (l ++ [x]).getD i d = x := by
        subst hl
        simp [List.getD]
      rw [e]
      exact hx

theorem addr_none {W : World} {b off : Nat} {sp : Option Nat} {v : Value} (h : W.cell? ((⟨b, off, sp⟩ : Addr).add 0) = some v) : sp = none := by
  cases sp with
  | none => rfl
  | some k => simp [World.cell?, Addr.add] at h; split at h <;> simp at h

set_option maxRecDepth 100000 in
/-- Sets that came in. -/
theorem sets_of {H : Type} {enc : TypeId × Value → H} {W : World} {fuel : Nat} {a : Option Addr} {len cap : Nat} {x : DataW H × List MemPlace}
    (h : DataW.trod enc Try.prog W 0 (fun _ => true) true fuel 26 [.slice a len cap] = some x) :
    ∃ l, SetsAt W W.heap.size a len l ∧ (∀ s ∈ l, s.ok) ∧ len ≤ 9223372036854775807 := by
  rcases Go.Deep.open_slice Try.underlying26 h with ⟨hcs, _⟩ | ⟨ad, ln, cp, m, n, D, Pl, hcs, _, hl, hm, hmm, _, hi⟩
  · simp at hcs
    obtain ⟨rfl, rfl, rfl⟩ := hcs
    exact ⟨[], ⟨rfl, fun h => absurd h (by omega)⟩, (fun v hv => by cases hv), by omega⟩
  · simp at hcs
    obtain ⟨rfl, rfl, rfl⟩ := hcs
    simp only [if_true] at hmm
    subst hmm
    unfold maxLen at hm
    have each : ∀ i, i < len → ∃ s : Sl.Four, (∀ j, j < 4 → W.cell? (ad.add (i * 4 + j)) = some (.int .u64 (s.word j : Int))) ∧ s.ok := by
      intro i hil
      obtain ⟨cs', h1, h2⟩ := hi i (by omega)
      rw [cells_set] at h1
      obtain ⟨_, hlen, hcell⟩ := World.cells?_some h1
      obtain ⟨xs, m1, rfl, hx1, hxl, hn, hel⟩ := DataW.trod_array Try.underlying75 h2
      have key : ∀ j, j < 4 → ∃ k : Nat, k < 18446744073709551616 ∧ W.cell? (ad.add (i * 4 + j)) = some (.int .u64 (k : Int)) := by
        intro j hj
        have h0 := hel j hj
        have hjx : j < xs.length := by omega
        rw [List.getElem?_eq_getElem hjx, cells_u64] at h0
        obtain ⟨k, e1, e2, wf⟩ := DataW.trod_int Try.underlying73 h0
        have hc := one_of_take e1
        obtain ⟨b1, b2⟩ := bounds_u64 wf
        have g := hcell j (by omega)
        rw [Go.Deep.add_add] at g
        refine ⟨k.toNat, by omega, ?_⟩
        rw [Int.toNat_of_nonneg b1]
        exact g.trans (by rw [← hc])
      obtain ⟨a, ha, ea⟩ := key 0 (by omega)
      obtain ⟨b, hb, eb⟩ := key 1 (by omega)
      obtain ⟨c, hc, ec⟩ := key 2 (by omega)
      obtain ⟨d, hd, ed⟩ := key 3 (by omega)
      refine ⟨⟨a, b, c, d⟩, fun j hj => ?_, ⟨ha, hb, hc, hd⟩⟩
      rcases (show j = 0 ∨ j = 1 ∨ j = 2 ∨ j = 3 by omega) with rfl | rfl | rfl | rfl
      · exact ea
      · exact eb
      · exact ec
      · exact ed
    obtain ⟨l, hr, hp⟩ := choose_list Sl.no _ len each
    refine ⟨l, ⟨hr, fun hpos => ?_⟩, ?_, by omega⟩
    · obtain ⟨b, off, sp⟩ := ad
      have hc0 := (hp 0 (by omega)).1 0 (by omega)
      rw [Nat.zero_mul] at hc0
      obtain rfl := addr_none hc0
      have hadd : ∀ j, (⟨b, off, none⟩ : Addr).add j = ⟨b, off + j, none⟩ := fun j => by simp [Addr.add]
      rw [hadd] at hc0
      refine ⟨b, off, rfl, World.block_lt_of_cell? W ⟨b, off + 0, none⟩ hc0, fun i hil j hj => ?_⟩
      have h0 := (hp i hil).1 j hj
      rw [hadd] at h0
      rw [Nat.add_assoc]
      exact h0
    · intro v hv
      obtain ⟨j, hj, rfl⟩ := List.mem_iff_getElem.1 hv
      have := (hp j (by omega)).2
      simpa [List.getD, hj] using this
end Go.Proofs.Ytngkjmghhoemgaa

namespace Go.Proofs.Ytngkjmghhoemgaa
open Go.ChangeShapes Go.WideShapes Go.ChangeAt Go.RowKit

set_option maxRecDepth 100000 in
theorem cells_int1 : Try.prog.cellsOf 3 = 1 := by kernel_rfl
set_option maxRecDepth 100000 in
theorem cells_type1 : Try.prog.cellsOf 57 = 1 := by kernel_rfl
set_option maxRecDepth 100000 in
theorem cells_node : Try.prog.cellsOf 52 = 7 := by kernel_rfl
set_option maxRecDepth 100000 in
theorem cells_instr : Try.prog.cellsOf 39 = 2 := by kernel_rfl
set_option maxRecDepth 100000 in
theorem cells_func : Try.prog.cellsOf 28 = 11 := by kernel_rfl

theorem trod_struct7 {H : Type} {enc : TypeId × Value → H} {P : Program} {w : World} {base : Nat} {spare : TypeId → Bool} {held : Bool} {t : TypeId} {f0 f1 f2 f3 f4 f5 f6 : Field} {fuel : Nat} {cs : List Value} {x : DataW H × List MemPlace} (ht : P.underlying t = some (.struct #[f0, f1, f2, f3, f4, f5, f6])) (h : DataW.trod enc P w base spare held fuel t cs = some x) :
    ∃ y0 y1 y2 y3 y4 y5 y6 n, DataW.trod enc P w base spare held n f0.type ((cs.drop f0.offset).take (P.cellsOf f0.type)) = some y0 ∧ DataW.trod enc P w base spare held n f1.type ((cs.drop f1.offset).take (P.cellsOf f1.type)) = some y1 ∧ DataW.trod enc P w base spare held n f2.type ((cs.drop f2.offset).take (P.cellsOf f2.type)) = some y2 ∧ DataW.trod enc P w base spare held n f3.type ((cs.drop f3.offset).take (P.cellsOf f3.type)) = some y3 ∧ DataW.trod enc P w base spare held n f4.type ((cs.drop f4.offset).take (P.cellsOf f4.type)) = some y4 ∧ DataW.trod enc P w base spare held n f5.type ((cs.drop f5.offset).take (P.cellsOf f5.type)) = some y5 ∧ DataW.trod enc P w base spare held n f6.type ((cs.drop f6.offset).take (P.cellsOf f6.type)) = some y6 := by
  obtain ⟨xs, n, _, rfl, hl, hlen, hf⟩ := DataW.trod_struct ht h
  match xs, hlen with
  | [y0, y1, y2, y3, y4, y5, y6], _ => exact ⟨y0, y1, y2, y3, y4, y5, y6, n, by simpa using hf 0 f0 rfl, by simpa using hf 1 f1 rfl, by simpa using hf 2 f2 rfl, by simpa using hf 3 f3 rfl, by simpa using hf 4 f4 rfl, by simpa using hf 5 f5 rfl, by simpa using hf 6 f6 rfl⟩

set_option maxRecDepth 100000 in
/-- Nodes that came in. -/
theorem nodes_of {H : Type} {enc : TypeId × Value → H} {W : World} {fuel : Nat} {a : Option Addr} {len cap : Nat} {x : DataW H × List MemPlace}
    (h : DataW.trod enc Try.prog W 0 (fun _ => true) true fuel 25 [.slice a len cap] = some x) :
    ∃ l, NodesAt W W.heap.size a len l ∧ (∀ nd ∈ l, nd.wf) ∧ len ≤ 9223372036854775807 := by
  rcases Go.Deep.open_slice Try.underlying25 h with ⟨hcs, _⟩ | ⟨ad, ln, cp, m, n, D, Pl, hcs, _, hl, hm, hmm, _, hi⟩
  · simp at hcs
    obtain ⟨rfl, rfl, rfl⟩ := hcs
    exact ⟨[], ⟨rfl, fun h => absurd h (by omega)⟩, (fun v hv => by cases hv), by omega⟩
  · simp at hcs
    obtain ⟨rfl, rfl, rfl⟩ := hcs
    simp only [if_true] at hmm
    subst hmm
    unfold maxLen at hm
    have each : ∀ i, i < len → ∃ p : Tr.Nd, (∀ j, j < 7 → W.cell? (ad.add (i * 7 + j)) = some (.int .i64 (p.list.getD j 0))) ∧ p.wf := by
      intro i hil
      obtain ⟨cs', h1, h2⟩ := hi i (by omega)
      rw [cells_node] at h1
      obtain ⟨_, hlen, hcell⟩ := World.cells?_some h1
      obtain ⟨y0, y1, y2, y3, y4, y5, y6, k, t0, t1, t2, t3, t4, t5, t6⟩ := trod_struct7 Try.underlying52 h2
      rw [cells_int1] at t0 t1 t2 t3 t4 t5 t6
      match cs', hlen with
      | [v0, v1, v2, v3, v4, v5, v6], _ =>
        obtain ⟨p0, e0, _, b0⟩ := DataW.trod_int Try.underlying3 t0
        obtain ⟨p1, e1, _, b1⟩ := DataW.trod_int Try.underlying3 t1
        obtain ⟨p2, e2, _, b2⟩ := DataW.trod_int Try.underlying3 t2
        obtain ⟨p3, e3, _, b3⟩ := DataW.trod_int Try.underlying3 t3
        obtain ⟨p4, e4, _, b4⟩ := DataW.trod_int Try.underlying3 t4
        obtain ⟨p5, e5, _, b5⟩ := DataW.trod_int Try.underlying3 t5
        obtain ⟨p6, e6, _, b6⟩ := DataW.trod_int Try.underlying3 t6
        have g0 := hcell 0 (by omega)
        have g1 := hcell 1 (by omega)
        have g2 := hcell 2 (by omega)
        have g3 := hcell 3 (by omega)
        have g4 := hcell 4 (by omega)
        have g5 := hcell 5 (by omega)
        have g6 := hcell 6 (by omega)
        rw [Go.Deep.add_add] at g0 g1 g2 g3 g4 g5 g6
        simp at e0 e1 e2 e3 e4 e5 e6 g0 g1 g2 g3 g4 g5 g6
        refine ⟨⟨p0, p1, p2, p3, p4, p5, p6⟩, fun j hj => ?_, fun z hz => ?_⟩
        · rcases (show j = 0 ∨ j = 1 ∨ j = 2 ∨ j = 3 ∨ j = 4 ∨ j = 5 ∨ j = 6 by omega) with rfl | rfl | rfl | rfl | rfl | rfl | rfl
          · exact g0.trans (congrArg some e0)
          · exact g1.trans (congrArg some e1)
          · exact g2.trans (congrArg some e2)
          · exact g3.trans (congrArg some e3)
          · exact g4.trans (congrArg some e4)
          · exact g5.trans (congrArg some e5)
          · exact g6.trans (congrArg some e6)
        · simp [Tr.Nd.list] at hz
          rcases hz with rfl | rfl | rfl | rfl | rfl | rfl | rfl
          · exact bounds_i64 b0
          · exact bounds_i64 b1
          · exact bounds_i64 b2
          · exact bounds_i64 b3
          · exact bounds_i64 b4
          · exact bounds_i64 b5
          · exact bounds_i64 b6
    obtain ⟨l, hr, hp⟩ := choose_list Tr.Nd.nil _ len each
    refine ⟨l, ⟨hr, fun hpos => ?_⟩, ?_, by omega⟩
    · obtain ⟨b, off, sp⟩ := ad
      have hc0 := (hp 0 (by omega)).1 0 (by omega)
      rw [Nat.zero_mul] at hc0
      obtain rfl := addr_none hc0
      have hadd : ∀ j, (⟨b, off, none⟩ : Addr).add j = ⟨b, off + j, none⟩ := fun j => by simp [Addr.add]
      rw [hadd] at hc0
      refine ⟨b, off, rfl, World.block_lt_of_cell? W ⟨b, off + 0, none⟩ hc0, fun i hil j hj => ?_⟩
      have h0 := (hp i hil).1 j hj
      rw [hadd] at h0
      rw [Nat.add_assoc]
      exact h0
    · intro v hv
      obtain ⟨j, hj, rfl⟩ := List.mem_iff_getElem.1 hv
      have := (hp j (by omega)).2
      simpa [List.getD, hj] using this

set_option maxRecDepth 100000 in
/-- Numbers that came in. -/
theorem numbers_of {H : Type} {enc : TypeId × Value → H} {W : World} {fuel : Nat} {a : Option Addr} {len cap : Nat} {x : DataW H × List MemPlace} {t e : TypeId} (ht : Try.prog.underlying t = some (.slice e)) (he : Try.prog.underlying e = some (.int .i64)) (hc : Try.prog.cellsOf e = 1)
    (h : DataW.trod enc Try.prog W 0 (fun _ => true) true fuel t [.slice a len cap] = some x) :
    ∃ l, IntsAt W W.heap.size a len l ∧ (∀ z ∈ l, -9223372036854775808 ≤ z ∧ z ≤ 9223372036854775807) ∧ len ≤ 9223372036854775807 := by
  rcases Go.Deep.open_slice ht h with ⟨hcs, _⟩ | ⟨ad, ln, cp, m, n, D, Pl, hcs, _, hl, hm, hmm, _, hi⟩
  · simp at hcs
    obtain ⟨rfl, rfl, rfl⟩ := hcs
    exact ⟨[], ⟨rfl, fun h => absurd h (by omega)⟩, (fun z hz => by cases hz), by omega⟩
  · simp at hcs
    obtain ⟨rfl, rfl, rfl⟩ := hcs
    simp only [if_true] at hmm
    subst hmm
    unfold maxLen at hm
    have each : ∀ i, i < len → ∃ p : Int, W.cell? (ad.add i) = some (.int .i64 p) ∧ -9223372036854775808 ≤ p ∧ p ≤ 9223372036854775807 := by
      intro i hil
      obtain ⟨cs', h1, h2⟩ := hi i (by omega)
      rw [hc] at h1
      obtain ⟨_, hlen, hcell⟩ := World.cells?_some h1
      obtain ⟨p, e, _, b⟩ := DataW.trod_int he h2
      subst e
      have g0 := hcell 0 (by omega)
      rw [Go.Deep.add_add] at g0
      simp at g0
      exact ⟨p, g0, bounds_i64 b⟩
    obtain ⟨l, hr, hp⟩ := choose_list (0 : Int) _ len each
    refine ⟨l, ⟨hr, fun hpos => ?_⟩, fun z hz => ?_, (by omega)⟩
    · obtain ⟨b, off, sp⟩ := ad
      have hc0 := (hp 0 (by omega)).1
      obtain rfl := addr_none hc0
      have hadd : ∀ j, (⟨b, off, none⟩ : Addr).add j = ⟨b, off + j, none⟩ := fun j => by simp [Addr.add]
      rw [hadd] at hc0
      refine ⟨b, off, rfl, World.block_lt_of_cell? W ⟨b, off + 0, none⟩ hc0, fun i hil => ?_⟩
      have := (hp i hil).1
      rw [hadd] at this
      exact this
    · obtain ⟨i, hi', rfl⟩ := List.getElem_of_mem hz
      have := (hp i (by omega)).2
      rwa [show l.getD i 0 = l[i] by simp [List.getD, hi']] at this
set_option maxRecDepth 100000 in
/-- Pairs that came in. -/
theorem pairs_of {H : Type} {enc : TypeId × Value → H} {W : World} {fuel : Nat} {a : Option Addr} {len cap : Nat} {x : DataW H × List MemPlace}
    (h : DataW.trod enc Try.prog W 0 (fun _ => true) true fuel 23 [.slice a len cap] = some x) :
    ∃ l, PairsAt W W.heap.size a len l ∧ (∀ p ∈ l, Fn.I64 p.1 ∧ Fn.I64 p.2) ∧ len ≤ 9223372036854775807 := by
  rcases Go.Deep.open_slice Try.underlying23 h with ⟨hcs, _⟩ | ⟨ad, ln, cp, m, n, D, Pl, hcs, _, hl, hm, hmm, _, hi⟩
  · simp at hcs
    obtain ⟨rfl, rfl, rfl⟩ := hcs
    exact ⟨[], ⟨rfl, fun h => absurd h (by omega)⟩, (fun z hz => by cases hz), by omega⟩
  · simp at hcs
    obtain ⟨rfl, rfl, rfl⟩ := hcs
    simp only [if_true] at hmm
    subst hmm
    unfold maxLen at hm
    have each : ∀ i, i < len → ∃ p : Int × Int, (W.cell? (ad.add (i * 2)) = some (.int .i64 p.1) ∧ W.cell? (ad.add (i * 2 + 1)) = some (.int .i64 p.2)) ∧ Fn.I64 p.1 ∧ Fn.I64 p.2 := by
      intro i hil
      obtain ⟨cs', h1, h2⟩ := hi i (by omega)
      rw [cells_instr] at h1
      obtain ⟨_, hlen, hcell⟩ := World.cells?_some h1
      obtain ⟨xs, k, _, _, _, hxl, hf⟩ := DataW.trod_struct Try.underlying39 h2
      match xs, hxl with
      | [y0, y1], _ =>
      have t0 := hf 0 _ rfl
      have t1 := hf 1 _ rfl
      match cs', hlen with
      | [v0, v1], _ =>
        obtain ⟨p0, e0, _, b0⟩ := DataW.trod_int Try.underlying37 (by simpa using t0)
        obtain ⟨p1, e1, _, b1⟩ := DataW.trod_int Try.underlying3 (by simpa using t1)
        have c0 : Try.prog.cellsOf 37 = 1 := by kernel_rfl
        rw [c0] at e0
        rw [cells_int1] at e1
        have g0 := hcell 0 (by omega)
        have g1 := hcell 1 (by omega)
        rw [Go.Deep.add_add] at g0 g1
        simp at e0 e1 g0 g1
        subst e0 e1
        exact ⟨(p0, p1), ⟨g0, g1⟩, bounds_i64 b0, bounds_i64 b1⟩
    obtain ⟨l, hr, hp⟩ := choose_list ((0, 0) : Int × Int) _ len each
    refine ⟨l, ⟨hr, fun hpos => ?_⟩, fun z hz => ?_, (by omega)⟩
    · obtain ⟨b, off, sp⟩ := ad
      have hc0 := (hp 0 (by omega)).1.1
      rw [Nat.zero_mul] at hc0
      obtain rfl := addr_none hc0
      have hadd : ∀ j, (⟨b, off, none⟩ : Addr).add j = ⟨b, off + j, none⟩ := fun j => by simp [Addr.add]
      rw [hadd] at hc0
      refine ⟨b, off, rfl, World.block_lt_of_cell? W ⟨b, off + 0, none⟩ hc0, fun i hil => ?_⟩
      have := (hp i hil).1
      rw [hadd, hadd, ← Nat.add_assoc] at this
      exact this
    · obtain ⟨i, hi', rfl⟩ := List.getElem_of_mem hz
      have := (hp i (by omega)).2
      rwa [show l.getD i (0, 0) = l[i] by simp [List.getD, hi']] at this
set_option maxRecDepth 100000 in
/-- A slice, by its parts. -/
theorem slice_of {H : Type} {enc : TypeId × Value → H} {W : World} {fuel : Nat} {v : Value} {x : DataW H × List MemPlace} {t e : TypeId} (ht : Try.prog.underlying t = some (.slice e))
    (h : DataW.trod enc Try.prog W 0 (fun _ => true) true fuel t [v] = some x) : ∃ s : Sl3, v = s.val ∧ s.nilOk := by
  rcases Go.Deep.open_slice ht h with ⟨hcs, _⟩ | ⟨ad, ln, cp, m, n, D, Pl, hcs, _⟩
  · simp at hcs
    exact ⟨⟨none, 0, 0⟩, hcs, fun _ => rfl⟩
  · simp at hcs
    exact ⟨⟨some ad, ln, cp⟩, hcs, fun e => by cases e⟩

set_option maxRecDepth 100000 in
set_option maxHeartbeats 2000000 in
/-- A function that came in, as cells. -/
theorem func_cells {H : Type} {enc : TypeId × Value → H} {W : World} {fuel : Nat} {cl : List Value} {x : DataW H × List MemPlace} (hsz : cl.length = 11)
    (hf : DataW.trod enc Try.prog W 0 (fun _ => true) true fuel 28 cl = some x) : ∃ (u : FnV) (f : Fn.F), cl = u.cells.toList ∧ FnOk W W.heap.size u f ∧ u.Len ∧ f.Wf := by
  obtain ⟨xs, n, _, _, _, hxl, hi⟩ := DataW.trod_struct Try.underlying28 hf
  match cl, hsz with
  | [v0, v1, v2, v3, v4, v5, v6, v7, v8, v9, v10], _ =>
  match xs, hxl with
  | [y0, y1, y2, y3, y4, y5, y6, y7, y8, y9, y10], _ =>
  have k0 : Try.prog.cellsOf 9 = 1 := by kernel_rfl
  have k1 : Try.prog.cellsOf 4 = 1 := by kernel_rfl
  have k2 : Try.prog.cellsOf 22 = 1 := by kernel_rfl
  have k6 : Try.prog.cellsOf 23 = 1 := by kernel_rfl
  have k7 : Try.prog.cellsOf 24 = 1 := by kernel_rfl
  have k8 : Try.prog.cellsOf 25 = 1 := by kernel_rfl
  have k10 : Try.prog.cellsOf 26 = 1 := by kernel_rfl
  have t0 : DataW.trod enc Try.prog W 0 (fun _ => true) true n 9 [v0] = some y0 := by
    have h : DataW.trod enc Try.prog W 0 (fun _ => true) true n 9 (([v0, v1, v2, v3, v4, v5, v6, v7, v8, v9, v10].drop 0).take (Try.prog.cellsOf 9)) = some y0 := hi 0 _ rfl
    rw [k0] at h
    simpa using h
  have t1 : DataW.trod enc Try.prog W 0 (fun _ => true) true n 4 [v1] = some y1 := by
    have h : DataW.trod enc Try.prog W 0 (fun _ => true) true n 4 (([v0, v1, v2, v3, v4, v5, v6, v7, v8, v9, v10].drop 1).take (Try.prog.cellsOf 4)) = some y1 := hi 1 _ rfl
    rw [k1] at h
    simpa using h
  have t2 : DataW.trod enc Try.prog W 0 (fun _ => true) true n 22 [v2] = some y2 := by
    have h : DataW.trod enc Try.prog W 0 (fun _ => true) true n 22 (([v0, v1, v2, v3, v4, v5, v6, v7, v8, v9, v10].drop 2).take (Try.prog.cellsOf 22)) = some y2 := hi 2 _ rfl
    rw [k2] at h
    simpa using h
  have t3 : DataW.trod enc Try.prog W 0 (fun _ => true) true n 22 [v3] = some y3 := by
    have h : DataW.trod enc Try.prog W 0 (fun _ => true) true n 22 (([v0, v1, v2, v3, v4, v5, v6, v7, v8, v9, v10].drop 3).take (Try.prog.cellsOf 22)) = some y3 := hi 3 _ rfl
    rw [k2] at h
    simpa using h
  have t4 : DataW.trod enc Try.prog W 0 (fun _ => true) true n 22 [v4] = some y4 := by
    have h : DataW.trod enc Try.prog W 0 (fun _ => true) true n 22 (([v0, v1, v2, v3, v4, v5, v6, v7, v8, v9, v10].drop 4).take (Try.prog.cellsOf 22)) = some y4 := hi 4 _ rfl
    rw [k2] at h
    simpa using h
  have t5 : DataW.trod enc Try.prog W 0 (fun _ => true) true n 22 [v5] = some y5 := by
    have h : DataW.trod enc Try.prog W 0 (fun _ => true) true n 22 (([v0, v1, v2, v3, v4, v5, v6, v7, v8, v9, v10].drop 5).take (Try.prog.cellsOf 22)) = some y5 := hi 5 _ rfl
    rw [k2] at h
    simpa using h
  have t6 : DataW.trod enc Try.prog W 0 (fun _ => true) true n 23 [v6] = some y6 := by
    have h : DataW.trod enc Try.prog W 0 (fun _ => true) true n 23 (([v0, v1, v2, v3, v4, v5, v6, v7, v8, v9, v10].drop 6).take (Try.prog.cellsOf 23)) = some y6 := hi 6 _ rfl
    rw [k6] at h
    simpa using h
  have t7 : DataW.trod enc Try.prog W 0 (fun _ => true) true n 24 [v7] = some y7 := by
    have h : DataW.trod enc Try.prog W 0 (fun _ => true) true n 24 (([v0, v1, v2, v3, v4, v5, v6, v7, v8, v9, v10].drop 7).take (Try.prog.cellsOf 24)) = some y7 := hi 7 _ rfl
    rw [k7] at h
    simpa using h
  have t8 : DataW.trod enc Try.prog W 0 (fun _ => true) true n 25 [v8] = some y8 := by
    have h : DataW.trod enc Try.prog W 0 (fun _ => true) true n 25 (([v0, v1, v2, v3, v4, v5, v6, v7, v8, v9, v10].drop 8).take (Try.prog.cellsOf 25)) = some y8 := hi 8 _ rfl
    rw [k8] at h
    simpa using h
  have t9 : DataW.trod enc Try.prog W 0 (fun _ => true) true n 24 [v9] = some y9 := by
    have h : DataW.trod enc Try.prog W 0 (fun _ => true) true n 24 (([v0, v1, v2, v3, v4, v5, v6, v7, v8, v9, v10].drop 9).take (Try.prog.cellsOf 24)) = some y9 := hi 9 _ rfl
    rw [k7] at h
    simpa using h
  have t10 : DataW.trod enc Try.prog W 0 (fun _ => true) true n 26 [v10] = some y10 := by
    have h : DataW.trod enc Try.prog W 0 (fun _ => true) true n 26 (([v0, v1, v2, v3, v4, v5, v6, v7, v8, v9, v10].drop 10).take (Try.prog.cellsOf 26)) = some y10 := hi 10 _ rfl
    rw [k10] at h
    simpa using h
  clear hi hf
  obtain ⟨nm, e0, _, z0⟩ := DataW.trod_string Try.underlying9 t0
  obtain ⟨inn, e1, _⟩ := DataW.trod_bool Try.underlying4 t1
  obtain rfl : v0 = .string nm := by simpa using e0
  obtain rfl : v1 = .bool inn := by simpa using e1
  obtain ⟨s2, rfl, n2⟩ := slice_of Try.underlying22 t2
  obtain ⟨s3, rfl, n3⟩ := slice_of Try.underlying22 t3
  obtain ⟨s4, rfl, n4⟩ := slice_of Try.underlying22 t4
  obtain ⟨s5, rfl, n5⟩ := slice_of Try.underlying22 t5
  obtain ⟨s6, rfl, n6⟩ := slice_of Try.underlying23 t6
  obtain ⟨s7, rfl, n7⟩ := slice_of Try.underlying24 t7
  obtain ⟨s8, rfl, n8⟩ := slice_of Try.underlying25 t8
  obtain ⟨s9, rfl, n9⟩ := slice_of Try.underlying24 t9
  obtain ⟨s10, rfl, n10⟩ := slice_of Try.underlying26 t10
  obtain ⟨l2, h2, b2, m2⟩ := numbers_of Try.underlying22 Try.underlying57 cells_type1 t2
  obtain ⟨l3, h3, b3, m3⟩ := numbers_of Try.underlying22 Try.underlying57 cells_type1 t3
  obtain ⟨l4, h4, b4, m4⟩ := numbers_of Try.underlying22 Try.underlying57 cells_type1 t4
  obtain ⟨l5, h5, b5, m5⟩ := numbers_of Try.underlying22 Try.underlying57 cells_type1 t5
  obtain ⟨l6, h6, b6, m6⟩ := pairs_of t6
  obtain ⟨l7, h7, b7, m7⟩ := numbers_of Try.underlying24 Try.underlying3 cells_int1 t7
  obtain ⟨l9, h9, b9, m9⟩ := numbers_of Try.underlying24 Try.underlying3 cells_int1 t9
  obtain ⟨l8, h8, b8, m8⟩ := nodes_of t8
  obtain ⟨l10, h10, b10, m10⟩ := sets_of t10
  exact ⟨⟨nm, inn, s2, s3, s4, s5, s6, s7, s8, s9, s10⟩, ⟨nm, inn, l2, l3, l4, l5, l6, l7, l8, l9, l10⟩, rfl, ⟨rfl, rfl, ⟨h2, n2⟩, ⟨h3, n3⟩, ⟨h4, n4⟩, ⟨h5, n5⟩, ⟨h6, n6⟩, ⟨h7, n7⟩, ⟨h8, n8⟩, ⟨h9, n9⟩, ⟨h10, n10⟩⟩, ⟨z0, m2, m3, m4, m5, m6, m7, m8, m9, m10⟩, ⟨b6, b7, b8, b9, b10⟩⟩
set_option maxRecDepth 100000 in
/-- A function that came in. -/
theorem func_of {H : Type} {enc : TypeId × Value → H} {W : World} {base : Nat} {v : Value} {d : DataW H} {p : List MemPlace} (hv : Value.okWide Try.prog W .any base 28 v)
    (h : DataW.Trod enc Try.prog W 0 (fun _ => true) true 28 v d p) : ∃ (u : FnV) (f : Fn.F), v = .agg u.cells ∧ FnOk W W.heap.size u f ∧ u.Len ∧ f.Wf := by
  obtain ⟨cs, rfl, hsz, _⟩ : ∃ cs, v = .agg cs ∧ cs.size = Try.prog.cellsOf 28 ∧ Row.okWide Try.prog W .any base 28 cs := by
    simpa [Value.okWide, Try.underlying28] using hv
  rw [cells_func] at hsz
  obtain ⟨fuel, hf⟩ := h
  obtain ⟨u, f, e, h1, h2, h3⟩ := func_cells (cl := cs.toList) (by simpa using hsz) hf
  obtain ⟨cl⟩ := cs
  exact ⟨u, f, by simp only at e; rw [e], h1, h2, h3⟩
end Go.Proofs.Ytngkjmghhoemgaa
