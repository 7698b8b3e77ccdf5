/-
  From the readings to the walks: nodes that came in; the table of powers of ten as the program's text lays it. Conditions: none.
-/
import Derived.Test.YtpfcfmpfommfaaaDoorRows
import Derived.Test.YtpfcfmpfommfaaaDoorItoa
import Derived.Test.YtpfcfmpfommfaaaDoorTrAt
import Derived.ProofKit
import Derived.LaidMore
import Derived.OpenShut
import Derived.ShutString
import Derived.Stop.Joined
import Derived.Stop.LaidErr
import Derived.Lib.LaidTab
import Derived.SizedLaws
import Derived.ChangeOld
import Derived.Deep.SlicePairs
import Derived.Deep.Strs
namespace Go.Proofs.YtpfcfmpfommfaaaDoor
open Go.ChangeShapes Go.WideShapes Go.ChangeAt Go.RowKit

set_option maxRecDepth 100000 in
theorem own : ownKnob Tryd.prog.godebug = none := by kernel_rfl
set_option maxRecDepth 100000 in
theorem laidOut : laidOutB Tryd.prog = true := by kernel_rfl

abbrev laidL {H : Type} : List (String × DataW H) := [("math/bits.deBruijn32tab", Rows.laid_math_bits_deBruijn32tab), ("math/bits.deBruijn64tab", Rows.laid_math_bits_deBruijn64tab), ("internal/strconv.uint64pow10", Rows.laid_internal_strconv_uint64pow10)]

set_option maxRecDepth 100000 in
/-- The door's own heap meets the condition. -/
theorem door_met (os : Os) (args : Array Value) : laidMetH Tryd.prog laidL ((World.doorLaid Tryd.prog 400 os).forCall (fun _ _ => 0) ⟨#[], args, []⟩).memory :=
  laidMetH_of_parts3 (fuel := 8) (laidMet_of_run' 8 (by kernel_rfl) (by kernel_rfl)) (by kernel_rfl) (by kernel_rfl)

theorem pow_data : (Rows.laid_internal_strconv_uint64pow10 : DataW Unit) = Lib.tabData .u64 Lib.pow10Tab := by kernel_rfl

set_option maxRecDepth 100000 in
/-- What the condition gives the walks: the table of powers of ten. -/
theorem pow_of_laid {W : World} (h : laidMetH Tryd.prog laidL W) : Pow W := by
  rw [MakeChecks.laidMetH_plain _ _ _ (by kernel_rfl)] at h
  have h3 := h.tail.tail
  rw [pow_data] at h3
  exact Lib.tabIs_of_head (g := 1) (t := 133) (e := 33) (n := 20) (by kernel_rfl) (by kernel_rfl) Tryd.underlying133 Tryd.underlying33 (by kernel_rfl) (by kernel_rfl) h3

set_option maxRecDepth 100000 in
theorem cells_int1 : Tryd.prog.cellsOf 3 = 1 := by kernel_rfl
set_option maxRecDepth 100000 in
theorem cells_node : Tryd.prog.cellsOf 53 = 7 := by kernel_rfl

theorem choose_list {α : Type} (d : α) (P : Nat → α → Prop) : ∀ n, (∀ i, i < n → ∃ x, P i x) → ∃ l : List α, l.length = n ∧ ∀ i, i < n → P i (l.getD i d)
  | 0, _ => ⟨[], rfl, fun i hi => by omega⟩
  | n + 1, h => by
    obtain ⟨l, hl, hp⟩ := choose_list d P n (fun i hi => h i (by omega))
    obtain ⟨x, hx⟩ := h n (by omega)
    refine ⟨l ++ [x], by simp [hl], fun i hi => ?_⟩
    by_cases hin : i < n
    · have e : (l ++ [x]).getD i d = l.getD i d := by
        have hil : i < l.length := by omega
        simp [List.getD, List.getElem?_append_left hil]
      rw [e]
      exact hp i hin
    · obtain rfl : i = n := by omega
      have e : (l ++ [x]).getD i d = x := by
        subst hl
        simp [List.getD]
      rw [e]
      exact hx

theorem addr_none {W : World} {b off : Nat} {sp : Option Nat} {v : Value} (h : W.cell? ((⟨b, off, sp⟩ : Addr).add 0) = some v) : sp = none := by
  cases sp with
  | none => rfl
  | some k => simp [World.cell?, Addr.add] at h; split at h <;> simp at h

theorem trod_struct7 {H : Type} {enc : TypeId × Value → H} {P : Program} {w : World} {base : Nat} {spare : TypeId → Bool} {held : Bool} {t : TypeId} {f0 f1 f2 f3 f4 f5 f6 : Field} {fuel : Nat} {cs : List Value} {x : DataW H × List MemPlace} (ht : P.underlying t = some (.struct #[f0, f1, f2, f3, f4, f5, f6])) (h : DataW.trod enc P w base spare held fuel t cs = some x) :
    ∃ y0 y1 y2 y3 y4 y5 y6 n, DataW.trod enc P w base spare held n f0.type ((cs.drop f0.offset).take (P.cellsOf f0.type)) = some y0 ∧ DataW.trod enc P w base spare held n f1.type ((cs.drop f1.offset).take (P.cellsOf f1.type)) = some y1 ∧ DataW.trod enc P w base spare held n f2.type ((cs.drop f2.offset).take (P.cellsOf f2.type)) = some y2 ∧ DataW.trod enc P w base spare held n f3.type ((cs.drop f3.offset).take (P.cellsOf f3.type)) = some y3 ∧ DataW.trod enc P w base spare held n f4.type ((cs.drop f4.offset).take (P.cellsOf f4.type)) = some y4 ∧ DataW.trod enc P w base spare held n f5.type ((cs.drop f5.offset).take (P.cellsOf f5.type)) = some y5 ∧ DataW.trod enc P w base spare held n f6.type ((cs.drop f6.offset).take (P.cellsOf f6.type)) = some y6 := by
  obtain ⟨xs, n, _, rfl, hl, hlen, hf⟩ := DataW.trod_struct ht h
  match xs, hlen with
  | [y0, y1, y2, y3, y4, y5, y6], _ => exact ⟨y0, y1, y2, y3, y4, y5, y6, n, by simpa using hf 0 f0 rfl, by simpa using hf 1 f1 rfl, by simpa using hf 2 f2 rfl, by simpa using hf 3 f3 rfl, by simpa using hf 4 f4 rfl, by simpa using hf 5 f5 rfl, by simpa using hf 6 f6 rfl⟩

set_option maxRecDepth 100000 in
/-- Nodes that came in. -/
theorem nodes_of {H : Type} {enc : TypeId × Value → H} {W : World} {fuel : Nat} {a : Option Addr} {len cap : Nat} {x : DataW H × List MemPlace}
    (h : DataW.trod enc Tryd.prog W 0 (fun _ => true) true fuel 22 [.slice a len cap] = some x) :
    ∃ l, NodesAt W W.heap.size a len l ∧ (∀ nd ∈ l, nd.wf) ∧ len ≤ 9223372036854775807 := by
  rcases Go.Deep.open_slice Tryd.underlying22 h with ⟨hcs, _⟩ | ⟨ad, ln, cp, m, n, D, Pl, hcs, _, hl, hm, hmm, _, hi⟩
  · simp at hcs
    obtain ⟨rfl, rfl, rfl⟩ := hcs
    exact ⟨[], ⟨rfl, fun h => absurd h (by omega)⟩, (fun v hv => by cases hv), by omega⟩
  · simp at hcs
    obtain ⟨rfl, rfl, rfl⟩ := hcs
    simp only [if_true] at hmm
    subst hmm
    unfold maxLen at hm
    have each : ∀ i, i < len → ∃ p : Tr.Nd, (∀ j, j < 7 → W.cell? (ad.add (i * 7 + j)) = some (.int .i64 (p.list.getD j 0))) ∧ p.wf := by
      intro i hil
      obtain ⟨cs', h1, h2⟩ := hi i (by omega)
      rw [cells_node] at h1
      obtain ⟨_, hlen, hcell⟩ := World.cells?_some h1
      obtain ⟨y0, y1, y2, y3, y4, y5, y6, k, t0, t1, t2, t3, t4, t5, t6⟩ := trod_struct7 Tryd.underlying53 h2
      rw [cells_int1] at t0 t1 t2 t3 t4 t5 t6
      match cs', hlen with
      | [v0, v1, v2, v3, v4, v5, v6], _ =>
        obtain ⟨p0, e0, _, b0⟩ := DataW.trod_int Tryd.underlying3 t0
        obtain ⟨p1, e1, _, b1⟩ := DataW.trod_int Tryd.underlying3 t1
        obtain ⟨p2, e2, _, b2⟩ := DataW.trod_int Tryd.underlying3 t2
        obtain ⟨p3, e3, _, b3⟩ := DataW.trod_int Tryd.underlying3 t3
        obtain ⟨p4, e4, _, b4⟩ := DataW.trod_int Tryd.underlying3 t4
        obtain ⟨p5, e5, _, b5⟩ := DataW.trod_int Tryd.underlying3 t5
        obtain ⟨p6, e6, _, b6⟩ := DataW.trod_int Tryd.underlying3 t6
        have g0 := hcell 0 (by omega)
        have g1 := hcell 1 (by omega)
        have g2 := hcell 2 (by omega)
        have g3 := hcell 3 (by omega)
        have g4 := hcell 4 (by omega)
        have g5 := hcell 5 (by omega)
        have g6 := hcell 6 (by omega)
        rw [Go.Deep.add_add] at g0 g1 g2 g3 g4 g5 g6
        simp at e0 e1 e2 e3 e4 e5 e6 g0 g1 g2 g3 g4 g5 g6
        refine ⟨⟨p0, p1, p2, p3, p4, p5, p6⟩, fun j hj => ?_, fun z hz => ?_⟩
        · rcases (show j = 0 ∨ j = 1 ∨ j = 2 ∨ j = 3 ∨ j = 4 ∨ j = 5 ∨ j = 6 by omega) with rfl | rfl | rfl | rfl | rfl | rfl | rfl
          · exact g0.trans (congrArg some e0)
          · exact g1.trans (congrArg some e1)
          · exact g2.trans (congrArg some e2)
          · exact g3.trans (congrArg some e3)
          · exact g4.trans (congrArg some e4)
          · exact g5.trans (congrArg some e5)
          · exact g6.trans (congrArg some e6)
        · simp [Tr.Nd.list] at hz
          rcases hz with rfl | rfl | rfl | rfl | rfl | rfl | rfl
          · exact bounds_i64 b0
          · exact bounds_i64 b1
          · exact bounds_i64 b2
          · exact bounds_i64 b3
          · exact bounds_i64 b4
          · exact bounds_i64 b5
          · exact bounds_i64 b6
    obtain ⟨l, hr, hp⟩ := choose_list Tr.Nd.nil _ len each
    refine ⟨l, ⟨hr, fun hpos => ?_⟩, ?_, by omega⟩
    · obtain ⟨b, off, sp⟩ := ad
      have hc0 := (hp 0 (by omega)).1 0 (by omega)
      rw [Nat.zero_mul] at hc0
      obtain rfl := addr_none hc0
      have hadd : ∀ j, (⟨b, off, none⟩ : Addr).add j = ⟨b, off + j, none⟩ := fun j => by simp [Addr.add]
      rw [hadd] at hc0
      refine ⟨b, off, rfl, World.block_lt_of_cell? W ⟨b, off + 0, none⟩ hc0, fun i hil j hj => ?_⟩
      have h0 := (hp i hil).1 j hj
      rw [hadd] at h0
      rw [Nat.add_assoc]
      exact h0
    · intro v hv
      obtain ⟨j, hj, rfl⟩ := List.mem_iff_getElem.1 hv
      have := (hp j (by omega)).2
      simpa [List.getD, hj] using this
end Go.Proofs.YtpfcfmpfommfaaaDoor
