/-
  From the readings to the walks: sets that came in; the table of math/bits as the program's text lays it. Conditions: none.
-/
import Derived.Test.YtifkoihhlhadhaaGreatDoorRows
import Derived.Test.YtifkoihhlhadhaaGreatDoorSlAA
import Derived.Test.YtifkoihhlhadhaaGreatDoorMpMA
import Derived.ProofKit
import Derived.LaidMore
import Derived.OpenShut
import Derived.Stop.Joined
import Derived.SizedLaws
import Derived.ChangeOld
import Derived.Deep.SlicePairs
namespace Go.Proofs.YtifkoihhlhadhaaGreatDoor
open Go.ChangeShapes Go.WideShapes Go.ChangeAt Go.RowKit

set_option maxRecDepth 100000 in
theorem own : ownKnob Tryz.prog.godebug = none := by kernel_rfl
set_option maxRecDepth 100000 in
theorem laidOut : laidOutB Tryz.prog = true := by kernel_rfl
set_option maxRecDepth 100000 in
theorem gTab : Tryz.prog.globalNamed "math/bits.deBruijn64tab" = some 0 := by kernel_rfl
set_option maxRecDepth 100000 in
theorem tTab : (Tryz.prog.globals[0]?).map (·.type) = some 194 := by kernel_rfl
set_option maxRecDepth 100000 in
theorem cells_u8 : Tryz.prog.cellsOf 5 = 1 := by kernel_rfl
set_option maxRecDepth 100000 in
theorem cells_set : Tryz.prog.cellsOf 93 = 4 := by kernel_rfl

abbrev laidL {H : Type} : List (String × DataW H) := [("math/bits.deBruijn64tab", Rows.laid_math_bits_deBruijn64tab)]

theorem tab_data {H : Type} : (Rows.laid_math_bits_deBruijn64tab : DataW H) = .agg (Lib.deBruijn64tab.map fun k : Nat => .lit (.int .u8 (k : Int))) := rfl

set_option maxRecDepth 100000 in
/-- The door's own heap meets the condition. -/
theorem door_met (os : Os) (args : Array Value) : laidMetH Tryz.prog laidL ((World.doorLaid Tryz.prog 400 os).forCall (fun _ _ => 0) ⟨#[], args, []⟩).memory :=
  laidMetH_of_parts3 (fuel := 8) (laidMet_of_run' 8 (by kernel_rfl) (by kernel_rfl)) (by kernel_rfl) (by kernel_rfl)

theorem one_of_take {cs : List Value} {i : Nat} {v : Value} (h : (cs.drop (i * 1)).take 1 = [v]) : cs[i]? = some v := by
  have := congrArg (fun l => l[0]?) h
  simpa using this

set_option maxRecDepth 100000 in
/-- What the condition gives the walks: the table's cells. -/
theorem tab_of_laid {W : World} (h : laidMetH Tryz.prog laidL W) : Tab W := by
  rw [MakeChecks.laidMetH_plain _ _ _ (by kernel_rfl)] at h
  obtain ⟨ps, ⟨g0, t0, cs0, f0, p0, q0, hg0, ht0, hv0, hd0, _⟩, _, _⟩ := h
  obtain rfl := Option.some.inj (gTab.symm.trans hg0)
  obtain rfl := Option.some.inj (tTab.symm.trans ht0)
  obtain ⟨xs, m1, rfl, hx1, hlen, hn, hel⟩ := DataW.trod_array Tryz.underlying194 hd0
  intro j hj
  have h0 := hel j hj
  have hjx : j < xs.length := by omega
  rw [List.getElem?_eq_getElem hjx, cells_u8] at h0
  obtain ⟨k, e1, e2, _⟩ := DataW.trod_int Tryz.underlying5 h0
  have hc := one_of_take e1
  have hcell := World.var?_cell hg0 hv0 j
  rw [hcell, ← Array.getElem?_toList, hc]
  simp only [Prod.mk.injEq] at hx1
  have hx := hx1.1
  rw [tab_data] at hx
  injection hx with hx
  have hi := congrArg (fun l => l[j]?) hx
  simp only [List.getElem?_map, List.getElem?_eq_getElem hjx, Option.map_some, e2] at hi
  have hjt : j < Lib.deBruijn64tab.length := hj
  rw [List.getElem?_eq_getElem hjt, Option.map_some] at hi
  injection hi with hi
  injection hi with hi
  injection hi with _ hi
  rw [← hi]
  simp [List.getD, hjt]

theorem tab_lt {W : World} (h : Tab W) : 0 < W.heap.size := World.block_lt_of_cell? W ⟨0, 0, none⟩ (h 0 (by decide))

theorem choose_list {α : Type} (d : α) (P : Nat → α → Prop) : ∀ n, (∀ i, i < n → ∃ x, P i x) → ∃ l : List α, l.length = n ∧ ∀ i, i < n → P i (l.getD i d)
  | 0, _ => ⟨[], rfl, fun i hi => by omega⟩
  | n + 1, h => by
    obtain ⟨l, hl, hp⟩ := choose_list d P n (fun i hi => h i (by omega))
    obtain ⟨x, hx⟩ := h n (by omega)
    refine ⟨l ++ [x], by simp [hl], fun i hi => ?_⟩
    by_cases hin : i < n
    · have e : (l ++ [x]).getD i d = l.getD i d := by
        have hil : i < l.length := by omega
        simp [List.getD, List.getElem?_append_left hil]
      rw [e]
      exact hp i hin
    · obtain rfl : i = n := by omega
      have e : (l ++ [x]).getD i d = x := by
        subst hl
        simp [List.getD]
      rw [e]
      exact hx

theorem addr_none {W : World} {b off : Nat} {sp : Option Nat} {v : Value} (h : W.cell? ((⟨b, off, sp⟩ : Addr).add 0) = some v) : sp = none := by
  cases sp with
  | none => rfl
  | some k => simp [World.cell?, Addr.add] at h; split at h <;> simp at h

set_option maxRecDepth 100000 in
/-- Sets that came in. -/
theorem sets_of {H : Type} {enc : TypeId × Value → H} {W : World} {fuel : Nat} {a : Option Addr} {len cap : Nat} {x : DataW H × List MemPlace}
    (h : DataW.trod enc Tryz.prog W 0 (fun _ => true) true fuel 26 [.slice a len cap] = some x) :
    ∃ l, SetsAt W W.heap.size a len l ∧ (∀ s ∈ l, s.ok) ∧ len ≤ 9223372036854775807 := by
  rcases Go.Deep.open_slice Tryz.underlying26 h with ⟨hcs, _⟩ | ⟨ad, ln, cp, m, n, D, Pl, hcs, _, hl, hm, hmm, _, hi⟩
  · simp at hcs
    obtain ⟨rfl, rfl, rfl⟩ := hcs
    exact ⟨[], ⟨rfl, fun h => absurd h (by omega)⟩, (fun v hv => by cases hv), by omega⟩
  · simp at hcs
    obtain ⟨rfl, rfl, rfl⟩ := hcs
    simp only [if_true] at hmm
    subst hmm
    unfold maxLen at hm
    have each : ∀ i, i < len → ∃ s : Sl.Four, (∀ j, j < 4 → W.cell? (ad.add (i * 4 + j)) = some (.int .u64 (s.word j : Int))) ∧ s.ok := by
      intro i hil
      obtain ⟨cs', h1, h2⟩ := hi i (by omega)
      rw [cells_set] at h1
      obtain ⟨_, hlen, hcell⟩ := World.cells?_some h1
      obtain ⟨xs, m1, rfl, hx1, hxl, hn, hel⟩ := DataW.trod_array Tryz.underlying93 h2
      have key : ∀ j, j < 4 → ∃ k : Nat, k < 18446744073709551616 ∧ W.cell? (ad.add (i * 4 + j)) = some (.int .u64 (k : Int)) := by
        intro j hj
        have h0 := hel j hj
        have hjx : j < xs.length := by omega
        rw [List.getElem?_eq_getElem hjx, cells_u64] at h0
        obtain ⟨k, e1, e2, wf⟩ := DataW.trod_int Tryz.underlying54 h0
        have hc := one_of_take e1
        obtain ⟨b1, b2⟩ := bounds_u64 wf
        have g := hcell j (by omega)
        rw [Go.Deep.add_add] at g
        refine ⟨k.toNat, by omega, ?_⟩
        rw [Int.toNat_of_nonneg b1]
        exact g.trans (by rw [← hc])
      obtain ⟨a, ha, ea⟩ := key 0 (by omega)
      obtain ⟨b, hb, eb⟩ := key 1 (by omega)
      obtain ⟨c, hc, ec⟩ := key 2 (by omega)
      obtain ⟨d, hd, ed⟩ := key 3 (by omega)
      refine ⟨⟨a, b, c, d⟩, fun j hj => ?_, ⟨ha, hb, hc, hd⟩⟩
      rcases (show j = 0 ∨ j = 1 ∨ j = 2 ∨ j = 3 by omega) with rfl | rfl | rfl | rfl
      · exact ea
      · exact eb
      · exact ec
      · exact ed
    obtain ⟨l, hr, hp⟩ := choose_list Sl.no _ len each
    refine ⟨l, ⟨hr, fun hpos => ?_⟩, ?_, by omega⟩
    · obtain ⟨b, off, sp⟩ := ad
      have hc0 := (hp 0 (by omega)).1 0 (by omega)
      rw [Nat.zero_mul] at hc0
      obtain rfl := addr_none hc0
      have hadd : ∀ j, (⟨b, off, none⟩ : Addr).add j = ⟨b, off + j, none⟩ := fun j => by simp [Addr.add]
      rw [hadd] at hc0
      refine ⟨b, off, rfl, World.block_lt_of_cell? W ⟨b, off + 0, none⟩ hc0, fun i hil j hj => ?_⟩
      have h0 := (hp i hil).1 j hj
      rw [hadd] at h0
      rw [Nat.add_assoc]
      exact h0
    · intro v hv
      obtain ⟨j, hj, rfl⟩ := List.mem_iff_getElem.1 hv
      have := (hp j (by omega)).2
      simpa [List.getD, hj] using this
end Go.Proofs.YtifkoihhlhadhaaGreatDoor
