/-
  From the readings to the walks: two whole numbers in an array by value, a slice of steps. Conditions: none.
-/
import Derived.Test.YtmhdpphogmihlaaRows
import Derived.Test.YtmhdpphogmihlaaPlAt
import Derived.SizedLaws
import Derived.WalkKit
import Derived.ProofKit
import Derived.OpenShut
import Derived.ShutString
import Derived.ChangeOld
import Derived.Below
import Derived.Deep.SlicePairs
import Derived.Deep.Strs
namespace Go.Proofs.Ytmhdpphogmihlaa
open Go.ChangeShapes Go.WideShapes Go.ChangeAt Go.RowKit

theorem cells_int1 : Try.prog.cellsOf 3 = 1 := by kernel_rfl
theorem cells_op1 : Try.prog.cellsOf 25 = 1 := by kernel_rfl
theorem cells_two : Try.prog.cellsOf 33 = 2 := by kernel_rfl
theorem cells_step : Try.prog.cellsOf 27 = 3 := by kernel_rfl

/-- Two numbers that came in, in an array. -/
theorem two_of {H : Type} {enc : TypeId × Value → H} {W : World} {base : Nat} {v : Value} {d : DataW H} {p : List MemPlace} (hv : Value.okWide Try.prog W .any base 33 v)
    (h : DataW.Trod enc Try.prog W 0 (fun _ => true) true 33 v d p) : ∃ x y : Int, v = .agg #[.int .i64 x, .int .i64 y] := by
  obtain ⟨cs, rfl, hsz, _⟩ : ∃ cs, v = .agg cs ∧ cs.size = Try.prog.cellsOf 33 ∧ Row.okWide Try.prog W .any base 33 cs := by
    simpa [Value.okWide, Try.underlying33] using hv
  rw [cells_two] at hsz
  obtain ⟨fuel, hf⟩ := h
  obtain ⟨xs, m, _, _, _, hxl, hi⟩ := DataW.trod_array Try.underlying33 hf
  have t0 := hi 0 (by decide)
  have t1 := hi 1 (by decide)
  rw [cells_int1] at t0 t1
  obtain ⟨y0, e0⟩ : ∃ y, xs[0]? = some y := ⟨xs[0], List.getElem?_eq_getElem (by omega)⟩
  obtain ⟨y1, e1⟩ : ∃ y, xs[1]? = some y := ⟨xs[1], List.getElem?_eq_getElem (by omega)⟩
  rw [e0] at t0
  rw [e1] at t1
  obtain ⟨x, f0, _, _⟩ := DataW.trod_int Try.underlying3 t0
  obtain ⟨y, f1, _, _⟩ := DataW.trod_int Try.underlying3 t1
  refine ⟨x, y, ?_⟩
  congr 1
  have g0 : cs[0]? = some (.int .i64 x) := by
    have := congrArg (fun l => l[0]?) f0
    simpa [Value.cells] using this
  have g1 : cs[1]? = some (.int .i64 y) := by
    have := congrArg (fun l => l[0]?) f1
    simpa [Value.cells] using this
  apply Array.ext_getElem?
  intro i
  by_cases hi : i < 2
  · obtain rfl | rfl : i = 0 ∨ i = 1 := by omega
    · exact g0
    · exact g1
  · rw [Array.getElem?_eq_none (by omega), Array.getElem?_eq_none (by simp; omega)]

theorem choose_list {α : Type} (d : α) (P : Nat → α → Prop) : ∀ n, (∀ i, i < n → ∃ x, P i x) → ∃ l : List α, l.length = n ∧ ∀ i, i < n → P i (l.getD i d)
  | 0, _ => ⟨[], rfl, fun i hi => by omega⟩
  | n + 1, h => by
    obtain ⟨l, hl, hp⟩ := choose_list d P n (fun i hi => h i (by omega))
    obtain ⟨x, hx⟩ := h n (by omega)
    refine ⟨l ++ [x], by simp [hl], fun i hi => ?_⟩
    by_cases hin : i < n
    · have e : (l ++ [x]).getD i d = l.getD i d := by
        have hil : i < l.length := by omega
        simp [List.getD, List.getElem?_append_left hil]
      rw [e]
      exact hp i hin
    · obtain rfl : i = n := by omega
      have e : (l ++ [x]).getD i d = x := by
        subst hl
        simp [List.getD]
      rw [e]
      exact hx

/-- Steps that came in. -/
theorem steps_of {H : Type} {enc : TypeId × Value → H} {W : World} {fuel : Nat} {a : Option Addr} {len cap : Nat} {x : DataW H × List MemPlace}
    (h : DataW.trod enc Try.prog W 0 (fun _ => true) true fuel 22 [.slice a len cap] = some x) :
    ∃ l, StepsAt W W.heap.size a len l ∧ len ≤ 9223372036854775807 := by
  rcases Go.Deep.open_slice Try.underlying22 h with ⟨hcs, _⟩ | ⟨ad, ln, cp, m, n, D, Pl, hcs, _, hl, hm, hmm, _, hi⟩
  · simp at hcs
    obtain ⟨rfl, rfl, rfl⟩ := hcs
    exact ⟨[], ⟨rfl, fun h => absurd h (by omega)⟩, by omega⟩
  · simp at hcs
    obtain ⟨rfl, rfl, rfl⟩ := hcs
    simp only [if_true] at hmm
    subst hmm
    unfold maxLen at hm
    have each : ∀ i, i < len → ∃ p : Int × Int × Int, W.cell? (ad.add (i * 3)) = some (.int .i64 p.1) ∧ W.cell? (ad.add (i * 3 + 1)) = some (.int .i64 p.2.1) ∧ W.cell? (ad.add (i * 3 + 2)) = some (.int .i64 p.2.2) := by
      intro i hil
      obtain ⟨cs', h1, h2⟩ := hi i (by omega)
      rw [cells_step] at h1
      obtain ⟨_, hlen, hcell⟩ := World.cells?_some h1
      obtain ⟨y0, y1, y2, k, _, _, t0, t1, t2⟩ := Go.Deep.trod_struct3 Try.underlying27 h2
      rw [cells_op1] at t0
      rw [cells_int1] at t1 t2
      match cs', hlen with
      | [v0, v1, v2], _ =>
        obtain ⟨p0, e0, _, _⟩ := DataW.trod_int Try.underlying25 t0
        obtain ⟨p1, e1, _, _⟩ := DataW.trod_int Try.underlying3 t1
        obtain ⟨p2, e2, _, _⟩ := DataW.trod_int Try.underlying3 t2
        have g0 := hcell 0 (by omega)
        have g1 := hcell 1 (by omega)
        have g2 := hcell 2 (by omega)
        rw [Go.Deep.add_add] at g0 g1 g2
        simp at e0 e1 e2 g0 g1 g2
        refine ⟨(p0, p1, p2), ?_, ?_, ?_⟩
        · rw [g0, e0]
        · rw [g1, e1]
        · rw [g2, e2]
    obtain ⟨l, hr, hp⟩ := choose_list ((0 : Int), (0 : Int), (0 : Int)) _ len each
    refine ⟨l, ⟨hr, fun hpos => ?_⟩, by omega⟩
    obtain ⟨b, off, sp⟩ := ad
    have hc0 := (hp 0 (by omega)).1
    obtain rfl : sp = none := by
      cases sp with
      | none => rfl
      | some k => simp [World.cell?, Addr.add] at hc0; split at hc0 <;> simp at hc0
    have hadd : ∀ j, (⟨b, off, none⟩ : Addr).add j = ⟨b, off + j, none⟩ := fun j => by simp [Addr.add]
    rw [hadd] at hc0
    refine ⟨b, off, rfl, World.block_lt_of_cell? W ⟨b, off + 0 * 3, none⟩ hc0, fun i hil => ?_⟩
    obtain ⟨h0, h1, h2⟩ := hp i hil
    rw [hadd] at h0 h1 h2
    exact ⟨h0, h1, h2⟩
end Go.Proofs.Ytmhdpphogmihlaa
