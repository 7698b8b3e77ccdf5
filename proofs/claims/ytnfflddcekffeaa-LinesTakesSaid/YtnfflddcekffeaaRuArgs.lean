/-
  From the readings to the walks: runs, whole numbers, a question that came in. Conditions: none.
-/
import Derived.Test.YtnfflddcekffeaaRows
import Derived.Test.YtnfflddcekffeaaRuAt
import Derived.SizedLaws
import Derived.WalkKit
import Derived.ProofKit
import Derived.OpenShut
import Derived.ShutString
import Derived.ChangeOld
import Derived.Below
import Derived.Deep.SlicePairs
import Derived.Deep.Strs
namespace Go.Proofs.Ytnfflddcekffeaa
open Go.ChangeShapes Go.WideShapes Go.ChangeAt Go.RowKit

theorem choose_list {α : Type} (d : α) (P : Nat → α → Prop) : ∀ n, (∀ i, i < n → ∃ x, P i x) → ∃ l : List α, l.length = n ∧ ∀ i, i < n → P i (l.getD i d)
  | 0, _ => ⟨[], rfl, fun i hi => by omega⟩
  | n + 1, h => by
    obtain ⟨l, hl, hp⟩ := choose_list d P n (fun i hi => h i (by omega))
    obtain ⟨x, hx⟩ := h n (by omega)
    refine ⟨l ++ [x], by simp [hl], fun i hi => ?_⟩
    by_cases hin : i < n
    · have e : (l ++ [x]).getD i d = l.getD i d := by
        have hil : i < l.length := by omega
        simp [List.getD, List.getElem?_append_left hil]
      rw [e]
      exact hp i hin
    · obtain rfl : i = n := by omega
      have e : (l ++ [x]).getD i d = x := by
        subst hl
        simp [List.getD]
      rw [e]
      exact hx

theorem mem_getD {α : Type} {l : List α} (d : α) {x : α} (h : x ∈ l) : ∃ i, i < l.length ∧ l.getD i d = x := by
  obtain ⟨i, hi, e⟩ := List.getElem_of_mem h
  exact ⟨i, hi, by simp [List.getD, hi, e]⟩

set_option maxRecDepth 100000 in
/-- Runs that came in. -/
theorem pairs_of {H : Type} {enc : TypeId × Value → H} {W : World} {fuel : Nat} {a : Option Addr} {len cap : Nat} {x : DataW H × List MemPlace}
    (h : DataW.trod enc Try.prog W 0 (fun _ => true) true fuel 68 [.slice a len cap] = some x) :
    ∃ r, PairsAt W W.heap.size a len r ∧ len ≤ cap ∧ cap ≤ 9223372036854775807 ∧ ∀ p ∈ r, p.1 ≤ 9223372036854775807 := by
  rcases Go.Deep.open_slice_pairs Try.underlying68 Try.underlying71 (by kernel_rfl) rfl rfl (by kernel_rfl) (by kernel_rfl) h with ⟨hcs, _⟩ | ⟨ad, ln, cp, m, n, V0, V1, D0, D1, P0, P1, hcs, _, hl, hm, hmm, _, hi⟩
  · simp at hcs
    obtain ⟨rfl, rfl, rfl⟩ := hcs
    exact ⟨[], ⟨rfl, fun h => absurd h (by omega)⟩, Nat.le_refl _, by omega, by simp⟩
  · simp at hcs
    obtain ⟨rfl, rfl, rfl⟩ := hcs
    simp only [if_true] at hmm
    subst hmm
    unfold maxLen at hm
    have each : ∀ i, i < len → ∃ p : Int × Int, W.cell? (ad.add (i * 2)) = some (.int .i64 p.1) ∧ W.cell? (ad.add (i * 2 + 1)) = some (.int .i64 p.2) ∧ p.1 ≤ 9223372036854775807 := by
      intro i hil
      obtain ⟨h0, h1, t0, t1⟩ := hi i (by omega)
      obtain ⟨kk, e0, _, wf0⟩ := DataW.trod_int Try.underlying3 t0
      obtain ⟨mm, e1, _, _⟩ := DataW.trod_int Try.underlying3 t1
      simp only [List.cons.injEq, and_true] at e0 e1
      rw [e0] at h0
      rw [e1] at h1
      exact ⟨(kk, mm), h0, h1, (bounds_i64 wf0).2⟩
    obtain ⟨r, hr, hp⟩ := choose_list ((0 : Int), (0 : Int)) _ len each
    refine ⟨r, ⟨hr, fun hpos => ?_⟩, hl, by omega, fun p hp' => ?_⟩
    · obtain ⟨b, off, sp⟩ := ad
      have hc0 := (hp 0 (by omega)).1
      obtain rfl : sp = none := by
        cases sp with
        | none => rfl
        | some k => simp [World.cell?, Addr.add] at hc0; split at hc0 <;> simp at hc0
      have hadd : ∀ j, (⟨b, off, none⟩ : Addr).add j = ⟨b, off + j, none⟩ := fun j => by simp [Addr.add]
      rw [hadd] at hc0
      refine ⟨b, off, rfl, World.block_lt_of_cell? W ⟨b, off + 0 * 2, none⟩ hc0, fun i hil => ?_⟩
      obtain ⟨h0, h1, _⟩ := hp i hil
      rw [hadd] at h0 h1
      exact ⟨h0, h1⟩
    · obtain ⟨i, hil, rfl⟩ := mem_getD ((0 : Int), (0 : Int)) hp'
      exact (hp i (by omega)).2.2

set_option maxRecDepth 100000 in
/-- Whole numbers that came in. -/
theorem ints_of {H : Type} {enc : TypeId × Value → H} {W : World} {fuel : Nat} {a : Option Addr} {len cap : Nat} {x : DataW H × List MemPlace}
    (h : DataW.trod enc Try.prog W 0 (fun _ => true) true fuel 22 [.slice a len cap] = some x) : ∃ l, IntsAt W W.heap.size a len l ∧ len ≤ 9223372036854775807 ∧ ∀ z ∈ l, -9223372036854775808 ≤ z ∧ z ≤ 9223372036854775807 := by
  rcases open_ints Try.underlying22 Try.underlying3 (by kernel_rfl) h with ⟨hcs, _⟩ | ⟨ad, l, c, zs, hcs, _, hl, hm, hz, _, hcell, hwz⟩
  · simp at hcs
    obtain ⟨rfl, rfl, rfl⟩ := hcs
    exact ⟨[], ⟨rfl, fun h => absurd h (by omega)⟩, by omega, by simp⟩
  · simp at hcs
    obtain ⟨rfl, rfl, rfl⟩ := hcs
    have hz' : zs.length = cap := by simpa using hz
    unfold maxLen at hm
    refine ⟨zs.take len, ⟨by simp; omega, fun hpos => ?_⟩, by omega, fun z hz => bounds_i64 (hwz z (List.mem_of_mem_take hz))⟩
    obtain ⟨b, off, rfl, hc⟩ := ints_at hcell (by omega)
    refine ⟨b, off, rfl, World.block_lt_of_cell? W ⟨b, off + 0, none⟩ (hc 0 (by omega)), fun i hi => ?_⟩
    rw [hc i (by omega)]
    simp [List.getD, hi]

set_option maxRecDepth 100000 in
theorem cells_int1 : Try.prog.cellsOf 3 = 1 := by kernel_rfl

end Go.Proofs.Ytnfflddcekffeaa
