/-
  From the readings to the walks: a row of a statement's values, a row of types that came in; the table of powers of ten as the program's text lays it. Conditions: none.
-/
import Derived.Test.YtdenboakcbipdaaDoorRows
import Derived.Test.YtdenboakcbipdaaDoorCeS
import Derived.ProofKit
import Derived.LaidMore
import Derived.OpenShut
import Derived.ShutString
import Derived.Stop.Joined
import Derived.Stop.LaidErr
import Derived.Lib.LaidTab
import Derived.SizedLaws
import Derived.ChangeOld
import Derived.Deep.SlicePairs
import Derived.Deep.Strs
namespace Go.Proofs.YtdenboakcbipdaaDoor
open Go.ChangeShapes Go.WideShapes Go.ChangeAt Go.RowKit

theorem own : ownKnob Tryd.prog.godebug = none := by kernel_rfl
theorem laidOut : laidOutB Tryd.prog = true := by kernel_rfl

abbrev laidL {H : Type} : List (String × DataW H) := [("math/bits.deBruijn32tab", Rows.laid_math_bits_deBruijn32tab), ("math/bits.deBruijn64tab", Rows.laid_math_bits_deBruijn64tab), ("internal/strconv.uint64pow10", Rows.laid_internal_strconv_uint64pow10)]

/-- The door's own heap meets the condition. -/
theorem door_met (os : Os) (args : Array Value) : laidMetH Tryd.prog laidL ((World.doorLaid Tryd.prog 400 os).forCall (fun _ _ => 0) ⟨#[], args, []⟩).memory :=
  laidMetH_of_parts3 (fuel := 8) (laidMet_of_run' 8 (by kernel_rfl) (by kernel_rfl)) (by kernel_rfl) (by kernel_rfl)

theorem pow_data : (Rows.laid_internal_strconv_uint64pow10 : DataW Unit) = Lib.tabData .u64 Lib.pow10Tab := by kernel_rfl

/-- What the condition gives the walks: the table of powers of ten. -/
theorem pow_of_laid {W : World} (h : laidMetH Tryd.prog laidL W) : Pow W := by
  rw [MakeChecks.laidMetH_plain _ _ _ (by kernel_rfl)] at h
  have h3 := h.tail.tail
  rw [pow_data] at h3
  exact Lib.tabIs_of_head (g := 0) (t := 81) (e := 74) (n := 20) (by kernel_rfl) (by kernel_rfl) Tryd.underlying81 Tryd.underlying74 (by kernel_rfl) (by kernel_rfl) h3

theorem cells_int1 : Tryd.prog.cellsOf 3 = 1 := by kernel_rfl
theorem cells_type1 : Tryd.prog.cellsOf 26 = 1 := by kernel_rfl
theorem cells_v4 : Tryd.prog.cellsOf 31 = 4 := by kernel_rfl

theorem choose_list {α : Type} (d : α) (P : Nat → α → Prop) : ∀ n, (∀ i, i < n → ∃ x, P i x) → ∃ l : List α, l.length = n ∧ ∀ i, i < n → P i (l.getD i d)
  | 0, _ => ⟨[], rfl, fun i hi => by omega⟩
  | n + 1, h => by
    obtain ⟨l, hl, hp⟩ := choose_list d P n (fun i hi => h i (by omega))
    obtain ⟨x, hx⟩ := h n (by omega)
    refine ⟨l ++ [x], by simp [hl], fun i hi => ?_⟩
    by_cases hin : i < n
    · have e : (l ++ [x]).getD i d = l.getD i d := by
        have hil : i < l.length := by omega
        simp [List.getD, List.getElem?_append_left hil]
      rw [e]
      exact hp i hin
    · obtain rfl : i = n := by omega
      have e : (l ++ [x]).getD i d = x := by
        subst hl
        simp [List.getD]
      rw [e]
      exact hx

theorem addr_none {W : World} {b off : Nat} {sp : Option Nat} {v : Value} (h : W.cell? ((⟨b, off, sp⟩ : Addr).add 0) = some v) : sp = none := by
  cases sp with
  | none => rfl
  | some k => simp [World.cell?, Addr.add] at h; split at h <;> simp at h

/-- Types that came in. -/
theorem types_of {H : Type} {enc : TypeId × Value → H} {W : World} {fuel : Nat} {a : Option Addr} {len cap : Nat} {x : DataW H × List MemPlace}
    (h : DataW.trod enc Tryd.prog W 0 (fun _ => true) true fuel 38 [.slice a len cap] = some x) :
    ∃ l, IntsAt W W.heap.size a len l := by
  rcases Go.Deep.open_slice Tryd.underlying38 h with ⟨hcs, _⟩ | ⟨ad, ln, cp, m, n, D, Pl, hcs, _, hl, hm, hmm, _, hi⟩
  · simp at hcs
    obtain ⟨rfl, rfl, rfl⟩ := hcs
    exact ⟨[], ⟨rfl, fun h => absurd h (by omega)⟩⟩
  · simp at hcs
    obtain ⟨rfl, rfl, rfl⟩ := hcs
    simp only [if_true] at hmm
    subst hmm
    have each : ∀ i, i < len → ∃ p : Int, W.cell? (ad.add i) = some (.int .i64 p) := by
      intro i hil
      obtain ⟨cs', h1, h2⟩ := hi i (by omega)
      rw [cells_type1] at h1
      obtain ⟨_, hlen, hcell⟩ := World.cells?_some h1
      obtain ⟨p, e, _, _⟩ := DataW.trod_int Tryd.underlying26 h2
      subst e
      have g0 := hcell 0 (by omega)
      rw [Go.Deep.add_add] at g0
      simp at g0
      exact ⟨p, g0⟩
    obtain ⟨l, hr, hp⟩ := choose_list (0 : Int) _ len each
    refine ⟨l, ⟨hr, fun hpos => ?_⟩⟩
    obtain ⟨b, off, sp⟩ := ad
    have hc0 := hp 0 (by omega)
    obtain rfl := addr_none hc0
    have hadd : ∀ j, (⟨b, off, none⟩ : Addr).add j = ⟨b, off + j, none⟩ := fun j => by simp [Addr.add]
    rw [hadd] at hc0
    refine ⟨b, off, rfl, World.block_lt_of_cell? W ⟨b, off + 0, none⟩ hc0, fun i hil => ?_⟩
    have := hp i hil
    rw [hadd] at this
    exact this

theorem trod_struct4 {H : Type} {enc : TypeId × Value → H} {P : Program} {w : World} {base : Nat} {spare : TypeId → Bool} {held : Bool} {t : TypeId} {f0 f1 f2 f3 : Field} {fuel : Nat} {cs : List Value} {x : DataW H × List MemPlace} (ht : P.underlying t = some (.struct #[f0, f1, f2, f3])) (h : DataW.trod enc P w base spare held fuel t cs = some x) :
    ∃ y0 y1 y2 y3 n, DataW.trod enc P w base spare held n f0.type ((cs.drop f0.offset).take (P.cellsOf f0.type)) = some y0 ∧ DataW.trod enc P w base spare held n f1.type ((cs.drop f1.offset).take (P.cellsOf f1.type)) = some y1 ∧
      DataW.trod enc P w base spare held n f2.type ((cs.drop f2.offset).take (P.cellsOf f2.type)) = some y2 ∧ DataW.trod enc P w base spare held n f3.type ((cs.drop f3.offset).take (P.cellsOf f3.type)) = some y3 := by
  obtain ⟨xs, n, _, rfl, hl, hlen, hf⟩ := DataW.trod_struct ht h
  match xs, hlen with
  | [y0, y1, y2, y3], _ => exact ⟨y0, y1, y2, y3, n, by simpa using hf 0 f0 rfl, by simpa using hf 1 f1 rfl, by simpa using hf 2 f2 rfl, by simpa using hf 3 f3 rfl⟩

/-- A statement's values that came in. -/
theorem vvs_of {H : Type} {enc : TypeId × Value → H} {W : World} {fuel : Nat} {a : Option Addr} {len cap : Nat} {x : DataW H × List MemPlace}
    (h : DataW.trod enc Tryd.prog W 0 (fun _ => true) true fuel 23 [.slice a len cap] = some x) :
    ∃ l, VvsAt W W.heap.size a len l ∧ (∀ v ∈ l, -9223372036854775808 ≤ v.n ∧ v.n ≤ 9223372036854775807) ∧ len ≤ 9223372036854775807 := by
  rcases Go.Deep.open_slice Tryd.underlying23 h with ⟨hcs, _⟩ | ⟨ad, ln, cp, m, n, D, Pl, hcs, _, hl, hm, hmm, _, hi⟩
  · simp at hcs
    obtain ⟨rfl, rfl, rfl⟩ := hcs
    exact ⟨[], ⟨rfl, fun h => absurd h (by omega)⟩, (fun v hv => by cases hv), by omega⟩
  · simp at hcs
    obtain ⟨rfl, rfl, rfl⟩ := hcs
    simp only [if_true] at hmm
    subst hmm
    unfold maxLen at hm
    have each : ∀ i, i < len → ∃ p : Ce.Vv, (W.cell? (ad.add (i * 4)) = some (.int .i64 p.k) ∧ W.cell? (ad.add (i * 4 + 1)) = some (.int .i64 p.n) ∧ W.cell? (ad.add (i * 4 + 2)) = some (.int .i64 p.re) ∧ W.cell? (ad.add (i * 4 + 3)) = some (.int .i64 p.im)) ∧ -9223372036854775808 ≤ p.n ∧ p.n ≤ 9223372036854775807 := by
      intro i hil
      obtain ⟨cs', h1, h2⟩ := hi i (by omega)
      rw [cells_v4] at h1
      obtain ⟨_, hlen, hcell⟩ := World.cells?_some h1
      obtain ⟨y0, y1, y2, y3, k, t0, t1, t2, t3⟩ := trod_struct4 Tryd.underlying31 h2
      rw [cells_type1] at t0
      rw [cells_int1] at t1 t2 t3
      match cs', hlen with
      | [v0, v1, v2, v3], _ =>
        obtain ⟨p0, e0, _, _⟩ := DataW.trod_int Tryd.underlying26 t0
        obtain ⟨p1, e1, _, b1⟩ := DataW.trod_int Tryd.underlying3 t1
        obtain ⟨p2, e2, _, _⟩ := DataW.trod_int Tryd.underlying3 t2
        obtain ⟨p3, e3, _, _⟩ := DataW.trod_int Tryd.underlying3 t3
        have g0 := hcell 0 (by omega)
        have g1 := hcell 1 (by omega)
        have g2 := hcell 2 (by omega)
        have g3 := hcell 3 (by omega)
        rw [Go.Deep.add_add] at g0 g1 g2 g3
        simp at e0 e1 e2 e3 g0 g1 g2 g3
        refine ⟨⟨p0, p1, p2, p3⟩, ⟨?_, ?_, ?_, ?_⟩, bounds_i64 b1⟩
        · rw [g0, e0]
        · rw [g1, e1]
        · rw [g2, e2]
        · rw [g3, e3]
    obtain ⟨l, hr, hp⟩ := choose_list Ce.v0 _ len each
    refine ⟨l, ⟨hr, fun hpos => ?_⟩, ?_, by omega⟩
    · obtain ⟨b, off, sp⟩ := ad
      have hc0 := (hp 0 (by omega)).1.1
      rw [Nat.zero_mul] at hc0
      obtain rfl := addr_none hc0
      have hadd : ∀ j, (⟨b, off, none⟩ : Addr).add j = ⟨b, off + j, none⟩ := fun j => by simp [Addr.add]
      rw [hadd] at hc0
      refine ⟨b, off, rfl, World.block_lt_of_cell? W ⟨b, off + 0, none⟩ hc0, fun i hil => ?_⟩
      obtain ⟨⟨h0, h1, h2, h3⟩, _⟩ := hp i hil
      rw [hadd] at h0 h1 h2 h3
      exact ⟨h0, h1, h2, h3⟩
    · intro v hv
      obtain ⟨j, hj, rfl⟩ := List.mem_iff_getElem.1 hv
      have := (hp j (by omega)).2
      simpa [List.getD, hj] using this
end Go.Proofs.YtdenboakcbipdaaDoor
