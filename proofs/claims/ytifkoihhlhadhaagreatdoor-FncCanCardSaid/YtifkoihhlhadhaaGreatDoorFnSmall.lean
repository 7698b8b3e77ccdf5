/-
  Whether a function has few of everything. Conditions: none.
-/
import Derived.Test.YtifkoihhlhadhaaGreatDoorAtA
import Derived.Deep.DeepMust
namespace Go.Proofs.YtifkoihhlhadhaaGreatDoor
open Go.RowKit

/-- Few of everything but the types. -/
def FnV.Few (v : FnV) : Prop := v.code.n ≤ 150 ∧ v.lines.n ≤ 150 ∧ v.nodes.n ≤ 20 ∧ v.at_.n ≤ 150 ∧ v.live.n ≤ 150
def SmallP (v : FnV) (w : World) (e : Ending) (w' : World) : Prop := ∃ b : Bool, e = .returned (.bool b) ∧ (b = true → v.Few) ∧ Below w.heap.size w w'

set_option maxRecDepth 100000 in
set_option maxHeartbeats 4000000 in
theorem small15_any (v : FnV) (w : World) : Calls Tryz.prog 5 #[.agg v.cells] w (SmallP v w) := by
  have HB := Lib.hid ((Below.refl w.heap.size w).alloc (Nat.le_refl _) (.cells v.cells 28))
  have hA := FnAt.new w v
  have c0 := hA.c0; have c1 := hA.c1; have c2 := hA.c2; have c3 := hA.c3; have c4 := hA.c4; have c5 := hA.c5; have c6 := hA.c6; have c7 := hA.c7; have c8 := hA.c8; have c9 := hA.c9; have c10 := hA.c10
  clear hA
  obtain ⟨nm, inn, ⟨oa, on, oc⟩, ⟨pa, pn, pc⟩, ⟨ra, rn, rc⟩, ⟨la, ln, lc⟩, ⟨ca, cn, cc⟩, ⟨ia, i_n, ic⟩, ⟨na, nn, nc⟩, ⟨ta, tn, tc⟩, ⟨va, vn, vc⟩⟩ := v
  by_cases h0 : cn ≤ 150
  rotate_left
  · have d0 : decide ((cn : Int) ≤ 150) = false := decide_eq_false (by omega)
    clear h0
    go_enter Tryz.func5, Tryz.ntmps5
    go_wp2
    go_ret
    exact ⟨false, rfl, fun h => (by cases h), HB.out⟩
  have d0 : decide ((cn : Int) ≤ 150) = true := decide_eq_true (by omega)
  by_cases h1 : i_n ≤ 150
  rotate_left
  · have d1 : decide ((i_n : Int) ≤ 150) = false := decide_eq_false (by omega)
    clear h1
    go_enter Tryz.func5, Tryz.ntmps5
    go_wp2
    go_ret
    exact ⟨false, rfl, fun h => (by cases h), HB.out⟩
  have d1 : decide ((i_n : Int) ≤ 150) = true := decide_eq_true (by omega)
  by_cases h2 : nn ≤ 20
  rotate_left
  · have d2 : decide ((nn : Int) ≤ 20) = false := decide_eq_false (by omega)
    clear h2
    go_enter Tryz.func5, Tryz.ntmps5
    go_wp2
    go_ret
    exact ⟨false, rfl, fun h => (by cases h), HB.out⟩
  have d2 : decide ((nn : Int) ≤ 20) = true := decide_eq_true (by omega)
  by_cases h3 : tn ≤ 150
  rotate_left
  · have d3 : decide ((tn : Int) ≤ 150) = false := decide_eq_false (by omega)
    clear h3
    go_enter Tryz.func5, Tryz.ntmps5
    go_wp2
    go_ret
    exact ⟨false, rfl, fun h => (by cases h), HB.out⟩
  have d3 : decide ((tn : Int) ≤ 150) = true := decide_eq_true (by omega)
  by_cases h4 : vn ≤ 150
  rotate_left
  · have d4 : decide ((vn : Int) ≤ 150) = false := decide_eq_false (by omega)
    clear h4
    go_enter Tryz.func5, Tryz.ntmps5
    go_wp2
    go_ret
    exact ⟨false, rfl, fun h => (by cases h), HB.out⟩
  have d4 : decide ((vn : Int) ≤ 150) = true := decide_eq_true (by omega)
  have HF : Hid (FnV.Few ⟨nm, inn, ⟨oa, on, oc⟩, ⟨pa, pn, pc⟩, ⟨ra, rn, rc⟩, ⟨la, ln, lc⟩, ⟨ca, cn, cc⟩, ⟨ia, i_n, ic⟩, ⟨na, nn, nc⟩, ⟨ta, tn, tc⟩, ⟨va, vn, vc⟩⟩) := Lib.hid ⟨h0, h1, h2, h3, h4⟩
  clear h0 h1 h2 h3 h4
  go_enter Tryz.func5, Tryz.ntmps5
  go_wp2
  go_ret
  exact ⟨_, rfl, fun _ => HF.out, HB.out⟩
end Go.Proofs.YtifkoihhlhadhaaGreatDoor
