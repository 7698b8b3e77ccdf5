/-
 Whether a function has few of everything. Conditions: none.
-/
import Derived.Test.YtmhmlhlplfkpaaaDoorAtA
import Derived.Deep.DeepMust
set_option maxRecDepth 100000
namespace Go.Proofs.YtmhmlhlplfkpaaaDoor
open Go.RowKit
def FnV.Few (v : FnV) : Prop := v.code.n ≤ 150 ∧ v.lines.n ≤ 150 ∧ v.nodes.n ≤ 20 ∧ v.at_.n ≤ 150 ∧ v.live.n ≤ 150
def SmallP (v : FnV) (w : World) (e : Ending) (w' : World) : Prop := ∃ b : Bool, e = .returned (.bool b) ∧ (b = true → v.Few) ∧ Below w.heap.size w w'
set_option maxHeartbeats 4000000 in
theorem small15_any (v : FnV) (w : World) : Calls Tryd.prog 8 #[.agg v.cells] w (SmallP v w) := by
 have HB := Lib.hid ((Below.refl w.heap.size w).alloc (Nat.le_refl _) (.cells v.cells 35))
 have hA := FnAt.new w v
 obtain ⟨c0, c1, c2, c3, c4, c5, c6, c7, c8, c9, c10⟩ := hA.all
 clear hA
 obtain ⟨nm, inn, ⟨oa, on, oc⟩, ⟨pa, pn, pc⟩, ⟨ra, rn, rc⟩, ⟨la, ln, lc⟩, ⟨ca, cn, cc⟩, ⟨ia, i_n, ic⟩, ⟨na, nn, nc⟩, ⟨ta, tn, tc⟩, ⟨va, vn, vc⟩⟩ := v
 by_cases h0 : cn ≤ 150
 rotate_left
 · have d0 : decide ((cn : Int) ≤ 150) = false := decide_eq_false (by omega)
   clear h0
   go_enter Tryd.func8, Tryd.ntmps8
   go_wp2
   go_ret
   exact ⟨false, rfl, fun h => (by cases h), HB.out⟩
 have d0 : decide ((cn : Int) ≤ 150) = true := decide_eq_true (by omega)
 by_cases h1 : i_n ≤ 150
 rotate_left
 · have d1 : decide ((i_n : Int) ≤ 150) = false := decide_eq_false (by omega)
   clear h1
   go_enter Tryd.func8, Tryd.ntmps8
   go_wp2
   go_ret
   exact ⟨false, rfl, fun h => (by cases h), HB.out⟩
 have d1 : decide ((i_n : Int) ≤ 150) = true := decide_eq_true (by omega)
 by_cases h2 : nn ≤ 20
 rotate_left
 · have d2 : decide ((nn : Int) ≤ 20) = false := decide_eq_false (by omega)
   clear h2
   go_enter Tryd.func8, Tryd.ntmps8
   go_wp2
   go_ret
   exact ⟨false, rfl, fun h => (by cases h), HB.out⟩
 have d2 : decide ((nn : Int) ≤ 20) = true := decide_eq_true (by omega)
 by_cases h3 : tn ≤ 150
 rotate_left
 · have d3 : decide ((tn : Int) ≤ 150) = false := decide_eq_false (by omega)
   clear h3
   go_enter Tryd.func8, Tryd.ntmps8
   go_wp2
   go_ret
   exact ⟨false, rfl, fun h => (by cases h), HB.out⟩
 have d3 : decide ((tn : Int) ≤ 150) = true := decide_eq_true (by omega)
 by_cases h4 : vn ≤ 150
 rotate_left
 · have d4 : decide ((vn : Int) ≤ 150) = false := decide_eq_false (by omega)
   clear h4
   go_enter Tryd.func8, Tryd.ntmps8
   go_wp2
   go_ret
   exact ⟨false, rfl, fun h => (by cases h), HB.out⟩
 have d4 : decide ((vn : Int) ≤ 150) = true := decide_eq_true (by omega)
 have HF : Hid (FnV.Few ⟨nm, inn, ⟨oa, on, oc⟩, ⟨pa, pn, pc⟩, ⟨ra, rn, rc⟩, ⟨la, ln, lc⟩, ⟨ca, cn, cc⟩, ⟨ia, i_n, ic⟩, ⟨na, nn, nc⟩, ⟨ta, tn, tc⟩, ⟨va, vn, vc⟩⟩) := Lib.hid ⟨h0, h1, h2, h3, h4⟩
 clear h0 h1 h2 h3 h4
 go_enter Tryd.func8, Tryd.ntmps8
 go_wp2
 go_ret
 exact ⟨_, rfl, fun _ => HF.out, HB.out⟩
end Go.Proofs.YtmhmlhlplfkpaaaDoor
