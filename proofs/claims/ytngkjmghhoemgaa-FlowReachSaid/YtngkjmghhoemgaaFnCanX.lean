/-
  What fnc.Bare, typed, fits, slotsOf, other tell. Conditions: the function can be read.
  What fnc.mapped tells. Conditions: the function can be read; words of 64 bits; at most a million slots; the library's table is laid.
-/
import Derived.Test.YtngkjmghhoemgaaAtA
import Derived.Test.YtngkjmghhoemgaaFnEqS
import Derived.Test.YtngkjmghhoemgaaSiOp
import Derived.Test.YtngkjmghhoemgaaInR
import Derived.Deep.DeepMust
import Derived.Test.YtngkjmghhoemgaaTrWR
import Derived.Test.YtngkjmghhoemgaaMpX
namespace Go.Proofs.Ytngkjmghhoemgaa
open Go.RowKit

/-- Has what lies in memory no tables? -/
def FnV.bare (v : FnV) : Bool := decide (v.nodes.n = 0) && (decide (v.at_.n = 0) && decide (v.live.n = 0))
theorem FnOk.bare {w : World} {B : Nat} {v : FnV} {f : Fn.F} (h : FnOk w B v f) : v.bare = f.bare := by
  unfold FnV.bare Fn.F.bare
  rw [h.n_nodes, h.n_at, h.n_live]

end Go.Proofs.Ytngkjmghhoemgaa

namespace Go.Proofs.Ytngkjmghhoemgaa
open Go.RowKit

theorem out_high {n : Nat} {x : Int} (h : ¬ x < 0) : Fn.out n x = decide ((n : Int) ≤ x) := by
  unfold Fn.out
  rw [decide_eq_false h, Bool.false_or]

end Go.Proofs.Ytngkjmghhoemgaa
