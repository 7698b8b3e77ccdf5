/-
  What maps.runsOf tells: the runs of alike sets, in new memory. Conditions: the table can be read; at most 2^36 sets.
-/
import Derived.Test.YtifkoihhlhadhaaDoorMpA
namespace Go.Proofs.YtifkoihhlhadhaaDoor
open Go.RowKit

set_option maxRecDepth 100000 in
/-- Two sets held against each other. -/
theorem eq_sets (s t : Sl.Four) (w : World) : (Op.equalIn 10000 46 (.agg #[.int .u64 (s.a : Int), .int .u64 (s.b : Int), .int .u64 (s.c : Int), .int .u64 (s.d : Int)]) (.agg #[.int .u64 (t.a : Int), .int .u64 (t.b : Int), .int .u64 (t.c : Int), .int .u64 (t.d : Int)])).run Tryd.prog w = .ok (Mp.same s t) w := by
  rw [eq_four]
  congr 1
  unfold Mp.same
  rw [Bool.eq_iff_iff]
  simp
  omega

/-- Runs are told, in memory of the call's own; nothing below has turned. -/
def MrunsP (r : Mp.Runs) (w : World) (e : Ending) (w' : World) : Prop := ∃ A c, e = .returned (.slice A r.length c) ∧ SetRunsAt w' w'.heap.size A r.length r ∧ r.length ≤ c ∧ Below w.heap.size w w'

end Go.Proofs.YtifkoihhlhadhaaDoor
