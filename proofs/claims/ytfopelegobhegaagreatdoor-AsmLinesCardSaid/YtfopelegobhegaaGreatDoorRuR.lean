/-
 What runs.repeats and runs.Right answer. Conditions: none but that the runs can be read.
-/
import Derived.Test.YtfopelegobhegaaGreatDoorAtA
namespace Go.Proofs.YtfopelegobhegaaGreatDoor
open Go.RowKit
def lastV (r : Ru.Runs) : Option Int := r.getLast?.map (·.2)
end Go.Proofs.YtfopelegobhegaaGreatDoor
