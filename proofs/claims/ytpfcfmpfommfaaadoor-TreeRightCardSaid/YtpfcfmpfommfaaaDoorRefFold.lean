/-
  What the document's Fold answers. Conditions: none (each number of its type).
-/
import Derived.Test.YtpfcfmpfommfaaaDoorNums
namespace Go.Proofs.YtpfcfmpfommfaaaDoor
open Go.RowKit

set_option maxRecDepth 100000 in
set_option maxHeartbeats 400000 in
theorem rfold_any (n : Int) (w : World) (h1 : -9223372036854775808 ≤ n) (h2 : n ≤ 9223372036854775807) :
    Calls Tryd.prog 40 #[.int .i64 n] w fun e w' => e = .returned (.int .u64 (Uv.fold n : Int)) ∧ w = w' := by
  go_enter Tryd.func40, Tryd.ntmps40
  go_wp2
  · go_ret
    have hn : n < 0 := by assumption
    exact ⟨ret_int (by unfold Uv.fold; rw [if_pos hn]; omega), rfl⟩
  · go_ret
    have hn : 0 ≤ n := by assumption
    exact ⟨ret_int (by unfold Uv.fold; rw [if_neg (by omega)]; omega), rfl⟩
end Go.Proofs.YtpfcfmpfommfaaaDoor
