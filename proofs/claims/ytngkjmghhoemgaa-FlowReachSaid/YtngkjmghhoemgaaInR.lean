/-
  What instr.Right tells. Conditions: none.
-/
import Derived.Test.YtngkjmghhoemgaaSiOp
import Derived.Test.YtngkjmghhoemgaaReg
namespace Go.Proofs.Ytngkjmghhoemgaa
open Go.RowKit

def RgF (p : Nat) (op : Int) (_ : Unit) : Nat → Value → Prop
  | 0, v => v = .pointer (some ⟨p, 0, none⟩)
  | 1, v => v = .int .i64 op
  | 2, v => v = .bool false
  | 3, v => v = .bool false
  | 4, v => v = undef
  | 5, v => v = undef
  | 6, v => v = undef
  | 7, v => v = undef
  | 8, v => v = undef
  | 9, v => v = undef
  | 10, v => v = .bool false
  | 11, v => v = .bool false
  | _, _ => True

end Go.Proofs.Ytngkjmghhoemgaa
