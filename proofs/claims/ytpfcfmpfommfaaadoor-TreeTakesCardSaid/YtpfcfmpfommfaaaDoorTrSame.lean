/-
  That the document's Same of nodes tells that a tree is itself. Conditions: both can be read.
-/
import Derived.BigRegion
import Derived.BigQuiet
import Derived.Laws.StructEq
import Derived.Test.YtpfcfmpfommfaaaDoorTrAt
namespace Go.Proofs.YtpfcfmpfommfaaaDoor
open Go.RowKit

set_option maxRecDepth 100000 in
/-- A node is the same as itself, by '=='. -/
theorem equal_node (a b c d e f g : Int) (w : World) : (Op.equalIn 10000 53 (.agg #[.int .i64 a, .int .i64 b, .int .i64 c, .int .i64 d, .int .i64 e, .int .i64 f, .int .i64 g]) (.agg #[.int .i64 a, .int .i64 b, .int .i64 c, .int .i64 d, .int .i64 e, .int .i64 f, .int .i64 g])).run Tryd.prog w = .ok true w := by
  rw [run_equalIn_struct w 9999 53 _ _ (by kernel_rfl) (by kernel_rfl)]
  simp [go_sem, Program.fieldsOf, Tryd.underlying53, Op.eqFields, part]
set_option maxRecDepth 100000 in
theorem neq_node (a b c d e f g : Int) (w : World) : (binOp .neq 53 (.agg #[.int .i64 a, .int .i64 b, .int .i64 c, .int .i64 d, .int .i64 e, .int .i64 f, .int .i64 g]) (.agg #[.int .i64 a, .int .i64 b, .int .i64 c, .int .i64 d, .int .i64 e, .int .i64 f, .int .i64 g])).run Tryd.prog w = .ok (.bool false) w := by
  rw [run_neq_struct, equal_node]
  rfl
set_option maxRecDepth 100000 in
theorem guard_node (op : BinOp) (x y : Operand) (xs ys : Array Value) (w : World) : (eqGuard op 53 x y (.agg xs) (.agg ys)).run Tryd.prog w = .ok () w := run_eqGuard_agg w op _ x y xs ys (by kernel_rfl)

set_option maxHeartbeats 8000000 in
set_option maxRecDepth 100000 in
theorem trsame_any (a b : Option Addr) (n c c' : Nat) (l : List Tr.Nd) (w : World) (h : NodesAt w w.heap.size a n l) (h' : NodesAt w w.heap.size b n l) (hn : n ≤ 9223372036854775807) :
    Calls Tryd.prog 26 #[.slice a n c, .slice b n c'] w (BoolP true w) := by
  have H := Lib.hid h
  have H' := Lib.hid h'
  clear h h'
  have g1 := neq_node
  have g2 := guard_node
  go_enter Tryd.func26, Tryd.ntmps26
  go_wp2
  go_loopw [5] (fun i wr => ∃ k q : Nat, k ≤ n ∧ i = .int .i64 (k : Int) ∧ wr = w.drewN q) (fun i _ => n - (intOf i).toNat)
  case atStart => exact ⟨0, 0, Nat.zero_le _, rfl, rfl⟩
  case round =>
    obtain ⟨k, q, hk, rfl, rfl⟩ := hrel
    by_cases hlt : k < n
    · obtain ⟨b1, o1, y, rfl, _, hy, _, d0, d1, d2, d3, d4, d5, d6⟩ := nodes_cell H.out hlt
      obtain ⟨b2, o2, y2, rfl, _, hy2, _, e0, e1, e2, e3, e4, e5, e6⟩ := nodes_cell H'.out hlt
      obtain rfl : y = y2 := hy.symm.trans hy2
      have hkn : (k : Int) < (n : Int) := by omega
      clear hy hy2
      go_wp2
      go_region
      go_wp2
      exact ⟨⟨k + 1, q + 1, hlt, by go_num, rfl⟩, by simp [intOf]; omega⟩
    · have hkn : decide ((k : Int) < (n : Int)) = false := decide_eq_false (by omega)
      go_wp2
      go_ret
      exact ⟨rfl, below_drewN (Below.refl _ _) _⟩
end Go.Proofs.YtpfcfmpfommfaaaDoor
