/-
  Where a node's seven numbers are, told by tree.numbers. Conditions: none.
-/
import Derived.BigRegion
import Derived.Test.YtpfcfmpfommfaaaDoorTrAt
namespace Go.Proofs.YtpfcfmpfommfaaaDoor
open Go.RowKit

/-- The seven places of a node in block g. -/
def places7 (g : Nat) : Array Value := #[.pointer (some ⟨g, 0, none⟩), .pointer (some ⟨g, 1, none⟩), .pointer (some ⟨g, 2, none⟩), .pointer (some ⟨g, 3, none⟩), .pointer (some ⟨g, 4, none⟩), .pointer (some ⟨g, 5, none⟩), .pointer (some ⟨g, 6, none⟩)]

set_option maxHeartbeats 4000000 in
set_option maxRecDepth 100000 in
theorem trnumbers_any (g : Nat) (w : World) :
    Calls Tryd.prog 37 #[.pointer (some ⟨g, 0, none⟩)] w fun e w' => e = .returned (.agg (places7 g)) ∧ Below w.heap.size w w' := by
  go_enter Tryd.func37, Tryd.ntmps37
  go_wp2
  go_region
  go_wp2
  exact bodyPost_ret (v := .agg (places7 g)) (by simp [results, Tryd.results37, go_sem, places7]) rfl ⟨rfl, ((Below.refl _ _).alloc (Nat.le_refl _) _).drew⟩
set_option maxRecDepth 100000 in
/-- Place i of the seven. -/
theorem place7 (g i : Nat) (h : i < 7) (w : World) : (Instr.index 58 (.agg (places7 g)) (.int .i64 (i : Int))).run Tryd.prog w = .ok (.pointer (some ⟨g, i, none⟩)) w := by
  rcases (show i = 0 ∨ i = 1 ∨ i = 2 ∨ i = 3 ∨ i = 4 ∨ i = 5 ∨ i = 6 by omega) with rfl | rfl | rfl | rfl | rfl | rfl | rfl
  all_goals kernel_rfl
theorem node_at {w : World} {B : Nat} {t : TypeId} {n : Tr.Nd} (h : NodeAt w B t n) {i : Nat} (hi : i < 7) : w.cell? ⟨B, i, none⟩ = some (.int .i64 (n.list.getD i 0)) := by
  obtain ⟨e0, e1, e2, e3, e4, e5, e6⟩ := h.cells
  rcases (show i = 0 ∨ i = 1 ∨ i = 2 ∨ i = 3 ∨ i = 4 ∨ i = 5 ∨ i = 6 by omega) with rfl | rfl | rfl | rfl | rfl | rfl | rfl
  · exact e0
  · exact e1
  · exact e2
  · exact e3
  · exact e4
  · exact e5
  · exact e6
end Go.Proofs.YtpfcfmpfommfaaaDoor
