/-
 The table of powers of ten, while other memory turns. Conditions: none.
-/
import Derived.Test.YtmhmlhlplfkpaaaDoorInN
set_option maxRecDepth 100000
namespace Go.Proofs.YtmhmlhlplfkpaaaDoor
open Go.RowKit
theorem pow_lt {w : World} (h : Pow w) : 1 < w.heap.size := by
 have hg : Tryd.prog.globalNamed "internal/strconv.uint64pow10" = some 1 := by kernel_rfl
 have h' : World.var? Tryd.prog w "internal/strconv.uint64pow10" = _ := h
 unfold World.var? at h'
 rw [hg] at h'
 simp only [Option.bind_some] at h'
 rcases Nat.lt_or_ge 1 w.heap.size with h1 | h1
 · exact h1
 · rw [Array.getElem?_eq_none h1] at h'
   cases h'
theorem pow_upto {w w' : World} {B : Nat} (h : Pow w) (hb : Below B w w') (hB : 1 < B) : Pow w' := by
 have hg : Tryd.prog.globalNamed "internal/strconv.uint64pow10" = some 1 := by kernel_rfl
 have h' : World.var? Tryd.prog w "internal/strconv.uint64pow10" = _ := h
 show World.var? Tryd.prog w' "internal/strconv.uint64pow10" = _
 unfold World.var? at h' ⊢
 rw [hg] at h' ⊢
 simp only [Option.bind_some] at h' ⊢
 rw [hb.block _ hB]
 exact h'
end Go.Proofs.YtmhmlhlplfkpaaaDoor
