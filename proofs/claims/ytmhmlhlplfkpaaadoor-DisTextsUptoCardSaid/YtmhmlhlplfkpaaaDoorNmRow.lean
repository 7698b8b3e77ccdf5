/-
 Names that a call makes: rows of strings of its own. Conditions: none.
-/
import Derived.Test.YtmhmlhlplfkpaaaDoorNmU
set_option maxRecDepth 100000
namespace Go.Proofs.YtmhmlhlplfkpaaaDoor
open Go.RowKit
def strs (l : List ByteArray) : List Value := l.map Value.string
theorem strs_append (a b : List ByteArray) : strs (a ++ b) = strs a ++ strs b := List.map_append
theorem strs_one (l : List ByteArray) : ∀ u ∈ strs l, u.oneCell' = true := by
 intro u hu
 obtain ⟨x, _, rfl⟩ := List.mem_map.1 hu
 rfl
theorem names_of_own {w : World} {b n : Nat} {e : TypeId} {A : Option Addr} {k c : Nat} {r : List ByteArray} (h : w.ownsRow b e 1 (.slice A k c) n (strs r)) : k = n ∧ NamesAt w w.heap.size A k r := by
 have hl : r.length = n := by have := h.1; simpa [strs] using this
 have hlt := h.lt
 rcases h.2 with ⟨hv, hn⟩ | ⟨g, cap, cur, hv, hg, hh, hnc, hcm, hcs, ht⟩
 · injection hv with h1 h2 h3
   subst h1 h2 h3 hn
   exact ⟨rfl, hl, fun h => absurd h (by omega)⟩
 · injection hv with h1 h2 h3
   subst h1 h2 h3
   refine ⟨rfl, hl, fun hn => ⟨g, 0, rfl, (hlt g rfl).2, fun i hi => ?_⟩⟩
   have e0 : (strs r)[i]? = some (.string (r.getD i ByteArray.empty)) := by simp [strs, List.getD, show i < r.length by omega]
   rw [← ht, List.getElem?_take, if_pos (by omega), Array.getElem?_toList] at e0
   rw [Nat.zero_add, cell_of_row w g _ cur _ _ hh]
   exact e0
theorem info_str : (Tryd.prog.info? 9).map (fun i => (i.zero, i.size, i.bytes)) = some (some (.string ⟨#[]⟩), 1, 16) := by kernel_rfl
theorem new_str (w : World) (t : TypeId) (x : ByteArray) : ∀ j u, (strs [x])[j]? = some u → (w.alloc (.cells #[.string x] t)).cell? ((⟨w.heap.size, 0, none⟩ : Addr).add j) = some u :=
 World.news_of_block (heap_alloc_new w (.cells #[.string x] t))
end Go.Proofs.YtmhmlhlplfkpaaaDoor
