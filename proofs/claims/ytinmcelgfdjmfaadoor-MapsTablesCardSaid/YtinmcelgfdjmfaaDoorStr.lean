/-
  Bytes of a slice as a string: what the conversion gives in any world in which the slice's block is as it was. Conditions: the bytes can be read.
-/
import Derived.Test.YtinmcelgfdjmfaaDoorInts
import Derived.Laws.BytesArg
import Derived.Laws.Concat
namespace Go.Proofs.YtinmcelgfdjmfaaDoor
open Go.RowKit

/-- Block g of bytes holds cur, none of it frozen. -/
def Has (w : World) (g : Nat) (cur : Array Value) : Prop := w.heap[g]? = some (.cells cur 5 (0, 0))

set_option maxRecDepth 100000 in
theorem Has.new (w : World) (cur : Array Value) : Has (w.alloc (.cells cur 5)) w.heap.size cur := heap_alloc_new w _
theorem Has.alloc {w : World} {g : Nat} {cur : Array Value} (h : Has w g cur) (o : Obj) : Has (w.alloc o) g cur := by
  have hlt : g < w.heap.size := by
    rcases Nat.lt_or_ge g w.heap.size with h1 | h1
    · exact h1
    · unfold Has at h; rw [Array.getElem?_eq_none h1] at h; cases h
  exact (Below.heap_alloc w o g hlt).trans h
theorem Has.drew {w : World} {g : Nat} {cur : Array Value} (h : Has w g cur) : Has w.drew g cur := h
theorem Has.drewN {w : World} {g : Nat} {cur : Array Value} (h : Has w g cur) (k : Nat) : Has (w.drewN k) g cur := h
theorem Has.lt {w : World} {g : Nat} {cur : Array Value} (h : Has w g cur) : g < w.heap.size := by
  rcases Nat.lt_or_ge g w.heap.size with h1 | h1
  · exact h1
  · unfold Has at h; rw [Array.getElem?_eq_none h1] at h; cases h
theorem Has.below {w w' : World} {B g : Nat} {cur : Array Value} (h : Has w g cur) (hb : Below B w w') (hg : g < B) : Has w' g cur := (hb.block g hg).trans h

theorem Has.grown {w w' : World} {g : Nat} {cur : Array Value} (h : Has w g cur) (hg : w.grownBy w' (Value.ownBlock (.slice none 0 0))) : Has w' g cur := (hg.block g h.lt (by simp [Value.ownBlock])).trans h

/-- Bytes as a string. -/
def str (l : List Nat) : ByteArray := ⟨(l.map UInt8.ofNat).toArray⟩

theorem str_size (l : List Nat) : (str l).size = l.length := by simp [str, ByteArray.size]
theorem str_append (a b : List Nat) : str a ++ str b = str (a ++ b) := by
  apply ByteArray.ext
  simp [str]

set_option maxRecDepth 100000 in
/-- A block's first cells are the bytes l: the conversion gives them. -/
theorem conv_of_cells {w : World} {b off n cap : Nat} {l : List Nat} (hl : l.length = n) (hc : ∀ i, i < n → w.cell? ⟨b, off + i, none⟩ = some (.int .u8 ((l.getD i 0 : Nat) : Int))) :
    (convert 31 9 (.slice (some ⟨b, off, none⟩) n cap)).run Tryd.prog w = .ok (.string (str l)) w := by
  have h := run_convert_bytes_arg (P := Tryd.prog) w 31 5 Tryd.underlying31 Tryd.underlying5 b off n cap (l.map fun c : Nat => (c : Int)) (by simpa using hl) (fun i hi => by
    rw [hc i hi]
    have : i < l.length := by omega
    simp [List.getD, this]) 9 Tryd.underlying9
  have e : strOfNums (l.map fun c : Nat => (c : Int)) = str l := by
    apply ByteArray.ext
    simp [strOfNums, str]
  exact h.trans (by rw [e])

set_option maxRecDepth 100000 in
theorem conv_nil (w : World) : (convert 31 9 (.slice none 0 0)).run Tryd.prog w = .ok (.string (str [])) w :=
  run_convert_bytes_nil (P := Tryd.prog) w 31 5 Tryd.underlying31 Tryd.underlying5 0 0 9 Tryd.underlying9

set_option maxRecDepth 100000 in
theorem cells_of_take {w : World} {g n : Nat} {cur : Array Value} {l : List Nat} (hg : Has w g cur) (hl : l.length = n) (ht : cur.toList.take n = bs l) :
    ∀ i, i < n → w.cell? ⟨g, 0 + i, none⟩ = some (.int .u8 ((l.getD i 0 : Nat) : Int)) := by
  intro i hi
  have h1 : (cur.toList.take n)[i]? = some (.int .u8 ((l.getD i 0 : Nat) : Int)) := by
    have : i < l.length := by omega
    rw [ht]
    simp [bs, List.getD, this]
  rw [List.getElem?_take, if_pos hi] at h1
  rw [Nat.zero_add, cell_of_row w g i cur 5 (0, 0) hg]
  simpa using h1

set_option maxRecDepth 100000 in
/-- What is owned, written out: its block, and what the conversion gives wherever that block is as it was. -/
theorem own_str {w : World} {base n : Nat} {v : Value} {l : List Nat} (h : w.ownsRow base 5 1 v n (bs l)) (hn : 0 < n) :
    ∃ g cap cur, v = .slice (some ⟨g, 0, none⟩) n cap ∧ base ≤ g ∧ n ≤ cap ∧ Has w g cur ∧ l.length = n ∧ cur.toList.take n = bs l := by
  have hl : l.length = n := by have := h.1; rw [bs_length] at this; omega
  rcases h.2 with ⟨_, h0⟩ | ⟨g, cap, cur, rfl, hb, hg, hnc, _, _, ht⟩
  · omega
  · exact ⟨g, cap, cur, rfl, hb, hnc, hg, hl, by simpa using ht⟩

set_option maxRecDepth 100000 in
theorem conv_own {w : World} {g n cap : Nat} {cur : Array Value} {l : List Nat} (hg : Has w g cur) (hl : l.length = n) (ht : cur.toList.take n = bs l) :
    (convert 31 9 (.slice (some ⟨g, 0, none⟩) n cap)).run Tryd.prog w = .ok (.string (str l)) w :=
  conv_of_cells hl (cells_of_take hg hl ht)

theorem bytesAt_own {w : World} {g n : Nat} {cur : Array Value} {l : List Nat} (hg : Has w g cur) (hl : l.length = n) (ht : cur.toList.take n = bs l) (hb : ∀ c ∈ l, c < 256) :
    BytesAt w w.heap.size (some ⟨g, 0, none⟩) n l := ⟨hl, hb, fun _ => ⟨g, 0, rfl, hg.lt, cells_of_take hg hl ht⟩⟩

end Go.Proofs.YtinmcelgfdjmfaaDoor
