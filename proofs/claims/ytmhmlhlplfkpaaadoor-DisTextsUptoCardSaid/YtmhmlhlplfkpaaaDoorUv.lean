/-
 The contracts of bits.Len64 and slices.Grow (of bytes) laid at this translation, in plain words. Conditions: none.
-/
import Derived.Shelf.Strconv.Itoa0
import Derived.Shelf.Spec.SlicesGrow
import Derived.Laws.BitsAllLaws
import Derived.Laws.BitsLemmas
import Derived.Laws.Bits64
import Derived.Test.YtmhmlhlplfkpaaaDoorBM
import Derived.OwnWalk
import Derived.Laws.BytesArg
import Derived.Laws.Concat
set_option maxRecDepth 100000
namespace Go.Proofs
open Go.Shelf
end Go.Proofs
namespace Go.Proofs.YtmhmlhlplfkpaaaDoor
end Go.Proofs.YtmhmlhlplfkpaaaDoor
namespace Go.Proofs.YtmhmlhlplfkpaaaDoor
open Go.RowKit
end Go.Proofs.YtmhmlhlplfkpaaaDoor
namespace Go.Proofs.YtmhmlhlplfkpaaaDoor
open Go.RowKit
theorem info_u8 : (Tryd.prog.info? 5).map (fun i => (i.zero, i.size, i.bytes)) = some (some (.int .u8 0), 1, 1) := by kernel_rfl
def OwnInv (base : Nat) (w : World) (v u : Value) (l : Nat) (xs : List Value) (w' : World) : Prop :=
 w'.ownsRow base 5 1 u l xs ∧ w.grownBy w' v.ownBlock ∧ (u.ownBlock = v.ownBlock ∨ ∃ g, u.ownBlock = some g ∧ w.heap.size ≤ g)
theorem OwnInv.step {base : Nat} {w : World} {v u : Value} {l l' : Nat} {xs xs' : List Value} {wr w1 : World} (h : OwnInv base w v u l xs wr) (o : Obj) {g cap : Nat}
   (hown : w1.ownsRow base 5 1 (.slice (some ⟨g, 0, none⟩) l' cap) l' xs') (hg : (wr.alloc o).grownBy w1 u.ownBlock) (hat : u.ownBlock = some g ∨ g = wr.heap.size + 1) :
   OwnInv base w v (.slice (some ⟨g, 0, none⟩) l' cap) l' xs' w1 := by
 obtain ⟨h1, h2, h3⟩ := h
 refine ⟨hown, ⟨hg.os.trans h2.os, hg.tape.trans h2.tape, hg.output.trans h2.output, ?_, ?_⟩, ?_⟩
 · have := hg.size
   have := h2.size
   simp at *
   omega
 · intro k hk hne
   have hs := h2.size
   have e1 := hg.block k (by simp; omega) (by
     rcases h3 with h3 | ⟨g', h3, hg'⟩
     · rw [h3]; exact hne
     · rw [h3]; intro e; injection e with e; omega)
   rw [e1, Below.heap_alloc wr o k (by omega), h2.block k hk hne]
 · rcases hat with hat | hat
   · rcases h3 with h3 | ⟨g', h3, hg'⟩
     · left
       show some g = _
       rw [← h3, hat]
     · right
       refine ⟨g, rfl, ?_⟩
       rw [h3] at hat
       injection hat with hat
       omega
   · right
     have := h2.size
     exact ⟨g, rfl, by omega⟩
theorem OwnInv.refl {base : Nat} {w : World} {v : Value} {l : Nat} {xs : List Value} (h : w.ownsRow base 5 1 v l xs) : OwnInv base w v v l xs w := ⟨h, World.grownBy.refl _ _, .inl rfl⟩
theorem OwnInv.below {base : Nat} {w w' : World} {v u : Value} {l l' : Nat} {xs xs' : List Value} (h : OwnInv base w v u l xs w') (h0 : w.ownsRow base 5 1 v l' xs') (hb : base ≤ w.heap.size) : Below base w w' :=
 (Below.refl _ _).grown h.2.1 hb (fun k hk => (h0.lt k hk).1)
end Go.Proofs.YtmhmlhlplfkpaaaDoor
namespace Go.Proofs.YtmhmlhlplfkpaaaDoor
open Go.RowKit
def bs (l : List Nat) : List Value := l.map fun c : Nat => Value.int .u8 (c : Int)
end Go.Proofs.YtmhmlhlplfkpaaaDoor
namespace Go.Proofs.YtmhmlhlplfkpaaaDoor
open Go.RowKit
end Go.Proofs.YtmhmlhlplfkpaaaDoor
namespace Go.Proofs.YtmhmlhlplfkpaaaDoor
open Go.RowKit
end Go.Proofs.YtmhmlhlplfkpaaaDoor
namespace Go.Proofs.YtmhmlhlplfkpaaaDoor
open Go.RowKit
def Has (w : World) (g : Nat) (cur : Array Value) : Prop := w.heap[g]? = some (.cells cur 5 (0, 0))
theorem Has.new (w : World) (cur : Array Value) : Has (w.alloc (.cells cur 5)) w.heap.size cur := heap_alloc_new w _
theorem Has.alloc {w : World} {g : Nat} {cur : Array Value} (h : Has w g cur) (o : Obj) : Has (w.alloc o) g cur := by
 have hlt : g < w.heap.size := by
   rcases Nat.lt_or_ge g w.heap.size with h1 | h1
   · exact h1
   · unfold Has at h; rw [Array.getElem?_eq_none h1] at h; cases h
 exact (Below.heap_alloc w o g hlt).trans h
theorem Has.drew {w : World} {g : Nat} {cur : Array Value} (h : Has w g cur) : Has w.drew g cur := h
theorem Has.drewN {w : World} {g : Nat} {cur : Array Value} (h : Has w g cur) (k : Nat) : Has (w.drewN k) g cur := h
theorem Has.lt {w : World} {g : Nat} {cur : Array Value} (h : Has w g cur) : g < w.heap.size := by
 rcases Nat.lt_or_ge g w.heap.size with h1 | h1
 · exact h1
 · unfold Has at h; rw [Array.getElem?_eq_none h1] at h; cases h
theorem Has.below {w w' : World} {B g : Nat} {cur : Array Value} (h : Has w g cur) (hb : Below B w w') (hg : g < B) : Has w' g cur := (hb.block g hg).trans h
theorem Has.grown {w w' : World} {g : Nat} {cur : Array Value} (h : Has w g cur) (hg : w.grownBy w' (Value.ownBlock (.slice none 0 0))) : Has w' g cur := (hg.block g h.lt (by simp [Value.ownBlock])).trans h
def str (l : List Nat) : ByteArray := ⟨(l.map UInt8.ofNat).toArray⟩
theorem str_size (l : List Nat) : (str l).size = l.length := by simp [str, ByteArray.size]
theorem str_append (a b : List Nat) : str a ++ str b = str (a ++ b) := by
 apply ByteArray.ext
 simp [str]
end Go.Proofs.YtmhmlhlplfkpaaaDoor
