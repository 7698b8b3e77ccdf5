/-
 What slots.place, Has, With, Without, the document's Has, and math/bits.OnesCount64, TrailingZeros64 answer. Conditions: the words have 64 bits; TrailingZeros64: its table is laid.
-/
import Derived.Test.YtmhmlhlplfkpaaaDoorBM
import Derived.Test.YtmhmlhlplfkpaaaDoorSlM
import Derived.Laws.Bits64b
import Derived.Shelf.Spec.TrailingZeros
import Derived.Handy
import Derived.ChangeKeysEq
import Derived.RangeFuncNested
import Derived.RangeFuncBound
import Derived.RangeFuncCalls
import Derived.RangeFuncLeaves
import Derived.Shelf.Abstract
import Derived.Shelf.RegionOpen
import Derived.OwnWalkIn
import Derived.TacticsInMore
import Derived.LoopNIn
import Derived.LoopIn
set_option maxRecDepth 100000
namespace Go.Proofs.YtmhmlhlplfkpaaaDoor
open Go.RowKit
end Go.Proofs.YtmhmlhlplfkpaaaDoor
namespace Go.Proofs
open Go.Shelf
end Go.Proofs
namespace Go.Proofs.YtmhmlhlplfkpaaaDoor
open Go.RowKit
theorem parts {n : Int} (h0 : 0 ≤ n) (h1 : n < 256) : ∃ q r k : Nat, q < 4 ∧ r < 64 ∧ ((64 * q + r : Nat) : Int) = n ∧ 2 ^ r = k :=
 ⟨n.toNat / 64, n.toNat % 64, _, by omega, by omega, by omega, rfl⟩
end Go.Proofs.YtmhmlhlplfkpaaaDoor
namespace Go.Proofs.YtmhmlhlplfkpaaaDoor
open Go.RowKit
theorem cells_u64 : Tryd.prog.cellsOf 90 = 1 := by kernel_rfl
end Go.Proofs.YtmhmlhlplfkpaaaDoor
namespace Go.Proofs.YtmhmlhlplfkpaaaDoor
open Go.RowKit
def SetAt (w : World) (g : Nat) (s : Sl.Four) : Prop := w.heap[g]? = some (.cells #[.int .u64 (s.a : Int), .int .u64 (s.b : Int), .int .u64 (s.c : Int), .int .u64 (s.d : Int)] 120 (0, 0))
theorem SetAt.lt {w : World} {g : Nat} {s : Sl.Four} (h : SetAt w g s) : g < w.heap.size := by
 apply Nat.lt_of_not_le
 intro hle
 unfold SetAt at h
 rw [Array.getElem?_eq_none hle] at h
 cases h
theorem SetAt.new (w : World) (s : Sl.Four) : SetAt (w.alloc (.cells #[.int .u64 (s.a : Int), .int .u64 (s.b : Int), .int .u64 (s.c : Int), .int .u64 (s.d : Int)] 120)) w.heap.size s := heap_alloc_new w _
theorem SetAt.alloc {w : World} {g : Nat} {s : Sl.Four} (h : SetAt w g s) (o : Obj) : SetAt (w.alloc o) g s := (Below.heap_alloc w o g h.lt).trans h
theorem SetAt.below {w w' : World} {g B : Nat} {s : Sl.Four} (h : SetAt w g s) (hb : Below B w w') (hg : g < B) : SetAt w' g s := (hb.block g hg).trans h
theorem SetAt.far {w : World} {g : Nat} {s : Sl.Four} (h : SetAt w g s) {p : Addr} (hp : g ≠ p.block) (u : Value) : SetAt (w.setCell p u) g s := (Below.heap_setCell w p u g hp).trans h
theorem SetAt.store {w : World} {g : Nat} {s : Sl.Four} (h : SetAt w g s) (t : Sl.Four) :
   SetAt ((((w.setCell ⟨g, 0, none⟩ (.int .u64 (t.a : Int))).setCell ⟨g, 1, none⟩ (.int .u64 (t.b : Int))).setCell ⟨g, 2, none⟩ (.int .u64 (t.c : Int))).setCell ⟨g, 3, none⟩ (.int .u64 (t.d : Int))) g t := by
 unfold SetAt at h ⊢
 simp [World.setCell, Array.getElem?_modify, h]
end Go.Proofs.YtmhmlhlplfkpaaaDoor
namespace Go.Proofs.YtmhmlhlplfkpaaaDoor
open Go.RowKit
theorem below_store {B : Nat} {w w1 : World} (hb : Below B w w1) {g : Nat} (hg : B ≤ g) (a b c d : Value) :
   Below B w ((((w1.setCell ⟨g, 0, none⟩ a).setCell ⟨g, 1, none⟩ b).setCell ⟨g, 2, none⟩ c).setCell ⟨g, 3, none⟩ d) :=
 (((hb.setCell (p := ⟨g, 0, none⟩) hg _).setCell (p := ⟨g, 1, none⟩) hg _).setCell (p := ⟨g, 2, none⟩) hg _).setCell (p := ⟨g, 3, none⟩) hg _
theorem SetAt.far4 {w : World} {g g' : Nat} {s : Sl.Four} (h : SetAt w g s) (hne : g ≠ g') (a b c d : Value) :
   SetAt ((((w.setCell ⟨g', 0, none⟩ a).setCell ⟨g', 1, none⟩ b).setCell ⟨g', 2, none⟩ c).setCell ⟨g', 3, none⟩ d) g s :=
 (((h.far (p := ⟨g', 0, none⟩) hne _).far (p := ⟨g', 1, none⟩) hne _).far (p := ⟨g', 2, none⟩) hne _).far (p := ⟨g', 3, none⟩) hne _
def Gath (w : World) (g : Nat) (s : Sl.Four) (wr : World) : Prop := SetAt wr (g + 1) s ∧ SetAt wr g Sl.no ∧ Below w.heap.size w wr
theorem Gath.step {w wr w1 : World} {g : Nat} {s : Sl.Four} (h : Gath w g s wr) (hg : w.heap.size ≤ g) (hbl : Below wr.heap.size wr w1) (t : Sl.Four) :
   Gath w g t ((((w1.setCell ⟨g + 1, 0, none⟩ (.int .u64 (t.a : Int))).setCell ⟨g + 1, 1, none⟩ (.int .u64 (t.b : Int))).setCell ⟨g + 1, 2, none⟩ (.int .u64 (t.c : Int))).setCell ⟨g + 1, 3, none⟩ (.int .u64 (t.d : Int))) := by
 obtain ⟨h1, h2, h3⟩ := h
 exact ⟨(h1.below hbl h1.lt).store t, (h2.below hbl h2.lt).far4 (by omega) _ _ _ _, below_store (h3.trans (hbl.mono h3.size)) (by omega) _ _ _ _⟩
theorem Gath.start (w : World) : Gath w w.heap.size Sl.no ((w.alloc (.cells #[.int .u64 0, .int .u64 0, .int .u64 0, .int .u64 0] 120)).alloc (.cells #[.int .u64 0, .int .u64 0, .int .u64 0, .int .u64 0] 120)) := by
 have h := SetAt.new (w.alloc (.cells #[.int .u64 0, .int .u64 0, .int .u64 0, .int .u64 0] 120)) Sl.no
 rw [World.size_alloc] at h
 exact ⟨h, (SetAt.new w Sl.no).alloc _, ((Below.refl _ _).alloc (Nat.le_refl _) _).alloc (by simp) _⟩
theorem SetAt.put {w : World} {g : Nat} {s : Sl.Four} (h : SetAt w g s) (q x : Nat) (hq : q < 4) : SetAt (w.setCell ⟨g, q, none⟩ (.int .u64 (x : Int))) g (s.put q x) := by
 unfold SetAt at h ⊢
 obtain rfl | rfl | rfl | rfl : q = 0 ∨ q = 1 ∨ q = 2 ∨ q = 3 := by omega
 all_goals simp [World.setCell, Array.getElem?_modify, h, Sl.Four.put]
theorem Gath.put {w wr w1 : World} {g : Nat} {s : Sl.Four} (h : Gath w g s wr) (hg : w.heap.size ≤ g) (hbl : Below wr.heap.size wr w1) (q x : Nat) (hq : q < 4) {i : Int} (hi : i = (x : Int)) :
   Gath w g (s.put q x) (w1.setCell ⟨g + 1, q, none⟩ (.int .u64 i)) := by
 subst hi
 obtain ⟨h1, h2, h3⟩ := h
 exact ⟨(h1.below hbl h1.lt).put q x hq, (h2.below hbl h2.lt).far (p := ⟨g + 1, q, none⟩) (by simp) _, (h3.trans (hbl.mono h3.size)).setCell (p := ⟨g + 1, q, none⟩) (by simp; omega) _⟩
theorem Gath.kept {w wr w1 : World} {g : Nat} {s : Sl.Four} (h : Gath w g s wr) (hbl : Below wr.heap.size wr w1) : Gath w g s w1 := by
 obtain ⟨h1, h2, h3⟩ := h
 exact ⟨h1.below hbl h1.lt, h2.below hbl h2.lt, h3.trans (hbl.mono h3.size)⟩
end Go.Proofs.YtmhmlhlplfkpaaaDoor
namespace Go.Proofs.YtmhmlhlplfkpaaaDoor
open Go.RowKit
def Coll (w : World) (g : Nat) (s : Sl.Four) (out : Value) (l : List Int) (wr : World) : Prop :=
 wr.ownsRow (g + 1) 3 1 out l.length (vs l) ∧ SetAt wr g s ∧ Below w.heap.size w wr
theorem Coll.kept {w wr w1 : World} {g : Nat} {s : Sl.Four} {out : Value} {l : List Int} (h : Coll w g s out l wr) (hb : Below wr.heap.size wr w1) : Coll w g s out l w1 := by
 obtain ⟨h1, h2, h3⟩ := h
 exact ⟨ownsRow_below h1 hb, h2.below hb h2.lt, h3.trans (hb.mono h3.size)⟩
theorem Coll.step {w wr w2 : World} {g : Nat} {s : Sl.Four} {out : Value} {l : List Int} (h : Coll w g s out l wr) (hg : w.heap.size ≤ g) {x : Int} {o : Obj} {ga cap : Nat}
   (hown : w2.ownsRow (g + 1) 3 1 (.slice (some ⟨ga, 0, none⟩) (l.length + 1) cap) (l.length + 1) (vs l ++ vs [x])) (hgr : (wr.alloc o).grownBy w2 out.ownBlock) :
   Coll w g s (.slice (some ⟨ga, 0, none⟩) (l.length + 1) cap) (l ++ [x]) w2 := by
 obtain ⟨h1, h2, h3⟩ := h
 have hlt := h1.lt
 have hs := h2.lt
 have hne : some g ≠ out.ownBlock := fun e => by have := (hlt g e.symm).1; omega
 refine ⟨by rw [List.length_append, vs_append]; exact hown, ?_, ?_⟩
 · have := hgr.block g (by simp; omega) hne
   exact this.trans ((Below.heap_alloc wr o g hs).trans h2)
 · exact (h3.alloc h3.size o).grown hgr (by have := h3.size; simp; omega) (fun k hk => by have := (hlt k hk).1; omega)
end Go.Proofs.YtmhmlhlplfkpaaaDoor
namespace Go.Proofs.YtmhmlhlplfkpaaaDoor
open Go.RowKit Go.Shelf
attribute [local go_sem] Oper.semAt_some
def Sl.Four.upto (s : Sl.Four) : Nat → List Int
 | 0 => []
 | q + 1 => s.upto q ++ Sl.at_ q (s.word q)
end Go.Proofs.YtmhmlhlplfkpaaaDoor
namespace Go.Proofs.YtmhmlhlplfkpaaaDoor
open Go.RowKit Go.Shelf
attribute [local go_sem] Oper.semAt_some
end Go.Proofs.YtmhmlhlplfkpaaaDoor
