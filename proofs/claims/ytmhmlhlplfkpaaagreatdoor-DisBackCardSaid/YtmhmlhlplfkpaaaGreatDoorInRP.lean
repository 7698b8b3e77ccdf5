/-
 What instr.Put and the document's Put lay. Conditions: an operand of its type; the slice is the caller's own; lengths within the reach.
-/
import Derived.Test.YtmhmlhlplfkpaaaGreatDoorInBB
import Derived.Test.YtmhmlhlplfkpaaaGreatDoorInR
import Derived.Test.YtmhmlhlplfkpaaaGreatDoorUv
import Derived.Lib.ConvBytes
namespace Go.Proofs.YtmhmlhlplfkpaaaGreatDoor
open Go.RowKit
namespace In
def bytes (op a : Int) : List Nat := if right op a then op.toNat :: (if numbered op then Uv.put (Uv.fold a) else []) else []
end In
end Go.Proofs.YtmhmlhlplfkpaaaGreatDoor
namespace Go.Proofs.YtmhmlhlplfkpaaaGreatDoor
open Go.RowKit
def nats (s : ByteArray) : List Nat := s.data.toList.map UInt8.toNat
def Lies (w0 : World) (l : List Nat) (u : Value) (W : World) : Prop := W.ownsRow w0.heap.size 5 1 u l.length (bs l) ∧ Below w0.heap.size w0 W
theorem Lies.nil (w0 : World) : Lies w0 [] (.slice none 0 0) w0 := ⟨World.ownsRow_nil _ _ _ _, Below.refl _ _⟩
theorem Lies.put {w0 W W' : World} {l m : List Nat} {u v : Value} (h : Lies w0 l u W) (k : OwnInv w0.heap.size W u v (l.length + m.length) (bs l ++ bs m) W') : Lies w0 (l ++ m) v W' := by
 refine ⟨?_, h.2.trans (k.below h.1 h.2.size)⟩
 rw [List.length_append, bs_append]
 exact k.1
theorem Lies.bytes {w0 W : World} {l : List Nat} {u : Value} (h : Lies w0 l u W) (hb : ∀ c ∈ l, c < 256) : ∃ A c, u = .slice A l.length c ∧ BytesAt W W.heap.size A l.length l := by
 rcases h.1.2 with ⟨rfl, h0⟩ | ⟨g, cap, cur, rfl, _, hg, _, _, _, ht⟩
 · have : l = [] := List.eq_nil_of_length_eq_zero (by simpa using h0)
   subst this
   exact ⟨none, 0, rfl, rfl, by simp, by simp⟩
 · exact ⟨_, cap, rfl, bytesAt_own (cur := cur) hg rfl (by simpa using ht) hb⟩
end Go.Proofs.YtmhmlhlplfkpaaaGreatDoor
namespace Go.Proofs.YtmhmlhlplfkpaaaGreatDoor
end Go.Proofs.YtmhmlhlplfkpaaaGreatDoor
namespace Go.Proofs.YtmhmlhlplfkpaaaGreatDoor.Fn
def F.mark (f : F) : Nat := (if f.inner then 1 else 0) + (if f.bare then 0 else 2)
def codes (l : List (Int × Int)) : List Nat := l.flatMap fun p => In.bytes p.1 p.2
def F.l2 (f : F) : List Nat := (Uv.put f.name.size ++ nats f.name) ++ [f.mark]
def F.l3 (f : F) : List Nat := f.l2 ++ (if f.inner then Si.bytes f.outer else [])
def F.l4 (f : F) : List Nat := f.l3 ++ Si.bytes f.params
def F.l5 (f : F) : List Nat := f.l4 ++ Si.bytes f.results
def F.l6 (f : F) : List Nat := f.l5 ++ Si.bytes f.locals
def F.l7 (f : F) : List Nat := f.l6 ++ Uv.put f.code.length
def F.l8 (f : F) : List Nat := f.l7 ++ codes f.code
def F.l9 (f : F) : List Nat := f.l8 ++ Ru.laid (Ru.of f.lines)
def F.l10 (f : F) : List Nat := f.l9 ++ Tr.bytes f.nodes
def F.l11 (f : F) : List Nat := f.l10 ++ Ru.laid (Ru.of f.at_)
def F.l12 (f : F) : List Nat := f.l11 ++ Mp.bytes f.live
def F.laid (f : F) : List Nat := if f.bare then f.l9 else f.l12
def F.bytes (f : F) : List Nat := if f.can = 0 then f.laid else []
variable {f : F}
theorem can_len (h : f.can = 0) : f.name.size ≤ 12 ∧ f.outer.length ≤ 4 ∧ f.params.length ≤ 8 ∧ f.results.length ≤ 4 ∧ f.locals.length ≤ 256 ∧ f.slots ≤ 256 ∧ 1 ≤ f.code.length ∧ f.code.length ≤ 2000 ∧ f.lines.length = f.code.length ∧ (f.bare = false → f.nodes.length ≤ 120 ∧ f.at_.length = f.code.length ∧ f.live.length = f.code.length) := by
 obtain ⟨h1, h2, h3, h4, h5, h6⟩ := can_ok.1 h
 have t := typed_len h2
 unfold Nm.may at h1
 unfold F.fits at h3
 unfold F.lined at h5
 simp only [Bool.and_eq_true, decide_eq_true_eq] at h1 h3 h5
 refine ⟨h1.1.1.2, t.1, t.2.1, t.2.2.1, t.2.2.2, h3.1, h3.2.1, h3.2.2, h5.1, fun hb => ?_⟩
 rcases h6 with h6 | h6
 · rw [h6] at hb; cases hb
 · unfold F.mapped at h6
   simp only [Bool.and_eq_true, decide_eq_true_eq] at h6
   exact ⟨(Tr.right_run h6.1).2.1, h6.2.1, h6.2.2.1⟩
end Go.Proofs.YtmhmlhlplfkpaaaGreatDoor.Fn
