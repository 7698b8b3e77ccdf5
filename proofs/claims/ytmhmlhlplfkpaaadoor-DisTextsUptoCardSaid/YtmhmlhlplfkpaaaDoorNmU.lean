/-
 Names in memory; what slices.Index, names.Find and the document's Find answer; the document's Unlike. Conditions: none but that the names can be read.
-/
import Derived.Test.YtmhmlhlplfkpaaaDoorNmA
namespace Go.Proofs.YtmhmlhlplfkpaaaDoor
open Go.RowKit
def NamesAt (w : World) (B : Nat) (a : Option Addr) (n : Nat) (l : List ByteArray) : Prop :=
 l.length = n ∧ (0 < n → ∃ b off, a = some ⟨b, off, none⟩ ∧ b < B ∧ ∀ i, i < n → w.cell? ⟨b, off + i, none⟩ = some (.string (l.getD i ByteArray.empty)))
theorem NamesAt.below {w w' : World} {B : Nat} {a : Option Addr} {n : Nat} {l : List ByteArray} (h : NamesAt w B a n l) (hb : Below B w w') : NamesAt w' B a n l := by
 refine ⟨h.1, fun hn => ?_⟩
 obtain ⟨b, off, e, hlt, hc⟩ := h.2 hn
 exact ⟨b, off, e, hlt, fun i hi => (hb.cell (p := ⟨b, off + i, none⟩) hlt).trans (hc i hi)⟩
theorem NamesAt.more {w : World} {B B' : Nat} {a : Option Addr} {n : Nat} {l : List ByteArray} (h : NamesAt w B a n l) (hb : B ≤ B') : NamesAt w B' a n l := by
 refine ⟨h.1, fun hn => ?_⟩
 obtain ⟨b, off, e, hlt, hc⟩ := h.2 hn
 exact ⟨b, off, e, by omega, hc⟩
namespace Nm
def find (zs : List ByteArray) (x : ByteArray) : Int := Lib.idxOfS zs x
end Nm
end Go.Proofs.YtmhmlhlplfkpaaaDoor
