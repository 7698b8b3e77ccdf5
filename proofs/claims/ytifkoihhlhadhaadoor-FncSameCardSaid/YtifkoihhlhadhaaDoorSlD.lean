/-
  What slots.Of, Range and the document's Of, Range answer. Conditions: the row can be read.
-/
import Derived.Test.YtifkoihhlhadhaaDoorSlAA
namespace Go.Proofs.YtifkoihhlhadhaaDoor
open Go.RowKit

theorem below_store {B : Nat} {w w1 : World} (hb : Below B w w1) {g : Nat} (hg : B ≤ g) (a b c d : Value) :
    Below B w ((((w1.setCell ⟨g, 0, none⟩ a).setCell ⟨g, 1, none⟩ b).setCell ⟨g, 2, none⟩ c).setCell ⟨g, 3, none⟩ d) :=
  (((hb.setCell (p := ⟨g, 0, none⟩) hg _).setCell (p := ⟨g, 1, none⟩) hg _).setCell (p := ⟨g, 2, none⟩) hg _).setCell (p := ⟨g, 3, none⟩) hg _
theorem SetAt.far4 {w : World} {g g' : Nat} {s : Sl.Four} (h : SetAt w g s) (hne : g ≠ g') (a b c d : Value) :
    SetAt ((((w.setCell ⟨g', 0, none⟩ a).setCell ⟨g', 1, none⟩ b).setCell ⟨g', 2, none⟩ c).setCell ⟨g', 3, none⟩ d) g s :=
  (((h.far (p := ⟨g', 0, none⟩) hne _).far (p := ⟨g', 1, none⟩) hne _).far (p := ⟨g', 2, none⟩) hne _).far (p := ⟨g', 3, none⟩) hne _

/-- What a loop that gathers a set at block g holds: s is gathered, the result's block is empty, nothing below has turned. -/
def Gath (w : World) (g : Nat) (s : Sl.Four) (wr : World) : Prop := SetAt wr (g + 1) s ∧ SetAt wr g Sl.no ∧ Below w.heap.size w wr
theorem Gath.step {w wr w1 : World} {g : Nat} {s : Sl.Four} (h : Gath w g s wr) (hg : w.heap.size ≤ g) (hbl : Below wr.heap.size wr w1) (t : Sl.Four) :
    Gath w g t ((((w1.setCell ⟨g + 1, 0, none⟩ (.int .u64 (t.a : Int))).setCell ⟨g + 1, 1, none⟩ (.int .u64 (t.b : Int))).setCell ⟨g + 1, 2, none⟩ (.int .u64 (t.c : Int))).setCell ⟨g + 1, 3, none⟩ (.int .u64 (t.d : Int))) := by
  obtain ⟨h1, h2, h3⟩ := h
  exact ⟨(h1.below hbl h1.lt).store t, (h2.below hbl h2.lt).far4 (by omega) _ _ _ _, below_store (h3.trans (hbl.mono h3.size)) (by omega) _ _ _ _⟩

set_option maxRecDepth 100000 in
theorem Gath.start (w : World) : Gath w w.heap.size Sl.no ((w.alloc (.cells #[.int .u64 0, .int .u64 0, .int .u64 0, .int .u64 0] 46)).alloc (.cells #[.int .u64 0, .int .u64 0, .int .u64 0, .int .u64 0] 46)) := by
  have h := SetAt.new (w.alloc (.cells #[.int .u64 0, .int .u64 0, .int .u64 0, .int .u64 0] 46)) Sl.no
  rw [World.size_alloc] at h
  exact ⟨h, (SetAt.new w Sl.no).alloc _, ((Below.refl _ _).alloc (Nat.le_refl _) _).alloc (by simp) _⟩
theorem SetAt.put {w : World} {g : Nat} {s : Sl.Four} (h : SetAt w g s) (q x : Nat) (hq : q < 4) : SetAt (w.setCell ⟨g, q, none⟩ (.int .u64 (x : Int))) g (s.put q x) := by
  unfold SetAt at h ⊢
  obtain rfl | rfl | rfl | rfl : q = 0 ∨ q = 1 ∨ q = 2 ∨ q = 3 := by omega
  all_goals simp [World.setCell, Array.getElem?_modify, h, Sl.Four.put]
theorem Gath.put {w wr w1 : World} {g : Nat} {s : Sl.Four} (h : Gath w g s wr) (hg : w.heap.size ≤ g) (hbl : Below wr.heap.size wr w1) (q x : Nat) (hq : q < 4) {i : Int} (hi : i = (x : Int)) :
    Gath w g (s.put q x) (w1.setCell ⟨g + 1, q, none⟩ (.int .u64 i)) := by
  subst hi
  obtain ⟨h1, h2, h3⟩ := h
  exact ⟨(h1.below hbl h1.lt).put q x hq, (h2.below hbl h2.lt).far (p := ⟨g + 1, q, none⟩) (by simp) _, (h3.trans (hbl.mono h3.size)).setCell (p := ⟨g + 1, q, none⟩) (by simp; omega) _⟩
theorem Gath.kept {w wr w1 : World} {g : Nat} {s : Sl.Four} (h : Gath w g s wr) (hbl : Below wr.heap.size wr w1) : Gath w g s w1 := by
  obtain ⟨h1, h2, h3⟩ := h
  exact ⟨h1.below hbl h1.lt, h2.below hbl h2.lt, h3.trans (hbl.mono h3.size)⟩

def OfRel (w : World) (n : Nat) (l : List Int) (i : Value) (wr : World) : Prop :=
  ∃ k : Nat, k ≤ n ∧ i = .int .i64 k ∧ Gath w w.heap.size (Sl.of (l.take k)) wr

/-- A word with a bit that it has not, added. -/
theorem add_word {x r : Nat} (hx : x < 18446744073709551616) (hr : r < 64) (h : x.testBit r = false) : IntKind.u64.wrap ((x : Int) + IntKind.u64.wrap (2 ^ r)) = ((x + 2 ^ r : Nat) : Int) := by
  have e := Sl.add_bit hr hx h
  have hb := Sl.bit_lt hr
  have hl := Sl.or_lt hx hb
  rw [← e] at hl
  rw [IntKind.wrap_u64, IntKind.wrap_u64, show ((2 : Int) ^ r) = ((2 ^ r : Nat) : Int) by simp]
  generalize 2 ^ r = k at *
  omega

end Go.Proofs.YtifkoihhlhadhaaDoor
