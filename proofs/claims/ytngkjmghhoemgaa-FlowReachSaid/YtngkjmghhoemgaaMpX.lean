/-
  What maps.At, maps.Inside and the document's At, Inside tell of tables of sets. Conditions: the tables can be read; words of 64 bits.
  What maps.runsOf tells: the runs of alike sets, in new memory. Conditions: the table can be read; at most 2^36 sets.
  What maps.Right and the document's Right tell of tables of sets. Conditions: the tables can be read; words of 64 bits; the table of math/bits is laid.
  A region that draws its order, whose operations only read and whose calls answer one value in every world in which nothing below has turned (they may make memory): walked once, in the order of the text. Conditions: none.
-/
import Derived.Test.YtngkjmghhoemgaaMpMA
import Derived.Test.YtngkjmghhoemgaaSlAA
import Derived.BigQuiet
import Derived.Deep.QuietTactic
import Derived.Deep.DeepMust
import Derived.WalkSmall
import Derived.Test.YtngkjmghhoemgaaBM
namespace Go.Proofs.Ytngkjmghhoemgaa
open Go.RowKit

theorem mp_ok {l : List Sl.Four} (h : ∀ s ∈ l, s.ok) {k : Nat} (hk : k < l.length) : (l.getD k Sl.no).ok := by
  have e : l.getD k Sl.no = l[k] := by simp [List.getD, hk]
  rw [e]
  exact h _ (List.getElem_mem hk)

/-- slices.EqualFunc over slots.Inside: as many, and each inside the other's. -/
def InsRel (n : Nat) (l r : List Sl.Four) (w : World) (i : Value) (wr : World) : Prop :=
  ∃ k : Nat, k ≤ n ∧ i = .int .i64 (k : Int) ∧ Below w.heap.size w wr ∧ ∀ j, j < k → (l.getD j Sl.no).inside (r.getD j Sl.no) = true

end Go.Proofs.Ytngkjmghhoemgaa

namespace Go.Proofs.Ytngkjmghhoemgaa
open Go.RowKit

set_option maxRecDepth 100000 in
/-- Two sets held against each other. -/
theorem eq_sets (s t : Sl.Four) (w : World) : (Op.equalIn 10000 75 (.agg #[.int .u64 (s.a : Int), .int .u64 (s.b : Int), .int .u64 (s.c : Int), .int .u64 (s.d : Int)]) (.agg #[.int .u64 (t.a : Int), .int .u64 (t.b : Int), .int .u64 (t.c : Int), .int .u64 (t.d : Int)])).run Try.prog w = .ok (Mp.same s t) w := by
  rw [eq_four]
  congr 1
  unfold Mp.same
  rw [Bool.eq_iff_iff]
  simp
  omega

/-- Runs are told, in memory of the call's own; nothing below has turned. -/
def MrunsP (r : Mp.Runs) (w : World) (e : Ending) (w' : World) : Prop := ∃ A c, e = .returned (.slice A r.length c) ∧ SetRunsAt w' w'.heap.size A r.length r ∧ r.length ≤ c ∧ Below w.heap.size w w'

end Go.Proofs.Ytngkjmghhoemgaa

namespace Go.Proofs.Ytngkjmghhoemgaa
open Go.RowKit

/-- The number that Right's function has taken with it lies in block p. -/
def MostAt (w : World) (p : Nat) (m : Int) : Prop := w.cell? ⟨p, 0, none⟩ = some (.int .i64 m) ∧ p < w.heap.size
theorem MostAt.below {w w' : World} {p B : Nat} {m : Int} (h : MostAt w p m) (hb : Below B w w') (hp : p < B) : MostAt w' p m := ⟨(hb.cell (p := ⟨p, 0, none⟩) hp).trans h.1, Nat.lt_of_lt_of_le h.2 hb.size⟩
theorem MostAt.on {w w' : World} {p : Nat} {m : Int} (h : MostAt w p m) (hb : Below w.heap.size w w') : MostAt w' p m := h.below hb h.2

/-- Between two rounds: none of the first k has a slot from m on. -/
def MrRel (n : Nat) (m : Int) (l : List Sl.Four) (w : World) (i : Value) (wr : World) : Prop :=
  ∃ k : Nat, k ≤ n ∧ i = .int .i64 (k : Int) ∧ Below w.heap.size w wr ∧ (l.take k).all (·.below m) = true

theorem mp_right_eq {l : List Sl.Four} {m : Int} (ho : ∀ s ∈ l, s.ok) : Mp.right l m = (l.all (·.below m) && decide (l.length ≤ 2000)) := by
  unfold Mp.right
  rw [Bool.eq_iff_iff]
  simp only [Bool.and_eq_true, List.all_eq_true, decide_eq_true_eq]
  constructor
  · rintro ⟨h1, h2⟩
    exact ⟨fun s hs => by rw [Sl.below_eq (ho s hs)]; exact h1 s hs, h2⟩
  · rintro ⟨h1, h2⟩
    exact ⟨fun s hs => by rw [← Sl.below_eq (ho s hs)]; exact h1 s hs, h2⟩

end Go.Proofs.Ytngkjmghhoemgaa

namespace Go.Proofs.Ytngkjmghhoemgaa
open Go.RowKit

/-- The worlds are those that f tells. -/
theorem region_q {P : Program} {K : Type} (f : K → World) {id : Nat} {Q : Exit → Act → World → Prop} {a : Act} {w : World} {l : List Oper} (hC : ∃ n, w.drew = f n) (hm : P.follows .mixedOrders = true) (hB : Region.lexB .any l.toArray = true)
    (h : wpQuiet P l.toArray (fun w' => ∃ n, w' = f n) (fun a' => ∀ w', (∃ n, w' = f n) → Q .normal a' w') l a) : (Code.region id l.toArray true).wp P Q a w :=
  wp_region_quiet (C := fun w' => ∃ n, w' = f n) hm hB hC (by simpa using h)

/-- All worlds in which nothing of w0 has turned. -/
theorem worlds_of (w0 : World) : ∃ (K : Type) (_ : Nonempty K) (f : K → World), Hid (∃ n, w0.drew = f n) ∧ Hid (∀ n, Below w0.heap.size w0 (f n)) ∧ Hid (∀ n W, Below (f n).heap.size (f n) W → ∃ m, W = f m) :=
  ⟨{W : World // Below w0.heap.size w0 W}, ⟨⟨w0, Below.refl _ _⟩⟩, Subtype.val, Lib.hid ⟨⟨w0.drew, (Below.refl _ _).drew⟩, rfl⟩, Lib.hid fun n => n.2, Lib.hid fun n W h => ⟨⟨W, below_self n.2 h⟩, rfl⟩⟩

/-- A call within it. -/
theorem Calls.q {P : Program} {g : FuncId} {args : Array Value} {K : Type} {f : K → World} {v : Value} {n : K} (hU : ∀ n W, Below (f n).heap.size (f n) W → ∃ m, W = f m)
    (h : Calls P g args (f n) fun e w' => e = .returned v ∧ Below (f n).heap.size (f n) w') : Calls P g args (f n) fun e w'' => e = .returned v ∧ ∃ m, w'' = f m :=
  h.mono fun _ W ⟨he, hb⟩ => ⟨he, hU n W hb⟩
theorem Calls.q_same {P : Program} {g : FuncId} {args : Array Value} {K : Type} {f : K → World} {v : Value} {n : K}
    (h : Calls P g args (f n) fun e w' => e = .returned v ∧ w' = f n) : Calls P g args (f n) fun e w'' => e = .returned v ∧ ∃ m, w'' = f m :=
  h.mono fun _ _ ⟨he, hb⟩ => ⟨he, n, hb⟩
/-- A cell that lies below. -/
theorem cell_q {w0 : World} {K : Type} {f : K → World} (hB : ∀ n, Below w0.heap.size w0 (f n)) {b off : Nat} {v : Value} (hlt : b < w0.heap.size) (h : w0.cell? ⟨b, off, none⟩ = some v) : ∀ n, (f n).cell? ⟨b, off, none⟩ = some v :=
  fun n => ((hB n).cell (p := ⟨b, off, none⟩) hlt).trans h
end Go.Proofs.Ytngkjmghhoemgaa
