/-
 A region that draws its order, whose operations only read and whose calls answer one value in every world in which nothing below has turned (they may make memory): walked once, in the order of the text. Conditions: none.
-/
import Derived.Test.YtmhmlhlplfkpaaaDoorBM
import Derived.BigQuiet
import Derived.Deep.QuietTactic
namespace Go.Proofs.YtmhmlhlplfkpaaaDoor
open Go.RowKit
theorem region_q {P : Program} {K : Type} (f : K → World) {id : Nat} {Q : Exit → Act → World → Prop} {a : Act} {w : World} {l : List Oper} (hC : ∃ n, w.drew = f n) (hm : P.follows .mixedOrders = true) (hB : Region.lexB .any l.toArray = true)
   (h : wpQuiet P l.toArray (fun w' => ∃ n, w' = f n) (fun a' => ∀ w', (∃ n, w' = f n) → Q .normal a' w') l a) : (Code.region id l.toArray true).wp P Q a w :=
 wp_region_quiet (C := fun w' => ∃ n, w' = f n) hm hB hC (by simpa using h)
theorem worlds_of (w0 : World) : ∃ (K : Type) (_ : Nonempty K) (f : K → World), Hid (∃ n, w0.drew = f n) ∧ Hid (∀ n, Below w0.heap.size w0 (f n)) ∧ Hid (∀ n W, Below (f n).heap.size (f n) W → ∃ m, W = f m) :=
 ⟨{W : World // Below w0.heap.size w0 W}, ⟨⟨w0, Below.refl _ _⟩⟩, Subtype.val, Lib.hid ⟨⟨w0.drew, (Below.refl _ _).drew⟩, rfl⟩, Lib.hid fun n => n.2, Lib.hid fun n W h => ⟨⟨W, below_self n.2 h⟩, rfl⟩⟩
theorem Calls.q {P : Program} {g : FuncId} {args : Array Value} {K : Type} {f : K → World} {v : Value} {n : K} (hU : ∀ n W, Below (f n).heap.size (f n) W → ∃ m, W = f m)
   (h : Calls P g args (f n) fun e w' => e = .returned v ∧ Below (f n).heap.size (f n) w') : Calls P g args (f n) fun e w'' => e = .returned v ∧ ∃ m, w'' = f m :=
 h.mono fun _ W ⟨he, hb⟩ => ⟨he, hU n W hb⟩
theorem Calls.q_same {P : Program} {g : FuncId} {args : Array Value} {K : Type} {f : K → World} {v : Value} {n : K}
   (h : Calls P g args (f n) fun e w' => e = .returned v ∧ w' = f n) : Calls P g args (f n) fun e w'' => e = .returned v ∧ ∃ m, w'' = f m :=
 h.mono fun _ _ ⟨he, hb⟩ => ⟨he, n, hb⟩
theorem cell_q {w0 : World} {K : Type} {f : K → World} (hB : ∀ n, Below w0.heap.size w0 (f n)) {b off : Nat} {v : Value} (hlt : b < w0.heap.size) (h : w0.cell? ⟨b, off, none⟩ = some v) : ∀ n, (f n).cell? ⟨b, off, none⟩ = some v :=
 fun n => ((hB n).cell (p := ⟨b, off, none⟩) hlt).trans h
end Go.Proofs.YtmhmlhlplfkpaaaDoor
