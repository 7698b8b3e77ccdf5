/-
 A program's functions in memory: a slice of functions that can be read. Conditions: none.
-/
import Derived.Test.YtmhmlhlplfkpaaaDoorAtA
namespace Go.Proofs.YtmhmlhlplfkpaaaDoor
open Go.RowKit
structure FnsAt (w : World) (B : Nat) (a : Option Addr) (n : Nat) (vs : List FnV) (fs : List Fn.F) : Prop where
 lenv : vs.length = n
 lenf : fs.length = n
 ok : ∀ k, k < n → FnOk w B (vs.getD k .zero) (fs.getD k .zero)
 len : ∀ k, k < n → (vs.getD k .zero).Len
 cells : 0 < n → ∃ b off, a = some ⟨b, off, none⟩ ∧ b < B ∧ ∀ k, k < n → ∀ j, j < 11 → w.cell? ⟨b, off + k * 11 + j, none⟩ = (vs.getD k .zero).cells[j]?
section
variable {w w' : World} {B B' n : Nat} {a : Option Addr} {vs : List FnV} {fs : List Fn.F}
theorem FnsAt.below (h : FnsAt w B a n vs fs) (hb : Below B w w') : FnsAt w' B a n vs fs := by
 refine ⟨h.lenv, h.lenf, fun k hk => (h.ok k hk).below hb, h.len, fun hn => ?_⟩
 obtain ⟨b, off, e, hlt, hc⟩ := h.cells hn
 exact ⟨b, off, e, hlt, fun i hi j hj => (hb.cell (p := ⟨b, off + i * 11 + j, none⟩) hlt).trans (hc i hi j hj)⟩
theorem FnsAt.more (h : FnsAt w B a n vs fs) (hb : B ≤ B') : FnsAt w B' a n vs fs := by
 refine ⟨h.lenv, h.lenf, fun k hk => (h.ok k hk).more hb, h.len, fun hn => ?_⟩
 obtain ⟨b, off, e, hlt, hc⟩ := h.cells hn
 exact ⟨b, off, e, by omega, hc⟩
theorem FnsAt.on (h : FnsAt w w.heap.size a n vs fs) (hb : Below w.heap.size w w') : FnsAt w' w'.heap.size a n vs fs := (h.below hb).more hb.size
theorem fns_nil (w : World) (B : Nat) : FnsAt w B none 0 [] [] := ⟨rfl, rfl, fun _ h => absurd h (Nat.not_lt_zero _), fun _ h => absurd h (Nat.not_lt_zero _), fun h => absurd h (Nat.not_lt_zero _)⟩
theorem fns_cell (h : FnsAt w B a n vs fs) {k : Nat} (hk : k < n) :
   ∃ b off v f, a = some ⟨b, off, none⟩ ∧ b < B ∧ vs.getD k .zero = v ∧ fs.getD k .zero = f ∧ FnOk w B v f ∧ v.Len ∧ k < fs.length ∧
     w.cell? ⟨b, off + k * 11, none⟩ = some (.string v.name) ∧ w.cell? ⟨b, off + k * 11 + 1, none⟩ = some (.bool v.inner) ∧ w.cell? ⟨b, off + k * 11 + 2, none⟩ = some (.slice v.outer.a v.outer.n v.outer.c) ∧ w.cell? ⟨b, off + k * 11 + 3, none⟩ = some (.slice v.params.a v.params.n v.params.c) ∧
     w.cell? ⟨b, off + k * 11 + 4, none⟩ = some (.slice v.results.a v.results.n v.results.c) ∧ w.cell? ⟨b, off + k * 11 + 5, none⟩ = some (.slice v.locals.a v.locals.n v.locals.c) ∧ w.cell? ⟨b, off + k * 11 + 6, none⟩ = some (.slice v.code.a v.code.n v.code.c) ∧ w.cell? ⟨b, off + k * 11 + 7, none⟩ = some (.slice v.lines.a v.lines.n v.lines.c) ∧
     w.cell? ⟨b, off + k * 11 + 8, none⟩ = some (.slice v.nodes.a v.nodes.n v.nodes.c) ∧ w.cell? ⟨b, off + k * 11 + 9, none⟩ = some (.slice v.at_.a v.at_.n v.at_.c) ∧ w.cell? ⟨b, off + k * 11 + 10, none⟩ = some (.slice v.live.a v.live.n v.live.c) := by
 obtain ⟨b, off, e, hlt, hc⟩ := h.cells (by omega)
 exact ⟨b, off, _, _, e, hlt, rfl, rfl, h.ok k hk, h.len k hk, by rw [h.lenf]; exact hk, hc k hk 0 (by decide), hc k hk 1 (by decide), hc k hk 2 (by decide), hc k hk 3 (by decide), hc k hk 4 (by decide), hc k hk 5 (by decide), hc k hk 6 (by decide), hc k hk 7 (by decide), hc k hk 8 (by decide), hc k hk 9 (by decide), hc k hk 10 (by decide)⟩
end
end Go.Proofs.YtmhmlhlplfkpaaaDoor
