/-
  A function's parts in memory. Conditions: none.
-/
import Derived.Test.YtifkoihhlhadhaaDoorFnMath
import Derived.Test.YtifkoihhlhadhaaDoorSiF
import Derived.Test.YtifkoihhlhadhaaDoorRuAt
import Derived.Test.YtifkoihhlhadhaaDoorTrAt
import Derived.Test.YtifkoihhlhadhaaDoorMpAt
namespace Go.Proofs.YtifkoihhlhadhaaDoor
open Go.RowKit

/-- Nil has no room. -/
def Sl3.nilOk (s : Sl3) : Prop := s.a = none → s.c = 0
/-- What a function's fields hold, below block B. -/
structure FnOk (w : World) (B : Nat) (v : FnV) (f : Fn.F) : Prop where
  name : v.name = f.name
  inner : v.inner = f.inner
  outer : TyAt w B v.outer f.outer
  params : TyAt w B v.params f.params
  results : TyAt w B v.results f.results
  locals : TyAt w B v.locals f.locals
  code : PairsAt w B v.code.a v.code.n f.code ∧ v.code.nilOk
  lines : IntsAt w B v.lines.a v.lines.n f.lines ∧ v.lines.nilOk
  nodes : NodesAt w B v.nodes.a v.nodes.n f.nodes ∧ v.nodes.nilOk
  at_ : IntsAt w B v.at_.a v.at_.n f.at_ ∧ v.at_.nilOk
  live : SetsAt w B v.live.a v.live.n f.live ∧ v.live.nilOk
/-- No list is longer than a machine's numbers tell. -/
structure FnV.Len (v : FnV) : Prop where
  name : v.name.size ≤ 9223372036854775807
  outer : v.outer.n ≤ 9223372036854775807
  params : v.params.n ≤ 9223372036854775807
  results : v.results.n ≤ 9223372036854775807
  locals : v.locals.n ≤ 9223372036854775807
  code : v.code.n ≤ 9223372036854775807
  lines : v.lines.n ≤ 9223372036854775807
  nodes : v.nodes.n ≤ 9223372036854775807
  at_ : v.at_.n ≤ 9223372036854775807
  live : v.live.n ≤ 9223372036854775807
variable {w w' : World} {B B' : Nat} {v : FnV} {f : Fn.F}
theorem FnOk.below (h : FnOk w B v f) (hb : Below B w w') : FnOk w' B v f :=
  ⟨h.name, h.inner, h.outer.below hb, h.params.below hb, h.results.below hb, h.locals.below hb, ⟨h.code.1.below hb, h.code.2⟩, ⟨h.lines.1.below hb, h.lines.2⟩, ⟨h.nodes.1.below hb, h.nodes.2⟩, ⟨h.at_.1.below hb, h.at_.2⟩, ⟨h.live.1.below hb, h.live.2⟩⟩
theorem FnOk.more (h : FnOk w B v f) (hb : B ≤ B') : FnOk w B' v f :=
  ⟨h.name, h.inner, h.outer.more hb, h.params.more hb, h.results.more hb, h.locals.more hb, ⟨h.code.1.more hb, h.code.2⟩, ⟨h.lines.1.more hb, h.lines.2⟩, ⟨h.nodes.1.more hb, h.nodes.2⟩, ⟨h.at_.1.more hb, h.at_.2⟩, ⟨h.live.1.more hb, h.live.2⟩⟩
theorem FnOk.on (h : FnOk w w.heap.size v f) (hb : Below w.heap.size w w') : FnOk w' w'.heap.size v f := (h.below hb).more hb.size
theorem FnOk.n_outer (h : FnOk w B v f) : f.outer.length = v.outer.n := h.outer.1.1
theorem FnOk.n_params (h : FnOk w B v f) : f.params.length = v.params.n := h.params.1.1
theorem FnOk.n_results (h : FnOk w B v f) : f.results.length = v.results.n := h.results.1.1
theorem FnOk.n_locals (h : FnOk w B v f) : f.locals.length = v.locals.n := h.locals.1.1
theorem FnOk.n_code (h : FnOk w B v f) : f.code.length = v.code.n := h.code.1.1
theorem FnOk.n_lines (h : FnOk w B v f) : f.lines.length = v.lines.n := h.lines.1.1
theorem FnOk.n_nodes (h : FnOk w B v f) : f.nodes.length = v.nodes.n := h.nodes.1.1
theorem FnOk.n_at (h : FnOk w B v f) : f.at_.length = v.at_.n := h.at_.1.1
theorem FnOk.n_live (h : FnOk w B v f) : f.live.length = v.live.n := h.live.1.1

/-- A function's cells, one by one. -/
theorem FnAt.c0 {w : World} {b : Nat} {v : FnV} (h : FnAt w b v) : w.cell? ⟨b, 0, none⟩ = some (.string v.name) := h.cell 0
theorem FnAt.c1 {w : World} {b : Nat} {v : FnV} (h : FnAt w b v) : w.cell? ⟨b, 1, none⟩ = some (.bool v.inner) := h.cell 1
theorem FnAt.c2 {w : World} {b : Nat} {v : FnV} (h : FnAt w b v) : w.cell? ⟨b, 2, none⟩ = some (.slice v.outer.a v.outer.n v.outer.c) := h.cell 2
theorem FnAt.c3 {w : World} {b : Nat} {v : FnV} (h : FnAt w b v) : w.cell? ⟨b, 3, none⟩ = some (.slice v.params.a v.params.n v.params.c) := h.cell 3
theorem FnAt.c4 {w : World} {b : Nat} {v : FnV} (h : FnAt w b v) : w.cell? ⟨b, 4, none⟩ = some (.slice v.results.a v.results.n v.results.c) := h.cell 4
theorem FnAt.c5 {w : World} {b : Nat} {v : FnV} (h : FnAt w b v) : w.cell? ⟨b, 5, none⟩ = some (.slice v.locals.a v.locals.n v.locals.c) := h.cell 5
theorem FnAt.c6 {w : World} {b : Nat} {v : FnV} (h : FnAt w b v) : w.cell? ⟨b, 6, none⟩ = some (.slice v.code.a v.code.n v.code.c) := h.cell 6
theorem FnAt.c7 {w : World} {b : Nat} {v : FnV} (h : FnAt w b v) : w.cell? ⟨b, 7, none⟩ = some (.slice v.lines.a v.lines.n v.lines.c) := h.cell 7
theorem FnAt.c8 {w : World} {b : Nat} {v : FnV} (h : FnAt w b v) : w.cell? ⟨b, 8, none⟩ = some (.slice v.nodes.a v.nodes.n v.nodes.c) := h.cell 8
theorem FnAt.c9 {w : World} {b : Nat} {v : FnV} (h : FnAt w b v) : w.cell? ⟨b, 9, none⟩ = some (.slice v.at_.a v.at_.n v.at_.c) := h.cell 9
theorem FnAt.c10 {w : World} {b : Nat} {v : FnV} (h : FnAt w b v) : w.cell? ⟨b, 10, none⟩ = some (.slice v.live.a v.live.n v.live.c) := h.cell 10
theorem pairs_nil (w : World) (B : Nat) : PairsAt w B none 0 [] := ⟨rfl, fun h => absurd h (Nat.not_lt_zero _)⟩
theorem nodes_nil (w : World) (B : Nat) : NodesAt w B none 0 [] := ⟨rfl, fun h => absurd h (Nat.not_lt_zero _)⟩
theorem sets_nil (w : World) (B : Nat) : SetsAt w B none 0 [] := ⟨rfl, fun h => absurd h (Nat.not_lt_zero _)⟩
theorem intsN (w : World) (B : Nat) : IntsAt w B none 0 [] := ⟨rfl, fun h => absurd h (Nat.not_lt_zero _)⟩
def Sl3.nil : Sl3 := ⟨none, 0, 0⟩
def FnV.zero : FnV := ⟨⟨#[]⟩, false, .nil, .nil, .nil, .nil, .nil, .nil, .nil, .nil, .nil⟩
theorem FnOk.zero (w : World) (B : Nat) : FnOk w B .zero .zero :=
  ⟨rfl, rfl, ⟨intsN w B, fun _ => rfl⟩, ⟨intsN w B, fun _ => rfl⟩, ⟨intsN w B, fun _ => rfl⟩, ⟨intsN w B, fun _ => rfl⟩, ⟨pairs_nil w B, fun _ => rfl⟩, ⟨intsN w B, fun _ => rfl⟩, ⟨nodes_nil w B, fun _ => rfl⟩, ⟨intsN w B, fun _ => rfl⟩, ⟨sets_nil w B, fun _ => rfl⟩⟩
end Go.Proofs.YtifkoihhlhadhaaDoor
