/-
 What ops.types tells of letters. Conditions: the letters are of ASCII, 4096 at most.
-/
import Derived.Lib.OthersKept
import Derived.OwnWalk
import Derived.Laws.RangeString
import Derived.Lib.AppendZeros
import Derived.Test.YtmhmlhlplfkpaaaDoorFnMath
set_option maxRecDepth 100000
namespace Go.Proofs.YtmhmlhlplfkpaaaDoor
open Go.RowKit
namespace Op
def ty (c : Nat) : Int := if c = 99 then 2 else 1
end Op
end Go.Proofs.YtmhmlhlplfkpaaaDoor
namespace Go.Proofs.YtmhmlhlplfkpaaaDoor
open Go.RowKit
structure Sl3 where
 a : Option Addr
 n : Nat
 c : Nat
def Sl3.val (s : Sl3) : Value := .slice s.a s.n s.c
structure FnV where
 name : ByteArray
 inner : Bool
 outer : Sl3
 params : Sl3
 results : Sl3
 locals : Sl3
 code : Sl3
 lines : Sl3
 nodes : Sl3
 at_ : Sl3
 live : Sl3
def FnV.cells (f : FnV) : Array Value := #[.string f.name, .bool f.inner, f.outer.val, f.params.val, f.results.val, f.locals.val, f.code.val, f.lines.val, f.nodes.val, f.at_.val, f.live.val]
def FnAt (w : World) (b : Nat) (f : FnV) : Prop := w.heap[b]? = some (.cells f.cells 35 (0, 0))
theorem FnAt.new (w : World) (f : FnV) : FnAt (w.alloc (.cells f.cells 35)) w.heap.size f := heap_alloc_new w _
theorem FnAt.lt {w : World} {b : Nat} {f : FnV} (h : FnAt w b f) : b < w.heap.size := (Array.getElem?_eq_some_iff.1 h).1
theorem FnAt.below {w w' : World} {B b : Nat} {f : FnV} (h : FnAt w b f) (hb : Below B w w') (hlt : b < B) : FnAt w' b f := (hb.block b hlt).trans h
theorem FnAt.on {w w' : World} {b : Nat} {f : FnV} (h : FnAt w b f) (hb : Below w.heap.size w w') : FnAt w' b f := h.below hb h.lt
theorem FnAt.cell {w : World} {b : Nat} {f : FnV} (h : FnAt w b f) (k : Nat) : w.cell? ⟨b, k, none⟩ = f.cells[k]? := by
 unfold FnAt at h
 simp [World.cell?, h]
theorem FnAt.sig {w : World} {b : Nat} {f : FnV} (h : FnAt w b f) : w.cell? ⟨b, 3, none⟩ = some (.slice f.params.a f.params.n f.params.c) ∧ w.cell? ⟨b, 4, none⟩ = some (.slice f.results.a f.results.n f.results.c) ∧ w.cell? ⟨b, 5, none⟩ = some (.slice f.locals.a f.locals.n f.locals.c) :=
 ⟨h.cell 3, h.cell 4, h.cell 5⟩
def TyAt (w : World) (B : Nat) (s : Sl3) (l : List Int) : Prop := IntsAt w B s.a s.n l ∧ (s.a = none → s.c = 0)
theorem TyAt.below {w w' : World} {B : Nat} {s : Sl3} {l : List Int} (h : TyAt w B s l) (hb : Below B w w') : TyAt w' B s l := ⟨h.1.below hb, h.2⟩
theorem TyAt.more {w : World} {B B' : Nat} {s : Sl3} {l : List Int} (h : TyAt w B s l) (hb : B ≤ B') : TyAt w B' s l := ⟨h.1.more hb, h.2⟩
theorem TyAt.on {w w' : World} {s : Sl3} {l : List Int} (h : TyAt w w.heap.size s l) (hb : Below w.heap.size w w') : TyAt w' w'.heap.size s l := (h.below hb).more hb.size
end Go.Proofs.YtmhmlhlplfkpaaaDoor
namespace Go.Proofs.YtmhmlhlplfkpaaaDoor
open Go.RowKit
def PairsAt (w : World) (B : Nat) (a : Option Addr) (n : Nat) (r : Ru.Runs) : Prop :=
 r.length = n ∧ (0 < n → ∃ b off, a = some ⟨b, off, none⟩ ∧ b < B ∧ ∀ i, i < n → w.cell? ⟨b, off + i * 2, none⟩ = some (.int .i64 (r.getD i (0, 0)).1) ∧ w.cell? ⟨b, off + i * 2 + 1, none⟩ = some (.int .i64 (r.getD i (0, 0)).2))
theorem PairsAt.below {w w' : World} {B : Nat} {a : Option Addr} {n : Nat} {r : Ru.Runs} (h : PairsAt w B a n r) (hb : Below B w w') : PairsAt w' B a n r := by
 refine ⟨h.1, fun hn => ?_⟩
 obtain ⟨b, off, e, hlt, hc⟩ := h.2 hn
 exact ⟨b, off, e, hlt, fun i hi => ⟨(hb.cell (p := ⟨b, off + i * 2, none⟩) hlt).trans (hc i hi).1, (hb.cell (p := ⟨b, off + i * 2 + 1, none⟩) hlt).trans (hc i hi).2⟩⟩
theorem PairsAt.more {w : World} {B B' : Nat} {a : Option Addr} {n : Nat} {r : Ru.Runs} (h : PairsAt w B a n r) (hb : B ≤ B') : PairsAt w B' a n r := by
 refine ⟨h.1, fun hn => ?_⟩
 obtain ⟨b, off, e, hlt, hc⟩ := h.2 hn
 exact ⟨b, off, e, by omega, hc⟩
theorem PairsAt.take {w : World} {B : Nat} {a : Option Addr} {n : Nat} {r : Ru.Runs} (h : PairsAt w B a n r) {k : Nat} (hk : k ≤ n) : PairsAt w B a k (r.take k) := by
 refine ⟨by rw [List.length_take, h.1]; omega, fun hn => ?_⟩
 obtain ⟨b, off, e, hlt, hc⟩ := h.2 (by omega)
 refine ⟨b, off, e, hlt, fun i hi => ?_⟩
 have : (r.take k).getD i (0, 0) = r.getD i (0, 0) := by simp [List.getD, hi]
 rw [this]
 exact hc i (by omega)
theorem pairs_cell {w : World} {B n : Nat} {a : Option Addr} {r : Ru.Runs} (h : PairsAt w B a n r) {k : Nat} (hk : k < n) :
   ∃ b off x, a = some ⟨b, off, none⟩ ∧ b < B ∧ r.getD k (0, 0) = x ∧ k < r.length ∧ w.cell? ⟨b, off + k * 2, none⟩ = some (.int .i64 x.1) ∧ w.cell? ⟨b, off + k * 2 + 1, none⟩ = some (.int .i64 x.2) := by
 obtain ⟨b, off, e, hlt, hc⟩ := h.2 (by omega)
 exact ⟨b, off, _, e, hlt, rfl, by rw [h.1]; exact hk, (hc k hk).1, (hc k hk).2⟩
end Go.Proofs.YtmhmlhlplfkpaaaDoor
namespace Go.Proofs.YtmhmlhlplfkpaaaDoor
open Go.RowKit
def fld (r : List Tr.Nd) (i j : Nat) : Int := (r.getD i Tr.Nd.nil).list.getD j 0
def NodesAt (w : World) (B : Nat) (a : Option Addr) (n : Nat) (r : List Tr.Nd) : Prop :=
 r.length = n ∧ (0 < n → ∃ b off, a = some ⟨b, off, none⟩ ∧ b < B ∧ ∀ i, i < n → ∀ j, j < 7 → w.cell? ⟨b, off + i * 7 + j, none⟩ = some (.int .i64 (fld r i j)))
theorem NodesAt.below {w w' : World} {B : Nat} {a : Option Addr} {n : Nat} {r : List Tr.Nd} (h : NodesAt w B a n r) (hb : Below B w w') : NodesAt w' B a n r := by
 refine ⟨h.1, fun hn => ?_⟩
 obtain ⟨b, off, e, hlt, hc⟩ := h.2 hn
 exact ⟨b, off, e, hlt, fun i hi j hj => (hb.cell (p := ⟨b, off + i * 7 + j, none⟩) hlt).trans (hc i hi j hj)⟩
theorem NodesAt.more {w : World} {B B' : Nat} {a : Option Addr} {n : Nat} {r : List Tr.Nd} (h : NodesAt w B a n r) (hb : B ≤ B') : NodesAt w B' a n r := by
 refine ⟨h.1, fun hn => ?_⟩
 obtain ⟨b, off, e, hlt, hc⟩ := h.2 hn
 exact ⟨b, off, e, by omega, hc⟩
theorem NodesAt.on {w w' : World} {a : Option Addr} {n : Nat} {r : List Tr.Nd} (h : NodesAt w w.heap.size a n r) (hb : Below w.heap.size w w') : NodesAt w' w'.heap.size a n r := (h.below hb).more hb.size
def NodeAt (w : World) (B : Nat) (t : TypeId) (n : Tr.Nd) : Prop := w.heap[B]? = some (.cells #[.int .i64 n.p, .int .i64 n.f, .int .i64 n.l, .int .i64 n.a, .int .i64 n.g, .int .i64 n.t, .int .i64 n.r] t (0, 0))
theorem NodeAt.new (w : World) (t : TypeId) (n : Tr.Nd) : NodeAt (w.alloc (.cells #[.int .i64 n.p, .int .i64 n.f, .int .i64 n.l, .int .i64 n.a, .int .i64 n.g, .int .i64 n.t, .int .i64 n.r] t)) w.heap.size t n := heap_alloc_new w _
theorem NodeAt.lt {w : World} {B : Nat} {t : TypeId} {n : Tr.Nd} (h : NodeAt w B t n) : B < w.heap.size := (Array.getElem?_eq_some_iff.1 h).1
theorem NodeAt.below {w w' : World} {B T : Nat} {t : TypeId} {n : Tr.Nd} (h : NodeAt w B t n) (hb : Below T w w') (hT : B < T) : NodeAt w' B t n := (hb.block B hT).trans h
theorem NodeAt.cells {w : World} {B : Nat} {t : TypeId} {n : Tr.Nd} (h : NodeAt w B t n) : w.cell? ⟨B, 0, none⟩ = some (.int .i64 n.p) ∧ w.cell? ⟨B, 1, none⟩ = some (.int .i64 n.f) ∧ w.cell? ⟨B, 2, none⟩ = some (.int .i64 n.l) ∧ w.cell? ⟨B, 3, none⟩ = some (.int .i64 n.a) ∧ w.cell? ⟨B, 4, none⟩ = some (.int .i64 n.g) ∧ w.cell? ⟨B, 5, none⟩ = some (.int .i64 n.t) ∧ w.cell? ⟨B, 6, none⟩ = some (.int .i64 n.r) := by
 unfold NodeAt at h
 refine ⟨?_, ?_, ?_, ?_, ?_, ?_, ?_⟩ <;> simp [World.cell?, h]
end Go.Proofs.YtmhmlhlplfkpaaaDoor
namespace Go.Proofs.YtmhmlhlplfkpaaaDoor
open Go.RowKit
def Sl3.nilOk (s : Sl3) : Prop := s.a = none → s.c = 0
structure FnOk (w : World) (B : Nat) (v : FnV) (f : Fn.F) : Prop where
 name : v.name = f.name
 inner : v.inner = f.inner
 outer : TyAt w B v.outer f.outer
 params : TyAt w B v.params f.params
 results : TyAt w B v.results f.results
 locals : TyAt w B v.locals f.locals
 code : PairsAt w B v.code.a v.code.n f.code ∧ v.code.nilOk
 lines : IntsAt w B v.lines.a v.lines.n f.lines ∧ v.lines.nilOk
 nodes : NodesAt w B v.nodes.a v.nodes.n f.nodes ∧ v.nodes.nilOk
 at_ : IntsAt w B v.at_.a v.at_.n f.at_ ∧ v.at_.nilOk
 live : SetsAt w B v.live.a v.live.n f.live ∧ v.live.nilOk
structure FnV.Len (v : FnV) : Prop where
 name : v.name.size ≤ 9223372036854775807
 outer : v.outer.n ≤ 9223372036854775807
 params : v.params.n ≤ 9223372036854775807
 results : v.results.n ≤ 9223372036854775807
 locals : v.locals.n ≤ 9223372036854775807
 code : v.code.n ≤ 9223372036854775807
 lines : v.lines.n ≤ 9223372036854775807
 nodes : v.nodes.n ≤ 9223372036854775807
 at_ : v.at_.n ≤ 9223372036854775807
 live : v.live.n ≤ 9223372036854775807
variable {w w' : World} {B B' : Nat} {v : FnV} {f : Fn.F}
theorem FnOk.below (h : FnOk w B v f) (hb : Below B w w') : FnOk w' B v f :=
 ⟨h.name, h.inner, h.outer.below hb, h.params.below hb, h.results.below hb, h.locals.below hb, ⟨h.code.1.below hb, h.code.2⟩, ⟨h.lines.1.below hb, h.lines.2⟩, ⟨h.nodes.1.below hb, h.nodes.2⟩, ⟨h.at_.1.below hb, h.at_.2⟩, ⟨h.live.1.below hb, h.live.2⟩⟩
theorem FnOk.more (h : FnOk w B v f) (hb : B ≤ B') : FnOk w B' v f :=
 ⟨h.name, h.inner, h.outer.more hb, h.params.more hb, h.results.more hb, h.locals.more hb, ⟨h.code.1.more hb, h.code.2⟩, ⟨h.lines.1.more hb, h.lines.2⟩, ⟨h.nodes.1.more hb, h.nodes.2⟩, ⟨h.at_.1.more hb, h.at_.2⟩, ⟨h.live.1.more hb, h.live.2⟩⟩
theorem FnOk.on (h : FnOk w w.heap.size v f) (hb : Below w.heap.size w w') : FnOk w' w'.heap.size v f := (h.below hb).more hb.size
theorem FnOk.n_outer (h : FnOk w B v f) : f.outer.length = v.outer.n := h.outer.1.1
theorem FnOk.n_params (h : FnOk w B v f) : f.params.length = v.params.n := h.params.1.1
theorem FnOk.n_results (h : FnOk w B v f) : f.results.length = v.results.n := h.results.1.1
theorem FnOk.n_locals (h : FnOk w B v f) : f.locals.length = v.locals.n := h.locals.1.1
theorem FnOk.n_code (h : FnOk w B v f) : f.code.length = v.code.n := h.code.1.1
theorem FnAt.c0 {w : World} {b : Nat} {v : FnV} (h : FnAt w b v) : w.cell? ⟨b, 0, none⟩ = some (.string v.name) := h.cell 0
theorem FnAt.c1 {w : World} {b : Nat} {v : FnV} (h : FnAt w b v) : w.cell? ⟨b, 1, none⟩ = some (.bool v.inner) := h.cell 1
theorem FnAt.c2 {w : World} {b : Nat} {v : FnV} (h : FnAt w b v) : w.cell? ⟨b, 2, none⟩ = some (.slice v.outer.a v.outer.n v.outer.c) := h.cell 2
theorem FnAt.c3 {w : World} {b : Nat} {v : FnV} (h : FnAt w b v) : w.cell? ⟨b, 3, none⟩ = some (.slice v.params.a v.params.n v.params.c) := h.cell 3
theorem FnAt.c4 {w : World} {b : Nat} {v : FnV} (h : FnAt w b v) : w.cell? ⟨b, 4, none⟩ = some (.slice v.results.a v.results.n v.results.c) := h.cell 4
theorem FnAt.c5 {w : World} {b : Nat} {v : FnV} (h : FnAt w b v) : w.cell? ⟨b, 5, none⟩ = some (.slice v.locals.a v.locals.n v.locals.c) := h.cell 5
theorem FnAt.c6 {w : World} {b : Nat} {v : FnV} (h : FnAt w b v) : w.cell? ⟨b, 6, none⟩ = some (.slice v.code.a v.code.n v.code.c) := h.cell 6
theorem FnAt.c7 {w : World} {b : Nat} {v : FnV} (h : FnAt w b v) : w.cell? ⟨b, 7, none⟩ = some (.slice v.lines.a v.lines.n v.lines.c) := h.cell 7
theorem FnAt.c8 {w : World} {b : Nat} {v : FnV} (h : FnAt w b v) : w.cell? ⟨b, 8, none⟩ = some (.slice v.nodes.a v.nodes.n v.nodes.c) := h.cell 8
theorem FnAt.c9 {w : World} {b : Nat} {v : FnV} (h : FnAt w b v) : w.cell? ⟨b, 9, none⟩ = some (.slice v.at_.a v.at_.n v.at_.c) := h.cell 9
theorem FnAt.c10 {w : World} {b : Nat} {v : FnV} (h : FnAt w b v) : w.cell? ⟨b, 10, none⟩ = some (.slice v.live.a v.live.n v.live.c) := h.cell 10
theorem FnAt.all {w : World} {b : Nat} {v : FnV} (h : FnAt w b v) : w.cell? ⟨b, 0, none⟩ = some (.string v.name) ∧ w.cell? ⟨b, 1, none⟩ = some (.bool v.inner) ∧ w.cell? ⟨b, 2, none⟩ = some (.slice v.outer.a v.outer.n v.outer.c) ∧ w.cell? ⟨b, 3, none⟩ = some (.slice v.params.a v.params.n v.params.c) ∧ w.cell? ⟨b, 4, none⟩ = some (.slice v.results.a v.results.n v.results.c) ∧ w.cell? ⟨b, 5, none⟩ = some (.slice v.locals.a v.locals.n v.locals.c) ∧ w.cell? ⟨b, 6, none⟩ = some (.slice v.code.a v.code.n v.code.c) ∧ w.cell? ⟨b, 7, none⟩ = some (.slice v.lines.a v.lines.n v.lines.c) ∧ w.cell? ⟨b, 8, none⟩ = some (.slice v.nodes.a v.nodes.n v.nodes.c) ∧ w.cell? ⟨b, 9, none⟩ = some (.slice v.at_.a v.at_.n v.at_.c) ∧ w.cell? ⟨b, 10, none⟩ = some (.slice v.live.a v.live.n v.live.c) := ⟨h.c0, h.c1, h.c2, h.c3, h.c4, h.c5, h.c6, h.c7, h.c8, h.c9, h.c10⟩
theorem pairs_nil (w : World) (B : Nat) : PairsAt w B none 0 [] := ⟨rfl, fun h => absurd h (Nat.not_lt_zero _)⟩
theorem nodes_nil (w : World) (B : Nat) : NodesAt w B none 0 [] := ⟨rfl, fun h => absurd h (Nat.not_lt_zero _)⟩
theorem sets_nil (w : World) (B : Nat) : SetsAt w B none 0 [] := ⟨rfl, fun h => absurd h (Nat.not_lt_zero _)⟩
theorem intsN (w : World) (B : Nat) : IntsAt w B none 0 [] := ⟨rfl, fun h => absurd h (Nat.not_lt_zero _)⟩
def Sl3.nil : Sl3 := ⟨none, 0, 0⟩
def FnV.zero : FnV := ⟨⟨#[]⟩, false, .nil, .nil, .nil, .nil, .nil, .nil, .nil, .nil, .nil⟩
theorem FnOk.zero (w : World) (B : Nat) : FnOk w B .zero .zero :=
 ⟨rfl, rfl, ⟨intsN w B, fun _ => rfl⟩, ⟨intsN w B, fun _ => rfl⟩, ⟨intsN w B, fun _ => rfl⟩, ⟨intsN w B, fun _ => rfl⟩, ⟨pairs_nil w B, fun _ => rfl⟩, ⟨intsN w B, fun _ => rfl⟩, ⟨nodes_nil w B, fun _ => rfl⟩, ⟨intsN w B, fun _ => rfl⟩, ⟨sets_nil w B, fun _ => rfl⟩⟩
end Go.Proofs.YtmhmlhlplfkpaaaDoor
