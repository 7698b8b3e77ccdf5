/-
  What ops.types tells of letters. Conditions: the letters are of ASCII, 4096 at most.
  append of a list of types behind a list of the call's own; a function as a value; what sig.Slots, First and the document's Slots tell. Conditions: the lists can be read; at most a million types in all.
  Runs in memory: a slice of pairs that can be read; one that the call itself has made. Conditions: none.
  Nodes in memory: a slice of nodes that can be read; one that the call itself has made. Conditions: none.
  A function's parts in memory. Conditions: none.
-/
import Derived.Test.YtngkjmghhoemgaaBM
import Derived.Lib.OthersKept
import Derived.OwnWalk
import Derived.Laws.RangeString
import Derived.Lib.AppendZeros
import Derived.LoopTactic
import Derived.Test.YtngkjmghhoemgaaPMa
import Derived.Test.YtngkjmghhoemgaaFnMath
import Derived.Test.YtngkjmghhoemgaaMpMA
namespace Go.Proofs.Ytngkjmghhoemgaa
open Go.RowKit

namespace Op
/-- The type of a letter. -/
def ty (c : Nat) : Int := if c = 99 then 2 else 1
/-- The types of letters. -/
def tys (s : ByteArray) : List Int := s.data.toList.map fun c => ty c.toNat
theorem tys_length (s : ByteArray) : (tys s).length = s.size := by
  unfold tys
  rw [List.length_map]
  rfl
theorem tys_at (s : ByteArray) (i : Nat) (h : i < s.size) : (tys s).getD i 0 = ty (s[i]).toNat := by
  have h' : i < s.data.size := h
  show _ = ty s.data[i].toNat
  have e : s.data[i]? = some s.data[i] := Array.getElem?_eq_getElem h'
  simp only [tys, List.getD, List.getElem?_map, Array.getElem?_toList, e, Option.map_some, Option.getD_some]
end Op

/-- A row of types of the call's own, read. -/
theorem ints_of_rowE {w : World} {b n : Nat} {E : TypeId} {A : Option Addr} {k c : Nat} {l : List Int} (h : w.ownsRow b E 1 (.slice A k c) n (vs l)) : k = n ∧ IntsAt w w.heap.size A k l ∧ l.length = n := by
  have hl : l.length = n := by have := h.1; unfold vs at this; simpa using this
  have hlt := h.lt
  rcases h.2 with ⟨hv, hn⟩ | ⟨g, cap, cur, hv, hg, hh, hnc, hcm, hcs, ht⟩
  · injection hv with h1 h2 h3
    subst h1 h2 hn
    exact ⟨rfl, ⟨hl, fun h => absurd h (by omega)⟩, hl⟩
  · injection hv with h1 h2 h3
    subst h1 h2
    refine ⟨rfl, ⟨hl, fun hn => ⟨g, 0, rfl, (hlt g rfl).2, fun i hi => ?_⟩⟩, hl⟩
    rw [Nat.zero_add, cell_of_row w g i cur _ _ hh]
    have e := congrArg (fun z => z[i]?) ht
    simp only [Nat.mul_one, List.getElem?_take, hi, if_true, vs] at e
    rw [← Array.getElem?_toList, e]
    simp [List.getD, hl, hi]

/-- What is owned stays owned while an iterator in another block moves on. -/
theorem ownsRow_iter {w : World} {b : Nat} {e : TypeId} {size n g k c : Nat} {xs : List Value} (h : w.ownsRow b e size (.slice (some ⟨g, 0, none⟩) k c) n xs) {r : Nat} (hr : r ≠ g) (s : ByteArray) (p : Nat) : (w.iterAt r s p).ownsRow b e size (.slice (some ⟨g, 0, none⟩) k c) n xs := by
  obtain ⟨h1, h2⟩ := h
  refine ⟨h1, ?_⟩
  rcases h2 with h2 | ⟨g', cap, cur, hv, hg, hh, rest⟩
  · exact .inl h2
  · have e : g' = g := by injection hv with h1 _ _; injection h1 with h1; injection h1 with h1; exact h1.symm
    refine .inr ⟨g', cap, cur, hv, hg, ?_, rest⟩
    rw [Lib.iterAt_other _ _ _ _ _ (by rw [e]; exact Ne.symm hr)]
    exact hh

theorem made_ints (n : Nat) : (madeCells #[.int .i64 0] n).toList = vs (List.replicate n 0) := by
  simp only [madeCells, vs, List.map_replicate]
  simp [Nat.mod_one, List.map_const']

set_option maxRecDepth 100000 in
theorem info_type : (Try.prog.info? 57).map (fun i => (i.zero, i.size, i.bytes)) = some (some (.int .i64 0), 1, 8) := by kernel_rfl

/-- A row of whole numbers of the call's own is answered; nothing below has turned. -/
def TysP (l : List Int) (w : World) (e : Ending) (w' : World) : Prop := ∃ A c, e = .returned (.slice A l.length c) ∧ IntsAt w' w'.heap.size A l.length l ∧ Below w.heap.size w w'

def TysRel (w : World) (it : Nat) (t : ByteArray) (_ : Value) (wr : World) : Prop :=
  ∃ (k : Nat) (r : List Int), k ≤ t.size ∧ r.length = t.size ∧ (∀ j, j < k → r.getD j 0 = (Op.tys t).getD j 0) ∧ wr.heap[it]? = some (.stringIter t k) ∧ wr.ownsRow w.heap.size 57 1 (.slice (some ⟨w.heap.size, 0, none⟩) t.size t.size) t.size (vs r) ∧ Below w.heap.size w wr

theorem vs_at (r : List Int) (k : Nat) (h : k < r.length) : (vs r)[k]? = some (.int .i64 (r.getD k 0)) := by
  simp [vs, List.getD, h]

theorem vs_set (r : List Int) (k : Nat) (v : Int) : (vs r).set k (.int .i64 v) = vs (r.set k v) := by simp [vs, List.map_set]

set_option maxRecDepth 100000 in
/-- One letter more. -/
theorem tysRel_next {w w2 : World} {it k : Nat} {t : ByteArray} {r : List Int} {v : Int} {u : Value} (hlt : k < t.size) (hr : r.length = t.size) (hW : ∀ j, j < k → r.getD j 0 = (Op.tys t).getD j 0) (hv : (Op.tys t).getD k 0 = v) (hit : w2.heap[it]? = some (.stringIter t (k + 1)))
    (hO : w2.ownsRow w.heap.size 57 1 (.slice (some ⟨w.heap.size, 0, none⟩) t.size t.size) t.size (vs (r.set k v))) (hB : Below w.heap.size w w2) : TysRel w it t u w2 := by
  refine ⟨k + 1, r.set k v, hlt, by rw [List.length_set]; exact hr, fun j hj => ?_, hit, hO, hB⟩
  by_cases hjk : j = k
  · subst hjk
    have : j < r.length := by omega
    rw [hv]
    simp [List.getD, this]
  · rw [← hW j (by omega)]
    simp [List.getD, Ne.symm hjk]

end Go.Proofs.Ytngkjmghhoemgaa

namespace Go.Proofs.Ytngkjmghhoemgaa
open Go.RowKit

set_option maxRecDepth 100000 in
theorem append_types {w : World} {base n : Nat} {v : Value} {xs : List Value} (hown : w.ownsRow base 57 1 v n xs) {B m c : Nat} {A : Option Addr} {l : List Int} (hs : IntsAt w B A m l) (hnil : A = none → c = 0)
    (hb : base ≤ w.heap.size) (hl : n + m ≤ 10485760) :
    ∃ v' w', (∀ ty, ty = 22 → (Builtin.append_ #[22, 22] ty #[v, .slice A m c]).run Try.prog w = .ok v' w') ∧ w'.ownsRow base 57 1 v' (n + m) (xs ++ vs l) ∧ w.grownBy w' v.ownBlock := by
  obtain ⟨i0, hi, hz0, hz1, hz2⟩ := info_parts info_type
  obtain ⟨h1, h3⟩ := hs
  have hvl : (vs l).length = m := by rw [vs, List.length_map, h1]
  cases A with
  | none =>
    have hm : m = 0 := by
      rcases Nat.eq_zero_or_pos m with h | h
      · exact h
      · obtain ⟨b, off, h, _⟩ := h3 h
        cases h
    subst hm
    have hc := hnil rfl
    subst hc
    have hl0 : l = [] := List.eq_nil_of_length_eq_zero h1
    subst hl0
    refine ⟨v, w, ?_, by simpa [vs] using hown, World.grownBy.refl _ _⟩
    intro ty _
    exact run_append_owned_none (P := Try.prog) (w := w) base 22 ty 57 i0 1 Try.underlying22 hi v n xs hown
  | some ad =>
    have hcells : ∀ j u, (vs l)[j]? = some u → w.cell? (ad.add j) = some u := by
      intro j u hu
      have hj : j < l.length := by
        rcases Nat.lt_or_ge j l.length with h | h
        · exact h
        · rw [List.getElem?_eq_none (by rw [hvl, ← h1]; exact h)] at hu; cases hu
      obtain ⟨b, off, he, _, hc⟩ := h3 (by omega)
      injection he with he
      subst he
      have e : (⟨b, off, none⟩ : Addr).add j = ⟨b, off + j, none⟩ := by unfold Addr.add; split <;> simp_all
      rw [e, hc j (by omega)]
      simp [vs, hj] at hu
      subst hu
      simp [List.getD, hj]
    obtain ⟨v', w', hr, ho, hg, _⟩ := run_append_own (P := Try.prog) w base 22 22 57 i0 (.int .i64 0) 1 8 Try.underlying22 hi hz0 hz1 hz2 rfl (by decide) v n xs hown ad m c (vs l) (by rw [hvl, Nat.mul_one]) hcells (vs_one l) (by unfold maxLen; omega) (by omega) hb
    exact ⟨v', w', fun ty hty => by rw [hty]; exact hr, ho, hg⟩

/-- A slice's three parts. -/
structure Sl3 where
  a : Option Addr
  n : Nat
  c : Nat
/-- A slice, by its parts. -/
def Sl3.val (s : Sl3) : Value := .slice s.a s.n s.c
/-- A function's fields. -/
structure FnV where
  name : ByteArray
  inner : Bool
  outer : Sl3
  params : Sl3
  results : Sl3
  locals : Sl3
  code : Sl3
  lines : Sl3
  nodes : Sl3
  at_ : Sl3
  live : Sl3
/-- A function's cells. -/
def FnV.cells (f : FnV) : Array Value := #[.string f.name, .bool f.inner, f.outer.val, f.params.val, f.results.val, f.locals.val, f.code.val, f.lines.val, f.nodes.val, f.at_.val, f.live.val]
/-- A function in memory. -/
def FnAt (w : World) (b : Nat) (f : FnV) : Prop := w.heap[b]? = some (.cells f.cells 28 (0, 0))
set_option maxRecDepth 100000 in
theorem FnAt.new (w : World) (f : FnV) : FnAt (w.alloc (.cells f.cells 28)) w.heap.size f := heap_alloc_new w _
theorem FnAt.lt {w : World} {b : Nat} {f : FnV} (h : FnAt w b f) : b < w.heap.size := (Array.getElem?_eq_some_iff.1 h).1
theorem FnAt.below {w w' : World} {B b : Nat} {f : FnV} (h : FnAt w b f) (hb : Below B w w') (hlt : b < B) : FnAt w' b f := (hb.block b hlt).trans h
theorem FnAt.on {w w' : World} {b : Nat} {f : FnV} (h : FnAt w b f) (hb : Below w.heap.size w w') : FnAt w' b f := h.below hb h.lt
theorem FnAt.cell {w : World} {b : Nat} {f : FnV} (h : FnAt w b f) (k : Nat) : w.cell? ⟨b, k, none⟩ = f.cells[k]? := by
  unfold FnAt at h
  simp [World.cell?, h]
/-- The cells that signatures lie in. -/
theorem FnAt.sig {w : World} {b : Nat} {f : FnV} (h : FnAt w b f) : w.cell? ⟨b, 3, none⟩ = some (.slice f.params.a f.params.n f.params.c) ∧ w.cell? ⟨b, 4, none⟩ = some (.slice f.results.a f.results.n f.results.c) ∧ w.cell? ⟨b, 5, none⟩ = some (.slice f.locals.a f.locals.n f.locals.c) :=
  ⟨h.cell 3, h.cell 4, h.cell 5⟩

/-- A list of types that can be read, below block B; nil has no room. -/
def TyAt (w : World) (B : Nat) (s : Sl3) (l : List Int) : Prop := IntsAt w B s.a s.n l ∧ (s.a = none → s.c = 0)
theorem TyAt.below {w w' : World} {B : Nat} {s : Sl3} {l : List Int} (h : TyAt w B s l) (hb : Below B w w') : TyAt w' B s l := ⟨h.1.below hb, h.2⟩
theorem TyAt.more {w : World} {B B' : Nat} {s : Sl3} {l : List Int} (h : TyAt w B s l) (hb : B ≤ B') : TyAt w B' s l := ⟨h.1.more hb, h.2⟩
theorem TyAt.on {w w' : World} {s : Sl3} {l : List Int} (h : TyAt w w.heap.size s l) (hb : Below w.heap.size w w') : TyAt w' w'.heap.size s l := (h.below hb).more hb.size

set_option maxRecDepth 100000 in
/-- Three lists, appended one behind the other. -/
theorem append3 {w : World} {B base : Nat} {s1 s2 s3 : Sl3} {l1 l2 l3 : List Int} (h1 : TyAt w B s1 l1) (h2 : TyAt w B s2 l2) (h3 : TyAt w B s3 l3) (hB : B ≤ base) (hbase : base ≤ w.heap.size) (hl : l1.length + l2.length + l3.length ≤ 1048576) :
    ∃ v1 w1 v2 w2 v3 w3, (∀ ty, ty = 22 → (Builtin.append_ #[22, 22] ty #[.slice none 0 0, .slice s1.a s1.n s1.c]).run Try.prog w = .ok v1 w1) ∧
      (∀ ty, ty = 22 → (Builtin.append_ #[22, 22] ty #[v1, .slice s2.a s2.n s2.c]).run Try.prog w1 = .ok v2 w2) ∧
      (∀ ty, ty = 22 → (Builtin.append_ #[22, 22] ty #[v2, .slice s3.a s3.n s3.c]).run Try.prog w2 = .ok v3 w3) ∧
      w3.ownsRow base 57 1 v3 (l1 ++ l2 ++ l3).length (vs (l1 ++ l2 ++ l3)) ∧ Below base w w1 ∧ Below base w w2 ∧ Below base w w3 := by
  have e1 : l1.length = s1.n := h1.1.1
  have e2 : l2.length = s2.n := h2.1.1
  have e3 : l3.length = s3.n := h3.1.1
  obtain ⟨v1, w1, r1, o1, g1⟩ := append_types (n := 0) (v := .slice none 0 0) (xs := []) (base := base) (World.ownsRow_nil _ _ _ _) h1.1 h1.2 hbase (by omega)
  have b1 : Below base w w1 := (Below.refl _ _).grown g1 hbase (fun k hk => by cases hk)
  obtain ⟨v2, w2, r2, o2, g2⟩ := append_types o1 ((h2.below (b1.mono hB)).1) h2.2 (Nat.le_trans hbase b1.size) (by omega)
  have b2 : Below base w w2 := b1.grown g2 (Nat.le_trans hbase b1.size) (fun k hk => (o1.lt k hk).1)
  obtain ⟨v3, w3, r3, o3, g3⟩ := append_types o2 ((h3.below (b2.mono hB)).1) h3.2 (Nat.le_trans hbase b2.size) (by omega)
  have b3 : Below base w w3 := b2.grown g3 (Nat.le_trans hbase b2.size) (fun k hk => (o2.lt k hk).1)
  refine ⟨v1, w1, v2, w2, v3, w3, r1, r2, r3, ?_, b1, b2, b3⟩
  rw [List.length_append, List.length_append, e1, e2, e3, vs_append, vs_append]
  simpa using o3

set_option maxRecDepth 100000 in
theorem tys_of_own {w w' : World} {base n : Nat} {v : Value} {l : List Int} (h : w'.ownsRow base 57 1 v n (vs l)) (hb : Below w.heap.size w w') : TysP l w (.returned v) w' := by
  have hl : l.length = n := by have := h.1; unfold vs at this; simpa using this
  rcases h.2 with ⟨rfl, h0⟩ | ⟨g, cap, cur, rfl, _⟩
  · have hi := ints_of_rowE h
    refine ⟨none, 0, by rw [hl, h0], ?_, hb⟩
    rw [hl, h0]
    exact hi.2.1
  · have hi := ints_of_rowE h
    rw [← hl] at hi
    exact ⟨some ⟨g, 0, none⟩, cap, by rw [hl], by rw [hl] at hi ⊢; exact hi.2.1, hb⟩

end Go.Proofs.Ytngkjmghhoemgaa

namespace Go.Proofs.Ytngkjmghhoemgaa
open Go.RowKit

/-- Runs as cells. -/
def ps : Ru.Runs → List Value
  | [] => []
  | p :: r => .int .i64 p.1 :: .int .i64 p.2 :: ps r
theorem ps_append (a b : Ru.Runs) : ps (a ++ b) = ps a ++ ps b := by
  induction a with
  | nil => rfl
  | cons p r ih => simp [ps, ih]
theorem ps_length (r : Ru.Runs) : (ps r).length = r.length * 2 := by
  induction r with
  | nil => rfl
  | cons p r ih => simp only [ps, List.length_cons, ih]; omega
theorem ps_one (r : Ru.Runs) : ∀ u ∈ ps r, u.oneCell' = true := by
  induction r with
  | nil => intro u hu; simp [ps] at hu
  | cons p r ih =>
    intro u hu
    simp only [ps, List.mem_cons] at hu
    rcases hu with rfl | rfl | hu
    · rfl
    · rfl
    · exact ih u hu
theorem ps_get (r : Ru.Runs) : ∀ i, i < r.length → (ps r)[i * 2]? = some (.int .i64 (r.getD i (0, 0)).1) ∧ (ps r)[i * 2 + 1]? = some (.int .i64 (r.getD i (0, 0)).2) := by
  induction r with
  | nil => intro i hi; simp at hi
  | cons p r ih =>
    intro i hi
    cases i with
    | zero => exact ⟨rfl, rfl⟩
    | succ i =>
      have h := ih i (by simpa using hi)
      rw [show (i + 1) * 2 = i * 2 + 1 + 1 by omega]
      simpa [ps] using h

/-- A slice of n runs, below block B. -/
def PairsAt (w : World) (B : Nat) (a : Option Addr) (n : Nat) (r : Ru.Runs) : Prop :=
  r.length = n ∧ (0 < n → ∃ b off, a = some ⟨b, off, none⟩ ∧ b < B ∧ ∀ i, i < n → w.cell? ⟨b, off + i * 2, none⟩ = some (.int .i64 (r.getD i (0, 0)).1) ∧ w.cell? ⟨b, off + i * 2 + 1, none⟩ = some (.int .i64 (r.getD i (0, 0)).2))
theorem PairsAt.below {w w' : World} {B : Nat} {a : Option Addr} {n : Nat} {r : Ru.Runs} (h : PairsAt w B a n r) (hb : Below B w w') : PairsAt w' B a n r := by
  refine ⟨h.1, fun hn => ?_⟩
  obtain ⟨b, off, e, hlt, hc⟩ := h.2 hn
  exact ⟨b, off, e, hlt, fun i hi => ⟨(hb.cell (p := ⟨b, off + i * 2, none⟩) hlt).trans (hc i hi).1, (hb.cell (p := ⟨b, off + i * 2 + 1, none⟩) hlt).trans (hc i hi).2⟩⟩
theorem PairsAt.more {w : World} {B B' : Nat} {a : Option Addr} {n : Nat} {r : Ru.Runs} (h : PairsAt w B a n r) (hb : B ≤ B') : PairsAt w B' a n r := by
  refine ⟨h.1, fun hn => ?_⟩
  obtain ⟨b, off, e, hlt, hc⟩ := h.2 hn
  exact ⟨b, off, e, by omega, hc⟩
/-- The first k of them. -/
theorem PairsAt.take {w : World} {B : Nat} {a : Option Addr} {n : Nat} {r : Ru.Runs} (h : PairsAt w B a n r) {k : Nat} (hk : k ≤ n) : PairsAt w B a k (r.take k) := by
  refine ⟨by rw [List.length_take, h.1]; omega, fun hn => ?_⟩
  obtain ⟨b, off, e, hlt, hc⟩ := h.2 (by omega)
  refine ⟨b, off, e, hlt, fun i hi => ?_⟩
  have : (r.take k).getD i (0, 0) = r.getD i (0, 0) := by simp [List.getD, hi]
  rw [this]
  exact hc i (by omega)

/-- Runs that the call itself has made, read. -/
theorem pairs_of_own {w : World} {b n : Nat} {e : TypeId} {A : Option Addr} {k c : Nat} {r : Ru.Runs} (h : w.ownsRow b e 2 (.slice A k c) n (ps r)) : k = n ∧ PairsAt w w.heap.size A k r ∧ r.length = n ∧ k ≤ c := by
  have hl : r.length = n := by have := h.1; rw [ps_length] at this; omega
  have hlt := h.lt
  rcases h.2 with ⟨hv, hn⟩ | ⟨g, cap, cur, hv, hg, hh, hnc, hcm, hcs, ht⟩
  · injection hv with h1 h2 h3
    subst h1 h2 h3 hn
    exact ⟨rfl, ⟨hl, fun h => absurd h (by omega)⟩, hl, Nat.le_refl _⟩
  · injection hv with h1 h2 h3
    subst h1 h2 h3
    refine ⟨rfl, ⟨hl, fun hn => ⟨g, 0, rfl, (hlt g rfl).2, fun i hi => ?_⟩⟩, hl, hnc⟩
    obtain ⟨e0, e1⟩ := ps_get r i (by omega)
    rw [← ht, List.getElem?_take, if_pos (by omega), Array.getElem?_toList] at e0 e1
    rw [Nat.zero_add, cell_of_row w g _ cur _ _ hh, cell_of_row w g _ cur _ _ hh]
    exact ⟨e0, e1⟩

/-- One run more: its cells in new memory. -/
theorem new_run (w : World) (t : TypeId) (x y : Int) : ∀ j u, (ps [(x, y)])[j]? = some u → (w.alloc (.cells #[.int .i64 x, .int .i64 y] t)).cell? ((⟨w.heap.size, 0, none⟩ : Addr).add j) = some u :=
  World.news_of_block (heap_alloc_new w (.cells #[.int .i64 x, .int .i64 y] t))

/-- Runs of the call's own are answered; nothing below has turned. -/
def RunsP (e : TypeId) (r : Ru.Runs) (w : World) (en : Ending) (w' : World) : Prop :=
  ∃ v, en = .returned v ∧ w'.ownsRow w.heap.size e 2 v r.length (ps r) ∧ Below w.heap.size w w'
/-- Numbers of the call's own are answered. -/
def NumsP (l : List Int) (w : World) (en : Ending) (w' : World) : Prop :=
  ∃ v, en = .returned v ∧ w'.ownsRow w.heap.size 3 1 v l.length (vs l) ∧ Below w.heap.size w w'
theorem vs_length (l : List Int) : (vs l).length = l.length := by simp [vs]
set_option maxRecDepth 100000 in
/-- What is owned, as a slice that can be read. -/
theorem nums_slice {w : World} {b : Nat} {v : Value} {l : List Int} (h : w.ownsRow b 3 1 v l.length (vs l)) : ∃ A c, v = .slice A l.length c ∧ IntsAt w w.heap.size A l.length l := by
  rcases h.2 with ⟨rfl, hn⟩ | ⟨g, cap, cur, rfl, _⟩
  · have hi := ints_of_own h
    rw [← hn] at hi
    exact ⟨none, 0, by rw [hn], hi.2.1⟩
  · exact ⟨_, cap, rfl, (ints_of_own h).2.1⟩
theorem runs_slice {w : World} {b : Nat} {e : TypeId} {v : Value} {r : Ru.Runs} (h : w.ownsRow b e 2 v r.length (ps r)) : ∃ A c, v = .slice A r.length c ∧ PairsAt w w.heap.size A r.length r ∧ r.length ≤ c := by
  rcases h.2 with ⟨rfl, hn⟩ | ⟨g, cap, cur, rfl, _⟩
  · have hi := pairs_of_own h
    rw [← hn] at hi
    exact ⟨none, 0, by rw [hn], hi.2.1, by omega⟩
  · exact ⟨_, cap, rfl, (pairs_of_own h).2.1, (pairs_of_own h).2.2.2⟩
/-- The cells of pair k, and what they hold. -/
theorem pairs_cell {w : World} {B n : Nat} {a : Option Addr} {r : Ru.Runs} (h : PairsAt w B a n r) {k : Nat} (hk : k < n) :
    ∃ b off x, a = some ⟨b, off, none⟩ ∧ b < B ∧ r.getD k (0, 0) = x ∧ k < r.length ∧ w.cell? ⟨b, off + k * 2, none⟩ = some (.int .i64 x.1) ∧ w.cell? ⟨b, off + k * 2 + 1, none⟩ = some (.int .i64 x.2) := by
  obtain ⟨b, off, e, hlt, hc⟩ := h.2 (by omega)
  exact ⟨b, off, _, e, hlt, rfl, by rw [h.1]; exact hk, (hc k hk).1, (hc k hk).2⟩

end Go.Proofs.Ytngkjmghhoemgaa

namespace Go.Proofs.Ytngkjmghhoemgaa
open Go.RowKit

/-- Nodes as cells. -/
def nds : List Tr.Nd → List Value
  | [] => []
  | n :: r => vs n.list ++ nds r
theorem nds_append (a b : List Tr.Nd) : nds (a ++ b) = nds a ++ nds b := by
  induction a with
  | nil => rfl
  | cons n r ih => simp only [List.cons_append, nds, ih, List.append_assoc]
theorem nds_length (r : List Tr.Nd) : (nds r).length = r.length * 7 := by
  induction r with
  | nil => rfl
  | cons n r ih => simp only [nds, List.length_append, List.length_cons, ih, vs, List.length_map, Tr.Nd.list, List.length_nil]; omega
theorem nds_one (r : List Tr.Nd) : ∀ u ∈ nds r, u.oneCell' = true := by
  induction r with
  | nil => intro u hu; simp [nds] at hu
  | cons n r ih =>
    intro u hu
    rcases List.mem_append.1 hu with hu | hu
    · exact vs_one _ u hu
    · exact ih u hu
/-- Number j of node i. -/
def fld (r : List Tr.Nd) (i j : Nat) : Int := (r.getD i Tr.Nd.nil).list.getD j 0
theorem nds_get (r : List Tr.Nd) : ∀ i, i < r.length → ∀ j, j < 7 → (nds r)[i * 7 + j]? = some (.int .i64 (fld r i j)) := by
  induction r with
  | nil => intro i hi; simp at hi
  | cons n r ih =>
    intro i hi j hj
    have hl : (vs n.list).length = 7 := by simp [vs, Tr.Nd.list]
    cases i with
    | zero =>
      rw [Nat.zero_mul, Nat.zero_add, nds, List.getElem?_append_left (by omega)]
      rcases (show j = 0 ∨ j = 1 ∨ j = 2 ∨ j = 3 ∨ j = 4 ∨ j = 5 ∨ j = 6 by omega) with rfl | rfl | rfl | rfl | rfl | rfl | rfl <;> rfl
    | succ i =>
      have h := ih i (by simpa using hi) j hj
      rw [nds, List.getElem?_append_right (by omega), hl, show (i + 1) * 7 + j - 7 = i * 7 + j by omega, h]
      rfl

/-- A slice of n nodes, below block B. -/
def NodesAt (w : World) (B : Nat) (a : Option Addr) (n : Nat) (r : List Tr.Nd) : Prop :=
  r.length = n ∧ (0 < n → ∃ b off, a = some ⟨b, off, none⟩ ∧ b < B ∧ ∀ i, i < n → ∀ j, j < 7 → w.cell? ⟨b, off + i * 7 + j, none⟩ = some (.int .i64 (fld r i j)))
theorem NodesAt.below {w w' : World} {B : Nat} {a : Option Addr} {n : Nat} {r : List Tr.Nd} (h : NodesAt w B a n r) (hb : Below B w w') : NodesAt w' B a n r := by
  refine ⟨h.1, fun hn => ?_⟩
  obtain ⟨b, off, e, hlt, hc⟩ := h.2 hn
  exact ⟨b, off, e, hlt, fun i hi j hj => (hb.cell (p := ⟨b, off + i * 7 + j, none⟩) hlt).trans (hc i hi j hj)⟩
theorem NodesAt.more {w : World} {B B' : Nat} {a : Option Addr} {n : Nat} {r : List Tr.Nd} (h : NodesAt w B a n r) (hb : B ≤ B') : NodesAt w B' a n r := by
  refine ⟨h.1, fun hn => ?_⟩
  obtain ⟨b, off, e, hlt, hc⟩ := h.2 hn
  exact ⟨b, off, e, by omega, hc⟩
theorem NodesAt.on {w w' : World} {a : Option Addr} {n : Nat} {r : List Tr.Nd} (h : NodesAt w w.heap.size a n r) (hb : Below w.heap.size w w') : NodesAt w' w'.heap.size a n r := (h.below hb).more hb.size
/-- The cells of node k, and what they hold. -/
theorem nodes_cell {w : World} {B n : Nat} {a : Option Addr} {r : List Tr.Nd} (h : NodesAt w B a n r) {k : Nat} (hk : k < n) :
    ∃ b off x, a = some ⟨b, off, none⟩ ∧ b < B ∧ r.getD k Tr.Nd.nil = x ∧ k < r.length ∧ w.cell? ⟨b, off + k * 7, none⟩ = some (.int .i64 x.p) ∧ w.cell? ⟨b, off + k * 7 + 1, none⟩ = some (.int .i64 x.f) ∧ w.cell? ⟨b, off + k * 7 + 2, none⟩ = some (.int .i64 x.l) ∧ w.cell? ⟨b, off + k * 7 + 3, none⟩ = some (.int .i64 x.a) ∧
      w.cell? ⟨b, off + k * 7 + 4, none⟩ = some (.int .i64 x.g) ∧ w.cell? ⟨b, off + k * 7 + 5, none⟩ = some (.int .i64 x.t) ∧ w.cell? ⟨b, off + k * 7 + 6, none⟩ = some (.int .i64 x.r) := by
  obtain ⟨b, off, e, hlt, hc⟩ := h.2 (by omega)
  exact ⟨b, off, _, e, hlt, rfl, by rw [h.1]; exact hk, hc k hk 0 (by decide), hc k hk 1 (by decide), hc k hk 2 (by decide), hc k hk 3 (by decide), hc k hk 4 (by decide), hc k hk 5 (by decide), hc k hk 6 (by decide)⟩

/-- Nodes that the call itself has made, read. -/
theorem nodes_of_own {w : World} {b n : Nat} {e : TypeId} {A : Option Addr} {k c : Nat} {r : List Tr.Nd} (h : w.ownsRow b e 7 (.slice A k c) n (nds r)) : k = n ∧ NodesAt w w.heap.size A k r ∧ r.length = n ∧ k ≤ c := by
  have hl : r.length = n := by have := h.1; rw [nds_length] at this; omega
  have hlt := h.lt
  rcases h.2 with ⟨hv, hn⟩ | ⟨g, cap, cur, hv, hg, hh, hnc, hcm, hcs, ht⟩
  · injection hv with h1 h2 h3
    subst h1 h2 h3 hn
    exact ⟨rfl, ⟨hl, fun h => absurd h (by omega)⟩, hl, Nat.le_refl _⟩
  · injection hv with h1 h2 h3
    subst h1 h2 h3
    refine ⟨rfl, ⟨hl, fun hn => ⟨g, 0, rfl, (hlt g rfl).2, fun i hi j hj => ?_⟩⟩, hl, hnc⟩
    have e0 := nds_get r i (by omega) j hj
    rw [← ht, List.getElem?_take, if_pos (by omega), Array.getElem?_toList] at e0
    rw [Nat.zero_add, cell_of_row w g _ cur _ _ hh]
    exact e0
theorem nodes_slice {w : World} {b : Nat} {e : TypeId} {v : Value} {r : List Tr.Nd} (h : w.ownsRow b e 7 v r.length (nds r)) : ∃ A c, v = .slice A r.length c ∧ NodesAt w w.heap.size A r.length r ∧ r.length ≤ c := by
  rcases h.2 with ⟨rfl, hn⟩ | ⟨g, cap, cur, rfl, _⟩
  · have hi := nodes_of_own h
    rw [← hn] at hi
    exact ⟨none, 0, by rw [hn], hi.2.1, by omega⟩
  · exact ⟨_, cap, rfl, (nodes_of_own h).2.1, (nodes_of_own h).2.2.2⟩
/-- One node more: its cells in new memory. -/
theorem new_node (w : World) (t : TypeId) (n : Tr.Nd) : ∀ j u, (nds [n])[j]? = some u → (w.alloc (.cells #[.int .i64 n.p, .int .i64 n.f, .int .i64 n.l, .int .i64 n.a, .int .i64 n.g, .int .i64 n.t, .int .i64 n.r] t)).cell? ((⟨w.heap.size, 0, none⟩ : Addr).add j) = some u :=
  World.news_of_block (heap_alloc_new w (.cells #[.int .i64 n.p, .int .i64 n.f, .int .i64 n.l, .int .i64 n.a, .int .i64 n.g, .int .i64 n.t, .int .i64 n.r] t))

/-- A node in a block of its own. -/
def NodeAt (w : World) (B : Nat) (t : TypeId) (n : Tr.Nd) : Prop := w.heap[B]? = some (.cells #[.int .i64 n.p, .int .i64 n.f, .int .i64 n.l, .int .i64 n.a, .int .i64 n.g, .int .i64 n.t, .int .i64 n.r] t (0, 0))
theorem NodeAt.new (w : World) (t : TypeId) (n : Tr.Nd) : NodeAt (w.alloc (.cells #[.int .i64 n.p, .int .i64 n.f, .int .i64 n.l, .int .i64 n.a, .int .i64 n.g, .int .i64 n.t, .int .i64 n.r] t)) w.heap.size t n := heap_alloc_new w _
theorem NodeAt.lt {w : World} {B : Nat} {t : TypeId} {n : Tr.Nd} (h : NodeAt w B t n) : B < w.heap.size := (Array.getElem?_eq_some_iff.1 h).1
theorem NodeAt.below {w w' : World} {B T : Nat} {t : TypeId} {n : Tr.Nd} (h : NodeAt w B t n) (hb : Below T w w') (hT : B < T) : NodeAt w' B t n := (hb.block B hT).trans h
theorem NodeAt.cells {w : World} {B : Nat} {t : TypeId} {n : Tr.Nd} (h : NodeAt w B t n) : w.cell? ⟨B, 0, none⟩ = some (.int .i64 n.p) ∧ w.cell? ⟨B, 1, none⟩ = some (.int .i64 n.f) ∧ w.cell? ⟨B, 2, none⟩ = some (.int .i64 n.l) ∧ w.cell? ⟨B, 3, none⟩ = some (.int .i64 n.a) ∧ w.cell? ⟨B, 4, none⟩ = some (.int .i64 n.g) ∧ w.cell? ⟨B, 5, none⟩ = some (.int .i64 n.t) ∧ w.cell? ⟨B, 6, none⟩ = some (.int .i64 n.r) := by
  unfold NodeAt at h
  refine ⟨?_, ?_, ?_, ?_, ?_, ?_, ?_⟩ <;> simp [World.cell?, h]

end Go.Proofs.Ytngkjmghhoemgaa

namespace Go.Proofs.Ytngkjmghhoemgaa
open Go.RowKit

/-- Nil has no room. -/
def Sl3.nilOk (s : Sl3) : Prop := s.a = none → s.c = 0
/-- What a function's fields hold, below block B. -/
structure FnOk (w : World) (B : Nat) (v : FnV) (f : Fn.F) : Prop where
  name : v.name = f.name
  inner : v.inner = f.inner
  outer : TyAt w B v.outer f.outer
  params : TyAt w B v.params f.params
  results : TyAt w B v.results f.results
  locals : TyAt w B v.locals f.locals
  code : PairsAt w B v.code.a v.code.n f.code ∧ v.code.nilOk
  lines : IntsAt w B v.lines.a v.lines.n f.lines ∧ v.lines.nilOk
  nodes : NodesAt w B v.nodes.a v.nodes.n f.nodes ∧ v.nodes.nilOk
  at_ : IntsAt w B v.at_.a v.at_.n f.at_ ∧ v.at_.nilOk
  live : SetsAt w B v.live.a v.live.n f.live ∧ v.live.nilOk
/-- No list is longer than a machine's numbers tell. -/
structure FnV.Len (v : FnV) : Prop where
  name : v.name.size ≤ 9223372036854775807
  outer : v.outer.n ≤ 9223372036854775807
  params : v.params.n ≤ 9223372036854775807
  results : v.results.n ≤ 9223372036854775807
  locals : v.locals.n ≤ 9223372036854775807
  code : v.code.n ≤ 9223372036854775807
  lines : v.lines.n ≤ 9223372036854775807
  nodes : v.nodes.n ≤ 9223372036854775807
  at_ : v.at_.n ≤ 9223372036854775807
  live : v.live.n ≤ 9223372036854775807
variable {w w' : World} {B B' : Nat} {v : FnV} {f : Fn.F}
theorem FnOk.below (h : FnOk w B v f) (hb : Below B w w') : FnOk w' B v f :=
  ⟨h.name, h.inner, h.outer.below hb, h.params.below hb, h.results.below hb, h.locals.below hb, ⟨h.code.1.below hb, h.code.2⟩, ⟨h.lines.1.below hb, h.lines.2⟩, ⟨h.nodes.1.below hb, h.nodes.2⟩, ⟨h.at_.1.below hb, h.at_.2⟩, ⟨h.live.1.below hb, h.live.2⟩⟩
theorem FnOk.more (h : FnOk w B v f) (hb : B ≤ B') : FnOk w B' v f :=
  ⟨h.name, h.inner, h.outer.more hb, h.params.more hb, h.results.more hb, h.locals.more hb, ⟨h.code.1.more hb, h.code.2⟩, ⟨h.lines.1.more hb, h.lines.2⟩, ⟨h.nodes.1.more hb, h.nodes.2⟩, ⟨h.at_.1.more hb, h.at_.2⟩, ⟨h.live.1.more hb, h.live.2⟩⟩
theorem FnOk.on (h : FnOk w w.heap.size v f) (hb : Below w.heap.size w w') : FnOk w' w'.heap.size v f := (h.below hb).more hb.size
theorem FnOk.n_outer (h : FnOk w B v f) : f.outer.length = v.outer.n := h.outer.1.1
theorem FnOk.n_params (h : FnOk w B v f) : f.params.length = v.params.n := h.params.1.1
theorem FnOk.n_results (h : FnOk w B v f) : f.results.length = v.results.n := h.results.1.1
theorem FnOk.n_locals (h : FnOk w B v f) : f.locals.length = v.locals.n := h.locals.1.1
theorem FnOk.n_code (h : FnOk w B v f) : f.code.length = v.code.n := h.code.1.1
theorem FnOk.n_lines (h : FnOk w B v f) : f.lines.length = v.lines.n := h.lines.1.1
theorem FnOk.n_nodes (h : FnOk w B v f) : f.nodes.length = v.nodes.n := h.nodes.1.1
theorem FnOk.n_at (h : FnOk w B v f) : f.at_.length = v.at_.n := h.at_.1.1
theorem FnOk.n_live (h : FnOk w B v f) : f.live.length = v.live.n := h.live.1.1

/-- A function's cells, one by one. -/
theorem FnAt.c0 {w : World} {b : Nat} {v : FnV} (h : FnAt w b v) : w.cell? ⟨b, 0, none⟩ = some (.string v.name) := h.cell 0
theorem FnAt.c1 {w : World} {b : Nat} {v : FnV} (h : FnAt w b v) : w.cell? ⟨b, 1, none⟩ = some (.bool v.inner) := h.cell 1
theorem FnAt.c2 {w : World} {b : Nat} {v : FnV} (h : FnAt w b v) : w.cell? ⟨b, 2, none⟩ = some (.slice v.outer.a v.outer.n v.outer.c) := h.cell 2
theorem FnAt.c3 {w : World} {b : Nat} {v : FnV} (h : FnAt w b v) : w.cell? ⟨b, 3, none⟩ = some (.slice v.params.a v.params.n v.params.c) := h.cell 3
theorem FnAt.c4 {w : World} {b : Nat} {v : FnV} (h : FnAt w b v) : w.cell? ⟨b, 4, none⟩ = some (.slice v.results.a v.results.n v.results.c) := h.cell 4
theorem FnAt.c5 {w : World} {b : Nat} {v : FnV} (h : FnAt w b v) : w.cell? ⟨b, 5, none⟩ = some (.slice v.locals.a v.locals.n v.locals.c) := h.cell 5
theorem FnAt.c6 {w : World} {b : Nat} {v : FnV} (h : FnAt w b v) : w.cell? ⟨b, 6, none⟩ = some (.slice v.code.a v.code.n v.code.c) := h.cell 6
theorem FnAt.c7 {w : World} {b : Nat} {v : FnV} (h : FnAt w b v) : w.cell? ⟨b, 7, none⟩ = some (.slice v.lines.a v.lines.n v.lines.c) := h.cell 7
theorem FnAt.c8 {w : World} {b : Nat} {v : FnV} (h : FnAt w b v) : w.cell? ⟨b, 8, none⟩ = some (.slice v.nodes.a v.nodes.n v.nodes.c) := h.cell 8
theorem FnAt.c9 {w : World} {b : Nat} {v : FnV} (h : FnAt w b v) : w.cell? ⟨b, 9, none⟩ = some (.slice v.at_.a v.at_.n v.at_.c) := h.cell 9
theorem FnAt.c10 {w : World} {b : Nat} {v : FnV} (h : FnAt w b v) : w.cell? ⟨b, 10, none⟩ = some (.slice v.live.a v.live.n v.live.c) := h.cell 10
theorem FnAt.all {w : World} {b : Nat} {v : FnV} (h : FnAt w b v) : w.cell? ⟨b, 0, none⟩ = some (.string v.name) ∧ w.cell? ⟨b, 1, none⟩ = some (.bool v.inner) ∧ w.cell? ⟨b, 2, none⟩ = some (.slice v.outer.a v.outer.n v.outer.c) ∧ w.cell? ⟨b, 3, none⟩ = some (.slice v.params.a v.params.n v.params.c) ∧ w.cell? ⟨b, 4, none⟩ = some (.slice v.results.a v.results.n v.results.c) ∧ w.cell? ⟨b, 5, none⟩ = some (.slice v.locals.a v.locals.n v.locals.c) ∧ w.cell? ⟨b, 6, none⟩ = some (.slice v.code.a v.code.n v.code.c) ∧ w.cell? ⟨b, 7, none⟩ = some (.slice v.lines.a v.lines.n v.lines.c) ∧ w.cell? ⟨b, 8, none⟩ = some (.slice v.nodes.a v.nodes.n v.nodes.c) ∧ w.cell? ⟨b, 9, none⟩ = some (.slice v.at_.a v.at_.n v.at_.c) ∧ w.cell? ⟨b, 10, none⟩ = some (.slice v.live.a v.live.n v.live.c) := ⟨h.c0, h.c1, h.c2, h.c3, h.c4, h.c5, h.c6, h.c7, h.c8, h.c9, h.c10⟩
theorem pairs_nil (w : World) (B : Nat) : PairsAt w B none 0 [] := ⟨rfl, fun h => absurd h (Nat.not_lt_zero _)⟩
theorem nodes_nil (w : World) (B : Nat) : NodesAt w B none 0 [] := ⟨rfl, fun h => absurd h (Nat.not_lt_zero _)⟩
theorem sets_nil (w : World) (B : Nat) : SetsAt w B none 0 [] := ⟨rfl, fun h => absurd h (Nat.not_lt_zero _)⟩
theorem intsN (w : World) (B : Nat) : IntsAt w B none 0 [] := ⟨rfl, fun h => absurd h (Nat.not_lt_zero _)⟩
def Sl3.nil : Sl3 := ⟨none, 0, 0⟩
def FnV.zero : FnV := ⟨⟨#[]⟩, false, .nil, .nil, .nil, .nil, .nil, .nil, .nil, .nil, .nil⟩
theorem FnOk.zero (w : World) (B : Nat) : FnOk w B .zero .zero :=
  ⟨rfl, rfl, ⟨intsN w B, fun _ => rfl⟩, ⟨intsN w B, fun _ => rfl⟩, ⟨intsN w B, fun _ => rfl⟩, ⟨intsN w B, fun _ => rfl⟩, ⟨pairs_nil w B, fun _ => rfl⟩, ⟨intsN w B, fun _ => rfl⟩, ⟨nodes_nil w B, fun _ => rfl⟩, ⟨intsN w B, fun _ => rfl⟩, ⟨sets_nil w B, fun _ => rfl⟩⟩
end Go.Proofs.Ytngkjmghhoemgaa
