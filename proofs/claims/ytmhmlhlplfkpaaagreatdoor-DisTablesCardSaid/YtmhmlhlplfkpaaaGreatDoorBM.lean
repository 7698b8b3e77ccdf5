/-
 What every layer's texts share: rows that a call owns; a slice of whole numbers in memory. Conditions: none.
-/
import Derived.Test.YtmhmlhlplfkpaaaGreatDoorProg
import Derived.WalkKit
import Derived.WalkSpells
import Derived.WalkLawsBesides
import Derived.Lib.Hide
import Derived.Below
import Derived.Laws.OwnMore
import Derived.Deep.AppendLies
import Derived.LoopTactic
import Derived.Lib.BitFns
import Derived.Deep.MidRow
import Derived.Lib.BufferOwn
set_option maxRecDepth 100000
namespace Go.Proofs.YtmhmlhlplfkpaaaGreatDoor
open Go.RowKit
theorem ret_int {k : IntKind} {a b : Int} (h : a = b) : Ending.returned (.int k a) = .returned (.int k b) := by rw [h]
theorem ret_bool {a b : Bool} (h : a = b) : Ending.returned (.bool a) = .returned (.bool b) := by rw [h]
theorem retB {a b : Bool} (h : a = b) : Ending.returned (.bool a) = .returned (.bool b) := ret_bool h
theorem below_drewN {B : Nat} {a w : World} (h : Below B a w) (n : Nat) : Below B a (w.drewN n) := ⟨h.os, h.tape, h.output, h.size, h.block⟩
theorem own_grown {w wr w2 : World} {e : TypeId} {size k : Nat} {u : Value} {xs : List Value} {o : Obj} (hB : Below w.heap.size w wr) (hO : wr.ownsRow w.heap.size e size u k xs) (hg : (wr.alloc o).grownBy w2 u.ownBlock) : Below w.heap.size w w2 :=
 (hB.alloc hB.size o).grown hg (by have := hB.size; simp; omega) (fun k hk => (hO.lt k hk).1)
theorem ownsRow_base {w : World} {b b' : Nat} {e : TypeId} {size n : Nat} {v : Value} {xs : List Value} (h : w.ownsRow b e size v n xs) (hb : b' ≤ b) : w.ownsRow b' e size v n xs := by
 obtain ⟨h1, h2⟩ := h
 refine ⟨h1, ?_⟩
 rcases h2 with h2 | ⟨g, cap, cur, hv, hg, hh⟩
 · exact .inl h2
 · exact .inr ⟨g, cap, cur, hv, by omega, hh⟩
theorem ownsRow_below {w w' : World} {b : Nat} {e : TypeId} {size n : Nat} {v : Value} {xs : List Value} (h : w.ownsRow b e size v n xs) (hb : Below w.heap.size w w') : w'.ownsRow b e size v n xs := by
 have hlt := h.lt
 obtain ⟨h1, h2⟩ := h
 refine ⟨h1, ?_⟩
 rcases h2 with h2 | ⟨g, cap, cur, hv, hg, hh, hr⟩
 · exact .inl h2
 · refine .inr ⟨g, cap, cur, hv, hg, ?_, hr⟩
   rw [hb.block g (hlt g (by rw [hv]; rfl)).2]
   exact hh
theorem row_kept {w w' : World} {b : Nat} {e : TypeId} {size n : Nat} {v : Value} {xs : List Value} (h : w.ownsRow b e size v n xs) (hk : ∀ g, v.ownBlock = some g → w'.heap[g]? = w.heap[g]?) : w'.ownsRow b e size v n xs := by
 obtain ⟨h1, h2⟩ := h
 refine ⟨h1, ?_⟩
 rcases h2 with h2 | ⟨g, cap, cur, hv, hg, hh, hr⟩
 · exact .inl h2
 · refine .inr ⟨g, cap, cur, hv, hg, ?_, hr⟩
   rw [hk g (by rw [hv]; rfl)]
   exact hh
theorem below_self {w w1 w' : World} (h : Below w.heap.size w w1) (h1 : Below w1.heap.size w1 w') : Below w.heap.size w w' := h.trans (h1.mono h.size)
def BoolP (b : Bool) (w : World) (e : Ending) (w' : World) : Prop := e = .returned (.bool b) ∧ Below w.heap.size w w'
def StrP (s : ByteArray) (w : World) (e : Ending) (w' : World) : Prop := e = .returned (.string s) ∧ Below w.heap.size w w'
def SameP (v : Value) (w : World) (e : Ending) (w' : World) : Prop := e = .returned v ∧ w' = w
def IntsAt (w : World) (B : Nat) (a : Option Addr) (n : Nat) (l : List Int) : Prop :=
 l.length = n ∧ (0 < n → ∃ b off, a = some ⟨b, off, none⟩ ∧ b < B ∧ ∀ i, i < n → w.cell? ⟨b, off + i, none⟩ = some (.int .i64 (l.getD i 0)))
theorem IntsAt.below {w w' : World} {B : Nat} {a : Option Addr} {n : Nat} {l : List Int} (h : IntsAt w B a n l) (hb : Below B w w') : IntsAt w' B a n l := by
 refine ⟨h.1, fun hn => ?_⟩
 obtain ⟨b, off, e, hlt, hc⟩ := h.2 hn
 exact ⟨b, off, e, hlt, fun i hi => (hb.cell (p := ⟨b, off + i, none⟩) hlt).trans (hc i hi)⟩
theorem IntsAt.more {w : World} {B B' : Nat} {a : Option Addr} {n : Nat} {l : List Int} (h : IntsAt w B a n l) (hb : B ≤ B') : IntsAt w B' a n l := by
 refine ⟨h.1, fun hn => ?_⟩
 obtain ⟨b, off, e, hlt, hc⟩ := h.2 hn
 exact ⟨b, off, e, by omega, hc⟩
theorem ints_cell {w : World} {B n : Nat} {a : Option Addr} {l : List Int} (h : IntsAt w B a n l) {k : Nat} (hk : k < n) : ∃ b off x, a = some ⟨b, off, none⟩ ∧ b < B ∧ w.cell? ⟨b, off + k, none⟩ = some (.int .i64 x) ∧ l.getD k 0 = x ∧ k < l.length := by
 obtain ⟨b, off, e, hlt, hc⟩ := h.2 (by omega)
 exact ⟨b, off, _, e, hlt, hc k hk, rfl, by rw [h.1]; exact hk⟩
theorem take_snoc (l : List Int) (k : Nat) (h : k < l.length) : l.take (k + 1) = l.take k ++ [l.getD k 0] := by
 rw [List.take_succ_eq_append_getElem h]
 simp [List.getD, h]
theorem info_int : (Tryz.prog.info? 3).map (fun i => (i.zero, i.size, i.bytes)) = some (some (.int .i64 0), 1, 8) := by kernel_rfl
def vs (l : List Int) : List Value := l.map fun c : Int => Value.int .i64 c
theorem vs_append (a b : List Int) : vs (a ++ b) = vs a ++ vs b := List.map_append
theorem vs_one (l : List Int) : ∀ u ∈ vs l, u.oneCell' = true := by
 intro u hu
 obtain ⟨c, _, rfl⟩ := List.mem_map.1 hu
 rfl
theorem new_one (w : World) (t : TypeId) (x : Int) : ∀ j u, (vs [x])[j]? = some u → (w.alloc (.cells #[.int .i64 x] t)).cell? ((⟨w.heap.size, 0, none⟩ : Addr).add j) = some u :=
 World.news_of_block (heap_alloc_new w (.cells #[.int .i64 x] t))
theorem ints_of_own {w : World} {b n : Nat} {A : Option Addr} {k c : Nat} {l : List Int} (h : w.ownsRow b 3 1 (.slice A k c) n (vs l)) : k = n ∧ IntsAt w w.heap.size A k l ∧ l.length = n := by
 have hl : l.length = n := by have := h.1; unfold vs at this; simpa using this
 have hlt := h.lt
 rcases h.2 with ⟨hv, hn⟩ | ⟨g, cap, cur, hv, hg, hh, hnc, hcm, hcs, ht⟩
 · injection hv with h1 h2 h3
   subst h1 h2 hn
   exact ⟨rfl, ⟨hl, fun h => absurd h (by omega)⟩, hl⟩
 · injection hv with h1 h2 h3
   subst h1 h2
   refine ⟨rfl, ⟨hl, fun hn => ⟨g, 0, rfl, (hlt g rfl).2, fun i hi => ?_⟩⟩, hl⟩
   rw [Nat.zero_add, cell_of_row w g i cur _ _ hh]
   have e := congrArg (fun z => z[i]?) ht
   simp only [Nat.mul_one, List.getElem?_take, hi, if_true, vs] at e
   rw [← Array.getElem?_toList, e]
   simp [List.getD, hl, hi]
end Go.Proofs.YtmhmlhlplfkpaaaGreatDoor
namespace Go.Proofs.YtmhmlhlplfkpaaaGreatDoor.Uv
def put (n : Nat) : List Nat := if n < 128 then [n] else (n % 128 + 128) :: put (n / 128)
termination_by n
decreasing_by omega
def getF : List Nat → Nat → Nat → Nat × Nat × Nat
 | [], _, _ => (0, 0, 3)
 | c :: r, i, n =>
   if i = 9 ∧ 1 < c then (0, 0, 5)
   else if 128 ≤ c then getF r (i + 1) (n + (c - 128) * 128 ^ i)
   else if c = 0 ∧ 0 < i then (0, 0, 4)
   else (n + c * 128 ^ i, i + 1, 0)
def get (l : List Nat) : Nat × Nat × Nat := getF l 0 0
def fold (n : Int) : Nat := if n < 0 then (-2 * n - 1).toNat else (2 * n).toNat
def unfold_ (u : Nat) : Int := if u % 2 = 1 then -((u / 2 : Nat) : Int) - 1 else ((u / 2 : Nat) : Int)
end Go.Proofs.YtmhmlhlplfkpaaaGreatDoor.Uv
namespace Go.Proofs.YtmhmlhlplfkpaaaGreatDoor
open Go.RowKit
theorem mid_set {w : World} {g i : Nat} {cur : Array Value} {t : TypeId} {f : Nat × Nat} (h : w.heap[g]? = some (.cells cur t f)) (v : Value) : (w.setCell ⟨g, i, none⟩ v).heap[g]? = some (.cells (cur.setIfInBounds i v) t f) := by
 have hlt : g < w.heap.size := by
   rcases Nat.lt_or_ge g w.heap.size with h1 | h1
   · exact h1
   · rw [Array.getElem?_eq_none h1] at h; cases h
 rw [Array.getElem?_eq_getElem hlt] at h
 injection h with h
 unfold World.setCell
 simp only
 rw [Array.getElem?_eq_getElem (by simpa using hlt), Array.getElem_modify_self, h]
 simp
theorem sets_grown (p : Nat) : ∀ (vs : List Value) (o : Nat) (w : World), w.grownBy (w.setCells p o vs) (some p)
 | [], _, w => World.grownBy.refl w _
 | v :: r, o, w => Lib.grownBy_trans (Lib.grownBy_setB (World.grownBy.refl w _) o v) (sets_grown p r (o + 1) _)
theorem there_block {w : World} {b : Nat} {C : Array Value} {t : TypeId} (h : w.heap[b]? = some (.cells C t (0, 0))) {o n : Nat} (hn : o + n ≤ C.size) : w.there b o n := fun j hj => by
 refine ⟨?_, by simp [World.frozen?, h]⟩
 rw [cell_of_row w b (o + j) C t _ h, Array.getElem?_eq_getElem (by omega)]
 rfl
end Go.Proofs.YtmhmlhlplfkpaaaGreatDoor
