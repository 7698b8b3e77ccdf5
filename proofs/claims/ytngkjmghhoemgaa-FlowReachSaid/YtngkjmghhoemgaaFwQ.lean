/-
  A row of bools of the call's own; what stands behind the first of a row of numbers; a scope that is left by jumps back to its label, begun once. Conditions: none.
-/
import Derived.Test.YtngkjmghhoemgaaFwRow
import Derived.Test.YtngkjmghhoemgaaFwMath
import Derived.ScopeJumps
import Derived.Deep.DeepMust
namespace Go.Proofs.Ytngkjmghhoemgaa
open Go.RowKit

theorem wp_scope_again {P : Program} {a : Act} {w : World} {Q : Exit → Act → World → Prop} {c X : Code} (l : Nat) (J : Act → World → Prop) (μ : Act → World → Nat) (hf : findLabel c l = some (.seq .skip X))
    (first : (∀ a w, J a w → X.wp P (Exit.jump l J Q) a w) → c.wp P (Exit.jump l J Q) a w)
    (pass : ∀ a w, J a w → X.wp P (Exit.jump l (fun a' w' => J a' w' ∧ μ a' w' < μ a w) Q) a w) : (Code.scope c).wp P Q a w := by
  refine wp_scope_jumps l J μ hf (first fun a w hJ => Code.wp_mono ?_ (pass a w hJ)) (fun a w hJ => wp_seq (wp_skip (pass a w hJ)))
  intro e a' w' h
  cases e <;> first | exact h | exact ⟨h.1, h.2.1⟩

/-- Bools as cells. -/
def bls (l : List Bool) : List Value := l.map Value.bool
/-- A row of bools in block g. -/
def Bq (w : World) (g : Nat) (out : List Bool) : Prop := w.heap[g]? = some (.cells (bls out).toArray 4 (0, 0))
theorem Bq.lt {w : World} {g : Nat} {out : List Bool} (h : Bq w g out) : g < w.heap.size := (Array.getElem?_eq_some_iff.1 h).1
theorem Bq.kept {w w' : World} {g : Nat} {out : List Bool} (h : Bq w g out) (he : w'.heap[g]? = w.heap[g]?) : Bq w' g out := he.trans h
theorem Bq.below {w w' : World} {g : Nat} {out : List Bool} (h : Bq w g out) (hb : Below w.heap.size w w') : Bq w' g out := h.kept (hb.block g h.lt)
theorem Bq.cell {w : World} {g : Nat} {out : List Bool} (h : Bq w g out) {k : Nat} (hk : k < out.length) : w.cell? ⟨g, k, none⟩ = some (.bool (out.getD k false)) := by
  rw [cell_of_row w g k _ _ _ h]
  simp [bls, hk, List.getD]
theorem Bq.frozen {w : World} {g : Nat} {out : List Bool} (h : Bq w g out) (k : Nat) : w.frozen? ⟨g, k, none⟩ = false := frozen_of_row w g k _ _ h
theorem Bq.set {w : World} {g : Nat} {out : List Bool} (h : Bq w g out) (k : Nat) (b : Bool) : Bq (w.setCell ⟨g, k, none⟩ (.bool b)) g (out.set k b) := by
  have e := heap_setCell_same w g k _ _ (.bool b) h
  unfold Bq
  rw [e]
  simp [bls, List.map_set]
set_option maxRecDepth 100000 in
theorem Bq.made {w : World} {base g n : Nat} (h : w.ownsRow base 4 1 (.slice (some ⟨g, 0, none⟩) n n) n (madeCells (Value.bool false).cells (n * 1)).toList) : Bq w g (List.replicate n false) := by
  rcases h.2 with ⟨h', _⟩ | ⟨g', cap', cur, h', _, hg, _, _, hcs, ht⟩
  · cases h'
  · simp only [Value.slice.injEq, Option.some.injEq, Addr.mk.injEq, and_true, true_and] at h'
    obtain ⟨rfl, rfl⟩ := h'
    unfold Bq
    rw [hg]
    have e : cur.toList = bls (List.replicate n false) := by
      rw [List.take_of_length_le (by rw [Array.length_toList]; omega)] at ht
      rw [ht, Nat.mul_one]
      show (madeCells #[Value.bool false] n).toList = _
      rw [toList_madeCells_one]
      simp [bls]
    rw [← e]
set_option maxRecDepth 100000 in
theorem info_bool : (Try.prog.info? 4).map (fun i => (i.zero, i.size, i.bytes)) = some (some (.bool false), 1, 1) := by kernel_rfl

def isFalse : Value → Bool
  | .bool false => true
  | _ => false
/-- How many bools of block g are false. -/
def fal (w : World) (g : Nat) : Nat := match w.heap[g]? with
  | some (.cells cur _ _) => cur.toList.countP isFalse
  | _ => 0
theorem fal_of {w : World} {g : Nat} {out : List Bool} (h : Bq w g out) : fal w g = Fw.falses out := by
  unfold fal
  rw [h]
  simp only [Fw.falses, bls]
  rw [List.countP_map]
  congr 1
  funext b
  cases b <;> rfl
def lenS : Value → Nat
  | .slice _ n _ => n
  | _ => 0
/-- Bools are told, in a block of the call's own. -/
def NewBools (out : List Bool) (w : World) (e : Ending) (w' : World) : Prop := ∃ g, e = .returned (.slice (some ⟨g, 0, none⟩) out.length out.length) ∧ w.heap.size ≤ g ∧ Bq w' g out ∧ Below w.heap.size w w'

theorem Rq.sliced {w : World} {base n cap : Nat} {A : Option Addr} {l : List Int} (h : Rq w base (.slice A n cap) l) {i : Nat} (hi : i ≤ l.length) : Rq w base (Go.sliced A i n cap 1) (l.drop i) := by
  rcases h with ⟨hv, rfl⟩ | ⟨g, off, cap', cur, hv, hg, hh, hc, hs, hx⟩
  · injection hv with h1 h2 h3
    subst h1 h2 h3
    obtain rfl : i = 0 := by simpa using hi
    exact .inl ⟨rfl, rfl⟩
  · injection hv with h1 h2 h3
    subst h1 h2 h3
    unfold Go.sliced
    by_cases e : cap = i
    · subst e
      have hl : l.length = cap := by omega
      refine .inr ⟨g, off, 0, cur, ?_, hg, hh, by rw [List.length_drop]; omega, by omega, fun j hj => ?_⟩
      · rw [if_pos rfl, List.length_drop, Nat.sub_self]
      · rw [List.length_drop] at hj
        omega
    · have ht := Rq.tail (w := w) (base := base) (g := g) (off := off) (cap := cap) (n := l.length) (l := l) (.inr ⟨g, off, cap, cur, rfl, hg, hh, hc, hs, hx⟩) hi
      rw [if_neg e]
      have ea : (⟨g, off, none⟩ : Addr).add (i * 1) = ⟨g, off + i, none⟩ := by unfold Addr.add; split <;> simp_all
      rw [Option.map_some, ea]
      exact ht
set_option maxRecDepth 100000 in
/-- A slice expression from i on. -/
theorem run_slice_q {w : World} {base n cap : Nat} {A : Option Addr} {l : List Int} (h : Rq w base (.slice A n cap) l) {i : Nat} (hi : i ≤ l.length) :
    ∃ v, (Instr.sliceAt 24 (.slice A n cap) (some (.int .i64 (i : Int))) none none).run Try.prog w = .ok v w ∧ Rq w base v (l.drop i) := by
  refine ⟨_, ?_, h.sliced hi⟩
  have hn : n = l.length := by
    obtain ⟨A', c', hv, _, _⟩ := h.ints
    injection hv
  have hel : Try.prog.elem 24 = 3 := by kernel_rfl
  have hu : Try.prog.underlying 24 = some (.slice (Try.prog.elem 24)) := by rw [hel]; exact Try.underlying24
  obtain ⟨i0, hi0, hz0, hz1, hz2⟩ := info_parts info_int
  rw [run_sliceAt_slice w 24 _ _ _ _ hu, run_slice_l w 24 A n cap hu .i64 (i : Int) (by omega) (by omega)]
  simp [hel, sizeOf, typeInfo, hi0, hz1, Int.toNat_natCast]
set_option maxRecDepth 100000 in
/-- At the list of a plain region's operations. -/
theorem wpList_slice_q {P : Program} {w : World} {ops : Array Oper} {rest : List Oper} {o : Oper} {a : Act} {Q : Exit → Act → World → Prop} (hP : P = Try.prog) (hgu : o.guard = none) (s lo : Operand)
    (ho : o.op = .slice 24 s (some lo) none none) {base n cap : Nat} {A : Option Addr} {l : List Int} (hs : a.eval s = .slice A n cap) (h : Rq w base (.slice A n cap) l) {i : Nat} (hlo : a.eval lo = .int .i64 (i : Int)) (hi : i ≤ l.length)
    (hK : ∀ v', Rq w base v' (l.drop i) → wpList P ops Q rest (a.put o.dst v') w) : wpList P ops Q (o :: rest) a w := by
  subst hP
  obtain ⟨v', hr, h1⟩ := run_slice_q h hi
  refine wpList_plain hgu fun K hK' => ?_
  unfold Oper.wp execOp
  simp only [ho, Option.map_some, Option.map_none, hs, hlo, Sem.run_bind, hr, Sem.run_pure, Result.andThen_ok]
  exact hK' _ _ (hK v' h1)
end Go.Proofs.Ytngkjmghhoemgaa
