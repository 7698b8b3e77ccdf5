/-
  A slice of whole numbers of the call's own, which may begin in the midst of its block: cut ahead, and append of whatever can be read. Conditions: not more than 2^40 numbers in all.
-/
import Derived.Test.YtngkjmghhoemgaaBM
import Derived.Deep.AppendSrc
namespace Go.Proofs.Ytngkjmghhoemgaa
open Go.RowKit

/-- What is put into a row from place o on. -/
def putA (cur : Array Value) : Nat → List Value → Array Value
  | _, [] => cur
  | o, v :: r => putA (cur.setIfInBounds o v) (o + 1) r
theorem putA_size : ∀ (r : List Value) (cur : Array Value) (o : Nat), (putA cur o r).size = cur.size
  | [], _, _ => rfl
  | v :: r, cur, o => by rw [putA, putA_size r, Array.size_setIfInBounds]
theorem putA_below : ∀ (r : List Value) (cur : Array Value) (o i : Nat), i < o → (putA cur o r)[i]? = cur[i]?
  | [], _, _, _, _ => rfl
  | v :: r, cur, o, i, h => by
    rw [putA, putA_below r _ _ _ (by omega), Array.getElem?_setIfInBounds, if_neg (by omega)]
theorem putA_in : ∀ (r : List Value) (cur : Array Value) (o i : Nat), i < r.length → o + r.length ≤ cur.size → (putA cur o r)[o + i]? = r[i]?
  | [], _, _, _, h, _ => by simp at h
  | v :: r, cur, o, 0, _, hs => by
    rw [putA, putA_below r _ _ _ (by omega), Nat.add_zero, Array.getElem?_setIfInBounds, if_pos rfl, if_pos (by simp at hs; omega)]
    rfl
  | v :: r, cur, o, i + 1, h, hs => by
    rw [putA, show o + (i + 1) = o + 1 + i by omega, putA_in r _ (o + 1) i (by simpa using h) (by simp at hs ⊢; omega)]
    rfl
theorem heap_setCells_at (g : Nat) (e : TypeId) (fz : Nat × Nat) : ∀ (r : List Value) (o : Nat) (w : World) (cur : Array Value), w.heap[g]? = some (.cells cur e fz) → (w.setCells g o r).heap[g]? = some (.cells (putA cur o r) e fz)
  | [], _, _, _, h => h
  | v :: r, o, w, cur, h => by
    rw [World.setCells, putA]
    refine heap_setCells_at g e fz r (o + 1) _ _ ?_
    obtain ⟨hb, hg⟩ := Array.getElem?_eq_some_iff.1 h
    simp [World.setCell, Array.getElem?_modify, h]
theorem grownBy_setCells (g : Nat) : ∀ (r : List Value) (o : Nat) (w : World), w.grownBy (w.setCells g o r) (some g)
  | [], _, w => ⟨rfl, rfl, rfl, Nat.le_refl _, fun _ _ _ => rfl⟩
  | v :: r, o, w => by
    have h := grownBy_setCells g r (o + 1) (w.setCell ⟨g, o, none⟩ v)
    rw [World.setCells]
    refine ⟨h.os, h.tape, h.output, Nat.le_trans (by simp [World.setCell]) h.size, fun k hk hne => ?_⟩
    rw [h.block k (by simpa [World.setCell] using hk) hne]
    exact Below.heap_setCell w ⟨g, o, none⟩ v k (fun e => hne (by rw [e]))

/-- A row of the call's own that holds l, from block base on; nil, or a part of a block. -/
def Rq (w : World) (base : Nat) (v : Value) (l : List Int) : Prop :=
  (v = .slice none 0 0 ∧ l = []) ∨ ∃ g off cap cur, v = .slice (some ⟨g, off, none⟩) l.length cap ∧ base ≤ g ∧ w.heap[g]? = some (.cells cur 3 (0, 0)) ∧ l.length ≤ cap ∧ off + cap ≤ cur.size ∧ ∀ i, i < l.length → cur[off + i]? = some (.int .i64 (l.getD i 0))
theorem Rq.nil (w : World) (base : Nat) : Rq w base (.slice none 0 0) [] := .inl ⟨rfl, rfl⟩
theorem Rq.lt {w : World} {base : Nat} {v : Value} {l : List Int} (h : Rq w base v l) : ∀ g, v.ownBlock = some g → base ≤ g ∧ g < w.heap.size := by
  rintro g hg
  rcases h with ⟨rfl, _⟩ | ⟨g', off, cap, cur, rfl, hb, hh, _⟩
  · cases hg
  · injection hg with hg
    subst hg
    exact ⟨hb, (Array.getElem?_eq_some_iff.1 hh).1⟩
theorem Rq.kept {w w' : World} {base : Nat} {v : Value} {l : List Int} (h : Rq w base v l) (hk : ∀ g, v.ownBlock = some g → w'.heap[g]? = w.heap[g]?) : Rq w' base v l := by
  rcases h with h | ⟨g, off, cap, cur, hv, hb, hh, r⟩
  · exact .inl h
  · exact .inr ⟨g, off, cap, cur, hv, hb, (hk g (by rw [hv]; rfl)).trans hh, r⟩
theorem Rq.below {w w' : World} {base : Nat} {v : Value} {l : List Int} (h : Rq w base v l) (hb : Below w.heap.size w w') : Rq w' base v l := h.kept (fun g hg => hb.block g (h.lt g hg).2)
theorem Rq.more {w : World} {base base' : Nat} {v : Value} {l : List Int} (h : Rq w base v l) (hb : base' ≤ base) : Rq w base' v l := by
  rcases h with h | ⟨g, off, cap, cur, hv, hg, r⟩
  · exact .inl h
  · exact .inr ⟨g, off, cap, cur, hv, by omega, r⟩
theorem Rq.grown {w w' : World} {base : Nat} {v : Value} {l : List Int} {row : Option Nat} (h : Rq w base v l) (hg : w.grownBy w' row) (hne : ∀ g, v.ownBlock = some g → row ≠ some g) : Rq w' base v l :=
  h.kept (fun g hv => hg.block g (h.lt g hv).2 (fun e => hne g hv e.symm))
/-- It can be read. -/
theorem Rq.ints {w : World} {base : Nat} {v : Value} {l : List Int} (h : Rq w base v l) : ∃ A c, v = .slice A l.length c ∧ IntsAt w w.heap.size A l.length l ∧ l.length ≤ c := by
  rcases h with ⟨rfl, rfl⟩ | ⟨g, off, cap, cur, hv, hg, hh, hc, hs, hi⟩
  · exact ⟨none, 0, rfl, ⟨rfl, fun h => absurd h (Nat.lt_irrefl _)⟩, Nat.le_refl _⟩
  · exact ⟨_, cap, hv, ⟨rfl, fun _ => ⟨g, off, rfl, (Array.getElem?_eq_some_iff.1 hh).1, fun i hlt => (cell_of_row w g (off + i) cur _ _ hh).trans (hi i hlt)⟩⟩, hc⟩
set_option maxRecDepth 100000 in
/-- A literal. -/
theorem Rq.lit (w : World) (base : Nat) (l : List Int) (hb : base ≤ w.heap.size) : Rq (w.alloc (.cells (vs l).toArray 3)) base (.slice (some ⟨w.heap.size, 0, none⟩) l.length l.length) l := by
  refine .inr ⟨w.heap.size, 0, l.length, (vs l).toArray, rfl, hb, heap_alloc_new w _, Nat.le_refl _, by simp [vs], fun i hi => ?_⟩
  simp [vs, hi, List.getD]
set_option maxRecDepth 100000 in
theorem Rq.of_own {w : World} {base n : Nat} {v : Value} {l : List Int} (h : w.ownsRow base 3 1 v n (vs l)) : Rq w base v l := by
  obtain ⟨hl, h⟩ := h
  have hln : l.length = n := by simpa [vs] using hl
  rcases h with ⟨hv, hn⟩ | ⟨g, cap, cur, hv, hg, hh, hnc, hcm, hcs, ht⟩
  · exact .inl ⟨hv, List.eq_nil_of_length_eq_zero (by omega)⟩
  · subst hln
    refine .inr ⟨g, 0, cap, cur, hv, hg, hh, hnc, by omega, fun i hi => ?_⟩
    have e := congrArg (fun z => z[i]?) ht
    simp only [Nat.mul_one, List.getElem?_take, hi, if_true, vs] at e
    rw [Nat.zero_add, ← Array.getElem?_toList, e]
    simp [List.getD, hi]
/-- What stands behind the first i. -/
theorem Rq.tail {w : World} {base g off cap : Nat} {n : Nat} {l : List Int} (h : Rq w base (.slice (some ⟨g, off, none⟩) n cap) l) {i : Nat} (hi : i ≤ l.length) : Rq w base (.slice (some ⟨g, off + i, none⟩) (n - i) (cap - i)) (l.drop i) := by
  rcases h with ⟨hv, _⟩ | ⟨g', off', cap', cur, hv, hg, hh, hc, hs, hx⟩
  · cases hv
  · injection hv with h1 h2 h3
    injection h1 with h1
    injection h1 with h4 h5
    subst h2 h3 h4 h5
    refine .inr ⟨g, off + i, cap - i, cur, by rw [List.length_drop], hg, hh, by rw [List.length_drop]; omega, by omega, fun j hj => ?_⟩
    rw [List.length_drop] at hj
    rw [Nat.add_assoc, hx (i + j) (by omega)]
    simp [List.getD, List.getElem?_drop]

theorem vs_get {l : List Int} {i : Nat} (h : i < l.length) : (vs l)[i]? = some (.int .i64 (l.getD i 0)) := by
  simp [vs, List.getD, h]

set_option maxRecDepth 100000 in
theorem ints_src {w : World} {B m c : Nat} {A : Option Addr} {k : List Int} (h : IntsAt w B A m k) : Src Try.prog 1 24 (.slice A m c) m (vs k) w := by
  obtain ⟨hl, hc⟩ := h
  cases A with
  | none =>
    have hm : m = 0 := by
      rcases Nat.eq_zero_or_pos m with h | h
      · exact h
      · obtain ⟨b, off, h, _⟩ := hc h
        cases h
    subst hm
    rw [List.eq_nil_of_length_eq_zero hl]
    exact Src.ofNil w Try.underlying24 c
  | some ad =>
    refine Src.ofSlice w Try.underlying24 ad m c (vs k) (by simp [vs, hl]) ?_ (vs_one k)
    intro j u hu
    have hj : j < k.length := by
      rcases Nat.lt_or_ge j k.length with h | h
      · exact h
      · rw [List.getElem?_eq_none (by simpa [vs] using h)] at hu; cases hu
    obtain ⟨b, off, he, _, hx⟩ := hc (by omega)
    injection he with he
    subst he
    have e : (⟨b, off, none⟩ : Addr).add j = ⟨b, off + j, none⟩ := by unfold Addr.add; split <;> simp_all
    rw [e, hx j (by omega)]
    simp [vs, hj] at hu
    subst hu
    simp [List.getD, hj]
set_option maxRecDepth 100000 in
theorem run_append_nil_src {w : World} {x : Value} {news : List Value} (ty : TypeId) (hs : Src Try.prog 1 24 x 0 news w) (i : TypeInfo) (hi : Try.prog.info? 3 = some i) (h1 : i.size = 1) :
    (Builtin.append_ #[24, 24] ty #[.slice none 0 0, x]).run Try.prog w = .ok (.slice none 0 0) w := by
  have hc := hs.cells
  rw [← h1] at hc
  simp [Builtin.append_, run_underlying Try.underlying24, sizeOf, typeInfo, hi, hs.len, hc]

set_option maxRecDepth 100000 in
/-- append of what can be read, nil or not. -/
theorem append_q {w : World} {base : Nat} {v : Value} {l : List Int} (h : Rq w base v l) {B m c : Nat} {A : Option Addr} {k : List Int} (hs : IntsAt w B A m k) (hb : base ≤ w.heap.size) (hl : l.length + m ≤ 1099511627776) :
    ∃ v' w', (∀ ty, (Builtin.append_ #[24, 24] ty #[v, .slice A m c]).run Try.prog w = .ok v' w') ∧ Rq w' base v' (l ++ k) ∧ w.grownBy w' v.ownBlock ∧ (v'.ownBlock = v.ownBlock ∨ v'.ownBlock = some w.heap.size) := by
  obtain ⟨i0, hi, hz0, hz1, hz2⟩ := info_parts info_int
  have hm : k.length = m := hs.1
  have hS := ints_src (c := c) hs
  have hbytes : (l.length + m) * i0.bytes ≤ 140737488355328 := by rw [hz2]; omega
  rw [← hz1] at hS
  have grow : ∀ (a : Option Addr) (sLen sCap : Nat), v = .slice a sLen sCap → sLen = l.length → sCap < sLen + m → (Builtin.firstCells i0.size sLen (.slice a sLen sCap)).run Try.prog w.drew = .ok (vs l).toArray w.drew →
      ∃ v' w', (∀ ty, (Builtin.append_ #[24, 24] ty #[v, .slice A m c]).run Try.prog w = .ok v' w') ∧ Rq w' base v' (l ++ k) ∧ w.grownBy w' v.ownBlock ∧ (v'.ownBlock = v.ownBlock ∨ v'.ownBlock = some w.heap.size) := by
    intro a sLen sCap hv hsl hroom hold
    subst hsl
    refine ⟨_, _, fun ty => by rw [hv]; exact run_append_grow_src w 24 24 ty 3 i0 (.int .i64 0) Try.underlying24 hi hz0 a l.length sCap (vs l) hold _ m (vs k) hS hroom (by omega) (growslice_fits hroom hbytes), ?_, ?_, .inr rfl⟩
    · have hge := grownCap_ge w (l.length + m) sCap 3
      have hnew := heap_alloc_new w.drew (.cells ((vs l ++ vs k).toArray ++ Builtin.zeroCells (Value.int .i64 0).cells (grownCap w (l.length + m) sCap 3 - (l.length + m))) 3)
      generalize hcu : (vs l ++ vs k).toArray ++ Builtin.zeroCells (Value.int .i64 0).cells (grownCap w (l.length + m) sCap 3 - (l.length + m)) = cu at hnew ⊢
      have hla : (l ++ k).length = l.length + m := by rw [List.length_append, hm]
      refine .inr ⟨w.heap.size, 0, grownCap w (l.length + m) sCap 3, cu, by rw [hla], hb, hnew, by rw [hla]; exact hge, ?_, fun i hlt => ?_⟩
      · subst hcu
        have e : (Builtin.zeroCells (Value.int .i64 0).cells (grownCap w (l.length + m) sCap 3 - (l.length + m))).size = grownCap w (l.length + m) sCap 3 - (l.length + m) := by rw [size_zeroCells]; simp [Value.cells]
        rw [Array.size_append, e]
        simp [vs, hm]
        omega
      · subst hcu
        rw [List.length_append, hm] at hlt
        rw [Nat.zero_add, Array.getElem?_append_left (by simp [vs, hm]; omega)]
        rw [List.getElem?_toArray, ← vs_append]
        exact vs_get (by rw [hla]; exact hlt)
    · exact ⟨rfl, rfl, rfl, by simp, fun j hj _ => Below.heap_alloc w.drew _ j hj⟩
  rcases h with ⟨hv, rfl⟩ | ⟨g, off, cap, cur, hv, hg, hh, hc, hsz, hx⟩
  · rcases Nat.eq_zero_or_pos m with h0 | h0
    · subst h0
      have hk0 : k = [] := List.eq_nil_of_length_eq_zero hm
      subst hk0
      refine ⟨.slice none 0 0, w, fun ty => by rw [hv]; exact run_append_nil_src ty (by rw [← hz1]; exact hS) i0 hi hz1, Rq.nil w base, World.grownBy.refl _ _, .inl (by rw [hv])⟩
    · exact grow none 0 0 hv rfl (by omega) (run_firstCells_none w.drew i0.size 0 0 0)
  · rcases Nat.lt_or_ge cap (l.length + m) with hroom | hroom
    · refine grow _ l.length cap hv rfl hroom (run_firstCells_some w.drew i0.size l.length _ l.length cap (vs l) (by simp [vs, hz1]) ?_)
      intro j u hu
      have hj : j < l.length := by
        rcases Nat.lt_or_ge j l.length with h | h
        · exact h
        · rw [List.getElem?_eq_none (by simpa [vs] using h)] at hu; cases hu
      have e : (⟨g, off, none⟩ : Addr).add j = ⟨g, off + j, none⟩ := by unfold Addr.add; split <;> simp_all
      have hh' : w.drew.heap[g]? = some (.cells cur 3 (0, 0)) := hh
      rw [e, cell_of_row w.drew g (off + j) cur _ _ hh', hx j hj]
      simp [vs, hj] at hu
      subst hu
      simp [List.getD, hj]
    · have hcell : ∀ j, j < (vs k).length → (w.cell? ⟨g, off + l.length * i0.size + j, none⟩).isSome = true := by
        intro j hj
        rw [hz1, Nat.mul_one, cell_of_row w g _ cur _ _ hh]
        simp [vs, hm] at hj
        rw [Array.getElem?_eq_getElem (by omega)]
        rfl
      have hf : ∀ j, j < (vs k).length → w.frozen? ⟨g, off + l.length * i0.size + j, none⟩ = false := fun j _ => frozen_of_row w g _ cur _ hh
      refine ⟨_, _, fun ty => by rw [hv]; exact run_append_room_src w 24 24 ty 3 i0 Try.underlying24 hi g off l.length cap _ m (vs k) hS hroom hcell hf, ?_, ?_, .inl (by rw [hv]; rfl)⟩
      · rw [hz1, Nat.mul_one]
        refine .inr ⟨g, off, cap, _, by rw [List.length_append, hm], hg, heap_setCells_at g _ _ (vs k) (off + l.length) w cur hh, by rw [List.length_append, hm]; exact hroom, by rw [putA_size]; exact hsz, fun i hlt => ?_⟩
        rw [List.length_append, hm] at hlt
        rcases Nat.lt_or_ge i l.length with hil | hil
        · rw [putA_below _ _ _ _ (by omega), hx i hil]
          simp [List.getD, List.getElem?_append_left hil]
        · obtain ⟨j, rfl⟩ : ∃ j, i = l.length + j := ⟨i - l.length, by omega⟩
          rw [show off + (l.length + j) = off + l.length + j by omega, putA_in _ _ _ _ (by simp [vs, hm]; omega) (by simp [vs, hm]; omega)]
          simp [vs, List.getD, List.getElem?_append_right]
          rw [List.getElem?_eq_getElem (by omega)]
          simp
      · rw [hv]
        exact grownBy_setCells g _ _ w

theorem Rq.alloc {w : World} {base : Nat} {v : Value} {l : List Int} (h : Rq w base v l) (o : Obj) : Rq (w.alloc o) base v l := h.below ((Below.refl w.heap.size w).alloc (Nat.le_refl _) o)
theorem below_append {w W w2 : World} {v : Value} {l : List Int} (hb : Below w.heap.size w W) (hq : Rq W w.heap.size v l) (hg : W.grownBy w2 v.ownBlock) : Below w.heap.size w w2 := hb.grown hg hb.size (fun k hk => (hq.lt k hk).1)
set_option maxRecDepth 100000 in
theorem ints_lit {w : World} {H : Nat} (hH : w.heap.size = H) (x : Int) : IntsAt (w.alloc (.cells #[.int .i64 x] 3)) (H + 1) (some ⟨H, 0, none⟩) 1 [x] := by
  subst hH
  have h := ints_new1 w x 3
  rwa [World.size_alloc] at h

set_option maxRecDepth 100000 in
/-- At the list of a plain region's operations. -/
theorem wpList_append_q {P : Program} {w : World} {ops : Array Oper} {rest : List Oper} {o : Oper} {a : Act} {Q : Exit → Act → World → Prop} (hP : P = Try.prog) (hgu : o.guard = none) (s x : Operand)
    (ho : o.op = .call { callee := .builtin .append, args := #[s, x], argTypes := #[24, 24] })
    {base : Nat} {v : Value} {l : List Int} (hs : a.eval s = v) (h : Rq w base v l) {B m c : Nat} {A : Option Addr} {k : List Int} (hx : a.eval x = .slice A m c) (hi : IntsAt w B A m k) (hb : base ≤ w.heap.size) (hl : l.length + m ≤ 1099511627776)
    (hK : ∀ v' w', Rq w' base v' (l ++ k) → w.grownBy w' v.ownBlock → (v'.ownBlock = v.ownBlock ∨ v'.ownBlock = some w.heap.size) → wpList P ops Q rest (a.put o.dst v') w') :
    wpList P ops Q (o :: rest) a w := by
  subst hP
  obtain ⟨v', w', hr, h1, h2, h3⟩ := append_q (c := c) h hi hb hl
  refine wpList_plain hgu fun K hK' => ?_
  unfold Oper.wp execOp
  simp only [ho, resolve, invoke, builtin, Sem.run_bind, Sem.run_pure, Result.andThen_ok, List.map_toArray, List.map_cons, List.map_nil, hs, hx, hr]
  exact hK' _ _ (hK v' w' h1 h2 h3)
set_option maxRecDepth 100000 in
/-- At an operation. -/
theorem wp_append_q {P : Program} {w : World} {o : Oper} {a : Act} {K : Act → World → Prop} {Q : Exit → Act → World → Prop} (hP : P = Try.prog) (s x : Operand)
    (ho : o.op = .call { callee := .builtin .append, args := #[s, x], argTypes := #[24, 24] })
    {base : Nat} {v : Value} {l : List Int} (hs : a.eval s = v) (h : Rq w base v l) {B m c : Nat} {A : Option Addr} {k : List Int} (hx : a.eval x = .slice A m c) (hi : IntsAt w B A m k) (hb : base ≤ w.heap.size) (hl : l.length + m ≤ 1099511627776)
    (hK : ∀ v' w', Rq w' base v' (l ++ k) → w.grownBy w' v.ownBlock → (v'.ownBlock = v.ownBlock ∨ v'.ownBlock = some w.heap.size) → K (a.put o.dst v') w') : o.wp P a w K Q := by
  subst hP
  obtain ⟨v', w', hr, h1, h2, h3⟩ := append_q (c := c) h hi hb hl
  unfold Oper.wp execOp
  simp only [ho, resolve, invoke, builtin, Sem.run_bind, Sem.run_pure, Result.andThen_ok, List.map_toArray, List.map_cons, List.map_nil, hs, hx, hr]
  exact hK v' w' h1 h2 h3
end Go.Proofs.Ytngkjmghhoemgaa
