/-
 The world while the document's Put lays a name; more bytes behind what was laid. Conditions: lengths within the reach.
-/
import Derived.Test.YtdopheoedpldiaaGreatDoorPutX
set_option maxRecDepth 100000
namespace Go.Proofs.YtdopheoedpldiaaGreatDoor
open Go.RowKit
theorem Lies.more {w0 W W2 : World} {l m : List Nat} {u v2 : Value} (h : Lies w0 l u W) (ho : W2.ownsRow W.heap.size 5 1 v2 m.length (bs m)) (hb : Below W.heap.size W W2) (hm : ∀ c ∈ m, c < 256) (hl : l.length + m.length ≤ 140737488355328) :
   ∃ v W', (∀ ty, ty = 27 → (Builtin.append_ #[27, 27] ty #[u, v2]).run Tryz.prog W2 = .ok v W') ∧ Lies w0 (l ++ m) v W' := by
 obtain ⟨A, c, rfl, hG, hn⟩ := own_bytes ho hm
 have h2 : Lies w0 l u W2 := ⟨ownsRow_below h.1 hb, h.2.trans (hb.mono h.2.size)⟩
 obtain ⟨v, W', hr, ho', hg⟩ := append_bytes (c := c) h2.1 hG hn h2.2.size hl
 refine ⟨v, W', hr, ?_, h2.2.grown hg h2.2.size (fun k hk => (h2.1.lt k hk).1)⟩
 rw [List.length_append, bs_append]
 exact ho'
structure FpX where
 v : Value
 q : Nat
 c : Nat
 r : Value
structure FpC (w0 : World) (m t : List Nat) (x : FpX) (D : Nat → Bool) (W : World) : Prop where
 o4 : D 4 = true → D 8 = false → Lies w0 m x.v W
 o8 : D 8 = true → Lies w0 (m ++ t) x.r W
 cells : D 7 = true → D 8 = false → (∀ i, i < t.length → W.cell? ⟨x.q, i, none⟩ = some (.int .u8 ((t.getD i 0 : Nat) : Int))) ∧ x.q < W.heap.size
 row : Below w0.heap.size w0 W
section
variable {w0 W : World} {m t : List Nat} {x : FpX} {D : Nat → Bool}
theorem FpC.up (h : FpC w0 m t x D W) {i : Nat} (h1 : ((4 : Nat) == i) = false) (h2 : ((7 : Nat) == i) = false) (h3 : ((8 : Nat) == i) = false) : FpC w0 m t x (add D i) W := by
 obtain ⟨a, b, c, d⟩ := h
 exact ⟨by rw [up_other h1, up_other h3]; exact a, by rw [up_other h3]; exact b, by rw [up_other h2, up_other h3]; exact c, d⟩
theorem FpC.called (h : FpC w0 m t x D W) (h8 : D 8 = false) {v : Value} {W' : World} (ho : W'.ownsRow W.heap.size 5 1 v m.length (bs m)) (hb : Below W.heap.size W W') : FpC w0 m t ⟨v, x.q, x.c, x.r⟩ (add D 4) W' := by
 have hrow := h.row.trans (hb.mono h.row.size)
 refine ⟨fun _ _ => ⟨ownsRow_base ho h.row.size, hrow⟩, ?_, ?_, hrow⟩
 · rw [up_other rfl, h8]
   intro e
   cases e
 · rw [up_other rfl, up_other rfl]
   intro h7 h8'
   obtain ⟨hc, hq⟩ := h.cells h7 h8'
   exact ⟨fun i hi => (hb.cell (p := ⟨x.q, i, none⟩) hq).trans (hc i hi), Nat.lt_of_lt_of_le hq hb.size⟩
theorem FpC.turned (h : FpC w0 m t x D W) (h8 : D 8 = false) {c : Nat} {W' : World} (hc : ∀ i, i < t.length → W'.cell? ⟨W.heap.size, i, none⟩ = some (.int .u8 ((t.getD i 0 : Nat) : Int))) (hs : W.heap.size < W'.heap.size) (hb : Below W.heap.size W W') :
   FpC w0 m t ⟨x.v, W.heap.size, c, x.r⟩ (add D 7) W' := by
 have hrow := h.row.trans (hb.mono h.row.size)
 refine ⟨?_, ?_, fun _ _ => ⟨hc, hs⟩, hrow⟩
 · rw [up_other rfl, up_other rfl]
   intro h4 h8'
   exact ⟨ownsRow_below (h.o4 h4 h8').1 hb, hrow⟩
 · rw [up_other rfl, h8]
   intro e
   cases e
theorem FpC.appends (h : FpC w0 m t x D W) (h4 : D 4 = true) (h7 : D 7 = true) (h8 : D 8 = false) (ht : ∀ c ∈ t, c < 256) (hl : m.length + t.length ≤ 140737488355328) :
   ∃ r W', (Builtin.append_ #[27, 27] 27 #[x.v, .slice (some ⟨x.q, 0, none⟩) t.length x.c]).run Tryz.prog W = .ok r W' ∧ FpC w0 m t ⟨x.v, x.q, x.c, r⟩ (add D 8) W' := by
 have h1 := h.o4 h4 h8
 obtain ⟨hc, hq⟩ := h.cells h7 h8
 have hbt : BytesAt W W.heap.size (some ⟨x.q, 0, none⟩) t.length t := ⟨rfl, ht, fun _ => ⟨x.q, 0, rfl, hq, fun i hi => by rw [Nat.zero_add]; exact hc i hi⟩⟩
 obtain ⟨r, W', hr, ho, hg⟩ := append_bytes (c := x.c) h1.1 hbt (by simp) h1.2.size hl
 have hrow := h1.2.grown hg h1.2.size (fun k hk => (h1.1.lt k hk).1)
 refine ⟨r, W', hr _ rfl, ?_, fun _ => ⟨?_, hrow⟩, ?_, hrow⟩
 · intro _ e
   rw [up_self] at e
   cases e
 · rw [List.length_append, bs_append]
   exact ho
 · intro _ e
   rw [up_self] at e
   cases e
theorem fp_start {y : FpX} (h : Below w0.heap.size w0 W) : FpC w0 m t y (fun _ => false) W.drew := ⟨fun h => (by cases h), fun h => (by cases h), fun h => (by cases h), h.drew⟩
end
def FpG (pb : Nat) (st : ByteArray) (x : FpX) : Nat → Value → Prop
 | 0, w => w = .pointer (some ⟨pb, 0, none⟩)
 | 1, w => w = .string st
 | 2, w => w = .int .i64 (st.size : Int)
 | 3, w => w = .int .u64 (st.size : Int)
 | 4, w => w = x.v
 | 5, w => w = .pointer (some ⟨pb, 0, none⟩)
 | 6, w => w = .string st
 | 7, w => w = .slice (some ⟨x.q, 0, none⟩) st.size x.c
 | 8, w => w = x.r
 | 9, w => w = x.r
 | _, _ => True
theorem fpg_call {pb : Nat} {st : ByteArray} {x : FpX} {D : Nat → Bool} {v : Value} (h4 : D 4 = false) : ∀ j w, D j = true → FpG pb st x j w → FpG pb st ⟨v, x.q, x.c, x.r⟩ j w
 | 0, _, _, h => h
 | 1, _, _, h => h
 | 2, _, _, h => h
 | 3, _, _, h => h
 | 4, _, hj, _ => by rw [h4] at hj; cases hj
 | 5, _, _, h => h
 | 6, _, _, h => h
 | 7, _, _, h => h
 | 8, _, _, h => h
 | 9, _, _, h => h
 | _ + 10, _, _, h => h
theorem fpg_conv {pb : Nat} {st : ByteArray} {x : FpX} {D : Nat → Bool} {q c : Nat} (h7 : D 7 = false) : ∀ j w, D j = true → FpG pb st x j w → FpG pb st ⟨x.v, q, c, x.r⟩ j w
 | 0, _, _, h => h
 | 1, _, _, h => h
 | 2, _, _, h => h
 | 3, _, _, h => h
 | 4, _, _, h => h
 | 5, _, _, h => h
 | 6, _, _, h => h
 | 7, _, hj, _ => by rw [h7] at hj; cases hj
 | 8, _, _, h => h
 | 9, _, _, h => h
 | _ + 10, _, _, h => h
theorem fpg_app {pb : Nat} {st : ByteArray} {x : FpX} {D : Nat → Bool} {r : Value} (h8 : D 8 = false) (h9 : D 9 = false) : ∀ j w, D j = true → FpG pb st x j w → FpG pb st ⟨x.v, x.q, x.c, r⟩ j w
 | 0, _, _, h => h
 | 1, _, _, h => h
 | 2, _, _, h => h
 | 3, _, _, h => h
 | 4, _, _, h => h
 | 5, _, _, h => h
 | 6, _, _, h => h
 | 7, _, _, h => h
 | 8, _, hj, _ => by rw [h8] at hj; cases hj
 | 9, _, hj, _ => by rw [h9] at hj; cases hj
 | _ + 10, _, _, h => h
end Go.Proofs.YtdopheoedpldiaaGreatDoor
