/-
  What stands while CursorBack runs: the bytes that are laid so far; inside the drawn statement that lays a text. Conditions: as each states.
-/
import Derived.Test.YtnfflddcekffeaaBackMath
import Derived.Test.YtnfflddcekffeaaRegionK
import Derived.Lib.ConvBytes
namespace Go.Proofs.Ytnfflddcekffeaa
open Go.RowKit

/-- Numbers, and texts, that can be read. -/
def ZsAt (w : World) (L : Option Addr) (zs : List Int) : Prop :=
  (∀ z ∈ zs, -9223372036854775808 ≤ z ∧ z ≤ 9223372036854775807) ∧ (0 < zs.length → ∃ b off, L = some ⟨b, off, none⟩ ∧ b < w.heap.size ∧ ∀ i, i < zs.length → w.cell? ⟨b, off + i, none⟩ = some (.int .i64 (zs.getD i 0)))
def StrsAt (w : World) (L : Option Addr) (ss : List ByteArray) : Prop :=
  0 < ss.length → ∃ b off, L = some ⟨b, off, none⟩ ∧ b < w.heap.size ∧ ∀ i, i < ss.length → w.cell? ⟨b, off + i, none⟩ = some (.string (ss.getD i .empty))

theorem ZsAt.at {w : World} {L : Option Addr} {zs : List Int} (h : ZsAt w L zs) {k : Nat} (hk : k < zs.length) : -9223372036854775808 ≤ zs.getD k 0 ∧ zs.getD k 0 ≤ 9223372036854775807 := by
  have e : zs.getD k 0 = zs[k] := by simp [List.getD, hk]
  rw [e]
  exact h.1 _ (List.getElem_mem hk)

/-- The slice u owns the bytes l; below w0 nothing has turned. -/
def Lies (w0 : World) (l : List Nat) (u : Value) (W : World) : Prop := W.ownsRow w0.heap.size 5 1 u l.length (bs l) ∧ Below w0.heap.size w0 W

theorem Lies.nil (w0 : World) : Lies w0 [] (.slice none 0 0) w0 := ⟨World.ownsRow_nil _ _ _ _, Below.refl _ _⟩

/-- Behind a call that puts more. -/
theorem Lies.put {w0 W W' : World} {l m : List Nat} {u v : Value} (h : Lies w0 l u W) (k : OwnInv w0.heap.size W u v (l.length + m.length) (bs l ++ bs m) W') : Lies w0 (l ++ m) v W' := by
  refine ⟨?_, h.2.trans (k.below h.1 h.2.size)⟩
  rw [List.length_append, bs_append]
  exact k.1

theorem Lies.bytes {w0 W : World} {l : List Nat} {u : Value} (h : Lies w0 l u W) (hb : ∀ c ∈ l, c < 256) : ∃ A c, u = .slice A l.length c ∧ BytesAt W W.heap.size A l.length l := by
  rcases h.1.2 with ⟨rfl, h0⟩ | ⟨g, cap, cur, rfl, _, hg, _, _, _, ht⟩
  · have : l = [] := List.eq_nil_of_length_eq_zero (by simpa using h0)
    subst this
    exact ⟨none, 0, rfl, rfl, by simp, by simp⟩
  · exact ⟨_, cap, rfl, bytesAt_own (cur := cur) hg rfl (by simpa using ht) hb⟩

set_option maxRecDepth 100000 in
/-- A text as bytes in new memory. -/
theorem conv_text (w : World) (s : ByteArray) : ∃ c W', (convert 9 33 (.string s)).run Try.prog w = .ok (.slice (some ⟨w.heap.size, 0, none⟩) s.size c) W' ∧ (∀ i, i < s.size → W'.cell? ⟨w.heap.size, i, none⟩ = some (.int .u8 (((nats s).getD i 0 : Nat) : Int))) ∧ w.heap.size < W'.heap.size ∧ Below w.heap.size w W' := by
  refine ⟨_, _, Lib.run_convert_string_bytes w 9 33 5 s Try.underlying9 Try.underlying33 Try.underlying5, ?_, ?_, ⟨rfl, rfl, rfl, ?_, fun k hk => Lib.bytesWorld_at_old w _ s k hk⟩⟩
  · intro i hi
    rw [Lib.bytesWorld_cell w _ s i hi, nats_getD s i hi]
  · rw [Lib.bytesWorld_size]; omega
  · rw [Lib.bytesWorld_size]; omega

/-- What the statement leaves open: Put's answer, the text's block and room, append's answer. -/
structure BkX where
  v : Value
  q : Nat
  c : Nat
  r : Value

/-- The world while a text is laid. -/
structure BkC (w0 : World) (l m t : List Nat) (u : Value) (x : BkX) (D : Nat → Bool) (W : World) : Prop where
  own : if D 13 = true then Lies w0 (l ++ m ++ t) x.r W else if D 7 = true then Lies w0 (l ++ m) x.v W else Lies w0 l u W
  cells : D 12 = true → D 13 = false → (∀ i, i < t.length → W.cell? ⟨x.q, i, none⟩ = some (.int .u8 ((t.getD i 0 : Nat) : Int))) ∧ x.q < W.heap.size ∧ (if D 7 = true then x.v else u).ownBlock ≠ some x.q
  row : Below w0.heap.size w0 W

section
variable {w0 W : World} {l m t : List Nat} {u : Value} {x : BkX} {D : Nat → Bool}

theorem BkC.up (h : BkC w0 l m t u x D W) {i : Nat} (h1 : ((7 : Nat) == i) = false) (h2 : ((12 : Nat) == i) = false) (h3 : ((13 : Nat) == i) = false) : BkC w0 l m t u x (add D i) W := by
  obtain ⟨a, b, c⟩ := h
  exact ⟨by rw [up_other h1, up_other h3]; exact a, by rw [up_other h1, up_other h2, up_other h3]; exact b, c⟩

theorem BkC.own0 (h : BkC w0 l m t u x D W) (h7 : D 7 = false) (h13 : D 13 = false) : Lies w0 l u W := by
  have := h.own
  rw [h7, h13] at this
  exact this
theorem BkC.own1 (h : BkC w0 l m t u x D W) (h7 : D 7 = true) (h13 : D 13 = false) : Lies w0 (l ++ m) x.v W := by
  have := h.own
  rw [h7, h13] at this
  exact this

theorem BkC.called (h : BkC w0 l m t u x D W) (h7 : D 7 = false) (h13 : D 13 = false) {v : Value} {W' : World} (k : OwnInv w0.heap.size W u v (l.length + m.length) (bs l ++ bs m) W') : BkC w0 l m t u ⟨v, x.q, x.c, x.r⟩ (add D 7) W' := by
  have h0 := h.own0 h7 h13
  have hl := h0.put k
  refine ⟨?_, ?_, hl.2⟩
  · rw [up_other rfl, up_self, h13]
    exact hl
  · intro h12 _
    rw [up_other rfl] at h12
    obtain ⟨hc, hq, hne⟩ := h.cells h12 h13
    rw [h7] at hne
    simp only [Bool.false_eq_true, if_false] at hne
    rw [up_self, if_pos rfl]
    refine ⟨fun i hi => k.2.1.cell (hc i hi) (fun e => hne e.symm), Nat.lt_of_lt_of_le hq k.2.1.size, ?_⟩
    rcases k.2.2 with h1 | ⟨g, h1, hg⟩
    · rw [h1]; exact hne
    · rw [h1]; intro e; injection e with e
      simp only at e
      omega

theorem BkC.turned (h : BkC w0 l m t u x D W) (h13 : D 13 = false) {c : Nat} {W' : World} (hc : ∀ i, i < t.length → W'.cell? ⟨W.heap.size, i, none⟩ = some (.int .u8 ((t.getD i 0 : Nat) : Int))) (hs : W.heap.size < W'.heap.size) (hb : Below W.heap.size W W') :
    BkC w0 l m t u ⟨x.v, W.heap.size, c, x.r⟩ (add D 12) W' := by
  have hrow : Below w0.heap.size w0 W' := h.row.trans (hb.mono h.row.size)
  have hown := h.own
  rw [h13] at hown
  simp only [Bool.false_eq_true, if_false] at hown
  refine ⟨?_, ?_, hrow⟩
  · rw [up_other rfl, up_other rfl, h13]
    simp only [Bool.false_eq_true, if_false]
    by_cases h7 : D 7 = true
    · rw [if_pos h7] at hown ⊢
      exact ⟨ownsRow_below hown.1 hb, hrow⟩
    · rw [if_neg h7] at hown ⊢
      exact ⟨ownsRow_below hown.1 hb, hrow⟩
  · intro _ _
    rw [up_other rfl]
    refine ⟨hc, hs, ?_⟩
    by_cases h7 : D 7 = true
    · rw [if_pos h7] at hown ⊢
      intro e
      have := (hown.1.lt _ e).2
      simp only at this
      omega
    · rw [if_neg h7] at hown ⊢
      intro e
      have := (hown.1.lt _ e).2
      simp only at this
      omega

set_option maxRecDepth 100000 in
/-- append, in whatever world the two stand ready. -/
theorem BkC.appends (h : BkC w0 l m t u x D W) (h7 : D 7 = true) (h12 : D 12 = true) (h13 : D 13 = false) (ht : ∀ c ∈ t, c < 256) (hl : (l ++ m).length + t.length ≤ 140737488355328) :
    ∃ r W', (Builtin.append_ #[33, 33] 33 #[x.v, .slice (some ⟨x.q, 0, none⟩) t.length x.c]).run Try.prog W = .ok r W' ∧ BkC w0 l m t u ⟨x.v, x.q, x.c, r⟩ (add D 13) W' := by
  have h1 := h.own1 h7 h13
  obtain ⟨hc, hq, _⟩ := h.cells h12 h13
  have hbt : BytesAt W W.heap.size (some ⟨x.q, 0, none⟩) t.length t := ⟨rfl, ht, fun _ => ⟨x.q, 0, rfl, hq, fun i hi => by rw [Nat.zero_add]; exact hc i hi⟩⟩
  obtain ⟨r, W', hr, ho, hg⟩ := append_bytes (c := x.c) h1.1 hbt (by simp) h1.2.size hl
  refine ⟨r, W', hr _ rfl, ?_, ?_, ?_⟩
  · rw [up_self, if_pos rfl]
    refine ⟨?_, h1.2.grown hg h1.2.size (fun k hk => (h1.1.lt k hk).1)⟩
    rw [List.length_append, bs_append]
    exact ho
  · intro _ h
    rw [up_self] at h
    cases h
  · exact h.row.grown hg h.row.size (fun k hk => (h1.1.lt k hk).1)

theorem bk_start {y : BkX} (h : Lies w0 l u W) : BkC w0 l m t u y (fun _ => false) W.drew := ⟨⟨h.1, h.2.drew⟩, (fun h => by cases h), h.2.drew⟩
theorem BkC.all (h : BkC w0 l m t u x D W) (h13 : D 13 = true) : Lies w0 (l ++ m ++ t) x.r W := by
  have := h.own
  rw [if_pos h13] at this
  exact this
end
end Go.Proofs.Ytnfflddcekffeaa
