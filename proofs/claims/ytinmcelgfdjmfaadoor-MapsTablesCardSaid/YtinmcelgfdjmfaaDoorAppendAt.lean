/-
  append of bytes behind a slice of the caller's own, and where the answer lies. Conditions: the sum of the lengths is within the reach.
-/
import Derived.Test.YtinmcelgfdjmfaaDoorAppend
import Derived.Deep.AppendLies
namespace Go.Proofs.YtinmcelgfdjmfaaDoor
open Go.RowKit

set_option maxRecDepth 100000 in
theorem append_bytes_at {w : World} {base n : Nat} {v : Value} {xs : List Value} (hown : w.ownsRow base 5 1 v n xs) {B m c : Nat} {A : Option Addr} {l : List Nat} (hs : BytesAt w B A m l) (hnil : A = none → c = 0)
    (hb : base ≤ w.heap.size) (hl : n + m ≤ 140737488355328) :
    ∃ v' w', (∀ ty, ty = 31 → (Builtin.append_ #[31, 31] ty #[v, .slice A m c]).run Tryd.prog w = .ok v' w') ∧ OwnInv base w v v' (n + m) (xs ++ bs l) w' := by
  obtain ⟨i0, hi, hz0, hz1, hz2⟩ := info_parts info_u8
  obtain ⟨h1, h2, h3⟩ := hs
  cases A with
  | none =>
    have hm : m = 0 := by
      rcases Nat.eq_zero_or_pos m with h | h
      · exact h
      · obtain ⟨b, off, h, _⟩ := h3 h
        cases h
    subst hm
    have hc := hnil rfl
    subst hc
    have hl0 : l = [] := List.eq_nil_of_length_eq_zero h1
    subst hl0
    refine ⟨v, w, ?_, by simpa [bs] using OwnInv.refl hown⟩
    intro ty _
    exact run_append_owned_none (P := Tryd.prog) (w := w) base 31 ty 5 i0 1 Tryd.underlying31 hi v n xs hown
  | some ad =>
    have hcells : ∀ j u, (bs l)[j]? = some u → w.cell? (ad.add j) = some u := by
      intro j u hu
      have hj : j < l.length := by
        rcases Nat.lt_or_ge j l.length with h | h
        · exact h
        · rw [List.getElem?_eq_none (by rw [bs_length]; exact h)] at hu; cases hu
      obtain ⟨b, off, he, _, hc⟩ := h3 (by omega)
      injection he with he
      subst he
      have e : (⟨b, off, none⟩ : Addr).add j = ⟨b, off + j, none⟩ := by unfold Addr.add; split <;> simp_all
      rw [e, hc j (by omega)]
      simp [bs, hj] at hu
      subst hu
      simp [List.getD, hj]
    obtain ⟨v', w', hr, ho, hg, _, h5⟩ := run_append_own_at (P := Tryd.prog) w base 31 31 5 i0 (.int .u8 0) 1 1 Tryd.underlying31 hi hz0 hz1 hz2 rfl (by decide) v n xs hown ad m c (bs l) (by rw [bs_length, h1, Nat.mul_one]) hcells (bs_one l) (by unfold maxLen; omega) (by omega) hb
    refine ⟨v', w', fun ty hty => by rw [hty]; exact hr, ho, hg, ?_⟩
    rcases h5 with h5 | h5
    · exact .inl h5
    · exact .inr ⟨_, h5, Nat.le_refl _⟩


set_option maxRecDepth 100000 in
/-- What was owned is owned still. -/
theorem own_later {base : Nat} {w w1 : World} {v : Value} {l : Nat} {xs : List Value} (h : w.ownsRow base 5 1 v l xs) (hb : Below w.heap.size w w1) : OwnInv base w v v l xs w1 :=
  ⟨ownsRow_below h hb, ⟨hb.os, hb.tape, hb.output, hb.size, fun k hk _ => hb.block k hk⟩, .inl rfl⟩
theorem own_then {base : Nat} {w w1 w2 : World} {v u : Value} {l : Nat} {xs : List Value} (hb : Below w.heap.size w w1) (h : OwnInv base w1 v u l xs w2) : OwnInv base w v u l xs w2 := by
  obtain ⟨h1, h2, h3⟩ := h
  refine ⟨h1, ⟨h2.os.trans hb.os, h2.tape.trans hb.tape, h2.output.trans hb.output, Nat.le_trans hb.size h2.size, fun k hk hne => ?_⟩, ?_⟩
  · rw [h2.block k (Nat.lt_of_lt_of_le hk hb.size) hne, hb.block k hk]
  · rcases h3 with h3 | ⟨g, h3, hg⟩
    · exact .inl h3
    · exact .inr ⟨g, h3, Nat.le_trans hb.size hg⟩

theorem lit_bs (k : Nat) : (#[.int .u8 (k : Int)] : Array Value).toList = bs [k] := rfl

set_option maxRecDepth 100000 in
/-- What is owned, as bytes that can be read. -/
theorem own_at {w : World} {base n : Nat} {v : Value} {l : List Nat} (h : w.ownsRow base 5 1 v n (bs l)) (hb : ∀ c ∈ l, c < 256) : ∃ A c, v = .slice A n c ∧ BytesAt w w.heap.size A n l ∧ n ≤ c ∧ c ≤ 9223372036854775807 := by
  have hl : l.length = n := by have := h.1; rw [bs_length] at this; omega
  rcases h.2 with ⟨rfl, h0⟩ | ⟨g, cap, cur, rfl, _, hg, hnc, hcm, _, ht⟩
  · subst h0
    obtain rfl : l = [] := List.eq_nil_of_length_eq_zero hl
    exact ⟨none, 0, rfl, ⟨rfl, by simp, by simp⟩, Nat.le_refl _, by omega⟩
  · unfold maxLen at hcm
    exact ⟨_, cap, rfl, bytesAt_own hg hl (by simpa using ht) hb, hnc, by omega⟩
set_option maxRecDepth 100000 in
theorem own_conv {w : World} {base n : Nat} {v : Value} {l : List Nat} (h : w.ownsRow base 5 1 v n (bs l)) : (convert 31 9 v).run Tryd.prog w = .ok (.string (str l)) w := by
  have hl : l.length = n := by have := h.1; rw [bs_length] at this; omega
  rcases h.2 with ⟨rfl, h0⟩ | ⟨g, cap, cur, rfl, _, hg, hnc, hcm, _, ht⟩
  · subst h0
    obtain rfl : l = [] := List.eq_nil_of_length_eq_zero hl
    exact conv_nil w
  · exact conv_own hg hl (by simpa using ht)
end Go.Proofs.YtinmcelgfdjmfaaDoor
