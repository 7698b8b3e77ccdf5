/-
  append of bytes behind a slice of the caller's own, and where the answer lies. Conditions: the sum of the lengths is within the reach.
-/
import Derived.Test.YtipeefmmnfbcoaaDoorAppend
import Derived.Deep.AppendLies
namespace Go.Proofs.YtipeefmmnfbcoaaDoor
open Go.RowKit

set_option maxRecDepth 100000 in
theorem append_bytes_at {w : World} {base n : Nat} {v : Value} {xs : List Value} (hown : w.ownsRow base 5 1 v n xs) {B m c : Nat} {A : Option Addr} {l : List Nat} (hs : BytesAt w B A m l) (hnil : A = none → c = 0)
    (hb : base ≤ w.heap.size) (hl : n + m ≤ 140737488355328) :
    ∃ v' w', (∀ ty, ty = 25 → (Builtin.append_ #[25, 25] ty #[v, .slice A m c]).run Tryd.prog w = .ok v' w') ∧ OwnInv base w v v' (n + m) (xs ++ bs l) w' := by
  obtain ⟨i0, hi, hz0, hz1, hz2⟩ := info_parts info_u8
  obtain ⟨h1, h2, h3⟩ := hs
  cases A with
  | none =>
    have hm : m = 0 := by
      rcases Nat.eq_zero_or_pos m with h | h
      · exact h
      · obtain ⟨b, off, h, _⟩ := h3 h
        cases h
    subst hm
    have hc := hnil rfl
    subst hc
    have hl0 : l = [] := List.eq_nil_of_length_eq_zero h1
    subst hl0
    refine ⟨v, w, ?_, by simpa [bs] using OwnInv.refl hown⟩
    intro ty _
    exact run_append_owned_none (P := Tryd.prog) (w := w) base 25 ty 5 i0 1 Tryd.underlying25 hi v n xs hown
  | some ad =>
    have hcells : ∀ j u, (bs l)[j]? = some u → w.cell? (ad.add j) = some u := by
      intro j u hu
      have hj : j < l.length := by
        rcases Nat.lt_or_ge j l.length with h | h
        · exact h
        · rw [List.getElem?_eq_none (by rw [bs_length]; exact h)] at hu; cases hu
      obtain ⟨b, off, he, _, hc⟩ := h3 (by omega)
      injection he with he
      subst he
      have e : (⟨b, off, none⟩ : Addr).add j = ⟨b, off + j, none⟩ := by unfold Addr.add; split <;> simp_all
      rw [e, hc j (by omega)]
      simp [bs, hj] at hu
      subst hu
      simp [List.getD, hj]
    obtain ⟨v', w', hr, ho, hg, _, h5⟩ := run_append_own_at (P := Tryd.prog) w base 25 25 5 i0 (.int .u8 0) 1 1 Tryd.underlying25 hi hz0 hz1 hz2 rfl (by decide) v n xs hown ad m c (bs l) (by rw [bs_length, h1, Nat.mul_one]) hcells (bs_one l) (by unfold maxLen; omega) (by omega) hb
    refine ⟨v', w', fun ty hty => by rw [hty]; exact hr, ho, hg, ?_⟩
    rcases h5 with h5 | h5
    · exact .inl h5
    · exact .inr ⟨_, h5, Nat.le_refl _⟩

end Go.Proofs.YtipeefmmnfbcoaaDoor
