/-
  append of bytes that can be read, nil or not, behind a slice of the caller's own. Conditions: the sum of the lengths is within the reach.
-/
import Derived.Test.YtinmcelgfdjmfaaDoorStr
import Derived.Lib.AppendZeros
import Derived.Laws.OwnMore
namespace Go.Proofs.YtinmcelgfdjmfaaDoor
open Go.RowKit

set_option maxRecDepth 100000 in
theorem append_bytes {w : World} {base n : Nat} {v : Value} {xs : List Value} (hown : w.ownsRow base 5 1 v n xs) {B m c : Nat} {A : Option Addr} {l : List Nat} (hs : BytesAt w B A m l) (hnil : A = none → c = 0)
    (hb : base ≤ w.heap.size) (hl : n + m ≤ 140737488355328) :
    ∃ v' w', (∀ ty, ty = 31 → (Builtin.append_ #[31, 31] ty #[v, .slice A m c]).run Tryd.prog w = .ok v' w') ∧ w'.ownsRow base 5 1 v' (n + m) (xs ++ bs l) ∧ w.grownBy w' v.ownBlock := by
  obtain ⟨i0, hi, hz0, hz1, hz2⟩ := info_parts info_u8
  obtain ⟨h1, h2, h3⟩ := hs
  cases A with
  | none =>
    have hm : m = 0 := by
      rcases Nat.eq_zero_or_pos m with h | h
      · exact h
      · obtain ⟨b, off, h, _⟩ := h3 h
        cases h
    subst hm
    have hc := hnil rfl
    subst hc
    have hl0 : l = [] := List.eq_nil_of_length_eq_zero h1
    subst hl0
    refine ⟨v, w, ?_, by simpa [bs] using hown, World.grownBy.refl _ _⟩
    intro ty _
    exact run_append_owned_none (P := Tryd.prog) (w := w) base 31 ty 5 i0 1 Tryd.underlying31 hi v n xs hown
  | some ad =>
    have hcells : ∀ j u, (bs l)[j]? = some u → w.cell? (ad.add j) = some u := by
      intro j u hu
      have hj : j < l.length := by
        rcases Nat.lt_or_ge j l.length with h | h
        · exact h
        · rw [List.getElem?_eq_none (by rw [bs_length]; exact h)] at hu; cases hu
      obtain ⟨b, off, he, _, hc⟩ := h3 (by omega)
      injection he with he
      subst he
      have e : (⟨b, off, none⟩ : Addr).add j = ⟨b, off + j, none⟩ := by unfold Addr.add; split <;> simp_all
      rw [e, hc j (by omega)]
      simp [bs, hj] at hu
      subst hu
      simp [List.getD, hj]
    obtain ⟨v', w', hr, ho, hg, _⟩ := run_append_own (P := Tryd.prog) w base 31 31 5 i0 (.int .u8 0) 1 1 Tryd.underlying31 hi hz0 hz1 hz2 rfl (by decide) v n xs hown ad m c (bs l) (by rw [bs_length, h1, Nat.mul_one]) hcells (bs_one l) (by unfold maxLen; omega) (by omega) hb
    exact ⟨v', w', fun ty hty => by rw [hty]; exact hr, ho, hg⟩

set_option maxRecDepth 100000 in
/-- The conversion of bytes that can be read, nil or not. -/
theorem conv_bytes {w : World} {B n c : Nat} {A : Option Addr} {l : List Nat} (h : BytesAt w B A n l) : (convert 31 9 (.slice A n c)).run Tryd.prog w = .ok (.string (str l)) w := by
  obtain ⟨h1, _, h3⟩ := h
  rcases Nat.eq_zero_or_pos n with h0 | h0
  · subst h0
    have hl : l = [] := List.eq_nil_of_length_eq_zero h1
    subst hl
    cases A with
    | none => exact run_convert_bytes_nil (P := Tryd.prog) w 31 5 Tryd.underlying31 Tryd.underlying5 0 c 9 Tryd.underlying9
    | some ad =>
      rw [run_convert_bytes_string w 31 9 5 (some ad) 0 c Tryd.underlying31 Tryd.underlying5 Tryd.underlying9]
      exact run_bytesToString (P := Tryd.prog) w ad 0 c [] (by simp [loadCells, loadCellsFrom])
  · obtain ⟨b, off, rfl, _, hc⟩ := h3 h0
    exact conv_of_cells h1 hc

theorem BytesAt.below {w w' : World} {B n : Nat} {A : Option Addr} {l : List Nat} (h : BytesAt w B A n l) (hb : Below B w w') : BytesAt w' B A n l :=
  ⟨h.1, h.2.1, fun hp => by
    obtain ⟨b, off, e, hlt, hc⟩ := h.2.2 hp
    exact ⟨b, off, e, hlt, fun i hi => (hb.cell hlt).trans (hc i hi)⟩⟩
theorem BytesAt.more {w : World} {B B' n : Nat} {A : Option Addr} {l : List Nat} (h : BytesAt w B A n l) (hb : B ≤ B') : BytesAt w B' A n l :=
  ⟨h.1, h.2.1, fun hp => by
    obtain ⟨b, off, e, hlt, hc⟩ := h.2.2 hp
    exact ⟨b, off, e, by omega, hc⟩⟩

end Go.Proofs.YtinmcelgfdjmfaaDoor
