/-
  What slots.Range and the document's Range answer. Conditions: none.
-/
import Derived.Test.YtinmcelgfdjmfaaDoorSlD
namespace Go.Proofs.YtinmcelgfdjmfaaDoor
open Go.RowKit

def SlRgRel (w : World) (lo cnt : Nat) (i : Value) (wr : World) : Prop :=
  ∃ (k : Nat) (z : Int), k ≤ cnt ∧ i = .int .i64 z ∧ z = (lo : Int) + k ∧ Gath w w.heap.size (Sl.span lo k) wr

theorem ends (f t : Int) : ∃ (lo : Nat) (m : Int), Sl.range f t = Sl.span lo (m - lo).toNat ∧ m ≤ 256 ∧ m ≤ t ∧ ((t < 256 ∧ m = t) ∨ (t = 256 ∧ m = 256) ∨ (256 < t ∧ m = 256)) ∧ ((f < 0 ∧ (lo : Int) = 0) ∨ (f = 0 ∧ (lo : Int) = 0) ∨ (0 < f ∧ (lo : Int) = f)) := by
  refine ⟨(max f 0).toNat, min t 256, ?_, by omega, by omega, by omega, by omega⟩
  unfold Sl.range
  rw [show min t 256 - ((max f 0).toNat : Int) = min t 256 - max f 0 by omega]

theorem span_step (lo k : Nat) {z : Int} (h : z = (lo : Int) + k) : Sl.span lo (k + 1) = (Sl.span lo k).with_ z := by
  subst h
  rfl
theorem span_new (lo k : Nat) (h : lo + k < 256) : (Sl.span lo k).has (lo + k) = false := by
  rw [Sl.has_span _ _ _ h, decide_eq_false_iff_not]
  omega

set_option maxRecDepth 100000 in
set_option maxHeartbeats 4000000 in
theorem rrange_any (f t : Int) (w : World) :
    Calls Tryd.prog 24 #[.int .i64 f, .int .i64 t] w (SetP (Sl.range f t) w) := by
  obtain ⟨lo, m, e, hm, hmt, ht, hf⟩ := ends f t
  rw [e]
  clear e
  obtain ⟨cnt, hcnt⟩ : ∃ c : Nat, c = (m - lo).toNat := ⟨_, rfl⟩
  rw [← hcnt]
  have HC := Lib.hid hcnt
  clear hcnt
  rcases ht with ⟨ht, em⟩ | ⟨rfl, em⟩ | ⟨ht, em⟩ <;> rcases hf with ⟨hf, el⟩ | ⟨rfl, el⟩ | ⟨hf, el⟩
  all_goals
    have HM := Lib.hid em
    have HL := Lib.hid el
    clear em el
    go_enter Tryd.func24, Tryd.ntmps24
    go_wp2
    go_loopw [6] (SlRgRel w lo cnt) (fun i _ => (256 - intOf i).toNat)
    case atStart => exact ⟨0, _, by omega, rfl, by rw [HL.out]; simp, Gath.start w⟩
    case round =>
      obtain ⟨k, z, hk, rfl, hz, hG⟩ := hrel
      have HZ := Lib.hid hz
      clear hz
      by_cases hlt : k < cnt
      · have h1 : z < 256 := by have := HC.out; have := HZ.out; omega
        have h2 : 0 ≤ z := by have := HZ.out; omega
        try have h3 : z < t := by have := HC.out; have := HZ.out; omega
        have HO := Lib.hid (span_step lo k HZ.out)
        obtain ⟨q, r, _, hq, hr, e, _⟩ := parts (n := z) (by omega) (by omega)
        have hd : z / 64 = (q : Int) := by omega
        have hm' : z % 64 = (r : Int) := by omega
        have hh : (Sl.span lo k).hasI z = false := by
          have e2 := HZ.out
          unfold Sl.Four.hasI
          rw [show z.toNat = lo + k by omega, span_new lo k (by omega), Bool.and_false]
        rw [hasI_at hq hr e] at hh
        have HW : Hid ((Sl.span lo k).with_ z = (Sl.span lo k).put q ((Sl.span lo k).word q + 2 ^ r)) := Lib.hid (by rw [with_at hq hr e, Sl.add_bit hr (Sl.ok_word (Sl.ok_span _ _) q) hh])
        rw [HW.out] at HO
        have HB := Lib.hid (add_word (Sl.ok_word (Sl.ok_span lo k) q) hr hh)
        clear hh e HW
        obtain ⟨⟨c0, c1, c2, c3⟩, f0, f1, f2, f3⟩ := hG.1.reads
        have HG := Lib.hid hG
        clear hG
        generalize Sl.span lo k = s at *
        obtain rfl | rfl | rfl | rfl : q = 0 ∨ q = 1 ∨ q = 2 ∨ q = 3 := by omega
        all_goals
          go_wp2
          go_roundw
          case rel => exact ⟨k + 1, _, by omega, rfl, by rw [HZ.out]; omega, by rw [HO.out]; exact HG.out.put (Nat.le_refl _) (Below.refl _ _) _ _ (by omega) HB.out⟩
          case measure => simp [intOf]; omega
      · have hk' : k = cnt := by omega
        subst hk'
        first
          | have h1 : t ≤ z := by have := HC.out; have := HZ.out; have := HL.out; have := HM.out; omega
          | have h1 : 256 ≤ z := by have := HC.out; have := HZ.out; have := HL.out; have := HM.out; omega
        obtain ⟨⟨c0, c1, c2, c3⟩, f0, f1, f2, f3⟩ := hG.1.reads
        obtain ⟨⟨d0, d1, d2, d3⟩, g0, g1, g2, g3⟩ := hG.2.1.reads
        have HG := Lib.hid hG
        clear hG
        generalize Sl.span lo k = s at *
        go_wp2
        exact bodyPost_ret (v := setV s) (by simp [results, Tryd.results24, go_sem, *]) rfl ⟨rfl, below_store HG.out.2.2 (Nat.le_refl _) _ _ _ _⟩

end Go.Proofs.YtinmcelgfdjmfaaDoor
