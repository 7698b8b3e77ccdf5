/-
  Values in memory; what an operation takes; whether all values are of a type. Conditions: the values can be read.
-/
import Derived.Test.YtdenboakcbipdaaDoorCeA
import Derived.Test.YtdenboakcbipdaaDoorWhC
namespace Go.Proofs.YtdenboakcbipdaaDoor
open Go.RowKit
attribute [local go_sem] Ce.run_store_complex

namespace Ce
abbrev c0 : Cv := ⟨0, 0, 0, 0⟩
/-- Of which type the values are that an operation takes, and how many. -/
def ct (op : Int) : Int := if op = 16 ∨ op = 17 ∨ op = 18 ∨ op = 19 ∨ op = 20 then 2 else 1
def cn (op : Int) : Int := if op = 15 ∨ op = 16 ∨ op = 17 ∨ op = 18 then 2 else if op = 19 ∨ op = 20 then 1 else Wh.takes op
theorem ops (op : Int) : op = 15 ∨ op = 16 ∨ op = 17 ∨ op = 18 ∨ op = 19 ∨ op = 20 ∨ (op ≠ 15 ∧ op ≠ 16 ∧ op ≠ 17 ∧ op ≠ 18 ∧ op ≠ 19 ∧ op ≠ 20) := by omega
end Ce

/-- A slice of n values, below block B. -/
def ValsAt (w : World) (B : Nat) (a : Option Addr) (n : Nat) (l : List Ce.Cv) : Prop :=
  l.length = n ∧ (0 < n → ∃ b off, a = some ⟨b, off, none⟩ ∧ b < B ∧ ∀ i, i < n → w.cell? ⟨b, off + i * 3, none⟩ = some (.int .i64 (l.getD i Ce.c0).k) ∧ w.cell? ⟨b, off + i * 3 + 1, none⟩ = some (.int .i64 (l.getD i Ce.c0).n) ∧ w.cell? ⟨b, off + i * 3 + 2, none⟩ = some (.complex .f64 (l.getD i Ce.c0).re (l.getD i Ce.c0).im))
theorem ValsAt.below {w w' : World} {B : Nat} {a : Option Addr} {n : Nat} {l : List Ce.Cv} (h : ValsAt w B a n l) (hb : Below B w w') : ValsAt w' B a n l := by
  refine ⟨h.1, fun hn => ?_⟩
  obtain ⟨b, off, e, hlt, hc⟩ := h.2 hn
  exact ⟨b, off, e, hlt, fun i hi => ⟨(hb.cell (p := ⟨b, off + i * 3, none⟩) hlt).trans (hc i hi).1, (hb.cell (p := ⟨b, off + i * 3 + 1, none⟩) hlt).trans (hc i hi).2.1, (hb.cell (p := ⟨b, off + i * 3 + 2, none⟩) hlt).trans (hc i hi).2.2⟩⟩
theorem ValsAt.more {w : World} {B B' : Nat} {a : Option Addr} {n : Nat} {l : List Ce.Cv} (h : ValsAt w B a n l) (hb : B ≤ B') : ValsAt w B' a n l := by
  refine ⟨h.1, fun hn => ?_⟩
  obtain ⟨b, off, e, hlt, hc⟩ := h.2 hn
  exact ⟨b, off, e, by omega, hc⟩

theorem ctakes_any (op : Int) (w : World) : Calls Tryd.prog 18 #[.int .i64 op] w fun e w' => e = .returned (.tuple #[.int .i64 (Ce.ct op), .int .i64 (Ce.cn op)]) ∧ w' = w := by
  have H := fun w => takes_any op w
  rcases Ce.ops op with rfl | rfl | rfl | rfl | rfl | rfl | ⟨h1, h2, h3, h4, h5, h6⟩
  case inr.inr.inr.inr.inr.inr =>
    rw [show Ce.ct op = 1 by simp [Ce.ct, h2, h3, h4, h5, h6], show Ce.cn op = Wh.takes op by simp [Ce.cn, h1, h2, h3, h4, h5, h6]]
    generalize Wh.takes op = n at *
    go_enter Tryd.func18, Tryd.ntmps18
    go_wp2_with (go_at_call 33; with_reducible refine (H _).mono ?_; rintro _ w1 ⟨rfl, he⟩; obtain rfl := he.symm)
    go_ret2
    exact ⟨rfl, rfl⟩
  all_goals
    clear H
    go_enter Tryd.func18, Tryd.ntmps18
    go_wp2
    go_ret2
    exact ⟨rfl, rfl⟩

/-- Whether all of a row are of a type, by their Kind alone. -/
def Ce.each (l : List Ce.Cv) (t : Int) : Bool := l.all fun v => v.k == t

theorem each_upto {l : List Ce.Cv} {t : Int} (h : ∀ j, j < l.length → (l.getD j Ce.c0).k = t) : Ce.each l t = true := by
  unfold Ce.each
  rw [List.all_eq_true]
  intro x hx
  obtain ⟨j, hj, rfl⟩ := List.mem_iff_getElem.1 hx
  have := h j hj
  simpa [List.getD, hj] using this
theorem each_not {l : List Ce.Cv} {t : Int} {k : Nat} (hk : k < l.length) (h : (l.getD k Ce.c0).k ≠ t) : Ce.each l t = false := by
  unfold Ce.each
  rw [List.all_eq_false]
  refine ⟨l[k], List.getElem_mem hk, ?_⟩
  have : (l.getD k Ce.c0).k = l[k].k := by simp [List.getD, hk]
  rw [this] at h
  simpa using h

theorem each_any (a : Option Addr) (n c : Nat) (l : List Ce.Cv) (t : Int) (w : World) (h : ValsAt w w.heap.size a n l) (hn : n ≤ 9223372036854775807) : Calls Tryd.prog 19 #[.slice a n c, .int .i64 t] w (BoolP (Ce.each l t) w) := by
  have HS := Lib.hid h
  clear h
  go_enter Tryd.func19, Tryd.ntmps19
  go_wp2
  go_loopw [9] (fun i W => ∃ k : Nat, k ≤ n ∧ i = .int .i64 (k : Int) ∧ Below w.heap.size w W ∧ ∀ j, j < k → (l.getD j Ce.c0).k = t) (fun i _ => n - (intOf i).toNat)
  case atStart => exact ⟨0, Nat.zero_le _, rfl, Below.refl _ _, fun j hj => absurd hj (Nat.not_lt_zero _)⟩
  case round =>
    obtain ⟨k, hk, rfl, hB, hW⟩ := hrel
    have HB := Lib.hid hB
    have HW := Lib.hid hW
    clear hB hW
    by_cases hlt : k < n
    · obtain ⟨b, off, rfl, hlb, hc⟩ := HS.out.2 (by omega)
      obtain ⟨c0, c1, c2⟩ := hc k hlt
      clear hc
      obtain ⟨v, hv⟩ : ∃ v, v = l.getD k Ce.c0 := ⟨_, rfl⟩
      rw [← hv] at c0 c1 c2
      have HV := Lib.hid hv
      clear hv
      obtain ⟨vk, vn, vr, vi⟩ := v
      simp only at c0 c1 c2
      have hki : (k : Int) < (n : Int) := by omega
      have q0 := (HB.out.cell (p := ⟨b, off + k * 3, none⟩) hlb).trans c0
      have q1 := (HB.out.cell (p := ⟨b, off + k * 3 + 1, none⟩) hlb).trans c1
      have q2 := (HB.out.cell (p := ⟨b, off + k * 3 + 2, none⟩) hlb).trans c2
      clear c0 c1 c2
      by_cases hvt : vk = t
      · subst hvt
        go_wp2
        go_roundw
        case rel =>
          refine ⟨k + 1, hlt, by go_num, HB.out.trans ((below_alloc1 _ _).mono HB.out.size), fun j hj => ?_⟩
          by_cases hjk : j < k
          · exact HW.out j hjk
          · obtain rfl : j = k := by omega
            rw [← HV.out]
        case measure => simp [intOf]; omega
      · go_wp2
        go_ret
        refine ⟨?_, HB.out.trans ((below_alloc1 _ _).mono HB.out.size)⟩
        rw [each_not (k := k) (by rw [HS.out.1]; exact hlt) (by rw [← HV.out]; exact hvt)]
        rfl
    · have hki : decide ((k : Int) < (n : Int)) = false := decide_eq_false (by omega)
      go_wp2
      go_ret
      refine ⟨?_, HB.out⟩
      rw [each_upto (fun j hj => HW.out j (by rw [HS.out.1] at hj; omega))]
      rfl
end Go.Proofs.YtdenboakcbipdaaDoor
