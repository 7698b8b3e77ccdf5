/-
  What cell.Row answers of any types. Conditions: the types can be read.
-/
import Derived.Test.YtdenboakcbipdaaDoorCeH
import Derived.OwnWalk
namespace Go.Proofs.YtdenboakcbipdaaDoor
open Go.RowKit
attribute [local go_sem] Ce.run_store_complex

theorem made_zeros (n : Nat) : (madeCells #[.int .i64 0, .int .i64 0, .complex .f64 0 0] (n * 3)).toList = cs (List.replicate n Ce.c0) := by
  have h : ∀ n, (List.range (n * 3)).map (fun i => (#[Value.int .i64 0, .int .i64 0, .complex .f64 0 0] : Array Value)[i % 3]!) = cs (List.replicate n Ce.c0) := by
    intro n
    induction n with
    | zero => rfl
    | succ n ih =>
      rw [show (n + 1) * 3 = n * 3 + 1 + 1 + 1 by omega, List.range_succ, List.range_succ, List.range_succ, List.replicate_succ', cs_append, ← ih]
      have e0 : n * 3 % 3 = 0 := by omega
      have e1 : (n * 3 + 1) % 3 = 1 := by omega
      have e2 : (n * 3 + 1 + 1) % 3 = 2 := by omega
      simp only [List.map_append, List.map_cons, List.map_nil, e0, e1, e2, List.append_assoc]
      rfl
  rw [← h n]
  simp [madeCells]

theorem cs_set : ∀ (r : List Ce.Cv) (k : Nat) (v : Ce.Cv), (((cs r).set (k * 3) (.int .i64 v.k)).set (k * 3 + 1) (.int .i64 v.n)).set (k * 3 + 2) (.complex .f64 v.re v.im) = cs (r.set k v)
  | [], _, _ => by simp [cs]
  | a :: r, 0, v => rfl
  | a :: r, k + 1, v => by
    have := cs_set r k v
    rw [show (k + 1) * 3 = k * 3 + 1 + 1 + 1 by omega, show k * 3 + 1 + 1 + 1 + 1 = (k * 3 + 1) + 1 + 1 + 1 by omega, show k * 3 + 1 + 1 + 1 + 2 = (k * 3 + 2) + 1 + 1 + 1 by omega]
    simpa [cs] using this

/-- A row of values of the call's own is answered; nothing below has turned. -/
def RowP (r : List Ce.Cv) (w : World) (e : Ending) (w' : World) : Prop := ∃ A, e = .returned (.slice A r.length r.length) ∧ ValsAt w' w'.heap.size A r.length r ∧ Below w.heap.size w w'

def RowRel (w : World) (n : Nat) (l : List Int) (i : Value) (wr : World) : Prop :=
  ∃ (k : Nat) (r : List Ce.Cv), k ≤ n ∧ i = .int .i64 (k : Int) ∧ r.length = n ∧ (∀ j, j < k → r.getD j Ce.c0 = Ce.zero (l.getD j 0)) ∧ wr.ownsRow w.heap.size 29 3 (.slice (some ⟨w.heap.size, 0, none⟩) n n) n (cs r) ∧ Below w.heap.size w wr

set_option maxHeartbeats 4000000 in
set_option maxRecDepth 100000 in
theorem row_any (a : Option Addr) (n c : Nat) (l : List Int) (w : World) (h : IntsAt w w.heap.size a n l) (hn : n ≤ 4398046511104) :
    Calls Tryd.prog 10 #[.slice a n c] w (RowP (l.map Ce.zero) w) := by
  obtain ⟨i0, hi, hz0, hz1, hz2⟩ := info_parts info_val
  have HS := Lib.hid h
  have hl := h.1
  clear h
  go_enter Tryd.func10, Tryd.ntmps10
  go_wp2_with (at_make; refine wpList_make_full _ rfl _ _ 25 rfl w.heap.size 29 i0 (.agg #[.int .i64 0, .int .i64 0, .complex .f64 0 0]) 3 Tryd.underlying25 hi hz0 hz1 .i64 .i64 _ _ n rfl rfl rfl rfl ?m1 ?m2 (Nat.le_refl _) ?_)
  case m1 => rw [hz2]; omega
  case m2 => unfold maxLen; omega
  intro w1 hown hgrow
  have HB1 := Lib.hid ((Below.refl w.heap.size w).grown hgrow (Nat.le_refl _) (fun k hk => by cases hk))
  rw [made_zeros] at hown
  have HO1 := Lib.hid hown
  clear hown hgrow
  go_wp2
  go_loopw [11] (RowRel w n l) (fun i _ => n - (intOf i).toNat)
  case atStart => exact ⟨0, List.replicate n Ce.c0, Nat.zero_le _, rfl, by simp, fun j hj => absurd hj (Nat.not_lt_zero _), HO1.out, HB1.out⟩
  case round =>
    obtain ⟨k, r, hk, rfl, hr, hW, hO, hB⟩ := hrel
    have HO := Lib.hid hO
    have HB := Lib.hid hB
    have HW := Lib.hid hW
    have HRL := Lib.hid hr
    have hgl := (hO.lt w.heap.size rfl).2
    clear hO hB hW hr HO1 HB1
    by_cases hlt : k < n
    · obtain ⟨b, off, rfl, hlb, hc⟩ := HS.out.2 (by omega)
      have q0 := (HB.out.cell (p := ⟨b, off + k, none⟩) hlb).trans (hc k hlt)
      clear hc
      obtain ⟨t, ht⟩ : ∃ t, t = l.getD k 0 := ⟨_, rfl⟩
      rw [← ht] at q0
      have HT := Lib.hid ht
      clear ht
      have hki : (k : Int) < (n : Int) := by omega
      have HZ := fun w => zero_any t w
      obtain ⟨v, hv⟩ : ∃ v, v = Ce.zero t := ⟨_, rfl⟩
      rw [← hv] at HZ
      have HVZ := Lib.hid hv
      clear hv
      have HK : Hid (k < r.length) := Lib.hid (by rw [HRL.out]; exact hlt)
      obtain ⟨vk, vn, vr, vi⟩ := v
      go_wp2_with (go_at_call 12; refine (HZ _).mono ?_; rintro e w2 ⟨rfl, b2⟩; have hO2 := ownsRow_below HO.out b2; have x0 := (hO2.cellAt (k * 3) (by omega)).trans (cs_get r k HK.out).1; have x1 := (hO2.cellAt (k * 3 + 1) (by omega)).trans (cs_get r k HK.out).2.1; have x2 := (hO2.cellAt (k * 3 + 2) (by omega)).trans (cs_get r k HK.out).2.2; have f0 := hO2.frozenAt (k * 3); have f1 := hO2.frozenAt (k * 3 + 1); have f2 := hO2.frozenAt (k * 3 + 2); have HO2 := Lib.hid hO2; clear hO2)
      go_roundw
      case rel =>
        refine ⟨k + 1, r.set k ⟨vk, vn, vr, vi⟩, hlt, by go_num, by rw [List.length_set]; exact HRL.out, fun j hj => ?_, ?_, ?_⟩
        · by_cases hjk : j = k
          · subst hjk
            rw [← HT.out, ← HVZ.out]
            have := HK.out
            simp [List.getD, this]
          · rw [← HW.out j (by omega)]
            simp [List.getD, Ne.symm hjk]
        · rw [← cs_set]
          exact (((HO2.out.stored _ _).1.stored _ _).1.stored _ _).1
        · have hb := HB.out.trans (b2.mono HB.out.size)
          exact ((hb.setCell (p := ⟨w.heap.size, k * 3, none⟩) (Nat.le_refl _) _).setCell (p := ⟨w.heap.size, k * 3 + 1, none⟩) (Nat.le_refl _) _).setCell (p := ⟨w.heap.size, k * 3 + 2, none⟩) (Nat.le_refl _) _
      case measure => simp [intOf]; omega
    · have hki : decide ((k : Int) < (n : Int)) = false := decide_eq_false (by omega)
      have HE : Hid (r = l.map Ce.zero) := Lib.hid (by
        apply List.ext_getElem?
        intro j
        by_cases hj : j < n
        · have h1 := HW.out j (by omega)
          have h2 : j < r.length := by rw [HRL.out]; exact hj
          have h3 : j < l.length := by omega
          simp only [List.getD, List.getElem?_eq_getElem h2, List.getElem?_eq_getElem h3, Option.getD_some] at h1
          rw [List.getElem?_map, List.getElem?_eq_getElem h2, List.getElem?_eq_getElem h3, Option.map_some, h1]
        · rw [List.getElem?_eq_none (by rw [HRL.out]; omega), List.getElem?_eq_none (by rw [List.length_map]; omega)])
      go_wp2
      go_ret
      have hlen : (l.map Ce.zero).length = n := by rw [List.length_map, hl]
      refine ⟨some ⟨w.heap.size, 0, none⟩, by rw [hlen]; rfl, ?_, HB.out⟩
      have := (vals_of_own HO.out).2.1
      rw [HE.out] at this
      rw [hlen]
      exact this
end Go.Proofs.YtdenboakcbipdaaDoor
