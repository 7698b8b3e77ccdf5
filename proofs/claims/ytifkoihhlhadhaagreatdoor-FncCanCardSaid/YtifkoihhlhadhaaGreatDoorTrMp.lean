/-
  What the document's Right of nodes tells. Conditions: the nodes can be read; numbers of their type.
  What slots.Range and the document's Range answer. Conditions: none.
  What the document's Right, Inside and maps.Inside tell of tables of sets. Conditions: the tables can be read; words of 64 bits.
-/
import Derived.Test.YtifkoihhlhadhaaGreatDoorAtA
import Derived.Test.YtifkoihhlhadhaaGreatDoorSlAA
import Derived.Test.YtifkoihhlhadhaaGreatDoorMpAE
import Derived.Test.YtifkoihhlhadhaaGreatDoorMpBQ
namespace Go.Proofs.YtifkoihhlhadhaaGreatDoor
open Go.RowKit

theorem ok_fits {k : Nat} {to : Int} {n : Tr.Nd} (h : Tr.fits to n = false) : Tr.ok k to n = false := by unfold Tr.ok; rw [h, Bool.false_and]

/-- Between two rounds: k nodes are looked at; what is left decides. -/
def TrrRel (n : Nat) (l : List Tr.Nd) (w : World) (t i : Value) (wr : World) : Prop :=
  ∃ k : Nat, k ≤ n ∧ t = .int .i64 (Tr.tos l k) ∧ i = .int .i64 (k : Int) ∧ Tr.run 0 0 l = Tr.run k (Tr.tos l k) (l.drop k) ∧ 0 ≤ Tr.tos l k ∧ Below w.heap.size w wr

set_option maxHeartbeats 8000000 in
set_option maxRecDepth 100000 in
theorem rtrright_any (a : Option Addr) (n c : Nat) (l : List Tr.Nd) (w : World) (h : NodesAt w w.heap.size a n l) (hn : n ≤ 9223372036854775807) :
    Calls Tryz.prog 82 #[.slice a n c] w (BoolP (Tr.right l) w) := by
  have hl : l.length = n := h.1
  by_cases h1 : n < 1
  · have d1 : decide ((n : Int) < 1) = true := decide_eq_true (by omega)
    rw [show Tr.right l = false by unfold Tr.right; rw [decide_eq_false (p := 1 ≤ l.length) (by omega)]; rfl]
    clear h hl
    go_enter Tryz.func82, Tryz.ntmps82
    go_wp2
    go_ret
    exact ⟨rfl, Below.refl _ _⟩
  by_cases h2 : 120 < n
  · have d2 : decide ((120 : Int) < (n : Int)) = true := decide_eq_true (by omega)
    rw [show Tr.right l = false by unfold Tr.right; rw [decide_eq_false (p := l.length ≤ 120) (by omega), Bool.and_false]; rfl]
    clear h hl
    go_enter Tryz.func82, Tryz.ntmps82
    go_wp2
    go_ret
    exact ⟨rfl, Below.refl _ _⟩
  have HR : Hid (Tr.right l = Tr.run 0 0 l) := Lib.hid (by unfold Tr.right; rw [decide_eq_true (p := 1 ≤ l.length) (by omega), decide_eq_true (p := l.length ≤ 120) (by omega)]; rfl)
  have H := Lib.hid h
  have HL := Lib.hid hl
  clear h hl
  go_enter Tryz.func82, Tryz.ntmps82
  go_wp2
  go_loopw [3, 4, 5] (fun t i _ wr => TrrRel n l w t i wr) (fun _ i _ _ => n - (intOf i).toNat)
  case atStart => exact ⟨0, Nat.zero_le _, rfl, rfl, rfl, Int.le_refl _, Below.refl _ _⟩
  case round =>
    obtain ⟨k, hk, rfl, rfl, hrun, hto, hB⟩ := hrel
    have HB := Lib.hid hB
    clear hB
    by_cases hlt : k < n
    · obtain ⟨b, off, y, rfl, _, hy, hky, d0, d1, d2, d3, d4, d5, d6⟩ := nodes_cell (H.out.below HB.out) hlt
      rw [Tr.run_at hky, hy] at hrun
      have HStep := Lib.hid hrun
      have HTS : Hid (Tr.tos l (k + 1) = y.t) := Lib.hid (by rw [Tr.tos_succ, hy])
      have HNo : Hid (Tr.ok k (Tr.tos l k) y = false → Tr.right l = false) := Lib.hid (fun h => by rw [HR.out, hrun, h]; rfl)
      clear hrun hy hky
      obtain ⟨p0, p1, p2, p3, p4, p5, p6⟩ := y
      dsimp only at d0 d1 d2 d3 d4 d5 d6 HTS HStep
      generalize Tr.tos l k = to at *
      by_cases h0 : p1 < 0
      · have HF : Hid (Tr.fits to ⟨p0, p1, p2, p3, p4, p5, p6⟩ = false) := Lib.hid (decide_eq_false (by dsimp only; omega))
        go_wp2
        go_ret
        exact ⟨by rw [HNo.out (ok_fits HF.out)]; rfl, HB.out.alloc HB.out.size _⟩
      by_cases h1 : 39 < p1
      · have HF : Hid (Tr.fits to ⟨p0, p1, p2, p3, p4, p5, p6⟩ = false) := Lib.hid (decide_eq_false (by dsimp only; omega))
        go_wp2
        go_ret
        exact ⟨by rw [HNo.out (ok_fits HF.out)]; rfl, HB.out.alloc HB.out.size _⟩
      by_cases h2 : p2 < 0
      · have HF : Hid (Tr.fits to ⟨p0, p1, p2, p3, p4, p5, p6⟩ = false) := Lib.hid (decide_eq_false (by dsimp only; omega))
        go_wp2
        go_ret
        exact ⟨by rw [HNo.out (ok_fits HF.out)]; rfl, HB.out.alloc HB.out.size _⟩
      by_cases h3 : 65535 < p2
      · have HF : Hid (Tr.fits to ⟨p0, p1, p2, p3, p4, p5, p6⟩ = false) := Lib.hid (decide_eq_false (by dsimp only; omega))
        go_wp2
        go_ret
        exact ⟨by rw [HNo.out (ok_fits HF.out)]; rfl, HB.out.alloc HB.out.size _⟩
      by_cases h4 : p4 < 0
      · have HF : Hid (Tr.fits to ⟨p0, p1, p2, p3, p4, p5, p6⟩ = false) := Lib.hid (decide_eq_false (by dsimp only; omega))
        go_wp2
        go_ret
        exact ⟨by rw [HNo.out (ok_fits HF.out)]; rfl, HB.out.alloc HB.out.size _⟩
      by_cases h5 : 8 < p4
      · have HF : Hid (Tr.fits to ⟨p0, p1, p2, p3, p4, p5, p6⟩ = false) := Lib.hid (decide_eq_false (by dsimp only; omega))
        go_wp2
        go_ret
        exact ⟨by rw [HNo.out (ok_fits HF.out)]; rfl, HB.out.alloc HB.out.size _⟩
      by_cases h6 : p3 < to
      · have HF : Hid (Tr.fits to ⟨p0, p1, p2, p3, p4, p5, p6⟩ = false) := Lib.hid (decide_eq_false (by dsimp only; omega))
        go_wp2
        go_ret
        exact ⟨by rw [HNo.out (ok_fits HF.out)]; rfl, HB.out.alloc HB.out.size _⟩
      by_cases h7 : 256 < p3
      · have HF : Hid (Tr.fits to ⟨p0, p1, p2, p3, p4, p5, p6⟩ = false) := Lib.hid (decide_eq_false (by dsimp only; omega))
        go_wp2
        go_ret
        exact ⟨by rw [HNo.out (ok_fits HF.out)]; rfl, HB.out.alloc HB.out.size _⟩
      by_cases h8 : p5 < p3
      · have HF : Hid (Tr.fits to ⟨p0, p1, p2, p3, p4, p5, p6⟩ = false) := Lib.hid (decide_eq_false (by dsimp only; omega))
        go_wp2
        go_ret
        exact ⟨by rw [HNo.out (ok_fits HF.out)]; rfl, HB.out.alloc HB.out.size _⟩
      by_cases h9 : 256 < p5
      · have HF : Hid (Tr.fits to ⟨p0, p1, p2, p3, p4, p5, p6⟩ = false) := Lib.hid (decide_eq_false (by dsimp only; omega))
        go_wp2
        go_ret
        exact ⟨by rw [HNo.out (ok_fits HF.out)]; rfl, HB.out.alloc HB.out.size _⟩
      by_cases h10 : p5 - p3 < p4
      · have HF : Hid (Tr.fits to ⟨p0, p1, p2, p3, p4, p5, p6⟩ = false) := Lib.hid (decide_eq_false (by dsimp only; omega))
        go_wp2
        go_ret
        exact ⟨by rw [HNo.out (ok_fits HF.out)]; rfl, HB.out.alloc HB.out.size _⟩
      have HFit : Hid (Tr.fits to ⟨p0, p1, p2, p3, p4, p5, p6⟩ = true) := Lib.hid (Tr.fits_iff.2 (by dsimp only; omega))
      rcases k with _ | j
      · simp only [Nat.zero_mul, Nat.add_zero] at d0 d1 d2 d3 d4 d5 d6
        by_cases z0 : p0 = -1
        · by_cases z1 : p2 = 0
          · by_cases z2 : p3 = 0
            · by_cases z3 : p6 = 0
              · have HOk : Hid (Tr.ok 0 to ⟨p0, p1, p2, p3, p4, p5, p6⟩ = true) := Lib.hid (by unfold Tr.ok; rw [HFit.out, if_pos rfl]; exact decide_eq_true (by dsimp only; omega))
                subst z0 z1 z2 z3
                go_wp2
                go_roundw
                case rel => exact ⟨1, hlt, by rw [HTS.out], by go_num, by rw [HStep.out, HOk.out, Bool.true_and, HTS.out], by rw [HTS.out]; omega, HB.out.alloc HB.out.size _⟩
                case measure => simp [intOf]; omega
              · have e3 : (p6 == 0) = false := beq_eq_false_iff_ne.2 z3
                have HOk : Hid (Tr.ok 0 to ⟨p0, p1, p2, p3, p4, p5, p6⟩ = false) := Lib.hid (by unfold Tr.ok; rw [if_pos rfl, show Tr.head ⟨p0, p1, p2, p3, p4, p5, p6⟩ = false from decide_eq_false (by dsimp only; omega), Bool.and_false])
                subst z0; subst z1; subst z2
                go_wp2
                go_ret
                exact ⟨by rw [HNo.out HOk.out]; rfl, HB.out.alloc HB.out.size _⟩
            · have e2 : (p3 == 0) = false := beq_eq_false_iff_ne.2 z2
              have HOk : Hid (Tr.ok 0 to ⟨p0, p1, p2, p3, p4, p5, p6⟩ = false) := Lib.hid (by unfold Tr.ok; rw [if_pos rfl, show Tr.head ⟨p0, p1, p2, p3, p4, p5, p6⟩ = false from decide_eq_false (by dsimp only; omega), Bool.and_false])
              subst z0; subst z1
              go_wp2
              go_ret
              exact ⟨by rw [HNo.out HOk.out]; rfl, HB.out.alloc HB.out.size _⟩
          · have e1 : (p2 == 0) = false := beq_eq_false_iff_ne.2 z1
            have HOk : Hid (Tr.ok 0 to ⟨p0, p1, p2, p3, p4, p5, p6⟩ = false) := Lib.hid (by unfold Tr.ok; rw [if_pos rfl, show Tr.head ⟨p0, p1, p2, p3, p4, p5, p6⟩ = false from decide_eq_false (by dsimp only; omega), Bool.and_false])
            subst z0
            go_wp2
            go_ret
            exact ⟨by rw [HNo.out HOk.out]; rfl, HB.out.alloc HB.out.size _⟩
        · have e0 : (p0 == -1) = false := beq_eq_false_iff_ne.2 z0
          have HOk : Hid (Tr.ok 0 to ⟨p0, p1, p2, p3, p4, p5, p6⟩ = false) := Lib.hid (by unfold Tr.ok; rw [if_pos rfl, show Tr.head ⟨p0, p1, p2, p3, p4, p5, p6⟩ = false from decide_eq_false (by dsimp only; omega), Bool.and_false])
          skip
          go_wp2
          go_ret
          exact ⟨by rw [HNo.out HOk.out]; rfl, HB.out.alloc HB.out.size _⟩
      · have hj0 : ¬ ((j : Int) + 1 = 0) := by omega
        have ej0 : ((j : Int) + 1 == 0) = false := beq_eq_false_iff_ne.2 hj0
        by_cases o0 : p0 < 0
        · have HOk : Hid (Tr.ok (j + 1) to ⟨p0, p1, p2, p3, p4, p5, p6⟩ = false) := Lib.hid (by unfold Tr.ok; rw [if_neg (by omega), show Tr.other (j + 1) ⟨p0, p1, p2, p3, p4, p5, p6⟩ = false from decide_eq_false (by dsimp only; omega), Bool.and_false])
          go_wp2
          go_ret
          exact ⟨by rw [HNo.out HOk.out]; rfl, HB.out.alloc HB.out.size _⟩
        by_cases o1 : (j : Int) + 1 ≤ p0
        · have HOk : Hid (Tr.ok (j + 1) to ⟨p0, p1, p2, p3, p4, p5, p6⟩ = false) := Lib.hid (by unfold Tr.ok; rw [if_neg (by omega), show Tr.other (j + 1) ⟨p0, p1, p2, p3, p4, p5, p6⟩ = false from decide_eq_false (by dsimp only; omega), Bool.and_false])
          go_wp2
          go_ret
          exact ⟨by rw [HNo.out HOk.out]; rfl, HB.out.alloc HB.out.size _⟩
        by_cases o2 : p6 < 1
        · have HOk : Hid (Tr.ok (j + 1) to ⟨p0, p1, p2, p3, p4, p5, p6⟩ = false) := Lib.hid (by unfold Tr.ok; rw [if_neg (by omega), show Tr.other (j + 1) ⟨p0, p1, p2, p3, p4, p5, p6⟩ = false from decide_eq_false (by dsimp only; omega), Bool.and_false])
          go_wp2
          go_ret
          exact ⟨by rw [HNo.out HOk.out]; rfl, HB.out.alloc HB.out.size _⟩
        by_cases o3 : 1999 < p6
        · have HOk : Hid (Tr.ok (j + 1) to ⟨p0, p1, p2, p3, p4, p5, p6⟩ = false) := Lib.hid (by unfold Tr.ok; rw [if_neg (by omega), show Tr.other (j + 1) ⟨p0, p1, p2, p3, p4, p5, p6⟩ = false from decide_eq_false (by dsimp only; omega), Bool.and_false])
          go_wp2
          go_ret
          exact ⟨by rw [HNo.out HOk.out]; rfl, HB.out.alloc HB.out.size _⟩
        have HOk : Hid (Tr.ok (j + 1) to ⟨p0, p1, p2, p3, p4, p5, p6⟩ = true) := Lib.hid (by unfold Tr.ok; rw [HFit.out, if_neg (by omega)]; exact decide_eq_true (by dsimp only; omega))
        go_wp2
        go_roundw
        case rel => exact ⟨j + 2, hlt, by rw [HTS.out], by go_num, by rw [HStep.out, HOk.out, Bool.true_and, HTS.out], by rw [HTS.out]; omega, HB.out.alloc HB.out.size _⟩
        case measure => simp [intOf]; omega
    · have HE : Hid (Tr.right l = true) := Lib.hid (by rw [HR.out, hrun, Tr.run_end (by rw [HL.out]; omega)])
      clear hrun hto
      go_wp2
      go_ret
      exact ⟨by rw [HE.out]; rfl, HB.out⟩
end Go.Proofs.YtifkoihhlhadhaaGreatDoor

namespace Go.Proofs.YtifkoihhlhadhaaGreatDoor
open Go.RowKit

def SlRgRel (w : World) (lo cnt : Nat) (i : Value) (wr : World) : Prop :=
  ∃ (k : Nat) (z : Int), k ≤ cnt ∧ i = .int .i64 z ∧ z = (lo : Int) + k ∧ Gath w w.heap.size (Sl.span lo k) wr

theorem ends (f t : Int) : ∃ (lo : Nat) (m : Int), Sl.range f t = Sl.span lo (m - lo).toNat ∧ m ≤ 256 ∧ m ≤ t ∧ ((t < 256 ∧ m = t) ∨ (t = 256 ∧ m = 256) ∨ (256 < t ∧ m = 256)) ∧ ((f < 0 ∧ (lo : Int) = 0) ∨ (f = 0 ∧ (lo : Int) = 0) ∨ (0 < f ∧ (lo : Int) = f)) := by
  refine ⟨(max f 0).toNat, min t 256, ?_, by omega, by omega, by omega, by omega⟩
  unfold Sl.range
  rw [show min t 256 - ((max f 0).toNat : Int) = min t 256 - max f 0 by omega]

theorem span_step (lo k : Nat) {z : Int} (h : z = (lo : Int) + k) : Sl.span lo (k + 1) = (Sl.span lo k).with_ z := by
  subst h
  rfl
theorem span_new (lo k : Nat) (h : lo + k < 256) : (Sl.span lo k).has (lo + k) = false := by
  rw [Sl.has_span _ _ _ h, decide_eq_false_iff_not]
  omega

set_option maxRecDepth 100000 in
set_option maxHeartbeats 4000000 in
theorem rrange_any (f t : Int) (w : World) :
    Calls Tryz.prog 129 #[.int .i64 f, .int .i64 t] w (SetP (Sl.range f t) w) := by
  obtain ⟨lo, m, e, hm, hmt, ht, hf⟩ := ends f t
  rw [e]
  clear e
  obtain ⟨cnt, hcnt⟩ : ∃ c : Nat, c = (m - lo).toNat := ⟨_, rfl⟩
  rw [← hcnt]
  have HC := Lib.hid hcnt
  clear hcnt
  rcases ht with ⟨ht, em⟩ | ⟨rfl, em⟩ | ⟨ht, em⟩ <;> rcases hf with ⟨hf, el⟩ | ⟨rfl, el⟩ | ⟨hf, el⟩
  all_goals
    have HM := Lib.hid em
    have HL := Lib.hid el
    clear em el
    go_enter Tryz.func129, Tryz.ntmps129
    go_wp2
    go_loopw [6] (SlRgRel w lo cnt) (fun i _ => (256 - intOf i).toNat)
    case atStart => exact ⟨0, _, by omega, rfl, by rw [HL.out]; simp, Gath.start w⟩
    case round =>
      obtain ⟨k, z, hk, rfl, hz, hG⟩ := hrel
      have HZ := Lib.hid hz
      clear hz
      by_cases hlt : k < cnt
      · have h1 : z < 256 := by have := HC.out; have := HZ.out; omega
        have h2 : 0 ≤ z := by have := HZ.out; omega
        try have h3 : z < t := by have := HC.out; have := HZ.out; omega
        have HO := Lib.hid (span_step lo k HZ.out)
        obtain ⟨q, r, _, hq, hr, e, _⟩ := parts (n := z) (by omega) (by omega)
        have hd : z / 64 = (q : Int) := by omega
        have hm' : z % 64 = (r : Int) := by omega
        have hh : (Sl.span lo k).hasI z = false := by
          have e2 := HZ.out
          unfold Sl.Four.hasI
          rw [show z.toNat = lo + k by omega, span_new lo k (by omega), Bool.and_false]
        rw [hasI_at hq hr e] at hh
        have HW : Hid ((Sl.span lo k).with_ z = (Sl.span lo k).put q ((Sl.span lo k).word q + 2 ^ r)) := Lib.hid (by rw [with_at hq hr e, Sl.add_bit hr (Sl.ok_word (Sl.ok_span _ _) q) hh])
        rw [HW.out] at HO
        have HB := Lib.hid (add_word (Sl.ok_word (Sl.ok_span lo k) q) hr hh)
        clear hh e HW
        obtain ⟨⟨c0, c1, c2, c3⟩, f0, f1, f2, f3⟩ := hG.1.reads
        have HG := Lib.hid hG
        clear hG
        generalize Sl.span lo k = s at *
        obtain rfl | rfl | rfl | rfl : q = 0 ∨ q = 1 ∨ q = 2 ∨ q = 3 := by omega
        all_goals
          go_wp2
          go_roundw
          case rel => exact ⟨k + 1, _, by omega, rfl, by rw [HZ.out]; omega, by rw [HO.out]; exact HG.out.put (Nat.le_refl _) (Below.refl _ _) _ _ (by omega) HB.out⟩
          case measure => simp [intOf]; omega
      · have hk' : k = cnt := by omega
        subst hk'
        first
          | have h1 : t ≤ z := by have := HC.out; have := HZ.out; have := HL.out; have := HM.out; omega
          | have h1 : 256 ≤ z := by have := HC.out; have := HZ.out; have := HL.out; have := HM.out; omega
        obtain ⟨⟨c0, c1, c2, c3⟩, f0, f1, f2, f3⟩ := hG.1.reads
        obtain ⟨⟨d0, d1, d2, d3⟩, g0, g1, g2, g3⟩ := hG.2.1.reads
        have HG := Lib.hid hG
        clear hG
        generalize Sl.span lo k = s at *
        go_wp2
        exact bodyPost_ret (v := setV s) (by simp [results, Tryz.results129, go_sem, *]) rfl ⟨rfl, below_store HG.out.2.2 (Nat.le_refl _) _ _ _ _⟩

end Go.Proofs.YtifkoihhlhadhaaGreatDoor

namespace Go.Proofs.YtifkoihhlhadhaaGreatDoor
open Go.RowKit

set_option maxRecDepth 100000 in
set_option maxHeartbeats 4000000 in
theorem rmpright_any (a : Option Addr) (n c : Nat) (l : List Sl.Four) (m : Int) (w : World) (h : SetsAt w w.heap.size a n l) (hn : n ≤ 9223372036854775807) (ho : ∀ s ∈ l, s.ok) :
    Calls Tryz.prog 83 #[.slice a n c, .int .i64 m] w (BoolP (Mp.right l m) w) := by
  have H := Lib.hid h
  have HL := Lib.hid h.1
  have HO := Lib.hid ho
  have HR := Lib.hid (fun (W : World) => rrange_any 0 m W)
  have hor : (Sl.range 0 m).ok := Sl.ok_span _ _
  have HI := Lib.hid (fun (s : Sl.Four) (hs : s.ok) (W : World) => rinside_any s (Sl.range 0 m) hs hor W)
  unfold Mp.right
  generalize Sl.range 0 m = g at *
  clear h ho hor
  go_enter Tryz.func83, Tryz.ntmps83
  go_wp2
  go_loopw [5] (fun i wr => ∃ k : Nat, k ≤ n ∧ i = .int .i64 (k : Int) ∧ Below w.heap.size w wr ∧ (l.take k).all (·.inside g) = true) (fun i _ => n - (intOf i).toNat)
  case atStart => exact ⟨0, Nat.zero_le _, rfl, Below.refl _ _, rfl⟩
  case round =>
    obtain ⟨k, hk, rfl, hB, hW⟩ := hrel
    have HB := Lib.hid hB
    by_cases hlt : k < n
    · obtain ⟨b, off, y, rfl, hbl, hy, hky, c0, c1, c2, c3⟩ := sets_cell (H.out.on hB) hlt
      have HS := Lib.hid (Mp.all_take_succ (·.inside g) hky)
      have HBad := Lib.hid (fun hb => Mp.all_bad (p := (·.inside g)) hky hb)
      have hoy := mp_ok HO.out hky
      rw [hy, hW] at HS
      rw [hy] at HBad hoy
      have HY := Lib.hid (HI.out y hoy)
      clear hW hy hky hoy hB
      cases hm : y.inside g with
      | false =>
        rw [hm] at HY
        have HE := Lib.hid (HBad.out hm)
        obtain ⟨K, hK, f, HC, HBe, HU⟩ := worlds_of wr
        have q0 := cell_q HBe.out hbl c0
        have q1 := cell_q HBe.out hbl c1
        have q2 := cell_q HBe.out hbl c2
        have q3 := cell_q HBe.out hbl c3
        clear HS HBad hm c0 c1 c2 c3
        have hki : (k : Int) < (n : Int) := by omega
        go_wp2
        refine region_q f HC.out (by kernel_rfl) (by kernel_rfl) ?_
        repeat (go_big_quiet_step (first | (go_at_call 129; refine Calls.q HU.out (HR.out _)) | (go_at_call 128; refine Calls.q HU.out (HY.out _))))
        refine wpQuiet_nil ?_
        rintro _ ⟨nq, rfl⟩
        go_wp2
        go_ret
        exact ⟨retB (by rw [HE.out, Bool.false_and]), HB.out.trans ((HBe.out nq).mono HB.out.size)⟩
      | true =>
        rw [hm] at HY HS
        obtain ⟨K, hK, f, HC, HBe, HU⟩ := worlds_of wr
        have q0 := cell_q HBe.out hbl c0
        have q1 := cell_q HBe.out hbl c1
        have q2 := cell_q HBe.out hbl c2
        have q3 := cell_q HBe.out hbl c3
        clear HBad hm c0 c1 c2 c3
        have hki : (k : Int) < (n : Int) := by omega
        go_wp2
        refine region_q f HC.out (by kernel_rfl) (by kernel_rfl) ?_
        repeat (go_big_quiet_step (first | (go_at_call 129; refine Calls.q HU.out (HR.out _)) | (go_at_call 128; refine Calls.q HU.out (HY.out _))))
        refine wpQuiet_nil ?_
        rintro _ ⟨nq, rfl⟩
        go_wp2
        go_roundw
        case rel => exact ⟨k + 1, hlt, by go_num, HB.out.trans ((HBe.out nq).mono HB.out.size), HS.out⟩
        case measure => simp [intOf]; omega
    · have HE : Hid (l.all (·.inside g) = true) := Lib.hid (by rw [← hW, List.take_of_length_le (by rw [HL.out]; omega)])
      clear hW hB
      go_wp2
      go_ret
      exact ⟨retB (by rw [HE.out, HL.out, Bool.true_and, Bool.eq_iff_iff]; simp; omega), HB.out⟩

end Go.Proofs.YtifkoihhlhadhaaGreatDoor
