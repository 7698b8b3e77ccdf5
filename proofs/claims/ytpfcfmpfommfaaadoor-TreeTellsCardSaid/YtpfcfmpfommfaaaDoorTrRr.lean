/-
  What the document's Right of nodes tells. Conditions: the nodes can be read; numbers of their type.
-/
import Derived.Test.YtpfcfmpfommfaaaDoorTrAt
namespace Go.Proofs.YtpfcfmpfommfaaaDoor
open Go.RowKit

theorem ok_fits {k : Nat} {to : Int} {n : Tr.Nd} (h : Tr.fits to n = false) : Tr.ok k to n = false := by unfold Tr.ok; rw [h, Bool.false_and]

/-- Between two rounds: k nodes are looked at; what is left decides. -/
def TrrRel (n : Nat) (l : List Tr.Nd) (w : World) (t i : Value) (wr : World) : Prop :=
  ∃ k : Nat, k ≤ n ∧ t = .int .i64 (Tr.tos l k) ∧ i = .int .i64 (k : Int) ∧ Tr.run 0 0 l = Tr.run k (Tr.tos l k) (l.drop k) ∧ 0 ≤ Tr.tos l k ∧ Below w.heap.size w wr

set_option maxHeartbeats 8000000 in
set_option maxRecDepth 100000 in
theorem rtrright_any (a : Option Addr) (n c : Nat) (l : List Tr.Nd) (w : World) (h : NodesAt w w.heap.size a n l) (hn : n ≤ 9223372036854775807) :
    Calls Tryd.prog 9 #[.slice a n c] w (BoolP (Tr.right l) w) := by
  have hl : l.length = n := h.1
  by_cases h1 : n < 1
  · have d1 : decide ((n : Int) < 1) = true := decide_eq_true (by omega)
    rw [show Tr.right l = false by unfold Tr.right; rw [decide_eq_false (p := 1 ≤ l.length) (by omega)]; rfl]
    clear h hl
    go_enter Tryd.func9, Tryd.ntmps9
    go_wp2
    go_ret
    exact ⟨rfl, Below.refl _ _⟩
  by_cases h2 : 120 < n
  · have d2 : decide ((120 : Int) < (n : Int)) = true := decide_eq_true (by omega)
    rw [show Tr.right l = false by unfold Tr.right; rw [decide_eq_false (p := l.length ≤ 120) (by omega), Bool.and_false]; rfl]
    clear h hl
    go_enter Tryd.func9, Tryd.ntmps9
    go_wp2
    go_ret
    exact ⟨rfl, Below.refl _ _⟩
  have HR : Hid (Tr.right l = Tr.run 0 0 l) := Lib.hid (by unfold Tr.right; rw [decide_eq_true (p := 1 ≤ l.length) (by omega), decide_eq_true (p := l.length ≤ 120) (by omega)]; rfl)
  have H := Lib.hid h
  have HL := Lib.hid hl
  clear h hl
  go_enter Tryd.func9, Tryd.ntmps9
  go_wp2
  go_loopw [3, 4, 5] (fun t i _ wr => TrrRel n l w t i wr) (fun _ i _ _ => n - (intOf i).toNat)
  case atStart => exact ⟨0, Nat.zero_le _, rfl, rfl, rfl, Int.le_refl _, Below.refl _ _⟩
  case round =>
    obtain ⟨k, hk, rfl, rfl, hrun, hto, hB⟩ := hrel
    have HB := Lib.hid hB
    clear hB
    by_cases hlt : k < n
    · obtain ⟨b, off, y, rfl, _, hy, hky, d0, d1, d2, d3, d4, d5, d6⟩ := nodes_cell (H.out.below HB.out) hlt
      rw [Tr.run_at hky, hy] at hrun
      have HStep := Lib.hid hrun
      have HTS : Hid (Tr.tos l (k + 1) = y.t) := Lib.hid (by rw [Tr.tos_succ, hy])
      have HNo : Hid (Tr.ok k (Tr.tos l k) y = false → Tr.right l = false) := Lib.hid (fun h => by rw [HR.out, hrun, h]; rfl)
      clear hrun hy hky
      obtain ⟨p0, p1, p2, p3, p4, p5, p6⟩ := y
      dsimp only at d0 d1 d2 d3 d4 d5 d6 HTS HStep
      generalize Tr.tos l k = to at *
      by_cases h0 : p1 < 0
      · have HF : Hid (Tr.fits to ⟨p0, p1, p2, p3, p4, p5, p6⟩ = false) := Lib.hid (decide_eq_false (by dsimp only; omega))
        go_wp2
        go_ret
        exact ⟨by rw [HNo.out (ok_fits HF.out)]; rfl, HB.out.alloc HB.out.size _⟩
      by_cases h1 : 39 < p1
      · have HF : Hid (Tr.fits to ⟨p0, p1, p2, p3, p4, p5, p6⟩ = false) := Lib.hid (decide_eq_false (by dsimp only; omega))
        go_wp2
        go_ret
        exact ⟨by rw [HNo.out (ok_fits HF.out)]; rfl, HB.out.alloc HB.out.size _⟩
      by_cases h2 : p2 < 0
      · have HF : Hid (Tr.fits to ⟨p0, p1, p2, p3, p4, p5, p6⟩ = false) := Lib.hid (decide_eq_false (by dsimp only; omega))
        go_wp2
        go_ret
        exact ⟨by rw [HNo.out (ok_fits HF.out)]; rfl, HB.out.alloc HB.out.size _⟩
      by_cases h3 : 65535 < p2
      · have HF : Hid (Tr.fits to ⟨p0, p1, p2, p3, p4, p5, p6⟩ = false) := Lib.hid (decide_eq_false (by dsimp only; omega))
        go_wp2
        go_ret
        exact ⟨by rw [HNo.out (ok_fits HF.out)]; rfl, HB.out.alloc HB.out.size _⟩
      by_cases h4 : p4 < 0
      · have HF : Hid (Tr.fits to ⟨p0, p1, p2, p3, p4, p5, p6⟩ = false) := Lib.hid (decide_eq_false (by dsimp only; omega))
        go_wp2
        go_ret
        exact ⟨by rw [HNo.out (ok_fits HF.out)]; rfl, HB.out.alloc HB.out.size _⟩
      by_cases h5 : 8 < p4
      · have HF : Hid (Tr.fits to ⟨p0, p1, p2, p3, p4, p5, p6⟩ = false) := Lib.hid (decide_eq_false (by dsimp only; omega))
        go_wp2
        go_ret
        exact ⟨by rw [HNo.out (ok_fits HF.out)]; rfl, HB.out.alloc HB.out.size _⟩
      by_cases h6 : p3 < to
      · have HF : Hid (Tr.fits to ⟨p0, p1, p2, p3, p4, p5, p6⟩ = false) := Lib.hid (decide_eq_false (by dsimp only; omega))
        go_wp2
        go_ret
        exact ⟨by rw [HNo.out (ok_fits HF.out)]; rfl, HB.out.alloc HB.out.size _⟩
      by_cases h7 : 256 < p3
      · have HF : Hid (Tr.fits to ⟨p0, p1, p2, p3, p4, p5, p6⟩ = false) := Lib.hid (decide_eq_false (by dsimp only; omega))
        go_wp2
        go_ret
        exact ⟨by rw [HNo.out (ok_fits HF.out)]; rfl, HB.out.alloc HB.out.size _⟩
      by_cases h8 : p5 < p3
      · have HF : Hid (Tr.fits to ⟨p0, p1, p2, p3, p4, p5, p6⟩ = false) := Lib.hid (decide_eq_false (by dsimp only; omega))
        go_wp2
        go_ret
        exact ⟨by rw [HNo.out (ok_fits HF.out)]; rfl, HB.out.alloc HB.out.size _⟩
      by_cases h9 : 256 < p5
      · have HF : Hid (Tr.fits to ⟨p0, p1, p2, p3, p4, p5, p6⟩ = false) := Lib.hid (decide_eq_false (by dsimp only; omega))
        go_wp2
        go_ret
        exact ⟨by rw [HNo.out (ok_fits HF.out)]; rfl, HB.out.alloc HB.out.size _⟩
      by_cases h10 : p5 - p3 < p4
      · have HF : Hid (Tr.fits to ⟨p0, p1, p2, p3, p4, p5, p6⟩ = false) := Lib.hid (decide_eq_false (by dsimp only; omega))
        go_wp2
        go_ret
        exact ⟨by rw [HNo.out (ok_fits HF.out)]; rfl, HB.out.alloc HB.out.size _⟩
      have HFit : Hid (Tr.fits to ⟨p0, p1, p2, p3, p4, p5, p6⟩ = true) := Lib.hid (Tr.fits_iff.2 (by dsimp only; omega))
      rcases k with _ | j
      · simp only [Nat.zero_mul, Nat.add_zero] at d0 d1 d2 d3 d4 d5 d6
        by_cases z0 : p0 = -1
        · by_cases z1 : p2 = 0
          · by_cases z2 : p3 = 0
            · by_cases z3 : p6 = 0
              · have HOk : Hid (Tr.ok 0 to ⟨p0, p1, p2, p3, p4, p5, p6⟩ = true) := Lib.hid (by unfold Tr.ok; rw [HFit.out, if_pos rfl]; exact decide_eq_true (by dsimp only; omega))
                subst z0 z1 z2 z3
                go_wp2
                go_roundw
                case rel => exact ⟨1, hlt, by rw [HTS.out], by go_num, by rw [HStep.out, HOk.out, Bool.true_and, HTS.out], by rw [HTS.out]; omega, HB.out.alloc HB.out.size _⟩
                case measure => simp [intOf]; omega
              · have e3 : (p6 == 0) = false := beq_eq_false_iff_ne.2 z3
                have HOk : Hid (Tr.ok 0 to ⟨p0, p1, p2, p3, p4, p5, p6⟩ = false) := Lib.hid (by unfold Tr.ok; rw [if_pos rfl, show Tr.head ⟨p0, p1, p2, p3, p4, p5, p6⟩ = false from decide_eq_false (by dsimp only; omega), Bool.and_false])
                subst z0; subst z1; subst z2
                go_wp2
                go_ret
                exact ⟨by rw [HNo.out HOk.out]; rfl, HB.out.alloc HB.out.size _⟩
            · have e2 : (p3 == 0) = false := beq_eq_false_iff_ne.2 z2
              have HOk : Hid (Tr.ok 0 to ⟨p0, p1, p2, p3, p4, p5, p6⟩ = false) := Lib.hid (by unfold Tr.ok; rw [if_pos rfl, show Tr.head ⟨p0, p1, p2, p3, p4, p5, p6⟩ = false from decide_eq_false (by dsimp only; omega), Bool.and_false])
              subst z0; subst z1
              go_wp2
              go_ret
              exact ⟨by rw [HNo.out HOk.out]; rfl, HB.out.alloc HB.out.size _⟩
          · have e1 : (p2 == 0) = false := beq_eq_false_iff_ne.2 z1
            have HOk : Hid (Tr.ok 0 to ⟨p0, p1, p2, p3, p4, p5, p6⟩ = false) := Lib.hid (by unfold Tr.ok; rw [if_pos rfl, show Tr.head ⟨p0, p1, p2, p3, p4, p5, p6⟩ = false from decide_eq_false (by dsimp only; omega), Bool.and_false])
            subst z0
            go_wp2
            go_ret
            exact ⟨by rw [HNo.out HOk.out]; rfl, HB.out.alloc HB.out.size _⟩
        · have e0 : (p0 == -1) = false := beq_eq_false_iff_ne.2 z0
          have HOk : Hid (Tr.ok 0 to ⟨p0, p1, p2, p3, p4, p5, p6⟩ = false) := Lib.hid (by unfold Tr.ok; rw [if_pos rfl, show Tr.head ⟨p0, p1, p2, p3, p4, p5, p6⟩ = false from decide_eq_false (by dsimp only; omega), Bool.and_false])
          skip
          go_wp2
          go_ret
          exact ⟨by rw [HNo.out HOk.out]; rfl, HB.out.alloc HB.out.size _⟩
      · have hj0 : ¬ ((j : Int) + 1 = 0) := by omega
        have ej0 : ((j : Int) + 1 == 0) = false := beq_eq_false_iff_ne.2 hj0
        by_cases o0 : p0 < 0
        · have HOk : Hid (Tr.ok (j + 1) to ⟨p0, p1, p2, p3, p4, p5, p6⟩ = false) := Lib.hid (by unfold Tr.ok; rw [if_neg (by omega), show Tr.other (j + 1) ⟨p0, p1, p2, p3, p4, p5, p6⟩ = false from decide_eq_false (by dsimp only; omega), Bool.and_false])
          go_wp2
          go_ret
          exact ⟨by rw [HNo.out HOk.out]; rfl, HB.out.alloc HB.out.size _⟩
        by_cases o1 : (j : Int) + 1 ≤ p0
        · have HOk : Hid (Tr.ok (j + 1) to ⟨p0, p1, p2, p3, p4, p5, p6⟩ = false) := Lib.hid (by unfold Tr.ok; rw [if_neg (by omega), show Tr.other (j + 1) ⟨p0, p1, p2, p3, p4, p5, p6⟩ = false from decide_eq_false (by dsimp only; omega), Bool.and_false])
          go_wp2
          go_ret
          exact ⟨by rw [HNo.out HOk.out]; rfl, HB.out.alloc HB.out.size _⟩
        by_cases o2 : p6 < 1
        · have HOk : Hid (Tr.ok (j + 1) to ⟨p0, p1, p2, p3, p4, p5, p6⟩ = false) := Lib.hid (by unfold Tr.ok; rw [if_neg (by omega), show Tr.other (j + 1) ⟨p0, p1, p2, p3, p4, p5, p6⟩ = false from decide_eq_false (by dsimp only; omega), Bool.and_false])
          go_wp2
          go_ret
          exact ⟨by rw [HNo.out HOk.out]; rfl, HB.out.alloc HB.out.size _⟩
        by_cases o3 : 1999 < p6
        · have HOk : Hid (Tr.ok (j + 1) to ⟨p0, p1, p2, p3, p4, p5, p6⟩ = false) := Lib.hid (by unfold Tr.ok; rw [if_neg (by omega), show Tr.other (j + 1) ⟨p0, p1, p2, p3, p4, p5, p6⟩ = false from decide_eq_false (by dsimp only; omega), Bool.and_false])
          go_wp2
          go_ret
          exact ⟨by rw [HNo.out HOk.out]; rfl, HB.out.alloc HB.out.size _⟩
        have HOk : Hid (Tr.ok (j + 1) to ⟨p0, p1, p2, p3, p4, p5, p6⟩ = true) := Lib.hid (by unfold Tr.ok; rw [HFit.out, if_neg (by omega)]; exact decide_eq_true (by dsimp only; omega))
        go_wp2
        go_roundw
        case rel => exact ⟨j + 2, hlt, by rw [HTS.out], by go_num, by rw [HStep.out, HOk.out, Bool.true_and, HTS.out], by rw [HTS.out]; omega, HB.out.alloc HB.out.size _⟩
        case measure => simp [intOf]; omega
    · have HE : Hid (Tr.right l = true) := Lib.hid (by rw [HR.out, hrun, Tr.run_end (by rw [HL.out]; omega)])
      clear hrun hto
      go_wp2
      go_ret
      exact ⟨by rw [HE.out]; rfl, HB.out⟩
end Go.Proofs.YtpfcfmpfommfaaaDoor
