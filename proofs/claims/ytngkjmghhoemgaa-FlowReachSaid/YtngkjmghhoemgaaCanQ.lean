/-
  What the document's May answers of a string. Conditions: none.
  What the document's Right of nodes tells. Conditions: the nodes can be read; numbers of their type.
  What slots.Range and the document's Range answer. Conditions: none.
  What the document's Right, Inside and maps.Inside tell of tables of sets. Conditions: the tables can be read; words of 64 bits.
  Whether a function has few of everything. Conditions: none.
  What the document's Bare and tables tell. Conditions: the function can be read; few of everything; words of 64 bits.
  What the document's Can tells. Conditions: the function can be read; few of everything but the types; words of 64 bits.
-/
import Derived.Test.YtngkjmghhoemgaaNmA
import Derived.Test.YtngkjmghhoemgaaAtA
import Derived.Test.YtngkjmghhoemgaaSlAA
import Derived.Test.YtngkjmghhoemgaaMpX
import Derived.Deep.DeepMust
import Derived.Test.YtngkjmghhoemgaaFnCanX
import Derived.Test.YtngkjmghhoemgaaFnCanL
import Derived.Test.YtngkjmghhoemgaaInBB
namespace Go.Proofs.Ytngkjmghhoemgaa
open Go.RowKit

namespace Nm
/-- What the document lets stand at a place. -/
def okAt (s : ByteArray) (i : Nat) : Bool := letter (byte s i) || (decide (i ≠ 0) && within (byte s i))
theorem may_ok (s : ByteArray) : may s = (decide (1 ≤ s.size) && decide (s.size ≤ 12) && (List.range s.size).all fun i => okAt s i) := by
  by_cases h0 : s.size < 1
  · rw [may_short h0]
    have : ¬ 1 ≤ s.size := by omega
    simp [this]
  · have h1 : 1 ≤ s.size := by omega
    rw [Bool.eq_iff_iff]
    simp only [may, Bool.and_eq_true, decide_eq_true_eq, List.all_eq_true, List.mem_range]
    constructor
    · rintro ⟨⟨⟨a, b⟩, c⟩, d⟩
      refine ⟨⟨a, b⟩, fun i hi => ?_⟩
      by_cases e : i = 0
      · subst e; simp [okAt, c]
      · simp [okAt, e, d i hi]
    · rintro ⟨⟨a, b⟩, d⟩
      have c : letter (byte s 0) = true := by have := d 0 (by omega); simpa [okAt] using this
      refine ⟨⟨⟨a, b⟩, c⟩, fun i hi => ?_⟩
      have := d i hi
      simp only [okAt, Bool.or_eq_true, Bool.and_eq_true] at this
      rcases this with h | h
      · simp [within, h]
      · exact h.2
theorem okAt_true {s : ByteArray} {k : Nat} (h : (97 ≤ byte s k ∧ byte s k ≤ 122) ∨ (k ≠ 0 ∧ ((48 ≤ byte s k ∧ byte s k ≤ 57) ∨ byte s k = 95))) : okAt s k = true := by
  simp only [okAt, within, letter, Bool.or_eq_true, Bool.and_eq_true, decide_eq_true_eq, beq_iff_eq]
  omega
theorem okAt_false {s : ByteArray} {k : Nat} (h1 : byte s k < 97 ∨ 122 < byte s k) (h2 : k = 0 ∨ ((byte s k < 48 ∨ 57 < byte s k) ∧ byte s k ≠ 95)) : okAt s k = false := by
  rw [Bool.eq_false_iff]
  simp only [okAt, within, letter, ne_eq, Bool.or_eq_true, Bool.and_eq_true, decide_eq_true_eq, beq_iff_eq]
  omega
end Nm

set_option maxRecDepth 100000 in
set_option maxHeartbeats 4000000 in
theorem rmay_any (s : ByteArray) (w : World) (hs : s.size ≤ 9223372036854775807) : Calls Try.prog 27 #[.string s] w fun e w' => e = .returned (.bool (Nm.may s)) ∧ w' = w := by
  have HE := Lib.hid (Nm.may_ok s)
  go_enter Try.func27, Try.ntmps27
  go_wp2
  go_loopw [3] (fun i wr => ∃ k : Nat, k ≤ s.size ∧ i = .int .i64 (k : Int) ∧ wr = w ∧ ∀ j, j < k → Nm.okAt s j = true) (fun i _ => s.size - (intOf i).toNat)
  case atStart => exact ⟨0, Nat.zero_le _, rfl, rfl, fun j hj => absurd hj (Nat.not_lt_zero _)⟩
  case round =>
    obtain ⟨k, hk, rfl, rfl, hW⟩ := hrel
    have HW := Lib.hid hW
    clear hW
    by_cases hlt : k < s.size
    · have e := Nm.byte_eq s k hlt
      have HT : Hid (((97 ≤ s[k].toNat ∧ s[k].toNat ≤ 122) ∨ (k ≠ 0 ∧ ((48 ≤ s[k].toNat ∧ s[k].toNat ≤ 57) ∨ s[k].toNat = 95))) → ∀ j, j < k + 1 → Nm.okAt s j = true) := Lib.hid (fun h j hj => by
        by_cases ej : j = k
        · rw [ej]; exact Nm.okAt_true (by rw [← e]; exact h)
        · exact HW.out j (by omega))
      have HF : Hid ((s[k].toNat < 97 ∨ 122 < s[k].toNat) → (k = 0 ∨ ((s[k].toNat < 48 ∨ 57 < s[k].toNat) ∧ s[k].toNat ≠ 95)) → Nm.may s = false) := Lib.hid (fun h1 h2 => by
        rw [HE.out]
        have h := Nm.okAt_false (s := s) (k := k) (by rw [← e]; exact h1) (by rw [← e]; exact h2)
        have : ((List.range s.size).all fun i => Nm.okAt s i) = false := by
          rw [List.all_eq_false]
          exact ⟨k, List.mem_range.2 hlt, by rw [h]; decide⟩
        simp [this])
      clear e HE HW
      have hcl : (s[k].toNat < 48) ∨ (48 ≤ s[k].toNat ∧ s[k].toNat ≤ 57) ∨ (57 < s[k].toNat ∧ s[k].toNat < 97 ∧ s[k].toNat ≠ 95) ∨ (s[k].toNat = 95) ∨ (97 ≤ s[k].toNat ∧ s[k].toNat ≤ 122) ∨ (122 < s[k].toNat) := by omega
      by_cases hz : k = 0
      · subst hz
        rcases hcl with hc | hc | hc | hc | hc | hc
        · have h97 : (s[0].toNat : Int) < 97 := by omega
          have h122 : decide (122 < (s[0].toNat : Int)) = false := decide_eq_false (by omega)
          have h48 : (s[0].toNat : Int) < 48 := by omega
          have h57 : decide (57 < (s[0].toNat : Int)) = false := decide_eq_false (by omega)
          have h95 : ((s[0].toNat : Int) != 95) = true := by rw [bne_iff_ne]; omega
          have HG := Lib.hid (HF.out (by omega) (by omega))
          clear hc HT HF
          go_wp2
          go_ret
          exact ⟨retB HG.out.symm, rfl⟩
        · have h97 : (s[0].toNat : Int) < 97 := by omega
          have h122 : decide (122 < (s[0].toNat : Int)) = false := decide_eq_false (by omega)
          have h48 : decide ((s[0].toNat : Int) < 48) = false := decide_eq_false (by omega)
          have h57 : decide (57 < (s[0].toNat : Int)) = false := decide_eq_false (by omega)
          have h95 : ((s[0].toNat : Int) != 95) = true := by rw [bne_iff_ne]; omega
          have HG := Lib.hid (HF.out (by omega) (by omega))
          clear hc HT HF
          go_wp2
          go_ret
          exact ⟨retB HG.out.symm, rfl⟩
        · have h97 : (s[0].toNat : Int) < 97 := by omega
          have h122 : decide (122 < (s[0].toNat : Int)) = false := decide_eq_false (by omega)
          have h48 : decide ((s[0].toNat : Int) < 48) = false := decide_eq_false (by omega)
          have h57 : 57 < (s[0].toNat : Int) := by omega
          have h95 : ((s[0].toNat : Int) != 95) = true := by rw [bne_iff_ne]; omega
          have HG := Lib.hid (HF.out (by omega) (by omega))
          clear hc HT HF
          go_wp2
          go_ret
          exact ⟨retB HG.out.symm, rfl⟩
        · have h97 : (s[0].toNat : Int) < 97 := by omega
          have h122 : decide (122 < (s[0].toNat : Int)) = false := decide_eq_false (by omega)
          have h48 : decide ((s[0].toNat : Int) < 48) = false := decide_eq_false (by omega)
          have h57 : 57 < (s[0].toNat : Int) := by omega
          have h95 : ((s[0].toNat : Int) != 95) = false := by rw [bne_eq_false_iff_eq]; omega
          have HG := Lib.hid (HF.out (by omega) (by omega))
          clear hc HT HF
          go_wp2
          go_ret
          exact ⟨retB HG.out.symm, rfl⟩
        · have h97 : decide ((s[0].toNat : Int) < 97) = false := decide_eq_false (by omega)
          have h122 : decide (122 < (s[0].toNat : Int)) = false := decide_eq_false (by omega)
          have h48 : decide ((s[0].toNat : Int) < 48) = false := decide_eq_false (by omega)
          have h57 : 57 < (s[0].toNat : Int) := by omega
          have h95 : ((s[0].toNat : Int) != 95) = true := by rw [bne_iff_ne]; omega
          have HG := Lib.hid (HT.out (by omega))
          clear HT HF
          go_wp2
          all_goals first | (exfalso; omega) | exact ⟨⟨1, by omega, rfl, trivial, HG.out⟩, by simp [intOf]; omega⟩
        · have h97 : decide ((s[0].toNat : Int) < 97) = false := decide_eq_false (by omega)
          have h122 : 122 < (s[0].toNat : Int) := by omega
          have h48 : decide ((s[0].toNat : Int) < 48) = false := decide_eq_false (by omega)
          have h57 : 57 < (s[0].toNat : Int) := by omega
          have h95 : ((s[0].toNat : Int) != 95) = true := by rw [bne_iff_ne]; omega
          have HG := Lib.hid (HF.out (by omega) (by omega))
          clear hc HT HF
          go_wp2
          go_ret
          exact ⟨retB HG.out.symm, rfl⟩
      · have hzf : ((k : Int) == 0) = false := by rw [beq_eq_false_iff_ne]; omega
        rcases hcl with hc | hc | hc | hc | hc | hc
        · have h97 : (s[k].toNat : Int) < 97 := by omega
          have h122 : decide (122 < (s[k].toNat : Int)) = false := decide_eq_false (by omega)
          have h48 : (s[k].toNat : Int) < 48 := by omega
          have h57 : decide (57 < (s[k].toNat : Int)) = false := decide_eq_false (by omega)
          have h95 : ((s[k].toNat : Int) != 95) = true := by rw [bne_iff_ne]; omega
          have HG := Lib.hid (HF.out (by omega) (by omega))
          clear hc HT HF
          go_wp2
          go_ret
          exact ⟨retB HG.out.symm, rfl⟩
        · have h97 : (s[k].toNat : Int) < 97 := by omega
          have h122 : decide (122 < (s[k].toNat : Int)) = false := decide_eq_false (by omega)
          have h48 : decide ((s[k].toNat : Int) < 48) = false := decide_eq_false (by omega)
          have h57 : decide (57 < (s[k].toNat : Int)) = false := decide_eq_false (by omega)
          have h95 : ((s[k].toNat : Int) != 95) = true := by rw [bne_iff_ne]; omega
          have HG := Lib.hid (HT.out (by omega))
          clear hc HT HF
          go_wp2
          go_roundw
          case rel => exact ⟨k + 1, by omega, by go_num, by trivial, HG.out⟩
          case measure => simp [intOf]; omega
        · have h97 : (s[k].toNat : Int) < 97 := by omega
          have h122 : decide (122 < (s[k].toNat : Int)) = false := decide_eq_false (by omega)
          have h48 : decide ((s[k].toNat : Int) < 48) = false := decide_eq_false (by omega)
          have h57 : 57 < (s[k].toNat : Int) := by omega
          have h95 : ((s[k].toNat : Int) != 95) = true := by rw [bne_iff_ne]; omega
          have HG := Lib.hid (HF.out (by omega) (by omega))
          clear hc HT HF
          go_wp2
          go_ret
          exact ⟨retB HG.out.symm, rfl⟩
        · have h97 : (s[k].toNat : Int) < 97 := by omega
          have h122 : decide (122 < (s[k].toNat : Int)) = false := decide_eq_false (by omega)
          have h48 : decide ((s[k].toNat : Int) < 48) = false := decide_eq_false (by omega)
          have h57 : 57 < (s[k].toNat : Int) := by omega
          have h95 : ((s[k].toNat : Int) != 95) = false := by rw [bne_eq_false_iff_eq]; omega
          have HG := Lib.hid (HT.out (by omega))
          clear hc HT HF
          go_wp2
          go_roundw
          case rel => exact ⟨k + 1, by omega, by go_num, by trivial, HG.out⟩
          case measure => simp [intOf]; omega
        · have h97 : decide ((s[k].toNat : Int) < 97) = false := decide_eq_false (by omega)
          have h122 : decide (122 < (s[k].toNat : Int)) = false := decide_eq_false (by omega)
          have h48 : decide ((s[k].toNat : Int) < 48) = false := decide_eq_false (by omega)
          have h57 : 57 < (s[k].toNat : Int) := by omega
          have h95 : ((s[k].toNat : Int) != 95) = true := by rw [bne_iff_ne]; omega
          have HG := Lib.hid (HT.out (by omega))
          clear hc HT HF
          go_wp2
          go_roundw
          case rel => exact ⟨k + 1, by omega, by go_num, by trivial, HG.out⟩
          case measure => simp [intOf]; omega
        · have h97 : decide ((s[k].toNat : Int) < 97) = false := decide_eq_false (by omega)
          have h122 : 122 < (s[k].toNat : Int) := by omega
          have h48 : decide ((s[k].toNat : Int) < 48) = false := decide_eq_false (by omega)
          have h57 : 57 < (s[k].toNat : Int) := by omega
          have h95 : ((s[k].toNat : Int) != 95) = true := by rw [bne_iff_ne]; omega
          have HG := Lib.hid (HF.out (by omega) (by omega))
          clear hc HT HF
          go_wp2
          go_ret
          exact ⟨retB HG.out.symm, rfl⟩
    · have HG : Hid (((List.range s.size).all fun i => Nm.okAt s i) = true) := Lib.hid (List.all_eq_true.2 fun i hi => HW.out i (by have := List.mem_range.1 hi; omega))
      rw [HG.out, Bool.and_true] at HE
      clear HW HG
      by_cases h1 : s.size < 1
      · have h1f : decide (1 ≤ (s.size : Int)) = false := decide_eq_false (by omega)
        have h1n : decide (1 ≤ s.size) = false := decide_eq_false (by omega)
        have HM : Hid (Nm.may s = false) := Lib.hid (by rw [HE.out, h1n, Bool.false_and])
        clear HE
        go_wp2
        go_ret
        exact ⟨retB HM.out.symm, rfl⟩
      · have h1t : 1 ≤ (s.size : Int) := by omega
        have HM : Hid (Nm.may s = decide ((s.size : Int) ≤ 12)) := Lib.hid (by
          rw [HE.out, decide_eq_true (show 1 ≤ s.size by omega), Bool.true_and, Bool.eq_iff_iff]
          simp only [decide_eq_true_eq]
          omega)
        clear HE
        go_wp2
        go_ret
        exact ⟨retB HM.out.symm, rfl⟩
end Go.Proofs.Ytngkjmghhoemgaa

namespace Go.Proofs.Ytngkjmghhoemgaa
open Go.RowKit

theorem ok_fits {k : Nat} {to : Int} {n : Tr.Nd} (h : Tr.fits to n = false) : Tr.ok k to n = false := by unfold Tr.ok; rw [h, Bool.false_and]

/-- Between two rounds: k nodes are looked at; what is left decides. -/
def TrrRel (n : Nat) (l : List Tr.Nd) (w : World) (t i : Value) (wr : World) : Prop :=
  ∃ k : Nat, k ≤ n ∧ t = .int .i64 (Tr.tos l k) ∧ i = .int .i64 (k : Int) ∧ Tr.run 0 0 l = Tr.run k (Tr.tos l k) (l.drop k) ∧ 0 ≤ Tr.tos l k ∧ Below w.heap.size w wr

set_option maxHeartbeats 8000000 in
set_option maxRecDepth 100000 in
theorem rtrright_any (a : Option Addr) (n c : Nat) (l : List Tr.Nd) (w : World) (h : NodesAt w w.heap.size a n l) (hn : n ≤ 9223372036854775807) :
    Calls Try.prog 45 #[.slice a n c] w (BoolP (Tr.right l) w) := by
  have hl : l.length = n := h.1
  by_cases h1 : n < 1
  · have d1 : decide ((n : Int) < 1) = true := decide_eq_true (by omega)
    rw [show Tr.right l = false by unfold Tr.right; rw [decide_eq_false (p := 1 ≤ l.length) (by omega)]; rfl]
    clear h hl
    go_enter Try.func45, Try.ntmps45
    go_wp2
    go_ret
    exact ⟨rfl, Below.refl _ _⟩
  by_cases h2 : 120 < n
  · have d2 : decide ((120 : Int) < (n : Int)) = true := decide_eq_true (by omega)
    rw [show Tr.right l = false by unfold Tr.right; rw [decide_eq_false (p := l.length ≤ 120) (by omega), Bool.and_false]; rfl]
    clear h hl
    go_enter Try.func45, Try.ntmps45
    go_wp2
    go_ret
    exact ⟨rfl, Below.refl _ _⟩
  have HR : Hid (Tr.right l = Tr.run 0 0 l) := Lib.hid (by unfold Tr.right; rw [decide_eq_true (p := 1 ≤ l.length) (by omega), decide_eq_true (p := l.length ≤ 120) (by omega)]; rfl)
  have H := Lib.hid h
  have HL := Lib.hid hl
  clear h hl
  go_enter Try.func45, Try.ntmps45
  go_wp2
  go_loopw [3, 4, 5] (fun t i _ wr => TrrRel n l w t i wr) (fun _ i _ _ => n - (intOf i).toNat)
  case atStart => exact ⟨0, Nat.zero_le _, rfl, rfl, rfl, Int.le_refl _, Below.refl _ _⟩
  case round =>
    obtain ⟨k, hk, rfl, rfl, hrun, hto, hB⟩ := hrel
    have HB := Lib.hid hB
    clear hB
    by_cases hlt : k < n
    · obtain ⟨b, off, y, rfl, _, hy, hky, d0, d1, d2, d3, d4, d5, d6⟩ := nodes_cell (H.out.below HB.out) hlt
      rw [Tr.run_at hky, hy] at hrun
      have HStep := Lib.hid hrun
      have HTS : Hid (Tr.tos l (k + 1) = y.t) := Lib.hid (by rw [Tr.tos_succ, hy])
      have HNo : Hid (Tr.ok k (Tr.tos l k) y = false → Tr.right l = false) := Lib.hid (fun h => by rw [HR.out, hrun, h]; rfl)
      clear hrun hy hky
      obtain ⟨p0, p1, p2, p3, p4, p5, p6⟩ := y
      dsimp only at d0 d1 d2 d3 d4 d5 d6 HTS HStep
      generalize Tr.tos l k = to at *
      by_cases h0 : p1 < 0
      · have HF : Hid (Tr.fits to ⟨p0, p1, p2, p3, p4, p5, p6⟩ = false) := Lib.hid (decide_eq_false (by dsimp only; omega))
        go_wp2
        go_ret
        exact ⟨by rw [HNo.out (ok_fits HF.out)]; rfl, HB.out.alloc HB.out.size _⟩
      by_cases h1 : 39 < p1
      · have HF : Hid (Tr.fits to ⟨p0, p1, p2, p3, p4, p5, p6⟩ = false) := Lib.hid (decide_eq_false (by dsimp only; omega))
        go_wp2
        go_ret
        exact ⟨by rw [HNo.out (ok_fits HF.out)]; rfl, HB.out.alloc HB.out.size _⟩
      by_cases h2 : p2 < 0
      · have HF : Hid (Tr.fits to ⟨p0, p1, p2, p3, p4, p5, p6⟩ = false) := Lib.hid (decide_eq_false (by dsimp only; omega))
        go_wp2
        go_ret
        exact ⟨by rw [HNo.out (ok_fits HF.out)]; rfl, HB.out.alloc HB.out.size _⟩
      by_cases h3 : 65535 < p2
      · have HF : Hid (Tr.fits to ⟨p0, p1, p2, p3, p4, p5, p6⟩ = false) := Lib.hid (decide_eq_false (by dsimp only; omega))
        go_wp2
        go_ret
        exact ⟨by rw [HNo.out (ok_fits HF.out)]; rfl, HB.out.alloc HB.out.size _⟩
      by_cases h4 : p4 < 0
      · have HF : Hid (Tr.fits to ⟨p0, p1, p2, p3, p4, p5, p6⟩ = false) := Lib.hid (decide_eq_false (by dsimp only; omega))
        go_wp2
        go_ret
        exact ⟨by rw [HNo.out (ok_fits HF.out)]; rfl, HB.out.alloc HB.out.size _⟩
      by_cases h5 : 8 < p4
      · have HF : Hid (Tr.fits to ⟨p0, p1, p2, p3, p4, p5, p6⟩ = false) := Lib.hid (decide_eq_false (by dsimp only; omega))
        go_wp2
        go_ret
        exact ⟨by rw [HNo.out (ok_fits HF.out)]; rfl, HB.out.alloc HB.out.size _⟩
      by_cases h6 : p3 < to
      · have HF : Hid (Tr.fits to ⟨p0, p1, p2, p3, p4, p5, p6⟩ = false) := Lib.hid (decide_eq_false (by dsimp only; omega))
        go_wp2
        go_ret
        exact ⟨by rw [HNo.out (ok_fits HF.out)]; rfl, HB.out.alloc HB.out.size _⟩
      by_cases h7 : 256 < p3
      · have HF : Hid (Tr.fits to ⟨p0, p1, p2, p3, p4, p5, p6⟩ = false) := Lib.hid (decide_eq_false (by dsimp only; omega))
        go_wp2
        go_ret
        exact ⟨by rw [HNo.out (ok_fits HF.out)]; rfl, HB.out.alloc HB.out.size _⟩
      by_cases h8 : p5 < p3
      · have HF : Hid (Tr.fits to ⟨p0, p1, p2, p3, p4, p5, p6⟩ = false) := Lib.hid (decide_eq_false (by dsimp only; omega))
        go_wp2
        go_ret
        exact ⟨by rw [HNo.out (ok_fits HF.out)]; rfl, HB.out.alloc HB.out.size _⟩
      by_cases h9 : 256 < p5
      · have HF : Hid (Tr.fits to ⟨p0, p1, p2, p3, p4, p5, p6⟩ = false) := Lib.hid (decide_eq_false (by dsimp only; omega))
        go_wp2
        go_ret
        exact ⟨by rw [HNo.out (ok_fits HF.out)]; rfl, HB.out.alloc HB.out.size _⟩
      by_cases h10 : p5 - p3 < p4
      · have HF : Hid (Tr.fits to ⟨p0, p1, p2, p3, p4, p5, p6⟩ = false) := Lib.hid (decide_eq_false (by dsimp only; omega))
        go_wp2
        go_ret
        exact ⟨by rw [HNo.out (ok_fits HF.out)]; rfl, HB.out.alloc HB.out.size _⟩
      have HFit : Hid (Tr.fits to ⟨p0, p1, p2, p3, p4, p5, p6⟩ = true) := Lib.hid (Tr.fits_iff.2 (by dsimp only; omega))
      rcases k with _ | j
      · simp only [Nat.zero_mul, Nat.add_zero] at d0 d1 d2 d3 d4 d5 d6
        by_cases z0 : p0 = -1
        · by_cases z1 : p2 = 0
          · by_cases z2 : p3 = 0
            · by_cases z3 : p6 = 0
              · have HOk : Hid (Tr.ok 0 to ⟨p0, p1, p2, p3, p4, p5, p6⟩ = true) := Lib.hid (by unfold Tr.ok; rw [HFit.out, if_pos rfl]; exact decide_eq_true (by dsimp only; omega))
                subst z0 z1 z2 z3
                go_wp2
                go_roundw
                case rel => exact ⟨1, hlt, by rw [HTS.out], by go_num, by rw [HStep.out, HOk.out, Bool.true_and, HTS.out], by rw [HTS.out]; omega, HB.out.alloc HB.out.size _⟩
                case measure => simp [intOf]; omega
              · have e3 : (p6 == 0) = false := beq_eq_false_iff_ne.2 z3
                have HOk : Hid (Tr.ok 0 to ⟨p0, p1, p2, p3, p4, p5, p6⟩ = false) := Lib.hid (by unfold Tr.ok; rw [if_pos rfl, show Tr.head ⟨p0, p1, p2, p3, p4, p5, p6⟩ = false from decide_eq_false (by dsimp only; omega), Bool.and_false])
                subst z0; subst z1; subst z2
                go_wp2
                go_ret
                exact ⟨by rw [HNo.out HOk.out]; rfl, HB.out.alloc HB.out.size _⟩
            · have e2 : (p3 == 0) = false := beq_eq_false_iff_ne.2 z2
              have HOk : Hid (Tr.ok 0 to ⟨p0, p1, p2, p3, p4, p5, p6⟩ = false) := Lib.hid (by unfold Tr.ok; rw [if_pos rfl, show Tr.head ⟨p0, p1, p2, p3, p4, p5, p6⟩ = false from decide_eq_false (by dsimp only; omega), Bool.and_false])
              subst z0; subst z1
              go_wp2
              go_ret
              exact ⟨by rw [HNo.out HOk.out]; rfl, HB.out.alloc HB.out.size _⟩
          · have e1 : (p2 == 0) = false := beq_eq_false_iff_ne.2 z1
            have HOk : Hid (Tr.ok 0 to ⟨p0, p1, p2, p3, p4, p5, p6⟩ = false) := Lib.hid (by unfold Tr.ok; rw [if_pos rfl, show Tr.head ⟨p0, p1, p2, p3, p4, p5, p6⟩ = false from decide_eq_false (by dsimp only; omega), Bool.and_false])
            subst z0
            go_wp2
            go_ret
            exact ⟨by rw [HNo.out HOk.out]; rfl, HB.out.alloc HB.out.size _⟩
        · have e0 : (p0 == -1) = false := beq_eq_false_iff_ne.2 z0
          have HOk : Hid (Tr.ok 0 to ⟨p0, p1, p2, p3, p4, p5, p6⟩ = false) := Lib.hid (by unfold Tr.ok; rw [if_pos rfl, show Tr.head ⟨p0, p1, p2, p3, p4, p5, p6⟩ = false from decide_eq_false (by dsimp only; omega), Bool.and_false])
          skip
          go_wp2
          go_ret
          exact ⟨by rw [HNo.out HOk.out]; rfl, HB.out.alloc HB.out.size _⟩
      · have hj0 : ¬ ((j : Int) + 1 = 0) := by omega
        have ej0 : ((j : Int) + 1 == 0) = false := beq_eq_false_iff_ne.2 hj0
        by_cases o0 : p0 < 0
        · have HOk : Hid (Tr.ok (j + 1) to ⟨p0, p1, p2, p3, p4, p5, p6⟩ = false) := Lib.hid (by unfold Tr.ok; rw [if_neg (by omega), show Tr.other (j + 1) ⟨p0, p1, p2, p3, p4, p5, p6⟩ = false from decide_eq_false (by dsimp only; omega), Bool.and_false])
          go_wp2
          go_ret
          exact ⟨by rw [HNo.out HOk.out]; rfl, HB.out.alloc HB.out.size _⟩
        by_cases o1 : (j : Int) + 1 ≤ p0
        · have HOk : Hid (Tr.ok (j + 1) to ⟨p0, p1, p2, p3, p4, p5, p6⟩ = false) := Lib.hid (by unfold Tr.ok; rw [if_neg (by omega), show Tr.other (j + 1) ⟨p0, p1, p2, p3, p4, p5, p6⟩ = false from decide_eq_false (by dsimp only; omega), Bool.and_false])
          go_wp2
          go_ret
          exact ⟨by rw [HNo.out HOk.out]; rfl, HB.out.alloc HB.out.size _⟩
        by_cases o2 : p6 < 1
        · have HOk : Hid (Tr.ok (j + 1) to ⟨p0, p1, p2, p3, p4, p5, p6⟩ = false) := Lib.hid (by unfold Tr.ok; rw [if_neg (by omega), show Tr.other (j + 1) ⟨p0, p1, p2, p3, p4, p5, p6⟩ = false from decide_eq_false (by dsimp only; omega), Bool.and_false])
          go_wp2
          go_ret
          exact ⟨by rw [HNo.out HOk.out]; rfl, HB.out.alloc HB.out.size _⟩
        by_cases o3 : 1999 < p6
        · have HOk : Hid (Tr.ok (j + 1) to ⟨p0, p1, p2, p3, p4, p5, p6⟩ = false) := Lib.hid (by unfold Tr.ok; rw [if_neg (by omega), show Tr.other (j + 1) ⟨p0, p1, p2, p3, p4, p5, p6⟩ = false from decide_eq_false (by dsimp only; omega), Bool.and_false])
          go_wp2
          go_ret
          exact ⟨by rw [HNo.out HOk.out]; rfl, HB.out.alloc HB.out.size _⟩
        have HOk : Hid (Tr.ok (j + 1) to ⟨p0, p1, p2, p3, p4, p5, p6⟩ = true) := Lib.hid (by unfold Tr.ok; rw [HFit.out, if_neg (by omega)]; exact decide_eq_true (by dsimp only; omega))
        go_wp2
        go_roundw
        case rel => exact ⟨j + 2, hlt, by rw [HTS.out], by go_num, by rw [HStep.out, HOk.out, Bool.true_and, HTS.out], by rw [HTS.out]; omega, HB.out.alloc HB.out.size _⟩
        case measure => simp [intOf]; omega
    · have HE : Hid (Tr.right l = true) := Lib.hid (by rw [HR.out, hrun, Tr.run_end (by rw [HL.out]; omega)])
      clear hrun hto
      go_wp2
      go_ret
      exact ⟨by rw [HE.out]; rfl, HB.out⟩
end Go.Proofs.Ytngkjmghhoemgaa

namespace Go.Proofs.Ytngkjmghhoemgaa
open Go.RowKit

def SlRgRel (w : World) (lo cnt : Nat) (i : Value) (wr : World) : Prop :=
  ∃ (k : Nat) (z : Int), k ≤ cnt ∧ i = .int .i64 z ∧ z = (lo : Int) + k ∧ Gath w w.heap.size (Sl.span lo k) wr

theorem ends (f t : Int) : ∃ (lo : Nat) (m : Int), Sl.range f t = Sl.span lo (m - lo).toNat ∧ m ≤ 256 ∧ m ≤ t ∧ ((t < 256 ∧ m = t) ∨ (t = 256 ∧ m = 256) ∨ (256 < t ∧ m = 256)) ∧ ((f < 0 ∧ (lo : Int) = 0) ∨ (f = 0 ∧ (lo : Int) = 0) ∨ (0 < f ∧ (lo : Int) = f)) := by
  refine ⟨(max f 0).toNat, min t 256, ?_, by omega, by omega, by omega, by omega⟩
  unfold Sl.range
  rw [show min t 256 - ((max f 0).toNat : Int) = min t 256 - max f 0 by omega]

theorem span_step (lo k : Nat) {z : Int} (h : z = (lo : Int) + k) : Sl.span lo (k + 1) = (Sl.span lo k).with_ z := by
  subst h
  rfl
theorem span_new (lo k : Nat) (h : lo + k < 256) : (Sl.span lo k).has (lo + k) = false := by
  rw [Sl.has_span _ _ _ h, decide_eq_false_iff_not]
  omega

set_option maxRecDepth 100000 in
set_option maxHeartbeats 4000000 in
theorem rrange_any (f t : Int) (w : World) :
    Calls Try.prog 51 #[.int .i64 f, .int .i64 t] w (SetP (Sl.range f t) w) := by
  obtain ⟨lo, m, e, hm, hmt, ht, hf⟩ := ends f t
  rw [e]
  clear e
  obtain ⟨cnt, hcnt⟩ : ∃ c : Nat, c = (m - lo).toNat := ⟨_, rfl⟩
  rw [← hcnt]
  have HC := Lib.hid hcnt
  clear hcnt
  rcases ht with ⟨ht, em⟩ | ⟨rfl, em⟩ | ⟨ht, em⟩ <;> rcases hf with ⟨hf, el⟩ | ⟨rfl, el⟩ | ⟨hf, el⟩
  all_goals
    have HM := Lib.hid em
    have HL := Lib.hid el
    clear em el
    go_enter Try.func51, Try.ntmps51
    go_wp2
    go_loopw [6] (SlRgRel w lo cnt) (fun i _ => (256 - intOf i).toNat)
    case atStart => exact ⟨0, _, by omega, rfl, by rw [HL.out]; simp, Gath.start w⟩
    case round =>
      obtain ⟨k, z, hk, rfl, hz, hG⟩ := hrel
      have HZ := Lib.hid hz
      clear hz
      by_cases hlt : k < cnt
      · have h1 : z < 256 := by have := HC.out; have := HZ.out; omega
        have h2 : 0 ≤ z := by have := HZ.out; omega
        try have h3 : z < t := by have := HC.out; have := HZ.out; omega
        have HO := Lib.hid (span_step lo k HZ.out)
        obtain ⟨q, r, _, hq, hr, e, _⟩ := parts (n := z) (by omega) (by omega)
        have hd : z / 64 = (q : Int) := by omega
        have hm' : z % 64 = (r : Int) := by omega
        have hh : (Sl.span lo k).hasI z = false := by
          have e2 := HZ.out
          unfold Sl.Four.hasI
          rw [show z.toNat = lo + k by omega, span_new lo k (by omega), Bool.and_false]
        rw [hasI_at hq hr e] at hh
        have HW : Hid ((Sl.span lo k).with_ z = (Sl.span lo k).put q ((Sl.span lo k).word q + 2 ^ r)) := Lib.hid (by rw [with_at hq hr e, Sl.add_bit hr (Sl.ok_word (Sl.ok_span _ _) q) hh])
        rw [HW.out] at HO
        have HB := Lib.hid (add_word (Sl.ok_word (Sl.ok_span lo k) q) hr hh)
        clear hh e HW
        obtain ⟨⟨c0, c1, c2, c3⟩, f0, f1, f2, f3⟩ := hG.1.reads
        have HG := Lib.hid hG
        clear hG
        generalize Sl.span lo k = s at *
        obtain rfl | rfl | rfl | rfl : q = 0 ∨ q = 1 ∨ q = 2 ∨ q = 3 := by omega
        all_goals
          go_wp2
          go_roundw
          case rel => exact ⟨k + 1, _, by omega, rfl, by rw [HZ.out]; omega, by rw [HO.out]; exact HG.out.put (Nat.le_refl _) (Below.refl _ _) _ _ (by omega) HB.out⟩
          case measure => simp [intOf]; omega
      · have hk' : k = cnt := by omega
        subst hk'
        first
          | have h1 : t ≤ z := by have := HC.out; have := HZ.out; have := HL.out; have := HM.out; omega
          | have h1 : 256 ≤ z := by have := HC.out; have := HZ.out; have := HL.out; have := HM.out; omega
        obtain ⟨⟨c0, c1, c2, c3⟩, f0, f1, f2, f3⟩ := hG.1.reads
        obtain ⟨⟨d0, d1, d2, d3⟩, g0, g1, g2, g3⟩ := hG.2.1.reads
        have HG := Lib.hid hG
        clear hG
        generalize Sl.span lo k = s at *
        go_wp2
        exact bodyPost_ret (v := setV s) (by simp [results, Try.results51, go_sem, *]) rfl ⟨rfl, below_store HG.out.2.2 (Nat.le_refl _) _ _ _ _⟩

end Go.Proofs.Ytngkjmghhoemgaa

namespace Go.Proofs.Ytngkjmghhoemgaa
open Go.RowKit

set_option maxRecDepth 100000 in
set_option maxHeartbeats 4000000 in
theorem rmpright_any (a : Option Addr) (n c : Nat) (l : List Sl.Four) (m : Int) (w : World) (h : SetsAt w w.heap.size a n l) (hn : n ≤ 9223372036854775807) (ho : ∀ s ∈ l, s.ok) :
    Calls Try.prog 46 #[.slice a n c, .int .i64 m] w (BoolP (Mp.right l m) w) := by
  have H := Lib.hid h
  have HL := Lib.hid h.1
  have HO := Lib.hid ho
  have HR := Lib.hid (fun (W : World) => rrange_any 0 m W)
  have hor : (Sl.range 0 m).ok := Sl.ok_span _ _
  have HI := Lib.hid (fun (s : Sl.Four) (hs : s.ok) (W : World) => rinside_any s (Sl.range 0 m) hs hor W)
  unfold Mp.right
  generalize Sl.range 0 m = g at *
  clear h ho hor
  go_enter Try.func46, Try.ntmps46
  go_wp2
  go_loopw [5] (fun i wr => ∃ k : Nat, k ≤ n ∧ i = .int .i64 (k : Int) ∧ Below w.heap.size w wr ∧ (l.take k).all (·.inside g) = true) (fun i _ => n - (intOf i).toNat)
  case atStart => exact ⟨0, Nat.zero_le _, rfl, Below.refl _ _, rfl⟩
  case round =>
    obtain ⟨k, hk, rfl, hB, hW⟩ := hrel
    have HB := Lib.hid hB
    by_cases hlt : k < n
    · obtain ⟨b, off, y, rfl, hbl, hy, hky, c0, c1, c2, c3⟩ := sets_cell (H.out.on hB) hlt
      have HS := Lib.hid (Mp.all_take_succ (·.inside g) hky)
      have HBad := Lib.hid (fun hb => Mp.all_bad (p := (·.inside g)) hky hb)
      have hoy := mp_ok HO.out hky
      rw [hy, hW] at HS
      rw [hy] at HBad hoy
      have HY := Lib.hid (HI.out y hoy)
      clear hW hy hky hoy hB
      cases hm : y.inside g with
      | false =>
        rw [hm] at HY
        have HE := Lib.hid (HBad.out hm)
        obtain ⟨K, hK, f, HC, HBe, HU⟩ := worlds_of wr
        have q0 := cell_q HBe.out hbl c0
        have q1 := cell_q HBe.out hbl c1
        have q2 := cell_q HBe.out hbl c2
        have q3 := cell_q HBe.out hbl c3
        clear HS HBad hm c0 c1 c2 c3
        have hki : (k : Int) < (n : Int) := by omega
        go_wp2
        refine region_q f HC.out (by kernel_rfl) (by kernel_rfl) ?_
        repeat (go_big_quiet_step (first | (go_at_call 51; refine Calls.q HU.out (HR.out _)) | (go_at_call 50; refine Calls.q HU.out (HY.out _))))
        refine wpQuiet_nil ?_
        rintro _ ⟨nq, rfl⟩
        go_wp2
        go_ret
        exact ⟨retB (by rw [HE.out, Bool.false_and]), HB.out.trans ((HBe.out nq).mono HB.out.size)⟩
      | true =>
        rw [hm] at HY HS
        obtain ⟨K, hK, f, HC, HBe, HU⟩ := worlds_of wr
        have q0 := cell_q HBe.out hbl c0
        have q1 := cell_q HBe.out hbl c1
        have q2 := cell_q HBe.out hbl c2
        have q3 := cell_q HBe.out hbl c3
        clear HBad hm c0 c1 c2 c3
        have hki : (k : Int) < (n : Int) := by omega
        go_wp2
        refine region_q f HC.out (by kernel_rfl) (by kernel_rfl) ?_
        repeat (go_big_quiet_step (first | (go_at_call 51; refine Calls.q HU.out (HR.out _)) | (go_at_call 50; refine Calls.q HU.out (HY.out _))))
        refine wpQuiet_nil ?_
        rintro _ ⟨nq, rfl⟩
        go_wp2
        go_roundw
        case rel => exact ⟨k + 1, hlt, by go_num, HB.out.trans ((HBe.out nq).mono HB.out.size), HS.out⟩
        case measure => simp [intOf]; omega
    · have HE : Hid (l.all (·.inside g) = true) := Lib.hid (by rw [← hW, List.take_of_length_le (by rw [HL.out]; omega)])
      clear hW hB
      go_wp2
      go_ret
      exact ⟨retB (by rw [HE.out, HL.out, Bool.true_and, Bool.eq_iff_iff]; simp; omega), HB.out⟩

end Go.Proofs.Ytngkjmghhoemgaa

namespace Go.Proofs.Ytngkjmghhoemgaa
open Go.RowKit

/-- Few of everything but the types. -/
def FnV.Few (v : FnV) : Prop := v.code.n ≤ 150 ∧ v.lines.n ≤ 150 ∧ v.nodes.n ≤ 20 ∧ v.at_.n ≤ 150 ∧ v.live.n ≤ 150
def SmallP (v : FnV) (w : World) (e : Ending) (w' : World) : Prop := ∃ b : Bool, e = .returned (.bool b) ∧ (b = true → v.Few) ∧ Below w.heap.size w w'

set_option maxRecDepth 100000 in
set_option maxHeartbeats 4000000 in
theorem small15_any (v : FnV) (w : World) : Calls Try.prog 13 #[.agg v.cells] w (SmallP v w) := by
  have HB := Lib.hid ((Below.refl w.heap.size w).alloc (Nat.le_refl _) (.cells v.cells 28))
  have hA := FnAt.new w v
  have c0 := hA.c0; have c1 := hA.c1; have c2 := hA.c2; have c3 := hA.c3; have c4 := hA.c4; have c5 := hA.c5; have c6 := hA.c6; have c7 := hA.c7; have c8 := hA.c8; have c9 := hA.c9; have c10 := hA.c10
  clear hA
  obtain ⟨nm, inn, ⟨oa, on, oc⟩, ⟨pa, pn, pc⟩, ⟨ra, rn, rc⟩, ⟨la, ln, lc⟩, ⟨ca, cn, cc⟩, ⟨ia, i_n, ic⟩, ⟨na, nn, nc⟩, ⟨ta, tn, tc⟩, ⟨va, vn, vc⟩⟩ := v
  by_cases h0 : cn ≤ 150
  rotate_left
  · have d0 : decide ((cn : Int) ≤ 150) = false := decide_eq_false (by omega)
    clear h0
    go_enter Try.func13, Try.ntmps13
    go_wp2
    go_ret
    exact ⟨false, rfl, fun h => (by cases h), HB.out⟩
  have d0 : decide ((cn : Int) ≤ 150) = true := decide_eq_true (by omega)
  by_cases h1 : i_n ≤ 150
  rotate_left
  · have d1 : decide ((i_n : Int) ≤ 150) = false := decide_eq_false (by omega)
    clear h1
    go_enter Try.func13, Try.ntmps13
    go_wp2
    go_ret
    exact ⟨false, rfl, fun h => (by cases h), HB.out⟩
  have d1 : decide ((i_n : Int) ≤ 150) = true := decide_eq_true (by omega)
  by_cases h2 : nn ≤ 20
  rotate_left
  · have d2 : decide ((nn : Int) ≤ 20) = false := decide_eq_false (by omega)
    clear h2
    go_enter Try.func13, Try.ntmps13
    go_wp2
    go_ret
    exact ⟨false, rfl, fun h => (by cases h), HB.out⟩
  have d2 : decide ((nn : Int) ≤ 20) = true := decide_eq_true (by omega)
  by_cases h3 : tn ≤ 150
  rotate_left
  · have d3 : decide ((tn : Int) ≤ 150) = false := decide_eq_false (by omega)
    clear h3
    go_enter Try.func13, Try.ntmps13
    go_wp2
    go_ret
    exact ⟨false, rfl, fun h => (by cases h), HB.out⟩
  have d3 : decide ((tn : Int) ≤ 150) = true := decide_eq_true (by omega)
  by_cases h4 : vn ≤ 150
  rotate_left
  · have d4 : decide ((vn : Int) ≤ 150) = false := decide_eq_false (by omega)
    clear h4
    go_enter Try.func13, Try.ntmps13
    go_wp2
    go_ret
    exact ⟨false, rfl, fun h => (by cases h), HB.out⟩
  have d4 : decide ((vn : Int) ≤ 150) = true := decide_eq_true (by omega)
  have HF : Hid (FnV.Few ⟨nm, inn, ⟨oa, on, oc⟩, ⟨pa, pn, pc⟩, ⟨ra, rn, rc⟩, ⟨la, ln, lc⟩, ⟨ca, cn, cc⟩, ⟨ia, i_n, ic⟩, ⟨na, nn, nc⟩, ⟨ta, tn, tc⟩, ⟨va, vn, vc⟩⟩) := Lib.hid ⟨h0, h1, h2, h3, h4⟩
  clear h0 h1 h2 h3 h4
  go_enter Try.func13, Try.ntmps13
  go_wp2
  go_ret
  exact ⟨_, rfl, fun _ => HF.out, HB.out⟩
end Go.Proofs.Ytngkjmghhoemgaa

namespace Go.Proofs.Ytngkjmghhoemgaa
open Go.RowKit

set_option maxRecDepth 100000 in
set_option maxHeartbeats 2000000 in
theorem rfnbare_any (v : FnV) (hf : v.Few) (w : World) : Calls Try.prog 44 #[.agg v.cells] w (BoolP v.bare w) := by
  have HB := Lib.hid ((Below.refl w.heap.size w).alloc (Nat.le_refl _) (.cells v.cells 28))
  have c8 := (FnAt.new w v).c8
  have c9 := (FnAt.new w v).c9
  have c10 := (FnAt.new w v).c10
  have HE : Hid (v.bare = decide (v.nodes.n + v.at_.n + v.live.n = 0)) := Lib.hid (by
    unfold FnV.bare
    rw [Bool.eq_iff_iff]
    simp
    omega)
  rw [HE.out]
  obtain ⟨_, _, h1, h2, h3⟩ := hf
  clear HE
  obtain ⟨nm, inn, ⟨oa, on, oc⟩, ⟨pa, pn, pc⟩, ⟨ra, rn, rc⟩, ⟨la, ln, lc⟩, ⟨ca, cn, cc⟩, ⟨ia, i_n, ic⟩, ⟨na, nn, nc⟩, ⟨ta, tn, tc⟩, ⟨va, vn, vc⟩⟩ := v
  simp only at h1 h2 h3
  go_enter Try.func44, Try.ntmps44
  go_wp2
  go_ret
  exact ⟨retB (by rw [Bool.eq_iff_iff]; simp; omega), HB.out⟩

theorem mapped_bad {f : Fn.F} {k : Nat} (h : k < f.at_.length) (hb : Fn.out f.nodes.length (f.at_.getD k 0) = true) : f.mapped = false := by
  unfold Fn.F.mapped
  rw [Fn.any_good (p := Fn.out f.nodes.length) h hb]
  simp

set_option maxRecDepth 100000 in
set_option maxHeartbeats 8000000 in
theorem rfntables_any (v : FnV) (f : Fn.F) (w : World) (h : FnOk w w.heap.size v f) (hl : v.Len) (hw : f.Wf) (hf : v.Few) :
    Calls Try.prog 31 #[.agg v.cells, .int .i64 (f.slots : Int)] w (BoolP (f.bare || f.mapped) w) := by
  have hb0 := (Below.refl w.heap.size w).alloc (Nat.le_refl _) (.cells v.cells 28)
  have A1 := Lib.hid (FnAt.new w v)
  have O1 := Lib.hid (h.on hb0)
  have B1 := Lib.hid hb0
  have HBa := Lib.hid (fun (W : World) => rfnbare_any v hf W)
  rw [h.bare] at HBa
  have HTr := Lib.hid (fun (W : World) (o : FnOk W W.heap.size v f) => rtrright_any _ _ v.nodes.c f.nodes W o.nodes.1 hl.nodes)
  have HMp := Lib.hid (fun (W : World) (o : FnOk W W.heap.size v f) => rmpright_any _ _ v.live.c f.live (f.slots : Int) W o.live.1 hl.live hw.live)
  have HM : Hid (f.mapped = (Tr.right f.nodes && (decide (v.at_.n = v.code.n) && (decide (v.live.n = v.code.n) && (!f.at_.any (Fn.out v.nodes.n) && Mp.right f.live (f.slots : Int)))))) := Lib.hid (by rw [← h.n_nodes, ← h.n_at, ← h.n_code, ← h.n_live]; rfl)
  have HAt : Hid (f.at_.length = v.at_.n ∧ f.nodes.length = v.nodes.n) := Lib.hid ⟨h.n_at, h.n_nodes⟩
  have c0 := A1.out.c0; have c1 := A1.out.c1; have c2 := A1.out.c2; have c3 := A1.out.c3; have c4 := A1.out.c4; have c5 := A1.out.c5; have c6 := A1.out.c6; have c7 := A1.out.c7; have c8 := A1.out.c8; have c9 := A1.out.c9; have c10 := A1.out.c10
  have hla := hl.at_
  have hln := hl.nodes
  have hlc := hl.code
  have hlv := hl.live
  clear hb0 h hl hw hf
  rw [HM.out]
  clear HM
  generalize f.bare = b0 at *
  generalize Tr.right f.nodes = b1 at *
  generalize Mp.right f.live (f.slots : Int) = b5 at *
  generalize (f.slots : Int) = sl at *
  cases b0 with
  | true =>
    obtain ⟨nm, inn, ⟨oa, on, oc⟩, ⟨pa, pn, pc⟩, ⟨ra, rn, rc⟩, ⟨la, ln, lc⟩, ⟨ca, cn, cc⟩, ⟨ia, i_n, ic⟩, ⟨na, nn, nc⟩, ⟨ta, tn, tc⟩, ⟨va, vn, vc⟩⟩ := v
    go_enter Try.func31, Try.ntmps31
    go_wp2_with (go_at_call 44; go_must (refine (HBa.out _).mono ?_; rintro _ w2 ⟨rfl, hb2⟩; have A2 := Lib.hid (A1.out.on hb2); have O2 := Lib.hid (O1.out.on hb2); have B2 := Lib.hid (B1.out.trans (hb2.mono B1.out.size)); clear hb2; have c0 := A2.out.c0; have c1 := A2.out.c1; have c2 := A2.out.c2; have c3 := A2.out.c3; have c4 := A2.out.c4; have c5 := A2.out.c5; have c6 := A2.out.c6; have c7 := A2.out.c7; have c8 := A2.out.c8; have c9 := A2.out.c9; have c10 := A2.out.c10))
    go_ret
    exact ⟨rfl, B2.out⟩
  | false =>
  cases b1 with
  | false =>
    obtain ⟨nm, inn, ⟨oa, on, oc⟩, ⟨pa, pn, pc⟩, ⟨ra, rn, rc⟩, ⟨la, ln, lc⟩, ⟨ca, cn, cc⟩, ⟨ia, i_n, ic⟩, ⟨na, nn, nc⟩, ⟨ta, tn, tc⟩, ⟨va, vn, vc⟩⟩ := v
    simp only at hla hln hlc hlv
    go_enter Try.func31, Try.ntmps31
    go_wp2_with (first | (go_at_call 44; go_must (refine (HBa.out _).mono ?_; rintro _ w2 ⟨rfl, hb2⟩; have A2 := Lib.hid (A1.out.on hb2); have O2 := Lib.hid (O1.out.on hb2); have B2 := Lib.hid (B1.out.trans (hb2.mono B1.out.size)); clear hb2; have c0 := A2.out.c0; have c1 := A2.out.c1; have c2 := A2.out.c2; have c3 := A2.out.c3; have c4 := A2.out.c4; have c5 := A2.out.c5; have c6 := A2.out.c6; have c7 := A2.out.c7; have c8 := A2.out.c8; have c9 := A2.out.c9; have c10 := A2.out.c10)) | (go_at_call 45; go_must (refine (HTr.out w2 O2.out).mono ?_; rintro _ w3 ⟨rfl, hb3⟩; have A3 := Lib.hid (A2.out.on hb3); have O3 := Lib.hid (O2.out.on hb3); have B3 := Lib.hid (B2.out.trans (hb3.mono B2.out.size)); clear hb3; have c0 := A3.out.c0; have c1 := A3.out.c1; have c2 := A3.out.c2; have c3 := A3.out.c3; have c4 := A3.out.c4; have c5 := A3.out.c5; have c6 := A3.out.c6; have c7 := A3.out.c7; have c8 := A3.out.c8; have c9 := A3.out.c9; have c10 := A3.out.c10)))
    go_ret
    exact ⟨retB (by simp), B3.out⟩
  | true =>
  by_cases e1 : v.at_.n = v.code.n
  rotate_left
  · have d1 : ((v.at_.n : Int) != (v.code.n : Int)) = true := bne_iff_ne.2 (by omega)
    have hr : Hid (decide (v.at_.n = v.code.n) = false) := Lib.hid (decide_eq_false e1)
    clear e1
    obtain ⟨nm, inn, ⟨oa, on, oc⟩, ⟨pa, pn, pc⟩, ⟨ra, rn, rc⟩, ⟨la, ln, lc⟩, ⟨ca, cn, cc⟩, ⟨ia, i_n, ic⟩, ⟨na, nn, nc⟩, ⟨ta, tn, tc⟩, ⟨va, vn, vc⟩⟩ := v
    simp only at hla hln hlc hlv d1
    go_enter Try.func31, Try.ntmps31
    go_wp2_with (first | (go_at_call 44; go_must (refine (HBa.out _).mono ?_; rintro _ w2 ⟨rfl, hb2⟩; have A2 := Lib.hid (A1.out.on hb2); have O2 := Lib.hid (O1.out.on hb2); have B2 := Lib.hid (B1.out.trans (hb2.mono B1.out.size)); clear hb2; have c0 := A2.out.c0; have c1 := A2.out.c1; have c2 := A2.out.c2; have c3 := A2.out.c3; have c4 := A2.out.c4; have c5 := A2.out.c5; have c6 := A2.out.c6; have c7 := A2.out.c7; have c8 := A2.out.c8; have c9 := A2.out.c9; have c10 := A2.out.c10)) | (go_at_call 45; go_must (refine (HTr.out w2 O2.out).mono ?_; rintro _ w3 ⟨rfl, hb3⟩; have A3 := Lib.hid (A2.out.on hb3); have O3 := Lib.hid (O2.out.on hb3); have B3 := Lib.hid (B2.out.trans (hb3.mono B2.out.size)); clear hb3; have c0 := A3.out.c0; have c1 := A3.out.c1; have c2 := A3.out.c2; have c3 := A3.out.c3; have c4 := A3.out.c4; have c5 := A3.out.c5; have c6 := A3.out.c6; have c7 := A3.out.c7; have c8 := A3.out.c8; have c9 := A3.out.c9; have c10 := A3.out.c10)))
    go_ret
    exact ⟨retB (by simp [hr.out]), B3.out⟩
  have d1 : ((v.at_.n : Int) != (v.code.n : Int)) = false := bne_eq_false_iff_eq.2 (by omega)
  have hr1 : Hid (decide (v.at_.n = v.code.n) = true) := Lib.hid (decide_eq_true e1)
  by_cases e2 : v.live.n = v.code.n
  rotate_left
  · have d2 : ((v.live.n : Int) != (v.code.n : Int)) = true := bne_iff_ne.2 (by omega)
    have hr : Hid (decide (v.live.n = v.code.n) = false) := Lib.hid (decide_eq_false e2)
    clear e1 e2
    obtain ⟨nm, inn, ⟨oa, on, oc⟩, ⟨pa, pn, pc⟩, ⟨ra, rn, rc⟩, ⟨la, ln, lc⟩, ⟨ca, cn, cc⟩, ⟨ia, i_n, ic⟩, ⟨na, nn, nc⟩, ⟨ta, tn, tc⟩, ⟨va, vn, vc⟩⟩ := v
    simp only at hla hln hlc hlv d1 d2
    go_enter Try.func31, Try.ntmps31
    go_wp2_with (first | (go_at_call 44; go_must (refine (HBa.out _).mono ?_; rintro _ w2 ⟨rfl, hb2⟩; have A2 := Lib.hid (A1.out.on hb2); have O2 := Lib.hid (O1.out.on hb2); have B2 := Lib.hid (B1.out.trans (hb2.mono B1.out.size)); clear hb2; have c0 := A2.out.c0; have c1 := A2.out.c1; have c2 := A2.out.c2; have c3 := A2.out.c3; have c4 := A2.out.c4; have c5 := A2.out.c5; have c6 := A2.out.c6; have c7 := A2.out.c7; have c8 := A2.out.c8; have c9 := A2.out.c9; have c10 := A2.out.c10)) | (go_at_call 45; go_must (refine (HTr.out w2 O2.out).mono ?_; rintro _ w3 ⟨rfl, hb3⟩; have A3 := Lib.hid (A2.out.on hb3); have O3 := Lib.hid (O2.out.on hb3); have B3 := Lib.hid (B2.out.trans (hb3.mono B2.out.size)); clear hb3; have c0 := A3.out.c0; have c1 := A3.out.c1; have c2 := A3.out.c2; have c3 := A3.out.c3; have c4 := A3.out.c4; have c5 := A3.out.c5; have c6 := A3.out.c6; have c7 := A3.out.c7; have c8 := A3.out.c8; have c9 := A3.out.c9; have c10 := A3.out.c10)))
    go_ret
    exact ⟨retB (by simp [hr.out]), B3.out⟩
  have d2 : ((v.live.n : Int) != (v.code.n : Int)) = false := bne_eq_false_iff_eq.2 (by omega)
  have hr2 : Hid (decide (v.live.n = v.code.n) = true) := Lib.hid (decide_eq_true e2)
  clear e1 e2
  cases b5 with
  | false =>
    obtain ⟨nm, inn, ⟨oa, on, oc⟩, ⟨pa, pn, pc⟩, ⟨ra, rn, rc⟩, ⟨la, ln, lc⟩, ⟨ca, cn, cc⟩, ⟨ia, i_n, ic⟩, ⟨na, nn, nc⟩, ⟨ta, tn, tc⟩, ⟨va, vn, vc⟩⟩ := v
    simp only at hla hln hlc hlv d1 d2
    go_enter Try.func31, Try.ntmps31
    go_wp2_with (first | (go_at_call 44; go_must (refine (HBa.out _).mono ?_; rintro _ w2 ⟨rfl, hb2⟩; have A2 := Lib.hid (A1.out.on hb2); have O2 := Lib.hid (O1.out.on hb2); have B2 := Lib.hid (B1.out.trans (hb2.mono B1.out.size)); clear hb2; have c0 := A2.out.c0; have c1 := A2.out.c1; have c2 := A2.out.c2; have c3 := A2.out.c3; have c4 := A2.out.c4; have c5 := A2.out.c5; have c6 := A2.out.c6; have c7 := A2.out.c7; have c8 := A2.out.c8; have c9 := A2.out.c9; have c10 := A2.out.c10)) | (go_at_call 45; go_must (refine (HTr.out w2 O2.out).mono ?_; rintro _ w3 ⟨rfl, hb3⟩; have A3 := Lib.hid (A2.out.on hb3); have O3 := Lib.hid (O2.out.on hb3); have B3 := Lib.hid (B2.out.trans (hb3.mono B2.out.size)); clear hb3; have c0 := A3.out.c0; have c1 := A3.out.c1; have c2 := A3.out.c2; have c3 := A3.out.c3; have c4 := A3.out.c4; have c5 := A3.out.c5; have c6 := A3.out.c6; have c7 := A3.out.c7; have c8 := A3.out.c8; have c9 := A3.out.c9; have c10 := A3.out.c10)) | (go_at_call 46; go_must (refine (HMp.out w3 O3.out).mono ?_; rintro _ w4 ⟨rfl, hb4⟩; have A4 := Lib.hid (A3.out.on hb4); have O4 := Lib.hid (O3.out.on hb4); have B4 := Lib.hid (B3.out.trans (hb4.mono B3.out.size)); clear hb4; have c0 := A4.out.c0; have c1 := A4.out.c1; have c2 := A4.out.c2; have c3 := A4.out.c3; have c4 := A4.out.c4; have c5 := A4.out.c5; have c6 := A4.out.c6; have c7 := A4.out.c7; have c8 := A4.out.c8; have c9 := A4.out.c9; have c10 := A4.out.c10)))
    go_ret
    exact ⟨retB (by simp), B4.out⟩
  | true =>
    have HN : Hid ((decide (v.at_.n = v.code.n) && (decide (v.live.n = v.code.n) && (!f.at_.any (Fn.out v.nodes.n) && true))) = !f.at_.any (Fn.out v.nodes.n)) := Lib.hid (by rw [hr1.out, hr2.out]; simp)
    clear hr1 hr2
    obtain ⟨nm, inn, ⟨oa, on, oc⟩, ⟨pa, pn, pc⟩, ⟨ra, rn, rc⟩, ⟨la, ln, lc⟩, ⟨ca, cn, cc⟩, ⟨ia, i_n, ic⟩, ⟨na, nn, nc⟩, ⟨ta, tn, tc⟩, ⟨va, vn, vc⟩⟩ := v
    simp only at hla hln hlc hlv d1 d2 HN HAt
    go_enter Try.func31, Try.ntmps31
    go_wp2_with (first | (go_at_call 44; go_must (refine (HBa.out _).mono ?_; rintro _ w2 ⟨rfl, hb2⟩; have A2 := Lib.hid (A1.out.on hb2); have O2 := Lib.hid (O1.out.on hb2); have B2 := Lib.hid (B1.out.trans (hb2.mono B1.out.size)); clear hb2; have c0 := A2.out.c0; have c1 := A2.out.c1; have c2 := A2.out.c2; have c3 := A2.out.c3; have c4 := A2.out.c4; have c5 := A2.out.c5; have c6 := A2.out.c6; have c7 := A2.out.c7; have c8 := A2.out.c8; have c9 := A2.out.c9; have c10 := A2.out.c10)) | (go_at_call 45; go_must (refine (HTr.out w2 O2.out).mono ?_; rintro _ w3 ⟨rfl, hb3⟩; have A3 := Lib.hid (A2.out.on hb3); have O3 := Lib.hid (O2.out.on hb3); have B3 := Lib.hid (B2.out.trans (hb3.mono B2.out.size)); clear hb3; have c0 := A3.out.c0; have c1 := A3.out.c1; have c2 := A3.out.c2; have c3 := A3.out.c3; have c4 := A3.out.c4; have c5 := A3.out.c5; have c6 := A3.out.c6; have c7 := A3.out.c7; have c8 := A3.out.c8; have c9 := A3.out.c9; have c10 := A3.out.c10)) | (go_at_call 46; go_must (refine (HMp.out w3 O3.out).mono ?_; rintro _ w4 ⟨rfl, hb4⟩; have A4 := Lib.hid (A3.out.on hb4); have O4 := Lib.hid (O3.out.on hb4); have B4 := Lib.hid (B3.out.trans (hb4.mono B3.out.size)); clear hb4; have c0 := A4.out.c0; have c1 := A4.out.c1; have c2 := A4.out.c2; have c3 := A4.out.c3; have c4 := A4.out.c4; have c5 := A4.out.c5; have c6 := A4.out.c6; have c7 := A4.out.c7; have c8 := A4.out.c8; have c9 := A4.out.c9; have c10 := A4.out.c10)))
    go_loopw [5] (fun i wr => ∃ k : Nat, k ≤ tn ∧ i = .int .i64 (k : Int) ∧ Below w4.heap.size w4 wr ∧ (f.at_.take k).any (Fn.out nn) = false) (fun i _ => tn - (intOf i).toNat)
    case atStart => exact ⟨0, Nat.zero_le _, rfl, Below.refl _ _, rfl⟩
    case round =>
      obtain ⟨k, hk, rfl, hB, hW⟩ := hrel
      have HBr := Lib.hid hB
      have A5 := Lib.hid (A4.out.on hB)
      have O5 := Lib.hid (O4.out.on hB)
      clear hB
      have c0 := A5.out.c0; have c1 := A5.out.c1; have c2 := A5.out.c2; have c3 := A5.out.c3; have c4 := A5.out.c4; have c5 := A5.out.c5; have c6 := A5.out.c6; have c7 := A5.out.c7; have c8 := A5.out.c8; have c9 := A5.out.c9; have c10 := A5.out.c10
      by_cases hlt : k < tn
      · obtain ⟨b, off, x, e0, _, q0, hx, hkl⟩ := ints_cell O5.out.at_.1 hlt
        simp only at e0
        subst e0
        have hki : (k : Int) < (tn : Int) := by omega
        have HS := Lib.hid (Fn.any_succ (Fn.out nn) hkl)
        have HBd := Lib.hid (fun hb => Fn.any_good (p := Fn.out nn) hkl hb)
        rw [hx, hW] at HS
        rw [hx] at HBd
        clear hW hx hkl
        by_cases hx0 : x < 0
        · have hE := HBd.out (by unfold Fn.out; rw [decide_eq_true hx0]; rfl)
          have HE := Lib.hid hE
          have dx : decide (x < 0) = true := decide_eq_true hx0
          clear hE hx0 HS HBd
          go_wp2
          go_quiet (fail)
          go_wp2
          go_ret
          exact ⟨retB (by show false = (_ || _ && _); rw [Bool.false_or, Bool.true_and, HN.out, HE.out]; rfl), B4.out.trans ((below_drewN HBr.out _).mono B4.out.size)⟩
        · have dx : decide (x < 0) = false := decide_eq_false hx0
          by_cases hxn : (nn : Int) ≤ x
          · have hE := HBd.out (by unfold Fn.out; rw [decide_eq_true hxn, Bool.or_true])
            have HE := Lib.hid hE
            have dy : decide ((nn : Int) ≤ x) = true := decide_eq_true hxn
            clear hE hx0 hxn HS HBd
            go_wp2
            go_quiet (fail)
            go_wp2
            go_ret
            exact ⟨retB (by show false = (_ || _ && _); rw [Bool.false_or, Bool.true_and, HN.out, HE.out]; rfl), B4.out.trans ((below_drewN HBr.out _).mono B4.out.size)⟩
          · have dy : decide ((nn : Int) ≤ x) = false := decide_eq_false hxn
            rw [show Fn.out nn x = false by unfold Fn.out; rw [dx, dy]; rfl] at HS
            clear hx0 hxn HBd
            go_wp2
            go_quiet (fail)
            go_wp2
            go_roundw
            case rel => exact ⟨k + 1, hlt, by go_num, below_drewN HBr.out _, HS.out⟩
            case measure => simp [intOf]; omega
      · have HE : Hid (f.at_.any (Fn.out nn) = false) := Lib.hid (by rw [← hW, List.take_of_length_le (by rw [HAt.out.1]; omega)])
        have hki : decide ((k : Int) < (tn : Int)) = false := decide_eq_false (by omega)
        clear hW
        go_wp2
        go_ret
        exact ⟨retB (by have h := HN.out; rw [Bool.and_true] at h; rw [h, HE.out]; rfl), B4.out.trans (HBr.out.mono B4.out.size)⟩
end Go.Proofs.Ytngkjmghhoemgaa

namespace Go.Proofs.Ytngkjmghhoemgaa
open Go.RowKit

set_option maxRecDepth 100000 in
set_option maxHeartbeats 8000000 in
theorem rfncan_any (v : FnV) (f : Fn.F) (w : World) (h : FnOk w w.heap.size v f) (hl : v.Len) (hw : f.Wf) (hf : v.Few) :
    Calls Try.prog 14 #[.agg v.cells] w (ErrP f.can w) := by
  have hb0 := (Below.refl w.heap.size w).alloc (Nat.le_refl _) (.cells v.cells 28)
  have h0 := h.on hb0
  have A1 := Lib.hid (FnAt.new w v)
  have O1 := Lib.hid h0
  have B1 := Lib.hid hb0
  have HMay := rmay_any v.name (w.alloc (.cells v.cells 28)) hl.name
  rw [show Nm.may v.name = Nm.may f.name by rw [h.name]] at HMay
  have H1 := rsiright_any v.outer.a v.outer.n v.outer.c _ f.outer 4 _ h0.outer.1 hl.outer
  have H2 := rsiright_any v.params.a v.params.n v.params.c _ f.params 8 _ h0.params.1 hl.params
  have H3 := rsiright_any v.results.a v.results.n v.results.c _ f.results 4 _ h0.results.1 hl.results
  have H4 := rsiright_any v.locals.a v.locals.n v.locals.c _ f.locals 256 _ h0.locals.1 hl.locals
  have hpe := h.n_params
  have hre := h.n_results
  have hle := h.n_locals
  have hoe := h.n_outer
  have hce := h.n_code
  have hlie := h.n_lines
  have hinn := h.inner
  have hlo := hl.outer; have hlp := hl.params; have hlr := hl.results; have hll := hl.locals; have hlc := hl.code; have hli := hl.lines
  have HLi := Lib.hid (fun (W : World) (o : FnOk W W.heap.size v f) => rliright_any _ _ v.lines.c _ f.lines W o.lines.1 hl.lines)
  have HTb := Lib.hid (fun (W : World) (o : FnOk W W.heap.size v f) => rfntables_any v f W o hl hw hf)
  have c0 := A1.out.c0; have c1 := A1.out.c1; have c2 := A1.out.c2; have c3 := A1.out.c3; have c4 := A1.out.c4; have c5 := A1.out.c5; have c6 := A1.out.c6; have c7 := A1.out.c7; have c8 := A1.out.c8; have c9 := A1.out.c9; have c10 := A1.out.c10
  have hT : f.typed = (Si.right f.outer 4 && (Si.right f.params 8 && (Si.right f.results 4 && (Si.right f.locals 256 && (v.inner || decide (v.outer.n = 0)))))) := by rw [hinn, ← hoe]; rfl
  have hfc : v.code.n ≤ 150 := hf.1
  clear hb0 h h0 hl hw hf
  cases hmay : Nm.may f.name with
  | false =>
    rw [hmay] at HMay
    have HE : Hid (f.can = 7) := Lib.hid (by unfold Fn.F.can; rw [if_pos hmay])
    clear hmay hT H1 H2 H3 H4 HLi HTb O1 hpe hre hle hoe hce hlie hinn
    obtain ⟨nm, inn, ⟨oa, on, oc⟩, ⟨pa, pn, pc⟩, ⟨ra, rn, rc⟩, ⟨la, ln, lc⟩, ⟨ca, cn, cc⟩, ⟨ia, i_n, ic⟩, ⟨na, nn, nc⟩, ⟨ta, tn, tc⟩, ⟨va, vn, vc⟩⟩ := v
    simp only at hlo hlp hlr hll hlc hli
    go_enter Try.func14, Try.ntmps14
    go_wp2_with (first | (go_at_call 27; go_must (refine HMay.mono ?_; rintro _ wa ⟨rfl, he⟩; obtain rfl := he.symm)))
    go_ret
    exact ⟨ret_int (by rw [HE.out]; rfl), B1.out⟩
  | true =>
  rw [hmay] at HMay
  have n1 : ¬ Nm.may f.name = false := by rw [hmay]; decide
  cases hb1 : Si.right f.outer 4 with
  | false =>
    rw [hb1] at H1
    have n2 : f.typed = false := by rw [hT, hb1]; rfl
    have HE : Hid (f.can = 9) := Lib.hid (by unfold Fn.F.can; rw [if_neg n1, if_pos n2])
    clear n1 n2 hmay hT HLi HTb O1 hpe hre hle hoe hce hlie hinn hb1 H2 H3 H4
    obtain ⟨nm, inn, ⟨oa, on, oc⟩, ⟨pa, pn, pc⟩, ⟨ra, rn, rc⟩, ⟨la, ln, lc⟩, ⟨ca, cn, cc⟩, ⟨ia, i_n, ic⟩, ⟨na, nn, nc⟩, ⟨ta, tn, tc⟩, ⟨va, vn, vc⟩⟩ := v
    simp only at hlo hlp hlr hll hlc hli
    go_enter Try.func14, Try.ntmps14
    go_wp2_with (first | (go_at_call 27; go_must (refine HMay.mono ?_; rintro _ wa ⟨rfl, he⟩; obtain rfl := he.symm)) | (go_at_call 28; refine H1.mono ?_; rintro _ wr1 ⟨rfl, he⟩; obtain rfl := he.symm; clear H1))
    go_ret
    exact ⟨ret_int (by rw [HE.out]; rfl), B1.out⟩
  | true =>
  rw [hb1] at H1
  cases hb2 : Si.right f.params 8 with
  | false =>
    rw [hb2] at H2
    have n2 : f.typed = false := by rw [hT, hb1, hb2]; rfl
    have HE : Hid (f.can = 9) := Lib.hid (by unfold Fn.F.can; rw [if_neg n1, if_pos n2])
    clear n1 n2 hmay hT HLi HTb O1 hpe hre hle hoe hce hlie hinn hb1 hb2 H3 H4
    obtain ⟨nm, inn, ⟨oa, on, oc⟩, ⟨pa, pn, pc⟩, ⟨ra, rn, rc⟩, ⟨la, ln, lc⟩, ⟨ca, cn, cc⟩, ⟨ia, i_n, ic⟩, ⟨na, nn, nc⟩, ⟨ta, tn, tc⟩, ⟨va, vn, vc⟩⟩ := v
    simp only at hlo hlp hlr hll hlc hli
    go_enter Try.func14, Try.ntmps14
    go_wp2_with (first | (go_at_call 27; go_must (refine HMay.mono ?_; rintro _ wa ⟨rfl, he⟩; obtain rfl := he.symm)) | (go_at_call 28; refine H1.mono ?_; rintro _ wr1 ⟨rfl, he⟩; obtain rfl := he.symm; clear H1) | (go_at_call 28; refine H2.mono ?_; rintro _ wr2 ⟨rfl, he⟩; obtain rfl := he.symm; clear H2))
    go_ret
    exact ⟨ret_int (by rw [HE.out]; rfl), B1.out⟩
  | true =>
  rw [hb2] at H2
  cases hb3 : Si.right f.results 4 with
  | false =>
    rw [hb3] at H3
    have n2 : f.typed = false := by rw [hT, hb1, hb2, hb3]; rfl
    have HE : Hid (f.can = 9) := Lib.hid (by unfold Fn.F.can; rw [if_neg n1, if_pos n2])
    clear n1 n2 hmay hT HLi HTb O1 hpe hre hle hoe hce hlie hinn hb1 hb2 hb3 H4
    obtain ⟨nm, inn, ⟨oa, on, oc⟩, ⟨pa, pn, pc⟩, ⟨ra, rn, rc⟩, ⟨la, ln, lc⟩, ⟨ca, cn, cc⟩, ⟨ia, i_n, ic⟩, ⟨na, nn, nc⟩, ⟨ta, tn, tc⟩, ⟨va, vn, vc⟩⟩ := v
    simp only at hlo hlp hlr hll hlc hli
    go_enter Try.func14, Try.ntmps14
    go_wp2_with (first | (go_at_call 27; go_must (refine HMay.mono ?_; rintro _ wa ⟨rfl, he⟩; obtain rfl := he.symm)) | (go_at_call 28; refine H1.mono ?_; rintro _ wr1 ⟨rfl, he⟩; obtain rfl := he.symm; clear H1) | (go_at_call 28; refine H2.mono ?_; rintro _ wr2 ⟨rfl, he⟩; obtain rfl := he.symm; clear H2) | (go_at_call 28; refine H3.mono ?_; rintro _ wr3 ⟨rfl, he⟩; obtain rfl := he.symm; clear H3))
    go_ret
    exact ⟨ret_int (by rw [HE.out]; rfl), B1.out⟩
  | true =>
  rw [hb3] at H3
  cases hb4 : Si.right f.locals 256 with
  | false =>
    rw [hb4] at H4
    have n2 : f.typed = false := by rw [hT, hb1, hb2, hb3, hb4]; rfl
    have HE : Hid (f.can = 9) := Lib.hid (by unfold Fn.F.can; rw [if_neg n1, if_pos n2])
    clear n1 n2 hmay hT HLi HTb O1 hpe hre hle hoe hce hlie hinn hb1 hb2 hb3 hb4
    obtain ⟨nm, inn, ⟨oa, on, oc⟩, ⟨pa, pn, pc⟩, ⟨ra, rn, rc⟩, ⟨la, ln, lc⟩, ⟨ca, cn, cc⟩, ⟨ia, i_n, ic⟩, ⟨na, nn, nc⟩, ⟨ta, tn, tc⟩, ⟨va, vn, vc⟩⟩ := v
    simp only at hlo hlp hlr hll hlc hli
    go_enter Try.func14, Try.ntmps14
    go_wp2_with (first | (go_at_call 27; go_must (refine HMay.mono ?_; rintro _ wa ⟨rfl, he⟩; obtain rfl := he.symm)) | (go_at_call 28; refine H1.mono ?_; rintro _ wr1 ⟨rfl, he⟩; obtain rfl := he.symm; clear H1) | (go_at_call 28; refine H2.mono ?_; rintro _ wr2 ⟨rfl, he⟩; obtain rfl := he.symm; clear H2) | (go_at_call 28; refine H3.mono ?_; rintro _ wr3 ⟨rfl, he⟩; obtain rfl := he.symm; clear H3) | (go_at_call 28; refine H4.mono ?_; rintro _ wr4 ⟨rfl, he⟩; obtain rfl := he.symm; clear H4))
    go_ret
    exact ⟨ret_int (by rw [HE.out]; rfl), B1.out⟩
  | true =>
  rw [hb4] at H4
  have hb0' : Si.right f.outer 4 = true ∧ Si.right f.params 8 = true ∧ Si.right f.results 4 = true ∧ Si.right f.locals 256 = true := ⟨hb1, hb2, hb3, hb4⟩
  have hsm : v.outer.n ≤ 4 ∧ v.params.n ≤ 8 ∧ v.results.n ≤ 4 ∧ v.locals.n ≤ 256 := by
    simp only [Si.right, Bool.and_eq_true, decide_eq_true_eq] at hb0'
    omega
  rw [hb1, hb2, hb3, hb4] at hT
  simp only [Bool.true_and] at hT
  clear hb1 hb2 hb3 hb4 hb0'
  obtain ⟨hs1, hs2, hs3, hs4⟩ := hsm
  by_cases hti : v.outer.n ≠ 0 ∧ v.inner = false
  · have n2 : f.typed = false := by rw [hT, hti.2, decide_eq_false hti.1]; rfl
    have HE : Hid (f.can = 9) := Lib.hid (by unfold Fn.F.can; rw [if_neg n1, if_pos n2])
    have di : v.inner = false := hti.2
    have dn : decide (0 < v.outer.n) = true := decide_eq_true (by have := hti.1; omega)
    clear hti
    clear n1 n2 hmay hT HLi HTb O1 hpe hre hle hoe hce hlie hinn
    obtain ⟨nm, inn, ⟨oa, on, oc⟩, ⟨pa, pn, pc⟩, ⟨ra, rn, rc⟩, ⟨la, ln, lc⟩, ⟨ca, cn, cc⟩, ⟨ia, i_n, ic⟩, ⟨na, nn, nc⟩, ⟨ta, tn, tc⟩, ⟨va, vn, vc⟩⟩ := v
    simp only at hlo hlp hlr hll hlc hli di dn hs1 hs2 hs3 hs4
    subst di
    go_enter Try.func14, Try.ntmps14
    go_wp2_with (first | (go_at_call 27; go_must (refine HMay.mono ?_; rintro _ wa ⟨rfl, he⟩; obtain rfl := he.symm)) | (go_at_call 28; refine H1.mono ?_; rintro _ wr1 ⟨rfl, he⟩; obtain rfl := he.symm; clear H1) | (go_at_call 28; refine H2.mono ?_; rintro _ wr2 ⟨rfl, he⟩; obtain rfl := he.symm; clear H2) | (go_at_call 28; refine H3.mono ?_; rintro _ wr3 ⟨rfl, he⟩; obtain rfl := he.symm; clear H3) | (go_at_call 28; refine H4.mono ?_; rintro _ wr4 ⟨rfl, he⟩; obtain rfl := he.symm; clear H4))
    go_ret
    exact ⟨ret_int (by rw [HE.out]; rfl), B1.out⟩

  have n2 : f.typed = true := by
    rw [hT]
    by_cases ho : v.outer.n = 0
    · rw [decide_eq_true ho, Bool.or_true]
    · rcases Bool.eq_false_or_eq_true v.inner with e | e
      · rw [e]; rfl
      · exact absurd ⟨ho, e⟩ hti
  have n2' : ¬ f.typed = false := by rw [n2]; decide
  obtain ⟨x1, hx1⟩ : ∃ x1 : Nat, v.params.n + v.results.n = x1 := ⟨_, rfl⟩
  have hx2 : x1 + v.locals.n = f.slots := by unfold Fn.F.slots; omega
  have ha1 : (v.params.n : Int) + (v.results.n : Int) = (x1 : Int) := by omega
  have ha2 : (x1 : Int) + (v.locals.n : Int) = (f.slots : Int) := by omega
  have hxs : x1 ≤ 12 := by omega
  have hss : f.slots ≤ 268 := by omega
  clear hx1 hx2 hT n2 hpe hre hle
  by_cases ho : v.outer.n = 0
  · have do_ : decide (0 < v.outer.n) = false := decide_eq_false (by omega)
    clear ho hti
    by_cases hsl : 256 < f.slots
    · have n3 : f.fits = false := by unfold Fn.F.fits; rw [show decide (f.slots ≤ 256) = false from decide_eq_false (by omega)]; rfl
      have HE : Hid (f.can = 6) := Lib.hid (by unfold Fn.F.can; rw [if_neg n1, if_neg n2', if_pos n3])
      have d1 : decide ((256 : Int) < (f.slots : Int)) = true := decide_eq_true (by omega)
      have d1' : decide (256 < f.slots) = true := decide_eq_true hsl
      clear n1 n2' n3 hsl hmay HLi HTb O1 hoe hce hlie hinn
      obtain ⟨nm, inn, ⟨oa, on, oc⟩, ⟨pa, pn, pc⟩, ⟨ra, rn, rc⟩, ⟨la, ln, lc⟩, ⟨ca, cn, cc⟩, ⟨ia, i_n, ic⟩, ⟨na, nn, nc⟩, ⟨ta, tn, tc⟩, ⟨va, vn, vc⟩⟩ := v
      simp only at hlo hlp hlr hll hlc hli ha1 ha2 do_ hs1 hs2 hs3 hs4 d1 d1'
      skip
      go_enter Try.func14, Try.ntmps14
      go_wp2_with (first | (go_at_call 27; go_must (refine HMay.mono ?_; rintro _ wa ⟨rfl, he⟩; obtain rfl := he.symm)) | (go_at_call 28; refine H1.mono ?_; rintro _ wr1 ⟨rfl, he⟩; obtain rfl := he.symm; clear H1) | (go_at_call 28; refine H2.mono ?_; rintro _ wr2 ⟨rfl, he⟩; obtain rfl := he.symm; clear H2) | (go_at_call 28; refine H3.mono ?_; rintro _ wr3 ⟨rfl, he⟩; obtain rfl := he.symm; clear H3) | (go_at_call 28; refine H4.mono ?_; rintro _ wr4 ⟨rfl, he⟩; obtain rfl := he.symm; clear H4))
      go_ret
      exact ⟨ret_int (by rw [HE.out]; rfl), B1.out⟩
    have d1 : decide ((256 : Int) < (f.slots : Int)) = false := decide_eq_false (by omega)
    have d1' : decide (256 < f.slots) = false := decide_eq_false hsl
    have e1 : decide (f.slots ≤ 256) = true := decide_eq_true (by omega)
    by_cases hc1 : v.code.n < 1
    · have n3 : f.fits = false := by unfold Fn.F.fits; rw [e1, show decide (1 ≤ f.code.length) = false from decide_eq_false (by omega)]; rfl
      have HE : Hid (f.can = 6) := Lib.hid (by unfold Fn.F.can; rw [if_neg n1, if_neg n2', if_pos n3])
      have d2 : decide ((v.code.n : Int) < 1) = true := decide_eq_true (by omega)
      clear n1 n2' n3 hsl e1 hmay HLi HTb O1 hoe hce hlie hinn hc1
      obtain ⟨nm, inn, ⟨oa, on, oc⟩, ⟨pa, pn, pc⟩, ⟨ra, rn, rc⟩, ⟨la, ln, lc⟩, ⟨ca, cn, cc⟩, ⟨ia, i_n, ic⟩, ⟨na, nn, nc⟩, ⟨ta, tn, tc⟩, ⟨va, vn, vc⟩⟩ := v
      simp only at hlo hlp hlr hll hlc hli ha1 ha2 do_ hs1 hs2 hs3 hs4 d1 d1' d2
      skip
      go_enter Try.func14, Try.ntmps14
      go_wp2_with (first | (go_at_call 27; go_must (refine HMay.mono ?_; rintro _ wa ⟨rfl, he⟩; obtain rfl := he.symm)) | (go_at_call 28; refine H1.mono ?_; rintro _ wr1 ⟨rfl, he⟩; obtain rfl := he.symm; clear H1) | (go_at_call 28; refine H2.mono ?_; rintro _ wr2 ⟨rfl, he⟩; obtain rfl := he.symm; clear H2) | (go_at_call 28; refine H3.mono ?_; rintro _ wr3 ⟨rfl, he⟩; obtain rfl := he.symm; clear H3) | (go_at_call 28; refine H4.mono ?_; rintro _ wr4 ⟨rfl, he⟩; obtain rfl := he.symm; clear H4))
      go_ret
      exact ⟨ret_int (by rw [HE.out]; rfl), B1.out⟩
    have d2 : decide ((v.code.n : Int) < 1) = false := decide_eq_false (by omega)
    have d3 : decide ((2000 : Int) < (v.code.n : Int)) = false := decide_eq_false (by omega)
    have n3 : ¬ f.fits = false := by unfold Fn.F.fits; rw [e1, show decide (1 ≤ f.code.length) = true from decide_eq_true (by omega), show decide (f.code.length ≤ 2000) = true from decide_eq_true (by omega)]; decide
    have HOp : Hid (f.ops = false → f.can = 8) := Lib.hid (fun h => by unfold Fn.F.can; rw [if_neg n1, if_neg n2', if_neg n3, if_pos h])
    have HLn : Hid (f.ops = true → f.lined = false → f.can = 19) := Lib.hid (fun h h2 => by unfold Fn.F.can; rw [if_neg n1, if_neg n2', if_neg n3, if_neg (by rw [h]; decide), if_pos h2])
    have HOk : Hid (f.ops = true → f.lined = true → (f.bare || f.mapped) = true → f.can = 0) := Lib.hid (fun h h2 h3 => by unfold Fn.F.can; rw [if_neg n1, if_neg n2', if_neg n3, if_neg (by rw [h]; decide), if_neg (by rw [h2]; decide), if_neg (by rintro ⟨a, b⟩; rw [a, b] at h3; cases h3)])
    have HTa : Hid (f.ops = true → f.lined = true → (f.bare || f.mapped) = false → f.can = 14) := Lib.hid (fun h h2 h3 => by unfold Fn.F.can; rw [if_neg n1, if_neg n2', if_neg n3, if_neg (by rw [h]; decide), if_neg (by rw [h2]; decide), if_pos (by rw [Bool.or_eq_false_iff] at h3; exact h3)])
    have HCe := Lib.hid (And.intro hce hlie)
    obtain ⟨WB, hWB⟩ : ∃ WB, w.alloc (.cells v.cells 28) = WB := ⟨_, rfl⟩
    rw [hWB] at A1 O1 B1
    have HWB := Lib.hid hWB
    clear hWB
    clear n1 n2' n3 hsl e1 hmay hoe hce hlie hinn hc1
    obtain ⟨nm, inn, ⟨oa, on, oc⟩, ⟨pa, pn, pc⟩, ⟨ra, rn, rc⟩, ⟨la, ln, lc⟩, ⟨ca, cn, cc⟩, ⟨ia, i_n, ic⟩, ⟨na, nn, nc⟩, ⟨ta, tn, tc⟩, ⟨va, vn, vc⟩⟩ := v
    simp only at hlo hlp hlr hll hlc hli ha1 ha2 do_ hs1 hs2 hs3 hs4 d2 d3 HCe HTb HLi
    skip
    go_enter Try.func14, Try.ntmps14
    go_wp2_with (first | (go_at_call 27; go_must (refine HMay.mono ?_; rintro _ wa ⟨rfl, he⟩; obtain rfl := he.symm)) | (go_at_call 28; refine H1.mono ?_; rintro _ wr1 ⟨rfl, he⟩; obtain rfl := he.symm; clear H1) | (go_at_call 28; refine H2.mono ?_; rintro _ wr2 ⟨rfl, he⟩; obtain rfl := he.symm; clear H2) | (go_at_call 28; refine H3.mono ?_; rintro _ wr3 ⟨rfl, he⟩; obtain rfl := he.symm; clear H3) | (go_at_call 28; refine H4.mono ?_; rintro _ wr4 ⟨rfl, he⟩; obtain rfl := he.symm; clear H4))
    go_loopw [4] (fun i wr => ∃ k : Nat, k ≤ cn ∧ i = .int .i64 (k : Int) ∧ Below WB.heap.size WB wr ∧ (f.code.take k).all (fun p => In.right p.1 p.2) = true) (fun i _ => cn - (intOf i).toNat)
    case atStart => exact ⟨0, Nat.zero_le _, rfl, by rw [← HWB.out]; exact Below.refl _ _, rfl⟩
    case round =>
      obtain ⟨k, hk, rfl, hB, hW⟩ := hrel
      have A2 := Lib.hid (A1.out.on hB)
      have O2 := Lib.hid (O1.out.on hB)
      have B2 := Lib.hid (B1.out.trans (hB.mono B1.out.size))
      have HB := Lib.hid hB
      clear hB
      have c0 := A2.out.c0; have c1 := A2.out.c1; have c2 := A2.out.c2; have c3 := A2.out.c3; have c4 := A2.out.c4; have c5 := A2.out.c5; have c6 := A2.out.c6; have c7 := A2.out.c7; have c8 := A2.out.c8; have c9 := A2.out.c9; have c10 := A2.out.c10
      by_cases hlt : k < cn
      · obtain ⟨b, off, x, ec, _, hx, hkl, q0, q1⟩ := pairs_cell O2.out.code.1 hlt
        simp only at ec
        subst ec
        have hki : (k : Int) < (cn : Int) := by omega
        have HS := Lib.hid (Fn.ops_succ hkl)
        have HBd := Lib.hid (fun hb => Fn.ops_bad hkl hb)
        rw [hx, hW] at HS
        rw [hx] at HBd
        have HRi := rinright_any x.1 x.2
        clear hW hx hkl
        cases hm : In.right x.1 x.2 with
        | false =>
          rw [hm] at HRi
          have HE := Lib.hid (HOp.out (HBd.out hm))
          clear HS HBd hm HOp HLn HOk HTa
          go_wp2_with (go_at_call 29; go_must (refine (HRi _).mono ?_; rintro _ w3 ⟨rfl, hb3⟩; have B3 := Lib.hid (B2.out.trans (hb3.mono B2.out.size)); clear hb3))
          go_ret
          exact ⟨ret_int (by rw [HE.out]; rfl), B3.out⟩
        | true =>
          rw [hm] at HRi HS
          clear HBd hm HOp HLn HOk HTa
          go_wp2_with (go_at_call 29; go_must (refine (HRi _).mono ?_; rintro _ w3 ⟨rfl, hb3⟩; have HB3 := Lib.hid (below_self HB.out hb3); clear hb3))
          go_roundw
          case rel => exact ⟨k + 1, hlt, by go_num, HB3.out, HS.out⟩
          case measure => simp [intOf]; omega
      · have hop : f.ops = true := by
          have hall : f.code.all (fun p => In.right p.1 p.2) = true := by rw [← hW, List.take_of_length_le (by have := HCe.out.1; omega)]
          exact hall
        have hki : decide ((k : Int) < (cn : Int)) = false := decide_eq_false (by omega)
        clear hW
        by_cases hlk : i_n = cn
        rotate_left
        · have d4 : ((i_n : Int) != (cn : Int)) = true := bne_iff_ne.2 (by omega)
          have HE := Lib.hid (HLn.out hop (by unfold Fn.F.lined; rw [show decide (f.lines.length = f.code.length) = false from decide_eq_false (by have := HCe.out; omega)]; rfl))
          clear hlk HOp HLn HOk HTa hop
          go_wp2
          go_ret
          exact ⟨ret_int (by rw [HE.out]; rfl), B2.out⟩
        have d4 : ((i_n : Int) != (cn : Int)) = false := bne_eq_false_iff_eq.2 (by omega)
        have d4e : decide (f.lines.length = f.code.length) = true := decide_eq_true (by have := HCe.out; omega)
        have HLw := HLi.out wr O2.out
        cases hli2 : Li.right f.lines with
        | false =>
          rw [hli2] at HLw
          have HE := Lib.hid (HLn.out hop (by unfold Fn.F.lined; rw [hli2, Bool.and_false]))
          clear hlk HOp HLn HOk HTa hop d4e hli2
          go_wp2_with (go_at_call 30; go_must (refine HLw.mono ?_; rintro _ w3 ⟨rfl, he⟩; obtain rfl := he.symm))
          go_ret
          exact ⟨ret_int (by rw [HE.out]; rfl), B2.out⟩
        | true =>
        rw [hli2] at HLw
        have hln2 : f.lined = true := by unfold Fn.F.lined; rw [hli2, d4e]; rfl
        have HTw := HTb.out wr O2.out
        obtain ⟨tb, htb⟩ : ∃ tb, (f.bare || f.mapped) = tb := ⟨_, rfl⟩
        rw [htb] at HTw
        cases tb with
        | false =>
          have HE := Lib.hid (HTa.out hop hln2 htb)
          clear hlk HOp HLn HOk HTa hop d4e hli2 hln2 htb
          go_wp2_with (first
            | (go_at_call 30; go_must (refine HLw.mono ?_; rintro _ w3 ⟨rfl, he⟩; obtain rfl := he.symm))
            | (go_at_call 31; go_must (refine HTw.mono ?_; rintro _ w3 ⟨rfl, hb3⟩; have B3 := Lib.hid (B2.out.trans (hb3.mono B2.out.size)); clear hb3)))
          go_ret
          exact ⟨ret_int (by rw [HE.out]; rfl), B3.out⟩
        | true =>
          have HE := Lib.hid (HOk.out hop hln2 htb)
          clear hlk HOp HLn HOk HTa hop d4e hli2 hln2 htb
          go_wp2_with (first
            | (go_at_call 30; go_must (refine HLw.mono ?_; rintro _ w3 ⟨rfl, he⟩; obtain rfl := he.symm))
            | (go_at_call 31; go_must (refine HTw.mono ?_; rintro _ w3 ⟨rfl, hb3⟩; have B3 := Lib.hid (B2.out.trans (hb3.mono B2.out.size)); clear hb3)))
          go_ret
          exact ⟨ret_int (by rw [HE.out]; rfl), B3.out⟩
  · have di : v.inner = true := by
      rcases Bool.eq_false_or_eq_true v.inner with e | e
      · exact e
      · exact absurd ⟨ho, e⟩ hti
    have do_ : decide (0 < v.outer.n) = true := decide_eq_true (by omega)
    clear ho hti
    by_cases hsl : 256 < f.slots
    · have n3 : f.fits = false := by unfold Fn.F.fits; rw [show decide (f.slots ≤ 256) = false from decide_eq_false (by omega)]; rfl
      have HE : Hid (f.can = 6) := Lib.hid (by unfold Fn.F.can; rw [if_neg n1, if_neg n2', if_pos n3])
      have d1 : decide ((256 : Int) < (f.slots : Int)) = true := decide_eq_true (by omega)
      have d1' : decide (256 < f.slots) = true := decide_eq_true hsl
      clear n1 n2' n3 hsl hmay HLi HTb O1 hoe hce hlie hinn
      obtain ⟨nm, inn, ⟨oa, on, oc⟩, ⟨pa, pn, pc⟩, ⟨ra, rn, rc⟩, ⟨la, ln, lc⟩, ⟨ca, cn, cc⟩, ⟨ia, i_n, ic⟩, ⟨na, nn, nc⟩, ⟨ta, tn, tc⟩, ⟨va, vn, vc⟩⟩ := v
      simp only at hlo hlp hlr hll hlc hli ha1 ha2 do_ di hs1 hs2 hs3 hs4 d1 d1'
      subst di
      go_enter Try.func14, Try.ntmps14
      go_wp2_with (first | (go_at_call 27; go_must (refine HMay.mono ?_; rintro _ wa ⟨rfl, he⟩; obtain rfl := he.symm)) | (go_at_call 28; refine H1.mono ?_; rintro _ wr1 ⟨rfl, he⟩; obtain rfl := he.symm; clear H1) | (go_at_call 28; refine H2.mono ?_; rintro _ wr2 ⟨rfl, he⟩; obtain rfl := he.symm; clear H2) | (go_at_call 28; refine H3.mono ?_; rintro _ wr3 ⟨rfl, he⟩; obtain rfl := he.symm; clear H3) | (go_at_call 28; refine H4.mono ?_; rintro _ wr4 ⟨rfl, he⟩; obtain rfl := he.symm; clear H4))
      go_ret
      exact ⟨ret_int (by rw [HE.out]; rfl), B1.out⟩
    have d1 : decide ((256 : Int) < (f.slots : Int)) = false := decide_eq_false (by omega)
    have d1' : decide (256 < f.slots) = false := decide_eq_false hsl
    have e1 : decide (f.slots ≤ 256) = true := decide_eq_true (by omega)
    by_cases hc1 : v.code.n < 1
    · have n3 : f.fits = false := by unfold Fn.F.fits; rw [e1, show decide (1 ≤ f.code.length) = false from decide_eq_false (by omega)]; rfl
      have HE : Hid (f.can = 6) := Lib.hid (by unfold Fn.F.can; rw [if_neg n1, if_neg n2', if_pos n3])
      have d2 : decide ((v.code.n : Int) < 1) = true := decide_eq_true (by omega)
      clear n1 n2' n3 hsl e1 hmay HLi HTb O1 hoe hce hlie hinn hc1
      obtain ⟨nm, inn, ⟨oa, on, oc⟩, ⟨pa, pn, pc⟩, ⟨ra, rn, rc⟩, ⟨la, ln, lc⟩, ⟨ca, cn, cc⟩, ⟨ia, i_n, ic⟩, ⟨na, nn, nc⟩, ⟨ta, tn, tc⟩, ⟨va, vn, vc⟩⟩ := v
      simp only at hlo hlp hlr hll hlc hli ha1 ha2 do_ di hs1 hs2 hs3 hs4 d1 d1' d2
      subst di
      go_enter Try.func14, Try.ntmps14
      go_wp2_with (first | (go_at_call 27; go_must (refine HMay.mono ?_; rintro _ wa ⟨rfl, he⟩; obtain rfl := he.symm)) | (go_at_call 28; refine H1.mono ?_; rintro _ wr1 ⟨rfl, he⟩; obtain rfl := he.symm; clear H1) | (go_at_call 28; refine H2.mono ?_; rintro _ wr2 ⟨rfl, he⟩; obtain rfl := he.symm; clear H2) | (go_at_call 28; refine H3.mono ?_; rintro _ wr3 ⟨rfl, he⟩; obtain rfl := he.symm; clear H3) | (go_at_call 28; refine H4.mono ?_; rintro _ wr4 ⟨rfl, he⟩; obtain rfl := he.symm; clear H4))
      go_ret
      exact ⟨ret_int (by rw [HE.out]; rfl), B1.out⟩
    have d2 : decide ((v.code.n : Int) < 1) = false := decide_eq_false (by omega)
    have d3 : decide ((2000 : Int) < (v.code.n : Int)) = false := decide_eq_false (by omega)
    have n3 : ¬ f.fits = false := by unfold Fn.F.fits; rw [e1, show decide (1 ≤ f.code.length) = true from decide_eq_true (by omega), show decide (f.code.length ≤ 2000) = true from decide_eq_true (by omega)]; decide
    have HOp : Hid (f.ops = false → f.can = 8) := Lib.hid (fun h => by unfold Fn.F.can; rw [if_neg n1, if_neg n2', if_neg n3, if_pos h])
    have HLn : Hid (f.ops = true → f.lined = false → f.can = 19) := Lib.hid (fun h h2 => by unfold Fn.F.can; rw [if_neg n1, if_neg n2', if_neg n3, if_neg (by rw [h]; decide), if_pos h2])
    have HOk : Hid (f.ops = true → f.lined = true → (f.bare || f.mapped) = true → f.can = 0) := Lib.hid (fun h h2 h3 => by unfold Fn.F.can; rw [if_neg n1, if_neg n2', if_neg n3, if_neg (by rw [h]; decide), if_neg (by rw [h2]; decide), if_neg (by rintro ⟨a, b⟩; rw [a, b] at h3; cases h3)])
    have HTa : Hid (f.ops = true → f.lined = true → (f.bare || f.mapped) = false → f.can = 14) := Lib.hid (fun h h2 h3 => by unfold Fn.F.can; rw [if_neg n1, if_neg n2', if_neg n3, if_neg (by rw [h]; decide), if_neg (by rw [h2]; decide), if_pos (by rw [Bool.or_eq_false_iff] at h3; exact h3)])
    have HCe := Lib.hid (And.intro hce hlie)
    obtain ⟨WB, hWB⟩ : ∃ WB, w.alloc (.cells v.cells 28) = WB := ⟨_, rfl⟩
    rw [hWB] at A1 O1 B1
    have HWB := Lib.hid hWB
    clear hWB
    clear n1 n2' n3 hsl e1 hmay hoe hce hlie hinn hc1
    obtain ⟨nm, inn, ⟨oa, on, oc⟩, ⟨pa, pn, pc⟩, ⟨ra, rn, rc⟩, ⟨la, ln, lc⟩, ⟨ca, cn, cc⟩, ⟨ia, i_n, ic⟩, ⟨na, nn, nc⟩, ⟨ta, tn, tc⟩, ⟨va, vn, vc⟩⟩ := v
    simp only at hlo hlp hlr hll hlc hli ha1 ha2 do_ di hs1 hs2 hs3 hs4 d2 d3 HCe HTb HLi
    subst di
    go_enter Try.func14, Try.ntmps14
    go_wp2_with (first | (go_at_call 27; go_must (refine HMay.mono ?_; rintro _ wa ⟨rfl, he⟩; obtain rfl := he.symm)) | (go_at_call 28; refine H1.mono ?_; rintro _ wr1 ⟨rfl, he⟩; obtain rfl := he.symm; clear H1) | (go_at_call 28; refine H2.mono ?_; rintro _ wr2 ⟨rfl, he⟩; obtain rfl := he.symm; clear H2) | (go_at_call 28; refine H3.mono ?_; rintro _ wr3 ⟨rfl, he⟩; obtain rfl := he.symm; clear H3) | (go_at_call 28; refine H4.mono ?_; rintro _ wr4 ⟨rfl, he⟩; obtain rfl := he.symm; clear H4))
    go_loopw [4] (fun i wr => ∃ k : Nat, k ≤ cn ∧ i = .int .i64 (k : Int) ∧ Below WB.heap.size WB wr ∧ (f.code.take k).all (fun p => In.right p.1 p.2) = true) (fun i _ => cn - (intOf i).toNat)
    case atStart => exact ⟨0, Nat.zero_le _, rfl, by rw [← HWB.out]; exact Below.refl _ _, rfl⟩
    case round =>
      obtain ⟨k, hk, rfl, hB, hW⟩ := hrel
      have A2 := Lib.hid (A1.out.on hB)
      have O2 := Lib.hid (O1.out.on hB)
      have B2 := Lib.hid (B1.out.trans (hB.mono B1.out.size))
      have HB := Lib.hid hB
      clear hB
      have c0 := A2.out.c0; have c1 := A2.out.c1; have c2 := A2.out.c2; have c3 := A2.out.c3; have c4 := A2.out.c4; have c5 := A2.out.c5; have c6 := A2.out.c6; have c7 := A2.out.c7; have c8 := A2.out.c8; have c9 := A2.out.c9; have c10 := A2.out.c10
      by_cases hlt : k < cn
      · obtain ⟨b, off, x, ec, _, hx, hkl, q0, q1⟩ := pairs_cell O2.out.code.1 hlt
        simp only at ec
        subst ec
        have hki : (k : Int) < (cn : Int) := by omega
        have HS := Lib.hid (Fn.ops_succ hkl)
        have HBd := Lib.hid (fun hb => Fn.ops_bad hkl hb)
        rw [hx, hW] at HS
        rw [hx] at HBd
        have HRi := rinright_any x.1 x.2
        clear hW hx hkl
        cases hm : In.right x.1 x.2 with
        | false =>
          rw [hm] at HRi
          have HE := Lib.hid (HOp.out (HBd.out hm))
          clear HS HBd hm HOp HLn HOk HTa
          go_wp2_with (go_at_call 29; go_must (refine (HRi _).mono ?_; rintro _ w3 ⟨rfl, hb3⟩; have B3 := Lib.hid (B2.out.trans (hb3.mono B2.out.size)); clear hb3))
          go_ret
          exact ⟨ret_int (by rw [HE.out]; rfl), B3.out⟩
        | true =>
          rw [hm] at HRi HS
          clear HBd hm HOp HLn HOk HTa
          go_wp2_with (go_at_call 29; go_must (refine (HRi _).mono ?_; rintro _ w3 ⟨rfl, hb3⟩; have HB3 := Lib.hid (below_self HB.out hb3); clear hb3))
          go_roundw
          case rel => exact ⟨k + 1, hlt, by go_num, HB3.out, HS.out⟩
          case measure => simp [intOf]; omega
      · have hop : f.ops = true := by
          have hall : f.code.all (fun p => In.right p.1 p.2) = true := by rw [← hW, List.take_of_length_le (by have := HCe.out.1; omega)]
          exact hall
        have hki : decide ((k : Int) < (cn : Int)) = false := decide_eq_false (by omega)
        clear hW
        by_cases hlk : i_n = cn
        rotate_left
        · have d4 : ((i_n : Int) != (cn : Int)) = true := bne_iff_ne.2 (by omega)
          have HE := Lib.hid (HLn.out hop (by unfold Fn.F.lined; rw [show decide (f.lines.length = f.code.length) = false from decide_eq_false (by have := HCe.out; omega)]; rfl))
          clear hlk HOp HLn HOk HTa hop
          go_wp2
          go_ret
          exact ⟨ret_int (by rw [HE.out]; rfl), B2.out⟩
        have d4 : ((i_n : Int) != (cn : Int)) = false := bne_eq_false_iff_eq.2 (by omega)
        have d4e : decide (f.lines.length = f.code.length) = true := decide_eq_true (by have := HCe.out; omega)
        have HLw := HLi.out wr O2.out
        cases hli2 : Li.right f.lines with
        | false =>
          rw [hli2] at HLw
          have HE := Lib.hid (HLn.out hop (by unfold Fn.F.lined; rw [hli2, Bool.and_false]))
          clear hlk HOp HLn HOk HTa hop d4e hli2
          go_wp2_with (go_at_call 30; go_must (refine HLw.mono ?_; rintro _ w3 ⟨rfl, he⟩; obtain rfl := he.symm))
          go_ret
          exact ⟨ret_int (by rw [HE.out]; rfl), B2.out⟩
        | true =>
        rw [hli2] at HLw
        have hln2 : f.lined = true := by unfold Fn.F.lined; rw [hli2, d4e]; rfl
        have HTw := HTb.out wr O2.out
        obtain ⟨tb, htb⟩ : ∃ tb, (f.bare || f.mapped) = tb := ⟨_, rfl⟩
        rw [htb] at HTw
        cases tb with
        | false =>
          have HE := Lib.hid (HTa.out hop hln2 htb)
          clear hlk HOp HLn HOk HTa hop d4e hli2 hln2 htb
          go_wp2_with (first
            | (go_at_call 30; go_must (refine HLw.mono ?_; rintro _ w3 ⟨rfl, he⟩; obtain rfl := he.symm))
            | (go_at_call 31; go_must (refine HTw.mono ?_; rintro _ w3 ⟨rfl, hb3⟩; have B3 := Lib.hid (B2.out.trans (hb3.mono B2.out.size)); clear hb3)))
          go_ret
          exact ⟨ret_int (by rw [HE.out]; rfl), B3.out⟩
        | true =>
          have HE := Lib.hid (HOk.out hop hln2 htb)
          clear hlk HOp HLn HOk HTa hop d4e hli2 hln2 htb
          go_wp2_with (first
            | (go_at_call 30; go_must (refine HLw.mono ?_; rintro _ w3 ⟨rfl, he⟩; obtain rfl := he.symm))
            | (go_at_call 31; go_must (refine HTw.mono ?_; rintro _ w3 ⟨rfl, hb3⟩; have B3 := Lib.hid (B2.out.trans (hb3.mono B2.out.size)); clear hb3)))
          go_ret
          exact ⟨ret_int (by rw [HE.out]; rfl), B3.out⟩
end Go.Proofs.Ytngkjmghhoemgaa
