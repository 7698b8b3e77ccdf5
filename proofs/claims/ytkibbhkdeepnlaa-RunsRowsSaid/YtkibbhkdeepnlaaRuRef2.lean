/-
  What the document's Row and Right answer. Conditions: none but that the runs can be read.
-/
import Derived.BigQuiet
import Derived.Test.YtkibbhkdeepnlaaRuRef
namespace Go.Proofs.Ytkibbhkdeepnlaa
open Go.RowKit

def RRwRel (w : World) (n : Nat) (r : Ru.Runs) (u i : Value) (wr : World) : Prop :=
  ∃ k : Nat, k ≤ n ∧ i = .int .i64 (k : Int) ∧ wr.ownsRow w.heap.size 3 1 u (Ru.row (r.take k)).length (vs (Ru.row (r.take k))) ∧ Below w.heap.size w wr
def RRwIn (w : World) (o : List Int) (N V : Int) (u i : Value) (wr : World) : Prop :=
  ∃ j : Nat, j ≤ (min N (2000 - (o.length : Int))).toNat ∧ i = .int .i64 (j : Int) ∧ wr.ownsRow w.heap.size 3 1 u (o ++ List.replicate j V).length (vs (o ++ List.replicate j V)) ∧ Below w.heap.size w wr

set_option maxHeartbeats 2000000 in
theorem rrow_any (a : Option Addr) (n c : Nat) (r : Ru.Runs) (w : World) (h : PairsAt w w.heap.size a n r) (hn : n ≤ 9223372036854775807) (hf : ∀ p ∈ r, p.1 ≤ 9223372036854775807) :
    Calls Try.prog 15 #[.slice a n c] w (NumsP (Ru.row r) w) := by
  obtain ⟨i0, hi, hz0, hz1, hz2⟩ := info_parts info_int
  have H := Lib.hid h
  have hrl := h.1
  have HF := Lib.hid hf
  clear h hf
  go_enter Try.func15, Try.ntmps15
  go_wp2
  go_loopw [3, 4] (RRwRel w n r) (fun _ i _ => n - (intOf i).toNat)
  case atStart => exact ⟨0, Nat.zero_le _, rfl, World.ownsRow_nil _ _ _ _, Below.refl _ _⟩
  case round =>
    obtain ⟨k, hk, rfl, hO, hB⟩ := hrel
    by_cases hlt : k < n
    · obtain ⟨b, off, rfl, hlb, hcw⟩ := H.out.2 (by omega)
      obtain ⟨hcw0, hcw1⟩ := hcw k hlt
      have HR := Lib.hid (Ru.row_take (r := r) (k := k) (by omega))
      have HL := Lib.hid (Ru.row_len (r.take k))
      have hNm : (r.getD k (0, 0)).1 ≤ 9223372036854775807 := by
        have hkr : k < r.length := by omega
        have e : r.getD k (0, 0) = r[k] := by simp [List.getD, hkr]
        rw [e]
        exact HF.out _ (List.getElem_mem hkr)
      have HB := Lib.hid hB
      have HO := Lib.hid hO
      clear hcw hB hO
      generalize r.getD k (0, 0) = p at *
      obtain ⟨N, V⟩ := p
      generalize Ru.row (r.take k) = o at *
      simp only at hcw0 hcw1 hNm
      obtain ⟨wo, rfl⟩ : ∃ wo : World, wo = wr := ⟨_, rfl⟩
      go_wp2
      go_loopw [3, 5] (RRwIn w o N V) (fun _ i _ => N.toNat - (intOf i).toNat)
      case atStart => exact ⟨0, Nat.zero_le _, rfl, by simpa using HO.out, HB.out⟩
      case round =>
        obtain ⟨j, hj, rfl, hO2, hB2⟩ := hrel
        obtain ⟨A, cc, rfl, _⟩ := nums_slice hO2
        have HO2 := Lib.hid hO2
        have HB2 := Lib.hid hB2
        have hs := hB2.size
        have hc0 : wr.cell? ⟨b, off + k * 2, none⟩ = some (.int .i64 N) := (hB2.cell (p := ⟨b, off + k * 2, none⟩) hlb).trans hcw0
        have hc1 : wr.cell? ⟨b, off + k * 2 + 1, none⟩ = some (.int .i64 V) := (hB2.cell (p := ⟨b, off + k * 2 + 1, none⟩) hlb).trans hcw1
        have HQ : Hid ((o ++ List.replicate j V).length = o.length + j) := Lib.hid (by simp)
        have HN : Hid (o ++ List.replicate (j + 1) V = (o ++ List.replicate j V) ++ [V]) := Lib.hid (by rw [List.replicate_succ', List.append_assoc])
        clear hO2 hB2
        by_cases h1 : (j : Int) < N
        · by_cases h2 : o.length + j < 2000
          · generalize o ++ List.replicate j V = q at *
            have hq : ((q.length : Nat) : Int) < 2000 := by rw [HQ.out]; omega
            have H2 := Lib.hid h2
            have HJ := Lib.hid hj
            clear h2 hj
            go_wp2_with (at_builtin; refine wpList_append_lies _ rfl (.tmp 26) (.tmp 32) 22 rfl w.heap.size 3 i0 (.int .i64 0) 1 8 Try.underlying22 hi hz0 hz1 hz2 rfl (by decide) (.slice A q.length cc) q.length (vs q) rfl (HO2.out.alloc _) ⟨wr.heap.size, 0, none⟩ 1 1 (vs [V]) rfl rfl ?c1 (vs_one _) (by decide) ?c3 ?c4 ?c5 (wr.heap.size + 1) ?c6 ?_)
            case c1 => exact new_one wr _ _
            case c3 => unfold maxLen; omega
            case c4 => omega
            case c5 => simp; omega
            case c6 => simp
            intro g cap w2 hown2 hgrow2 hat2 _
            have HB3 := Lib.hid (own_grown HB2.out HO2.out hgrow2)
            have HO3 := Lib.hid hown2
            clear hown2 hgrow2 hat2
            go_wp2
            go_roundw
            case rel => exact ⟨j + 1, by have := H2.out; omega, by go_num, by rw [HN.out, List.length_append, vs_append]; exact HO3.out, HB3.out⟩
            case measure => simp [intOf]; omega
          · have h2' : ¬ (((o ++ List.replicate j V).length : Nat) : Int) < 2000 := by rw [HQ.out]; omega
            have HE : Hid (Ru.row (r.take (k + 1)) = o ++ List.replicate j V) := Lib.hid (by
              rw [HR.out, Ru.rowStep, show (min N (2000 - (o.length : Int))).toNat = j by omega])
            clear HN
            generalize o ++ List.replicate j V = q at *
            go_wp2
            go_roundw
            case rel => exact ⟨k + 1, by omega, by go_num, by rw [HE.out]; exact HO2.out, HB2.out⟩
            case measure => simp [intOf]; omega
        · have HE : Hid (Ru.row (r.take (k + 1)) = o ++ List.replicate j V) := Lib.hid (by
            rw [HR.out, Ru.rowStep, show (min N (2000 - (o.length : Int))).toNat = j by omega])
          clear HN
          generalize o ++ List.replicate j V = q at *
          go_wp2
          go_roundw
          case rel => exact ⟨k + 1, by omega, by go_num, by rw [HE.out]; exact HO2.out, HB2.out⟩
          case measure => simp [intOf]; omega
    · have HE : Hid (r.take k = r) := Lib.hid (List.take_of_length_le (by omega))
      obtain ⟨A, cc, rfl, _⟩ := nums_slice hO
      have HO := Lib.hid hO
      have HB := Lib.hid hB
      clear hO hB
      go_wp2
      go_ret
      refine ⟨_, rfl, ?_, HB.out⟩
      show wr.ownsRow _ _ _ (.slice A (Ru.row (r.take k)).length cc) _ _
      have h2 := HO.out
      rw [HE.out] at h2 ⊢
      exact h2

set_option maxHeartbeats 2000000 in
theorem rright_any (a : Option Addr) (n c : Nat) (r : Ru.Runs) (w : World) (h : PairsAt w w.heap.size a n r) (hn : n ≤ 9223372036854775807) :
    Calls Try.prog 16 #[.slice a n c] w (BoolP (Ru.right r) w) := by
  have H := Lib.hid h
  have hrl := h.1
  clear h
  go_enter Try.func16, Try.ntmps16
  go_wp2
  go_loopw [3, 4] (RgRel w n r) (fun _ i _ => n - (intOf i).toNat)
  case atStart => exact ⟨0, 2000, Nat.zero_le _, rfl, rfl, rfl, Below.refl _ _⟩
  case round =>
    obtain ⟨k, lf, hk, rfl, rfl, hS, hB⟩ := hrel
    have HS := Lib.hid hS
    have HB := Lib.hid hB
    have hs := hB.size
    obtain ⟨_, hf0, hf1⟩ := rightS_prev _ hS
    by_cases hlt : k < n
    · obtain ⟨b, off, rfl, hlb, hc⟩ := (H.out.below hB).2 (by omega)
      obtain ⟨hc0, hc1⟩ := hc k hlt
      have HC := Lib.hid hc
      have HGO := Lib.hid (right_go (r := r) (k := k) (by omega) hS)
      have HST := Lib.hid (right_stop (r := r) (k := k) (by omega) hS)
      clear hc hS hB
      obtain ⟨p, hp⟩ : ∃ p, r.getD k (0, 0) = p := ⟨_, rfl⟩
      rw [hp] at hc0 hc1 HGO HST
      clear hp
      obtain ⟨N, V⟩ := p
      simp only at hc0 hc1 HGO HST
      by_cases h1 : N < 1
      · go_wp2
        go_quiet (fail)
        go_wp2
        go_ret
        exact ⟨ret_bool (HST.out (.inl h1)).symm, below_drewN HB.out _⟩
      have hd1 : decide (N < 1) = false := decide_eq_false h1
      by_cases h2 : lf < N
      · go_wp2
        go_quiet (fail)
        go_wp2
        go_ret
        exact ⟨ret_bool (HST.out (.inr (.inl h2))).symm, below_drewN HB.out _⟩
      have hd2 : decide (lf < N) = false := decide_eq_false h2
      by_cases h0 : k = 0
      · subst h0
        have HG := Lib.hid (HGO.out h1 h2 (by simp [lastV]))
        simp only [Nat.zero_mul, Nat.add_zero] at hc0 hc1
        go_wp2
        go_quiet (fail)
        go_wp2
        go_roundw
        case rel => exact ⟨0 + 1, _, by omega, by go_num, rfl, HG.out, below_drewN HB.out _⟩
        case measure => simp [intOf]; omega
      obtain ⟨m, rfl⟩ : ∃ m, k = m + 1 := ⟨k - 1, by omega⟩
      have hcm := (HC.out m (by omega)).2
      have HV := Lib.hid (lastV_take (r := r) (k := m) (by omega))
      generalize (r.getD m (0, 0)).2 = X at *
      clear HC
      by_cases h3 : V = X
      · subst h3
        go_wp2
        go_quiet (fail)
        go_wp2
        go_ret
        exact ⟨ret_bool (HST.out (.inr (.inr HV.out))).symm, below_drewN HB.out _⟩
      · have hd3 : (V == X) = false := by rw [beq_eq_false_iff_ne]; exact h3
        have HG := Lib.hid (HGO.out h1 h2 (by rw [HV.out]; intro e; injection e with e; exact h3 e.symm))
        go_wp2
        go_quiet (fail)
        go_wp2
        go_roundw
        case rel => exact ⟨m + 1 + 1, _, by omega, by go_num, rfl, HG.out, below_drewN HB.out _⟩
        case measure => simp [intOf]; omega
    · have HE := Lib.hid (right_end (r := r) (k := k) (by omega) hS)
      clear hS
      go_wp2
      go_ret
      exact ⟨ret_bool HE.out.symm, HB.out⟩

end Go.Proofs.Ytkibbhkdeepnlaa
