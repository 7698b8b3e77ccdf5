/-
  What the document's Of of lines answers: the spans of a line, in new memory. Conditions: lengths within the reach.
-/
import Derived.BigQuiet
import Derived.Test.YtnfflddcekffeaaRuRef
import Derived.Test.YtnfflddcekffeaaLiMath
namespace Go.Proofs.Ytnfflddcekffeaa
open Go.RowKit

set_option maxRecDepth 100000 in
theorem info_rspan : (Try.prog.info? 30).map (fun i => (i.zero, i.size, i.bytes)) = some (some (.agg #[.int .i64 0, .int .i64 0]), 2, 16) := by kernel_rfl

/-- The last span of what the call itself has made, one longer. -/
theorem own_longer {w : World} {base : Nat} {e : TypeId} {g cap : Nat} {pre : Ru.Runs} {f t : Int} (h : w.ownsRow base e 2 (.slice (some ⟨g, 0, none⟩) (pre.length + 1) cap) (pre.length + 1) (ps (pre ++ [(f, t)]))) (t' : Int) :
    (w.setCell ⟨g, pre.length * 2 + 1, none⟩ (.int .i64 t')).ownsRow base e 2 (.slice (some ⟨g, 0, none⟩) (pre.length + 1) cap) (pre.length + 1) (ps (pre ++ [(f, t')])) := by
  refine ⟨by rw [ps_length]; simp, ?_⟩
  rcases h.2 with ⟨hv, _⟩ | ⟨g', cap', cur, hv, hg, hh, hnc, hcm, hcs, ht⟩
  · cases hv
  · injection hv with h1 h2 h3
    injection h1 with h1
    injection h1 with h1
    subst h1 h3
    have hlt : g < w.heap.size := by
      rcases Nat.lt_or_ge g w.heap.size with h1 | h1
      · exact h1
      · rw [Array.getElem?_eq_none h1] at hh; cases hh
    refine .inr ⟨g, cap, cur.setIfInBounds (pre.length * 2 + 1) (.int .i64 t'), rfl, hg, ?_, hnc, hcm, by rw [Array.size_setIfInBounds]; exact hcs, ?_⟩
    · rw [Array.getElem?_eq_getElem hlt] at hh
      injection hh with hh
      unfold World.setCell
      simp only
      rw [Array.getElem?_eq_getElem (by simpa using hlt), Array.getElem_modify_self, hh]
      simp
    · rw [Array.toList_setIfInBounds, List.take_set, ht, ps_append, ps_append]
      have hl := ps_length pre
      rw [List.set_append_right _ _ (by omega), hl, show pre.length * 2 + 1 - pre.length * 2 = 1 by omega]
      simp [ps]

def RLiRel (w : World) (n : Nat) (l : List Int) (line : Int) (u i : Value) (wr : World) : Prop :=
  ∃ k : Nat, k ≤ n ∧ i = .int .i64 (k : Int) ∧ wr.ownsRow w.heap.size 30 2 u (Li.of line (l.take k)).length (ps (Li.of line (l.take k))) ∧ Below w.heap.size w wr

set_option maxHeartbeats 2000000 in
set_option maxRecDepth 100000 in
theorem rliof_any (a : Option Addr) (n c : Nat) (l : List Int) (line : Int) (w : World) (h : IntsAt w w.heap.size a n l) (hn : n ≤ 8796093022208) :
    Calls Try.prog 7 #[.slice a n c, .int .i64 line] w (RunsP 30 (Li.of line l) w) := by
  obtain ⟨i0, hi, hz0, hz1, hz2⟩ := info_parts info_rspan
  have H := Lib.hid h
  have hl := h.1
  clear h
  go_enter Try.func7, Try.ntmps7
  go_wp2
  go_loopw [5, 6] (RLiRel w n l line) (fun _ i _ => n - (intOf i).toNat)
  case atStart => exact ⟨0, Nat.zero_le _, rfl, World.ownsRow_nil _ _ _ _, Below.refl _ _⟩
  case round =>
    obtain ⟨k, hk, rfl, hO, hB⟩ := hrel
    have hs := hB.size
    by_cases hlt : k < n
    · obtain ⟨b, off, rfl, hlb, hc⟩ := (H.out.below hB).2 (by omega)
      have hck := hc k hlt
      have HT := Lib.hid (Li.of_take line l k (by omega))
      have HLE := Lib.hid (Nat.le_trans (Li.of_len line (l.take k)) (by rw [List.length_take]; exact Nat.min_le_left _ _))
      clear hc
      generalize l.getD k 0 = x at *
      generalize Li.of line (l.take k) = q at *
      have HB := Lib.hid hB
      clear hB
      by_cases hx : x = line
      · subst hx
        rcases Ru.last_cases q with rfl | ⟨pre, ⟨f, t⟩, rfl⟩
        · obtain ⟨A, cc, rfl, _⟩ := runs_slice hO
          have HO := Lib.hid hO
          clear hO
          rw [Li.step_nil] at HT
          go_wp2_with (at_builtin; refine wpList_append_lies _ rfl (.tmp 41) (.tmp 46) 26 rfl w.heap.size 30 i0 (.agg #[.int .i64 0, .int .i64 0]) 2 16 Try.underlying26 hi hz0 hz1 hz2 rfl (by decide) (.slice A 0 cc) 0 [] rfl ?c0 ⟨wr.heap.size, 0, none⟩ 1 1 (ps [((k : Int), (k : Int) + 1)]) rfl rfl ?c1 (ps_one _) (by decide) ?c3 ?c4 ?c5 (wr.heap.size + 1) ?c6 ?_)
          case c0 => exact World.ownsRow.alloc (w := wr) HO.out _
          case c1 => exact new_run wr _ _ _
          case c3 => unfold maxLen; omega
          case c4 => omega
          case c5 => simp; omega
          case c6 => simp
          intro g cap w2 hown2 hgrow2 hat2 _
          have HB2 := Lib.hid (own_grown HB.out HO.out hgrow2)
          have HO2 := Lib.hid hown2
          clear hown2 hgrow2 hat2
          go_wp2
          go_roundw
          case rel => exact ⟨k + 1, by omega, by go_num, by rw [HT.out]; exact HO2.out, HB2.out⟩
          case measure => simp [intOf]; omega
        · have hql : (pre ++ [(f, t)]).length = pre.length + 1 := by simp
          rw [hql] at hO
          have HQL := Lib.hid hql
          obtain ⟨g, cap, rfl⟩ := own_some hO
          obtain ⟨hgb, hgl, hg0, hg1, hfz⟩ := own_end hO
          have HO := Lib.hid hO
          have hpl : pre.length + 1 ≤ k := by rw [← hql]; exact HLE.out
          clear hO hql
          by_cases ht : t = (k : Int)
          · subst ht
            rw [Li.step_same] at HT
            go_wp2
            go_roundw
            case rel =>
              refine ⟨k + 1, by omega, by go_num, ?_, HB.out.setCell (p := ⟨g, pre.length * 2 + 1, none⟩) hgb _⟩
              rw [HT.out, show (pre ++ [(f, (k : Int) + 1)]).length = pre.length + 1 by simp]
              exact own_longer HO.out ((k : Int) + 1)
            case measure => simp [intOf]; omega
          · have hd : (t == (k : Int)) = false := by rw [beq_eq_false_iff_ne]; exact ht
            rw [Li.step_new _ ht] at HT
            go_wp2_with (at_builtin; refine wpList_append_lies _ rfl (.tmp 41) (.tmp 46) 26 rfl w.heap.size 30 i0 (.agg #[.int .i64 0, .int .i64 0]) 2 16 Try.underlying26 hi hz0 hz1 hz2 rfl (by decide) (.slice (some ⟨g, 0, none⟩) (pre.length + 1) cap) (pre.length + 1) (ps (pre ++ [(f, t)])) rfl ?c0 ⟨wr.heap.size, 0, none⟩ 1 1 (ps [((k : Int), (k : Int) + 1)]) rfl rfl ?c1 (ps_one _) (by decide) ?c3 ?c4 ?c5 (wr.heap.size + 1) ?c6 ?_)
            case c0 => exact World.ownsRow.alloc (w := wr) HO.out _
            case c1 => exact new_run wr _ _ _
            case c3 => unfold maxLen; omega
            case c4 => omega
            case c5 => simp; omega
            case c6 => simp
            intro g2 cap2 w2 hown2 hgrow2 hat2 _
            have HB2 := Lib.hid (own_grown HB.out HO.out hgrow2)
            have HO2 := Lib.hid hown2
            clear hown2 hgrow2 hat2
            go_wp2
            go_roundw
            case rel =>
              refine ⟨k + 1, by omega, by go_num, ?_, HB2.out⟩
              rw [HT.out, List.length_append, HQL.out, ps_append]
              exact HO2.out
            case measure => simp [intOf]; omega
      · have hd : (x == line) = false := by rw [beq_eq_false_iff_ne]; exact hx
        rw [Li.step_other _ _ hx] at HT
        have HO := Lib.hid hO
        clear hO
        go_wp2
        go_roundw
        case rel => exact ⟨k + 1, by omega, by go_num, by rw [HT.out]; exact HO.out, HB.out⟩
        case measure => simp [intOf]; omega
    · have HE : Hid (l.take k = l) := Lib.hid (List.take_of_length_le (by omega))
      obtain ⟨A, cc, rfl, _⟩ := runs_slice hO
      have HO := Lib.hid hO
      have HB := Lib.hid hB
      clear hO hB
      go_wp2
      go_ret
      refine ⟨_, rfl, ?_, HB.out⟩
      show wr.ownsRow _ _ _ (.slice A (Li.of line (l.take k)).length cc) _ _
      have h2 := HO.out
      rw [HE.out] at h2 ⊢
      exact h2

end Go.Proofs.Ytnfflddcekffeaa
