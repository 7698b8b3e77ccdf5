/-
 What runs.repeats and runs.Right answer. Conditions: none but that the runs can be read.
-/
import Derived.Test.YtdopheoedpldiaaGreatDoorAtA
set_option maxRecDepth 100000
namespace Go.Proofs.YtdopheoedpldiaaGreatDoor
open Go.RowKit
def lastV (r : Ru.Runs) : Option Int := r.getLast?.map (·.2)
theorem lastV_snoc (r : Ru.Runs) (p : Int × Int) : lastV (r ++ [p]) = some p.2 := by simp [lastV]
theorem lastV_take {r : Ru.Runs} {k : Nat} (h : k < r.length) : lastV (r.take (k + 1)) = some (r.getD k (0, 0)).2 := by rw [Ru.taken h (0, 0), lastV_snoc]
theorem lastV_getD {r : Ru.Runs} (h : 0 < r.length) : lastV r = some (r.getD (r.length - 1) (0, 0)).2 := by
 have := lastV_take (r := r) (k := r.length - 1) (by omega)
 rwa [show r.length - 1 + 1 = r.length by omega, List.take_length] at this
set_option maxHeartbeats 1000000 in
theorem repeats_any (a : Option Addr) (n c B : Nat) (r : Ru.Runs) (v : Int) (w : World) (h : PairsAt w B a n r) (hn : n ≤ 9223372036854775807) :
   Calls Tryz.prog 202 #[.slice a n c, .int .i64 v] w fun e w' => e = .returned (.bool (decide (lastV r = some v))) ∧ w' = w := by
 have hl := h.1
 by_cases h0 : 0 < n
 · obtain ⟨b, off, rfl, hlb, hc⟩ := h.2 h0
   have hc1 := (hc (n - 1) (by omega)).2
   have HV := Lib.hid (lastV_getD (r := r) (by omega))
   rw [hl] at HV
   clear hc h
   generalize (r.getD (n - 1) (0, 0)).2 = x at *
   obtain ⟨m, rfl⟩ : ∃ m, n = m + 1 := ⟨n - 1, by omega⟩
   simp only [Nat.add_sub_cancel] at hc1
   by_cases hx : x = v
   · subst hx
     rw [decide_eq_true HV.out]
     go_enter Tryz.func202, Tryz.ntmps202
     go_wp2
     go_ret
     exact ⟨rfl, rfl⟩
   · have hd : (x == v) = false := by rw [beq_eq_false_iff_ne]; exact hx
     have HD : Hid (decide (lastV r = some v) = false) := Lib.hid (decide_eq_false (by rw [HV.out]; intro e; injection e with e; exact hx e))
     rw [HD.out]
     go_enter Tryz.func202, Tryz.ntmps202
     go_wp2
     go_ret
     exact ⟨rfl, rfl⟩
 · obtain rfl : n = 0 := by omega
   have HD : Hid (decide (lastV r = some v) = false) := Lib.hid (by
     rw [List.eq_nil_of_length_eq_zero hl]
     rfl)
   rw [HD.out]
   clear h
   go_enter Tryz.func202, Tryz.ntmps202
   go_wp2
   go_ret
   exact ⟨rfl, rfl⟩
theorem rightS_prev (r : Ru.Runs) : ∀ {lf : Int} {pv : Option Int}, Ru.rightS r = some (lf, pv) → pv = lastV r ∧ 0 ≤ lf ∧ lf ≤ 2000 := by
 induction r using Ru.snocRec with
 | nil =>
   intro lf pv h
   injection h with h
   injection h with h1 h2
   subst h1 h2
   exact ⟨rfl, by omega, by omega⟩
 | append_singleton r p ih =>
   intro lf pv h
   rw [Ru.rightS_snoc] at h
   cases hs : Ru.rightS r with
   | none => rw [hs] at h; cases h
   | some st =>
     obtain ⟨l0, p0⟩ := st
     obtain ⟨_, i1, i2⟩ := ih hs
     rw [hs] at h
     simp only [Ru.stepR] at h
     split at h
     · cases h
     · rename_i hc
       injection h with h
       injection h with h1 h2
       rw [lastV_snoc]
       exact ⟨h2.symm, by omega, by omega⟩
end Go.Proofs.YtdopheoedpldiaaGreatDoor
namespace Go.Proofs.YtdopheoedpldiaaGreatDoor
open Go.RowKit
theorem own_last {w : World} {base : Nat} {e : TypeId} {g cap : Nat} {pre : Ru.Runs} {n v : Int} (h : w.ownsRow base e 2 (.slice (some ⟨g, 0, none⟩) (pre.length + 1) cap) (pre.length + 1) (ps (pre ++ [(n, v)]))) (n' : Int) :
   (w.setCell ⟨g, pre.length * 2, none⟩ (.int .i64 n')).ownsRow base e 2 (.slice (some ⟨g, 0, none⟩) (pre.length + 1) cap) (pre.length + 1) (ps (pre ++ [(n', v)])) := by
 refine ⟨by rw [ps_length]; simp, ?_⟩
 rcases h.2 with ⟨hv, _⟩ | ⟨g', cap', cur, hv, hg, hh, hnc, hcm, hcs, ht⟩
 · cases hv
 · injection hv with h1 h2 h3
   injection h1 with h1
   injection h1 with h1
   subst h1 h3
   have hlt : g < w.heap.size := by
     rcases Nat.lt_or_ge g w.heap.size with h1 | h1
     · exact h1
     · rw [Array.getElem?_eq_none h1] at hh; cases hh
   refine .inr ⟨g, cap, cur.setIfInBounds (pre.length * 2) (.int .i64 n'), rfl, hg, ?_, hnc, hcm, by rw [Array.size_setIfInBounds]; exact hcs, ?_⟩
   · rw [Array.getElem?_eq_getElem hlt] at hh
     injection hh with hh
     unfold World.setCell
     simp only
     rw [Array.getElem?_eq_getElem (by simpa using hlt), Array.getElem_modify_self, hh]
     simp
   · rw [Array.toList_setIfInBounds, List.take_set, ht, ps_append, ps_append]
     have hl := ps_length pre
     rw [List.set_append_right _ _ (by omega), hl]
     simp [ps]
theorem of_small {l : List Int} {k : Nat} {pre : Ru.Runs} {n v : Int} (hk : k ≤ l.length) (h : Ru.of (l.take k) = pre ++ [(n, v)]) : 1 ≤ n ∧ n ≤ (k : Int) := by
 have h1 := Ru.of_pos (l.take k) (n, v) (by rw [h]; simp)
 have h2 := congrArg List.length (Ru.flat_of (l.take k))
 rw [h, Ru.flat_append, Ru.flat_one, List.length_append, List.length_replicate, List.length_take] at h2
 exact ⟨h1, by simp only at h2 h1; omega⟩
theorem own_some {w : World} {base : Nat} {e : TypeId} {v : Value} {k size : Nat} {xs : List Value} (h : w.ownsRow base e size v (k + 1) xs) : ∃ g cap, v = .slice (some ⟨g, 0, none⟩) (k + 1) cap := by
 rcases h.2 with ⟨_, h0⟩ | ⟨g, cap, _, rfl, _⟩
 · omega
 · exact ⟨g, cap, rfl⟩
theorem own_end {w : World} {base : Nat} {e : TypeId} {g cap : Nat} {pre : Ru.Runs} {n v : Int} (h : w.ownsRow base e 2 (.slice (some ⟨g, 0, none⟩) (pre.length + 1) cap) (pre.length + 1) (ps (pre ++ [(n, v)]))) :
   base ≤ g ∧ g < w.heap.size ∧ w.cell? ⟨g, pre.length * 2, none⟩ = some (.int .i64 n) ∧ w.cell? ⟨g, pre.length * 2 + 1, none⟩ = some (.int .i64 v) ∧ ∀ i, w.frozen? ⟨g, i, none⟩ = false := by
 obtain ⟨_, hp, _⟩ := pairs_of_own h
 obtain ⟨b, off, e0, hb, hc⟩ := hp.2 (by omega)
 injection e0 with e0
 injection e0 with e0 e1
 subst e0 e1
 obtain ⟨c0, c1⟩ := hc pre.length (by omega)
 have hx : (pre ++ [(n, v)]).getD pre.length (0, 0) = (n, v) := by simp [List.getD]
 rw [hx] at c0 c1
 rw [Nat.zero_add] at c0 c1
 refine ⟨(h.lt g rfl).1, hb, c0, c1, fun i => ?_⟩
 rcases h.2 with ⟨hv, _⟩ | ⟨g', cap', cur, hv, _, hh, _⟩
 · cases hv
 · injection hv with h1
   injection h1 with h1
   injection h1 with h1
   subst h1
   simp [World.frozen?, hh]
def ROfRel (w : World) (n : Nat) (l : List Int) (u i : Value) (wr : World) : Prop :=
 ∃ k : Nat, k ≤ n ∧ i = .int .i64 (k : Int) ∧ wr.ownsRow w.heap.size 126 2 u (Ru.of (l.take k)).length (ps (Ru.of (l.take k))) ∧ Below w.heap.size w wr
set_option maxHeartbeats 2000000 in
theorem rof_any (a : Option Addr) (n c : Nat) (l : List Int) (w : World) (h : IntsAt w w.heap.size a n l) (hn : n ≤ 8796093022208) :
   Calls Tryz.prog 98 #[.slice a n c] w (RunsP 126 (Ru.of l) w) := by
 obtain ⟨i0, hi, hz0, hz1, hz2⟩ := info_parts info_rrun
 have H := Lib.hid h
 have hl := h.1
 clear h
 go_enter Tryz.func98, Tryz.ntmps98
 go_wp2
 go_loopw [3, 4] (ROfRel w n l) (fun _ i _ => n - (intOf i).toNat)
 case atStart => exact ⟨0, Nat.zero_le _, rfl, World.ownsRow_nil _ _ _ _, Below.refl _ _⟩
 case round =>
   obtain ⟨k, hk, rfl, hO, hB⟩ := hrel
   have hs := hB.size
   by_cases hlt : k < n
   · obtain ⟨b, off, rfl, hlb, hc⟩ := (H.out.below hB).2 (by omega)
     have hck := hc k hlt
     have HT := Lib.hid (Ru.of_take l k (by omega))
     have HSM := Lib.hid (fun pre n v => of_small (l := l) (k := k) (pre := pre) (n := n) (v := v) (by omega))
     have HLE := Lib.hid (Nat.le_trans (Ru.of_len (l.take k)) (by rw [List.length_take]; exact Nat.min_le_left _ _))
     clear hc
     generalize l.getD k 0 = x at *
     generalize Ru.of (l.take k) = q at *
     have HB := Lib.hid hB
     clear hB
     rcases Ru.last_cases q with rfl | ⟨pre, ⟨N, V⟩, rfl⟩
     · obtain ⟨A, cc, rfl, _⟩ := runs_slice hO
       have HO := Lib.hid hO
       clear hO
       rw [Ru.snoc_nil] at HT
       go_wp2
       go_quiet (fail)
       go_wp2_with (at_builtin; refine wpList_append_lies _ rfl (.tmp 38) (.tmp 44) 123 rfl w.heap.size 126 i0 (.agg #[.int .i64 0, .int .i64 0]) 2 16 Tryz.underlying123 hi hz0 hz1 hz2 rfl (by decide) (.slice A 0 cc) 0 [] rfl ?c0 ⟨wr.heap.size, 0, none⟩ 1 1 (ps [(1, x)]) rfl rfl ?c1 (ps_one _) (by decide) ?c3 ?c4 ?c5 (wr.heap.size + 1) ?c6 ?_)
       case c0 => exact World.ownsRow.alloc (w := wr.drewN nq) HO.out _
       case c1 => exact new_run (wr.drewN nq) _ _ _
       case c3 => unfold maxLen; omega
       case c4 => omega
       case c5 => simp; omega
       case c6 => simp
       intro g cap w2 hown2 hgrow2 hat2 _
       have HB2 := Lib.hid (own_grown (below_drewN HB.out nq) (show (wr.drewN nq).ownsRow _ _ _ _ _ _ from HO.out) hgrow2)
       have HO2 := Lib.hid hown2
       clear hown2 hgrow2 hat2
       go_wp2
       go_roundw
       case rel => exact ⟨k + 1, by omega, by go_num, by rw [HT.out]; exact HO2.out, HB2.out⟩
       case measure => simp [intOf]; omega
     · have hql : (pre ++ [(N, V)]).length = pre.length + 1 := by simp
       rw [hql] at hO
       have HQL := Lib.hid hql
       obtain ⟨g, cap, rfl⟩ := own_some hO
       obtain ⟨hgb, hgl, hg0, hg1, hfz⟩ := own_end hO
       have HO := Lib.hid hO
       obtain ⟨hN1, hN2⟩ := HSM.out pre N V rfl
       have hpl : pre.length + 1 ≤ k := by rw [← hql]; exact HLE.out
       clear hO hql
       by_cases hV : V = x
       · subst hV
         rw [Ru.snoc_same] at HT
         go_wp2
         go_quiet (fail)
         go_wp2
         go_roundw
         case rel =>
           refine ⟨k + 1, by omega, by go_num, ?_, below_drewN (HB.out.setCell (p := ⟨g, pre.length * 2, none⟩) hgb _) _⟩
           rw [HT.out, show (pre ++ [(N + 1, V)]).length = pre.length + 1 by simp]
           exact own_last HO.out (N + 1)
         case measure => simp [intOf]; omega
       · have hd : (V == x) = false := by rw [beq_eq_false_iff_ne]; exact hV
         rw [Ru.snoc_other _ _ _ _ hV] at HT
         go_wp2
         go_quiet (fail)
         go_wp2_with (at_builtin; refine wpList_append_lies _ rfl (.tmp 38) (.tmp 44) 123 rfl w.heap.size 126 i0 (.agg #[.int .i64 0, .int .i64 0]) 2 16 Tryz.underlying123 hi hz0 hz1 hz2 rfl (by decide) (.slice (some ⟨g, 0, none⟩) (pre.length + 1) cap) (pre.length + 1) (ps (pre ++ [(N, V)])) rfl ?c0 ⟨wr.heap.size, 0, none⟩ 1 1 (ps [(1, x)]) rfl rfl ?c1 (ps_one _) (by decide) ?c3 ?c4 ?c5 (wr.heap.size + 1) ?c6 ?_)
         case c0 => exact World.ownsRow.alloc (w := wr.drewN nq) HO.out _
         case c1 => exact new_run (wr.drewN nq) _ _ _
         case c3 => unfold maxLen; omega
         case c4 => omega
         case c5 => simp; omega
         case c6 => simp
         intro g2 cap2 w2 hown2 hgrow2 hat2 _
         have HB2 := Lib.hid (own_grown (below_drewN HB.out nq) (show (wr.drewN nq).ownsRow _ _ _ _ _ _ from HO.out) hgrow2)
         have HO2 := Lib.hid hown2
         clear hown2 hgrow2 hat2
         go_wp2
         go_roundw
         case rel =>
           refine ⟨k + 1, by omega, by go_num, ?_, HB2.out⟩
           rw [HT.out, List.length_append, HQL.out, ps_append]
           exact HO2.out
         case measure => simp [intOf]; omega
   · have HE : Hid (l.take k = l) := Lib.hid (List.take_of_length_le (by omega))
     obtain ⟨A, cc, rfl, _⟩ := runs_slice hO
     have HO := Lib.hid hO
     have HB := Lib.hid hB
     clear hO hB
     go_wp2
     go_ret
     refine ⟨_, rfl, ?_, HB.out⟩
     show wr.ownsRow _ _ _ (.slice A (Ru.of (l.take k)).length cc) _ _
     have h2 := HO.out
     rw [HE.out] at h2 ⊢
     exact h2
end Go.Proofs.YtdopheoedpldiaaGreatDoor
