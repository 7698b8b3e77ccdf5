/-
  What maps.At, maps.Inside and the document's At, Inside tell of tables of sets. Conditions: the tables can be read; words of 64 bits.
  What maps.runsOf tells: the runs of alike sets, in new memory. Conditions: the table can be read; at most 2^36 sets.
-/
import Derived.Test.YtifkoihhlhadhaaGreatDoorMpMA
import Derived.Test.YtifkoihhlhadhaaGreatDoorSlAA
import Derived.BigQuiet
import Derived.Deep.QuietTactic
import Derived.Deep.DeepMust
import Derived.WalkSmall
namespace Go.Proofs.YtifkoihhlhadhaaGreatDoor
open Go.RowKit

theorem mp_ok {l : List Sl.Four} (h : ∀ s ∈ l, s.ok) {k : Nat} (hk : k < l.length) : (l.getD k Sl.no).ok := by
  have e : l.getD k Sl.no = l[k] := by simp [List.getD, hk]
  rw [e]
  exact h _ (List.getElem_mem hk)

/-- slices.EqualFunc over slots.Inside: as many, and each inside the other's. -/
def InsRel (n : Nat) (l r : List Sl.Four) (w : World) (i : Value) (wr : World) : Prop :=
  ∃ k : Nat, k ≤ n ∧ i = .int .i64 (k : Int) ∧ Below w.heap.size w wr ∧ ∀ j, j < k → (l.getD j Sl.no).inside (r.getD j Sl.no) = true

end Go.Proofs.YtifkoihhlhadhaaGreatDoor

namespace Go.Proofs.YtifkoihhlhadhaaGreatDoor
open Go.RowKit

set_option maxRecDepth 100000 in
theorem info_mrun : (Tryz.prog.info? 118).map (fun i => (i.zero, i.size, i.bytes)) = some (some (.agg #[.int .i64 0, .int .u64 0, .int .u64 0, .int .u64 0, .int .u64 0]), 5, 40) := by kernel_rfl

set_option maxRecDepth 100000 in
/-- Two sets held against each other. -/
theorem eq_sets (s t : Sl.Four) (w : World) : (Op.equalIn 10000 93 (.agg #[.int .u64 (s.a : Int), .int .u64 (s.b : Int), .int .u64 (s.c : Int), .int .u64 (s.d : Int)]) (.agg #[.int .u64 (t.a : Int), .int .u64 (t.b : Int), .int .u64 (t.c : Int), .int .u64 (t.d : Int)])).run Tryz.prog w = .ok (Mp.same s t) w := by
  rw [eq_four]
  congr 1
  unfold Mp.same
  rw [Bool.eq_iff_iff]
  simp
  omega

/-- Runs are told, in memory of the call's own; nothing below has turned. -/
def MrunsP (r : Mp.Runs) (w : World) (e : Ending) (w' : World) : Prop := ∃ A c, e = .returned (.slice A r.length c) ∧ SetRunsAt w' w'.heap.size A r.length r ∧ r.length ≤ c ∧ Below w.heap.size w w'

/-- Between two rounds. -/
def MroRel (n : Nat) (l : List Sl.Four) (w : World) (u fv i : Value) (wr : World) : Prop :=
  ∃ (k fr : Nat) (q : Mp.Runs) (m : Nat), k ≤ n ∧ i = .int .i64 (k : Int) ∧ fv = .int .i64 (fr : Int) ∧ Mp.Part l k fr ∧ q = Mp.of (l.take fr) ∧ m = q.length ∧ wr.ownsRow w.heap.size 118 5 u m (runs q) ∧ Below w.heap.size w wr

set_option maxHeartbeats 4000000 in
set_option maxRecDepth 100000 in
theorem mprunsof_any (a : Option Addr) (n c : Nat) (l : List Sl.Four) (w : World) (h : SetsAt w w.heap.size a n l) (hn : n ≤ 68719476736) :
    Calls Tryz.prog 90 #[.slice a n c] w (MrunsP (Mp.of l) w) := by
  obtain ⟨i0, hi, hz0, hz1, hz2⟩ := info_parts info_mrun
  have H := Lib.hid h
  have HL := Lib.hid h.1
  clear h
  go_enter Tryz.func90, Tryz.ntmps90
  go_wp2
  go_loopw [3, 4, 10] (fun u fv i wr => MroRel n l w u fv i wr) (fun _ _ i _ => n - (intOf i).toNat)
  case atStart => exact ⟨0, 0, [], 0, Nat.zero_le _, rfl, rfl, Mp.Part.zero l, rfl, rfl, World.ownsRow_nil _ _ _ _, Below.refl _ _⟩
  case round =>
    obtain ⟨k, fr, q, m, hk, rfl, rfl, hP, hq, hm, hO, hB⟩ := hrel
    have HW := Lib.hid hO
    have HB := Lib.hid hB
    have HQ := Lib.hid (And.intro hq hm)
    have HP := Lib.hid hP
    have hfk := hP.le
    have HMl : Hid (m ≤ fr) := Lib.hid (by rw [hm, hq]; exact Nat.le_trans (Mp.of_len _) (by simp; omega))
    clear hO hB hq hm hP
    by_cases hlt : k < n
    · obtain ⟨b, off, y, rfl, hbl, hy, hky, c0, c1, c2, c3⟩ := sets_cell (H.out.on HB.out) hlt
      have HOf := Lib.hid (HP.out.of_take hky)
      rw [hy] at HOf
      obtain ⟨d, hdd⟩ : ∃ d : Nat, k + 1 - fr = d := ⟨_, rfl⟩
      have HD := Lib.hid hdd
      have hsub : (k : Int) + 1 - (fr : Int) = (d : Int) := by omega
      clear hdd
      by_cases hend : k + 1 = n
      · have hd : ((k : Int) + 1 == (n : Int)) = true := by rw [beq_iff_eq]; omega
        have hd' : decide ((k : Int) + 1 = (n : Int)) = true := decide_eq_true (by omega)
        have HPc := Lib.hid (HP.out.cut (fun h => absurd h (by rw [HL.out]; omega)))
        have HO1 := Lib.hid (HW.out.alloc (.cells #[.int .u64 (y.a : Int), .int .u64 (y.b : Int), .int .u64 (y.c : Int), .int .u64 (y.d : Int)] 93))
        have HB1 := Lib.hid (HB.out.alloc HB.out.size (.cells #[.int .u64 (y.a : Int), .int .u64 (y.b : Int), .int .u64 (y.c : Int), .int .u64 (y.d : Int)] 93))
        have HE := Lib.hid (And.intro HOf.out HQ.out)
        clear HOf hy hky
        go_wp2
        go_quiet (fail)
        have HO2 := Lib.hid (ownsRow_below HO1.out (below_drewN (Below.refl _ _) nq))
        have HB2 := Lib.hid (HB1.out.trans (below_drewN (Below.refl _ (wr.alloc (.cells #[.int .u64 (y.a : Int), .int .u64 (y.b : Int), .int .u64 (y.c : Int), .int .u64 (y.d : Int)] 93))) nq |>.mono HB1.out.size))
        have s0 := (SetAt.below (SetAt.new wr y) (below_drewN (Below.refl (wr.alloc (.cells #[.int .u64 (y.a : Int), .int .u64 (y.b : Int), .int .u64 (y.c : Int), .int .u64 (y.d : Int)] 93)).heap.size _) nq) (by rw [World.size_alloc]; omega)).reads
        generalize (wr.alloc (.cells #[.int .u64 (y.a : Int), .int .u64 (y.b : Int), .int .u64 (y.c : Int), .int .u64 (y.d : Int)] 93)).drewN nq = w2 at *
        obtain ⟨⟨e0, e1, e2, e3⟩, _⟩ := s0
        clear c0 c1 c2 c3
        go_wp2_with (at_builtin; refine wpList_append_lies _ rfl (.tmp 29) (.tmp 35) 115 rfl w.heap.size 118 i0 (.agg #[.int .i64 0, .int .u64 0, .int .u64 0, .int .u64 0, .int .u64 0]) 5 40 Tryz.underlying115 hi hz0 hz1 hz2 rfl (by decide) u3 m (runs q) rfl (HO2.out.alloc _) ⟨w2.heap.size, 0, none⟩ 1 1 (runs [(d, y)]) rfl rfl ?c1 (runs_one _) (by decide) ?c3 ?c4 ?c5 (w2.heap.size + 1) ?c6 ?_)
        case c1 => exact new_set_run w2 _ d y
        case c3 => have := HMl.out; unfold maxLen; omega
        case c4 => have := HMl.out; omega
        case c5 => have := HB2.out.size; simp; omega
        case c6 => simp
        intro ga cap w4 hown4 hgrow4 hat4 _
        have HO5 := Lib.hid hown4
        have HB5 := Lib.hid ((HB2.out.alloc HB2.out.size (.cells #[.int .i64 (d : Int), .int .u64 (y.a : Int), .int .u64 (y.b : Int), .int .u64 (y.c : Int), .int .u64 (y.d : Int)] 118)).grown hgrow4 (by have := HB2.out.size; simp; omega) (fun b e => (HO2.out.lt b e).1))
        clear hown4 hgrow4 hat4 e0 e1 e2 e3
        go_wp2
        go_roundw
        case rel => exact ⟨k + 1, k + 1, q ++ [(d, y)], m + 1, hlt, by go_num, by go_num, HPc.out, by rw [HE.out.1, HE.out.2.1, HD.out], by rw [List.length_append, HE.out.2.2]; rfl, by rw [runs_append]; exact HO5.out, HB5.out⟩
        case measure => simp [intOf]; omega
      · have hd : ((k : Int) + 1 == (n : Int)) = false := by rw [beq_eq_false_iff_ne]; omega
        have hd' : decide ((k : Int) + 1 = (n : Int)) = false := decide_eq_false (by omega)
        have hkn : (k : Int) + 1 < (n : Int) := by omega
        obtain ⟨b2, off2, z, e2, _, hz, hkz, d0, d1, d2, d3⟩ := sets_cell (H.out.below (HB.out.alloc HB.out.size (.cells #[.int .u64 (y.a : Int), .int .u64 (y.b : Int), .int .u64 (y.c : Int), .int .u64 (y.d : Int)] 93))) (show k + 1 < n by omega)
        injection e2 with e2
        injection e2 with e3 e4
        subst e3 e4
        have eqs := eq_sets z y
        by_cases hzy : z = y
        · rw [Mp.same_iff.2 hzy] at eqs
          have HPc := Lib.hid (HP.out.more hkz (by rw [hz, hy]; exact hzy))
          have HO1 := Lib.hid (HW.out.alloc (.cells #[.int .u64 (y.a : Int), .int .u64 (y.b : Int), .int .u64 (y.c : Int), .int .u64 (y.d : Int)] 93))
          have HB1 := Lib.hid (HB.out.alloc HB.out.size (.cells #[.int .u64 (y.a : Int), .int .u64 (y.b : Int), .int .u64 (y.c : Int), .int .u64 (y.d : Int)] 93))
          clear HOf hy hky hz hzy hkz
          go_wp2
          go_quiet (fail)
          go_wp2
          go_roundw
          case rel => exact ⟨k + 1, fr, q, m, hlt, by go_num, rfl, HPc.out, HQ.out.1, HQ.out.2, ownsRow_below HO1.out (below_drewN (Below.refl _ _) nq), HB1.out.trans (below_drewN (Below.refl _ (wr.alloc (.cells #[.int .u64 (y.a : Int), .int .u64 (y.b : Int), .int .u64 (y.c : Int), .int .u64 (y.d : Int)] 93))) nq |>.mono HB1.out.size)⟩
          case measure => simp [intOf]; omega
        · rw [Mp.same_not hzy] at eqs
          have HPc := Lib.hid (HP.out.cut (fun _ => by rw [hz, hy]; exact hzy))
          have HO1 := Lib.hid (HW.out.alloc (.cells #[.int .u64 (y.a : Int), .int .u64 (y.b : Int), .int .u64 (y.c : Int), .int .u64 (y.d : Int)] 93))
          have HB1 := Lib.hid (HB.out.alloc HB.out.size (.cells #[.int .u64 (y.a : Int), .int .u64 (y.b : Int), .int .u64 (y.c : Int), .int .u64 (y.d : Int)] 93))
          have HE := Lib.hid (And.intro HOf.out HQ.out)
          clear HOf hy hky hz hzy hkz
          go_wp2
          go_quiet (fail)
          have HO2 := Lib.hid (ownsRow_below HO1.out (below_drewN (Below.refl _ _) nq))
          have HB2 := Lib.hid (HB1.out.trans (below_drewN (Below.refl _ (wr.alloc (.cells #[.int .u64 (y.a : Int), .int .u64 (y.b : Int), .int .u64 (y.c : Int), .int .u64 (y.d : Int)] 93))) nq |>.mono HB1.out.size))
          have s0 := (SetAt.below (SetAt.new wr y) (below_drewN (Below.refl (wr.alloc (.cells #[.int .u64 (y.a : Int), .int .u64 (y.b : Int), .int .u64 (y.c : Int), .int .u64 (y.d : Int)] 93)).heap.size _) nq) (by rw [World.size_alloc]; omega)).reads
          generalize (wr.alloc (.cells #[.int .u64 (y.a : Int), .int .u64 (y.b : Int), .int .u64 (y.c : Int), .int .u64 (y.d : Int)] 93)).drewN nq = w2 at *
          obtain ⟨⟨e0, e1, e2, e3⟩, _⟩ := s0
          clear c0 c1 c2 c3 d0 d1 d2 d3 eqs
          go_wp2_with (at_builtin; refine wpList_append_lies _ rfl (.tmp 29) (.tmp 35) 115 rfl w.heap.size 118 i0 (.agg #[.int .i64 0, .int .u64 0, .int .u64 0, .int .u64 0, .int .u64 0]) 5 40 Tryz.underlying115 hi hz0 hz1 hz2 rfl (by decide) u3 m (runs q) rfl (HO2.out.alloc _) ⟨w2.heap.size, 0, none⟩ 1 1 (runs [(d, y)]) rfl rfl ?c1 (runs_one _) (by decide) ?c3 ?c4 ?c5 (w2.heap.size + 1) ?c6 ?_)
          case c1 => exact new_set_run w2 _ d y
          case c3 => have := HMl.out; unfold maxLen; omega
          case c4 => have := HMl.out; omega
          case c5 => have := HB2.out.size; simp; omega
          case c6 => simp
          intro ga cap w4 hown4 hgrow4 hat4 _
          have HO5 := Lib.hid hown4
          have HB5 := Lib.hid ((HB2.out.alloc HB2.out.size (.cells #[.int .i64 (d : Int), .int .u64 (y.a : Int), .int .u64 (y.b : Int), .int .u64 (y.c : Int), .int .u64 (y.d : Int)] 118)).grown hgrow4 (by have := HB2.out.size; simp; omega) (fun b e => (HO2.out.lt b e).1))
          clear hown4 hgrow4 hat4 e0 e1 e2 e3
          go_wp2
          go_roundw
          case rel => exact ⟨k + 1, k + 1, q ++ [(d, y)], m + 1, hlt, by go_num, by go_num, HPc.out, by rw [HE.out.1, HE.out.2.1, HD.out], by rw [List.length_append, HE.out.2.2]; rfl, by rw [runs_append]; exact HO5.out, HB5.out⟩
          case measure => simp [intOf]; omega
    · obtain rfl : k = n := by omega
      obtain rfl : fr = k := HP.out.done HL.out.symm
      have HE : Hid (q = Mp.of l) := Lib.hid (by rw [HQ.out.1, List.take_of_length_le (by rw [HL.out]; omega)])
      have hO := HW.out
      rw [HE.out, show m = (Mp.of l).length by rw [← HE.out, HQ.out.2]] at hO
      obtain ⟨A, c', rfl, hA, hlc⟩ := set_runs_slice hO
      have HF := Lib.hid (And.intro hA hlc)
      clear hA hO hlc
      generalize Mp.of l = r at *
      go_wp2
      go_ret
      exact ⟨A, c', rfl, HF.out.1, HF.out.2, HB.out⟩
end Go.Proofs.YtifkoihhlhadhaaGreatDoor
