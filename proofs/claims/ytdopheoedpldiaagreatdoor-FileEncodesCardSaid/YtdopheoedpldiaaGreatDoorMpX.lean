/-
 What maps.At, maps.Inside and the document's At, Inside tell of tables of sets. Conditions: the tables can be read; words of 64 bits.
-/
import Derived.Test.YtdopheoedpldiaaGreatDoorMpMA
import Derived.BigQuiet
import Derived.Deep.QuietTactic
import Derived.Deep.DeepMust
import Derived.WalkSmall
set_option maxRecDepth 100000
namespace Go.Proofs.YtdopheoedpldiaaGreatDoor
open Go.RowKit
theorem mp_ok {l : List Sl.Four} (h : ∀ s ∈ l, s.ok) {k : Nat} (hk : k < l.length) : (l.getD k Sl.no).ok := by
 have e : l.getD k Sl.no = l[k] := by simp [List.getD, hk]
 rw [e]
 exact h _ (List.getElem_mem hk)
end Go.Proofs.YtdopheoedpldiaaGreatDoor
namespace Go.Proofs.YtdopheoedpldiaaGreatDoor
open Go.RowKit
theorem info_mrun : (Tryz.prog.info? 120).map (fun i => (i.zero, i.size, i.bytes)) = some (some (.agg #[.int .i64 0, .int .u64 0, .int .u64 0, .int .u64 0, .int .u64 0]), 5, 40) := by kernel_rfl
theorem eq_sets (s t : Sl.Four) (w : World) : (Op.equalIn 10000 107 (.agg #[.int .u64 (s.a : Int), .int .u64 (s.b : Int), .int .u64 (s.c : Int), .int .u64 (s.d : Int)]) (.agg #[.int .u64 (t.a : Int), .int .u64 (t.b : Int), .int .u64 (t.c : Int), .int .u64 (t.d : Int)])).run Tryz.prog w = .ok (Mp.same s t) w := by
 rw [eq_four]
 congr 1
 unfold Mp.same
 rw [Bool.eq_iff_iff]
 simp
 omega
def MrunsP (r : Mp.Runs) (w : World) (e : Ending) (w' : World) : Prop := ∃ A c, e = .returned (.slice A r.length c) ∧ SetRunsAt w' w'.heap.size A r.length r ∧ r.length ≤ c ∧ Below w.heap.size w w'
def MroRel (n : Nat) (l : List Sl.Four) (w : World) (u fv i : Value) (wr : World) : Prop :=
 ∃ (k fr : Nat) (q : Mp.Runs) (m : Nat), k ≤ n ∧ i = .int .i64 (k : Int) ∧ fv = .int .i64 (fr : Int) ∧ Mp.Part l k fr ∧ q = Mp.of (l.take fr) ∧ m = q.length ∧ wr.ownsRow w.heap.size 120 5 u m (runs q) ∧ Below w.heap.size w wr
set_option maxHeartbeats 4000000 in
theorem mprunsof_any (a : Option Addr) (n c : Nat) (l : List Sl.Four) (w : World) (h : SetsAt w w.heap.size a n l) (hn : n ≤ 68719476736) :
   Calls Tryz.prog 95 #[.slice a n c] w (MrunsP (Mp.of l) w) := by
 obtain ⟨i0, hi, hz0, hz1, hz2⟩ := info_parts info_mrun
 have H := Lib.hid h
 have HL := Lib.hid h.1
 clear h
 go_enter Tryz.func95, Tryz.ntmps95
 go_wp2
 go_loopw [3, 4, 10] (fun u fv i wr => MroRel n l w u fv i wr) (fun _ _ i _ => n - (intOf i).toNat)
 case atStart => exact ⟨0, 0, [], 0, Nat.zero_le _, rfl, rfl, Mp.Part.zero l, rfl, rfl, World.ownsRow_nil _ _ _ _, Below.refl _ _⟩
 case round =>
   obtain ⟨k, fr, q, m, hk, rfl, rfl, hP, hq, hm, hO, hB⟩ := hrel
   have HW := Lib.hid hO
   have HB := Lib.hid hB
   have HQ := Lib.hid (And.intro hq hm)
   have HP := Lib.hid hP
   have hfk := hP.le
   have HMl : Hid (m ≤ fr) := Lib.hid (by rw [hm, hq]; exact Nat.le_trans (Mp.of_len _) (by simp; omega))
   clear hO hB hq hm hP
   by_cases hlt : k < n
   · obtain ⟨b, off, y, rfl, hbl, hy, hky, c0, c1, c2, c3⟩ := sets_cell (H.out.on HB.out) hlt
     have HOf := Lib.hid (HP.out.of_take hky)
     rw [hy] at HOf
     obtain ⟨d, hdd⟩ : ∃ d : Nat, k + 1 - fr = d := ⟨_, rfl⟩
     have HD := Lib.hid hdd
     have hsub : (k : Int) + 1 - (fr : Int) = (d : Int) := by omega
     clear hdd
     by_cases hend : k + 1 = n
     · have hd : ((k : Int) + 1 == (n : Int)) = true := by rw [beq_iff_eq]; omega
       have hd' : decide ((k : Int) + 1 = (n : Int)) = true := decide_eq_true (by omega)
       have HPc := Lib.hid (HP.out.cut (fun h => absurd h (by rw [HL.out]; omega)))
       have HO1 := Lib.hid (HW.out.alloc (.cells #[.int .u64 (y.a : Int), .int .u64 (y.b : Int), .int .u64 (y.c : Int), .int .u64 (y.d : Int)] 107))
       have HB1 := Lib.hid (HB.out.alloc HB.out.size (.cells #[.int .u64 (y.a : Int), .int .u64 (y.b : Int), .int .u64 (y.c : Int), .int .u64 (y.d : Int)] 107))
       have HE := Lib.hid (And.intro HOf.out HQ.out)
       clear HOf hy hky
       go_wp2
       go_quiet (fail)
       have HO2 := Lib.hid (ownsRow_below HO1.out (below_drewN (Below.refl _ _) nq))
       have HB2 := Lib.hid (HB1.out.trans (below_drewN (Below.refl _ (wr.alloc (.cells #[.int .u64 (y.a : Int), .int .u64 (y.b : Int), .int .u64 (y.c : Int), .int .u64 (y.d : Int)] 107))) nq |>.mono HB1.out.size))
       have s0 := (SetAt.below (SetAt.new wr y) (below_drewN (Below.refl (wr.alloc (.cells #[.int .u64 (y.a : Int), .int .u64 (y.b : Int), .int .u64 (y.c : Int), .int .u64 (y.d : Int)] 107)).heap.size _) nq) (by rw [World.size_alloc]; omega)).reads
       generalize (wr.alloc (.cells #[.int .u64 (y.a : Int), .int .u64 (y.b : Int), .int .u64 (y.c : Int), .int .u64 (y.d : Int)] 107)).drewN nq = w2 at *
       obtain ⟨⟨e0, e1, e2, e3⟩, _⟩ := s0
       clear c0 c1 c2 c3
       go_wp2_with (at_builtin; refine wpList_append_lies _ rfl (.tmp 29) (.tmp 35) 117 rfl w.heap.size 120 i0 (.agg #[.int .i64 0, .int .u64 0, .int .u64 0, .int .u64 0, .int .u64 0]) 5 40 Tryz.underlying117 hi hz0 hz1 hz2 rfl (by decide) u3 m (runs q) rfl (HO2.out.alloc _) ⟨w2.heap.size, 0, none⟩ 1 1 (runs [(d, y)]) rfl rfl ?c1 (runs_one _) (by decide) ?c3 ?c4 ?c5 (w2.heap.size + 1) ?c6 ?_)
       case c1 => exact new_set_run w2 _ d y
       case c3 => have := HMl.out; unfold maxLen; omega
       case c4 => have := HMl.out; omega
       case c5 => have := HB2.out.size; simp; omega
       case c6 => simp
       intro ga cap w4 hown4 hgrow4 hat4 _
       have HO5 := Lib.hid hown4
       have HB5 := Lib.hid ((HB2.out.alloc HB2.out.size (.cells #[.int .i64 (d : Int), .int .u64 (y.a : Int), .int .u64 (y.b : Int), .int .u64 (y.c : Int), .int .u64 (y.d : Int)] 120)).grown hgrow4 (by have := HB2.out.size; simp; omega) (fun b e => (HO2.out.lt b e).1))
       clear hown4 hgrow4 hat4 e0 e1 e2 e3
       go_wp2
       go_roundw
       case rel => exact ⟨k + 1, k + 1, q ++ [(d, y)], m + 1, hlt, by go_num, by go_num, HPc.out, by rw [HE.out.1, HE.out.2.1, HD.out], by rw [List.length_append, HE.out.2.2]; rfl, by rw [runs_append]; exact HO5.out, HB5.out⟩
       case measure => simp [intOf]; omega
     · have hd : ((k : Int) + 1 == (n : Int)) = false := by rw [beq_eq_false_iff_ne]; omega
       have hd' : decide ((k : Int) + 1 = (n : Int)) = false := decide_eq_false (by omega)
       have hkn : (k : Int) + 1 < (n : Int) := by omega
       obtain ⟨b2, off2, z, e2, _, hz, hkz, d0, d1, d2, d3⟩ := sets_cell (H.out.below (HB.out.alloc HB.out.size (.cells #[.int .u64 (y.a : Int), .int .u64 (y.b : Int), .int .u64 (y.c : Int), .int .u64 (y.d : Int)] 107))) (show k + 1 < n by omega)
       injection e2 with e2
       injection e2 with e3 e4
       subst e3 e4
       have eqs := eq_sets z y
       by_cases hzy : z = y
       · rw [Mp.same_iff.2 hzy] at eqs
         have HPc := Lib.hid (HP.out.more hkz (by rw [hz, hy]; exact hzy))
         have HO1 := Lib.hid (HW.out.alloc (.cells #[.int .u64 (y.a : Int), .int .u64 (y.b : Int), .int .u64 (y.c : Int), .int .u64 (y.d : Int)] 107))
         have HB1 := Lib.hid (HB.out.alloc HB.out.size (.cells #[.int .u64 (y.a : Int), .int .u64 (y.b : Int), .int .u64 (y.c : Int), .int .u64 (y.d : Int)] 107))
         clear HOf hy hky hz hzy hkz
         go_wp2
         go_quiet (fail)
         go_wp2
         go_roundw
         case rel => exact ⟨k + 1, fr, q, m, hlt, by go_num, rfl, HPc.out, HQ.out.1, HQ.out.2, ownsRow_below HO1.out (below_drewN (Below.refl _ _) nq), HB1.out.trans (below_drewN (Below.refl _ (wr.alloc (.cells #[.int .u64 (y.a : Int), .int .u64 (y.b : Int), .int .u64 (y.c : Int), .int .u64 (y.d : Int)] 107))) nq |>.mono HB1.out.size)⟩
         case measure => simp [intOf]; omega
       · rw [Mp.same_not hzy] at eqs
         have HPc := Lib.hid (HP.out.cut (fun _ => by rw [hz, hy]; exact hzy))
         have HO1 := Lib.hid (HW.out.alloc (.cells #[.int .u64 (y.a : Int), .int .u64 (y.b : Int), .int .u64 (y.c : Int), .int .u64 (y.d : Int)] 107))
         have HB1 := Lib.hid (HB.out.alloc HB.out.size (.cells #[.int .u64 (y.a : Int), .int .u64 (y.b : Int), .int .u64 (y.c : Int), .int .u64 (y.d : Int)] 107))
         have HE := Lib.hid (And.intro HOf.out HQ.out)
         clear HOf hy hky hz hzy hkz
         go_wp2
         go_quiet (fail)
         have HO2 := Lib.hid (ownsRow_below HO1.out (below_drewN (Below.refl _ _) nq))
         have HB2 := Lib.hid (HB1.out.trans (below_drewN (Below.refl _ (wr.alloc (.cells #[.int .u64 (y.a : Int), .int .u64 (y.b : Int), .int .u64 (y.c : Int), .int .u64 (y.d : Int)] 107))) nq |>.mono HB1.out.size))
         have s0 := (SetAt.below (SetAt.new wr y) (below_drewN (Below.refl (wr.alloc (.cells #[.int .u64 (y.a : Int), .int .u64 (y.b : Int), .int .u64 (y.c : Int), .int .u64 (y.d : Int)] 107)).heap.size _) nq) (by rw [World.size_alloc]; omega)).reads
         generalize (wr.alloc (.cells #[.int .u64 (y.a : Int), .int .u64 (y.b : Int), .int .u64 (y.c : Int), .int .u64 (y.d : Int)] 107)).drewN nq = w2 at *
         obtain ⟨⟨e0, e1, e2, e3⟩, _⟩ := s0
         clear c0 c1 c2 c3 d0 d1 d2 d3 eqs
         go_wp2_with (at_builtin; refine wpList_append_lies _ rfl (.tmp 29) (.tmp 35) 117 rfl w.heap.size 120 i0 (.agg #[.int .i64 0, .int .u64 0, .int .u64 0, .int .u64 0, .int .u64 0]) 5 40 Tryz.underlying117 hi hz0 hz1 hz2 rfl (by decide) u3 m (runs q) rfl (HO2.out.alloc _) ⟨w2.heap.size, 0, none⟩ 1 1 (runs [(d, y)]) rfl rfl ?c1 (runs_one _) (by decide) ?c3 ?c4 ?c5 (w2.heap.size + 1) ?c6 ?_)
         case c1 => exact new_set_run w2 _ d y
         case c3 => have := HMl.out; unfold maxLen; omega
         case c4 => have := HMl.out; omega
         case c5 => have := HB2.out.size; simp; omega
         case c6 => simp
         intro ga cap w4 hown4 hgrow4 hat4 _
         have HO5 := Lib.hid hown4
         have HB5 := Lib.hid ((HB2.out.alloc HB2.out.size (.cells #[.int .i64 (d : Int), .int .u64 (y.a : Int), .int .u64 (y.b : Int), .int .u64 (y.c : Int), .int .u64 (y.d : Int)] 120)).grown hgrow4 (by have := HB2.out.size; simp; omega) (fun b e => (HO2.out.lt b e).1))
         clear hown4 hgrow4 hat4 e0 e1 e2 e3
         go_wp2
         go_roundw
         case rel => exact ⟨k + 1, k + 1, q ++ [(d, y)], m + 1, hlt, by go_num, by go_num, HPc.out, by rw [HE.out.1, HE.out.2.1, HD.out], by rw [List.length_append, HE.out.2.2]; rfl, by rw [runs_append]; exact HO5.out, HB5.out⟩
         case measure => simp [intOf]; omega
   · obtain rfl : k = n := by omega
     obtain rfl : fr = k := HP.out.done HL.out.symm
     have HE : Hid (q = Mp.of l) := Lib.hid (by rw [HQ.out.1, List.take_of_length_le (by rw [HL.out]; omega)])
     have hO := HW.out
     rw [HE.out, show m = (Mp.of l).length by rw [← HE.out, HQ.out.2]] at hO
     obtain ⟨A, c', rfl, hA, hlc⟩ := set_runs_slice hO
     have HF := Lib.hid (And.intro hA hlc)
     clear hA hO hlc
     generalize Mp.of l = r at *
     go_wp2
     go_ret
     exact ⟨A, c', rfl, HF.out.1, HF.out.2, HB.out⟩
end Go.Proofs.YtdopheoedpldiaaGreatDoor
namespace Go.Proofs.YtdopheoedpldiaaGreatDoor
open Go.RowKit
set_option maxHeartbeats 1000000 in
theorem mpbeyond_any (s : Sl.Four) (hs : s.ok) (m : Int) (w : World) (hT : Tab w) (hw : 0 < w.heap.size) :
   Calls Tryz.prog 147 #[setV s, .int .i64 m] w (BoolP (!s.below m) w) := by
 have hb0 := (Below.refl w.heap.size w).alloc (Nat.le_refl _) (.cells #[.int .u64 (s.a : Int), .int .u64 (s.b : Int), .int .u64 (s.c : Int), .int .u64 (s.d : Int)] 107)
 have HC := Lib.hid (below_any s hs m _ (tab_below hT hb0 hw) (by rw [World.size_alloc]; omega))
 have HB := Lib.hid hb0
 clear hb0 hT hw hs
 generalize s.below m = r at *
 go_enter Tryz.func147, Tryz.ntmps147
 go_wp2_with (go_at_call 184; refine HC.out.mono ?_; rintro _ w1 ⟨rfl, hb1⟩)
 go_ret
 exact ⟨retB (by cases r <;> rfl), HB.out.trans (hb1.mono (by simp))⟩
def MostAt (w : World) (p : Nat) (m : Int) : Prop := w.cell? ⟨p, 0, none⟩ = some (.int .i64 m) ∧ p < w.heap.size
theorem MostAt.below {w w' : World} {p B : Nat} {m : Int} (h : MostAt w p m) (hb : Below B w w') (hp : p < B) : MostAt w' p m := ⟨(hb.cell (p := ⟨p, 0, none⟩) hp).trans h.1, Nat.lt_of_lt_of_le h.2 hb.size⟩
theorem MostAt.on {w w' : World} {p : Nat} {m : Int} (h : MostAt w p m) (hb : Below w.heap.size w w') : MostAt w' p m := h.below hb h.2
set_option maxHeartbeats 1000000 in
theorem mpright1_any (s : Sl.Four) (hs : s.ok) (p : Nat) (m : Int) (w : World) (hp : MostAt w p m) (hT : Tab w) (hw : 0 < w.heap.size) :
   Calls Tryz.prog 146 #[setV s, .pointer (some ⟨p, 0, none⟩)] w (BoolP (!s.below m) w) := by
 have hb0 := (Below.refl w.heap.size w).alloc (Nat.le_refl _) (.cells #[.int .u64 (s.a : Int), .int .u64 (s.b : Int), .int .u64 (s.c : Int), .int .u64 (s.d : Int)] 107)
 have HC := Lib.hid (mpbeyond_any s hs m _ (tab_below hT hb0 hw) (by rw [World.size_alloc]; omega))
 have HB := Lib.hid hb0
 have hc := (hp.on hb0).1
 clear hb0 hT hw hs hp
 generalize (!s.below m) = r at *
 go_enter Tryz.func146, Tryz.ntmps146
 go_wp2_with (go_at_call 147; refine HC.out.mono ?_; rintro _ w1 ⟨rfl, hb1⟩)
 go_ret
 exact ⟨rfl, HB.out.trans (hb1.mono (by simp))⟩
def MrRel (n : Nat) (m : Int) (l : List Sl.Four) (w : World) (i : Value) (wr : World) : Prop :=
 ∃ k : Nat, k ≤ n ∧ i = .int .i64 (k : Int) ∧ Below w.heap.size w wr ∧ (l.take k).all (·.below m) = true
set_option maxHeartbeats 2000000 in
theorem mpindex_any (a : Option Addr) (n c p : Nat) (m : Int) (l : List Sl.Four) (w : World) (h : SetsAt w w.heap.size a n l) (hn : n ≤ 9223372036854775807) (ho : ∀ s ∈ l, s.ok) (hp : MostAt w p m) (hT : Tab w) (hw : 0 < w.heap.size) :
   Calls Tryz.prog 183 #[.slice a n c, .func (.func 146) #[] #[.pointer (some ⟨p, 0, none⟩)]] w fun e w' => (∃ i : Int, e = .returned (.int .i64 i) ∧ decide (0 ≤ i) = !l.all (·.below m)) ∧ Below w.heap.size w w' := by
 have H := Lib.hid h
 have HL := Lib.hid h.1
 have HC := Lib.hid (fun (W : World) (hb : Below w.heap.size w W) (s : Sl.Four) (hs : s.ok) => mpright1_any s hs p m W (hp.on hb) (tab_below hT hb hw) (Nat.lt_of_lt_of_le hw hb.size))
 have HO := Lib.hid ho
 clear h ho hp hT hw
 go_enter Tryz.func183, Tryz.ntmps183
 go_wp2
 go_loopw [5, 8] (fun _ i wr => MrRel n m l w i wr) (fun _ i _ => n - (intOf i).toNat)
 case atStart => exact ⟨0, Nat.zero_le _, rfl, Below.refl _ _, rfl⟩
 case round =>
   obtain ⟨k, hk, rfl, hB, hW⟩ := hrel
   have HB := Lib.hid hB
   by_cases hlt : k < n
   · obtain ⟨b, off, y, rfl, _, hy, hky, c0, c1, c2, c3⟩ := sets_cell (H.out.below hB) hlt
     have HS := Lib.hid (Mp.all_take_succ (·.below m) hky)
     have HBad := Lib.hid (fun hb => Mp.all_bad (p := (·.below m)) hky hb)
     have hoy := mp_ok HO.out hky
     rw [hy, hW] at HS
     rw [hy] at HBad hoy
     have HR := Lib.hid (HC.out wr hB y hoy)
     clear hW hy hky hoy hB
     cases hm : y.below m with
     | false =>
       rw [hm] at HR
       have HE := Lib.hid (HBad.out hm)
       clear HS HBad hm
       go_wp2_with (go_at_call 146; refine HR.out.mono ?_; rintro _ w1 ⟨rfl, hb1⟩)
       go_ret
       exact ⟨⟨_, rfl, by rw [HE.out]; simp⟩, below_self HB.out hb1⟩
     | true =>
       rw [hm] at HR HS
       clear HBad hm
       go_wp2_with (go_at_call 146; refine HR.out.mono ?_; rintro _ w1 ⟨rfl, hb1⟩)
       go_roundw
       case rel => exact ⟨k + 1, hlt, by go_num, below_self HB.out hb1, HS.out⟩
       case measure => simp [intOf]; omega
   · have HE : Hid (l.all (·.below m) = true) := Lib.hid (by rw [← hW, List.take_of_length_le (by rw [HL.out]; omega)])
     clear hW hB
     go_wp2
     go_ret
     exact ⟨⟨_, rfl, by rw [HE.out]; rfl⟩, HB.out⟩
theorem mpcontains_any (a : Option Addr) (n c p : Nat) (m : Int) (l : List Sl.Four) (w : World) (h : SetsAt w w.heap.size a n l) (hn : n ≤ 9223372036854775807) (ho : ∀ s ∈ l, s.ok) (hp : MostAt w p m) (hT : Tab w) (hw : 0 < w.heap.size) :
   Calls Tryz.prog 145 #[.slice a n c, .func (.func 146) #[] #[.pointer (some ⟨p, 0, none⟩)]] w (BoolP (!l.all (·.below m)) w) := by
 have H := mpindex_any a n c p m l w h hn ho hp hT hw
 clear h ho hp hT hw
 generalize (!l.all (·.below m)) = r at *
 go_enter Tryz.func145, Tryz.ntmps145
 go_wp2_with (go_at_call 183; refine H.mono ?_; rintro _ w1 ⟨⟨i, rfl, hi⟩, hb1⟩)
 go_ret
 exact ⟨rfl, hb1⟩
theorem mp_right_eq {l : List Sl.Four} {m : Int} (ho : ∀ s ∈ l, s.ok) : Mp.right l m = (l.all (·.below m) && decide (l.length ≤ 2000)) := by
 unfold Mp.right
 rw [Bool.eq_iff_iff]
 simp only [Bool.and_eq_true, List.all_eq_true, decide_eq_true_eq]
 constructor
 · rintro ⟨h1, h2⟩
   exact ⟨fun s hs => by rw [Sl.below_eq (ho s hs)]; exact h1 s hs, h2⟩
 · rintro ⟨h1, h2⟩
   exact ⟨fun s hs => by rw [← Sl.below_eq (ho s hs)]; exact h1 s hs, h2⟩
set_option maxHeartbeats 1000000 in
theorem mpright_any (a : Option Addr) (n c : Nat) (l : List Sl.Four) (m : Int) (w : World) (h : SetsAt w w.heap.size a n l) (hn : n ≤ 9223372036854775807) (ho : ∀ s ∈ l, s.ok) (hT : Tab w) (hw : 0 < w.heap.size) :
   Calls Tryz.prog 120 #[.slice a n c, .int .i64 m] w (BoolP (Mp.right l m) w) := by
 have hb0 := (Below.refl w.heap.size w).alloc (Nat.le_refl _) (.cells #[.int .i64 m] 3)
 have hM : MostAt (w.alloc (.cells #[.int .i64 m] 3)) w.heap.size m := ⟨(new_cell w (.int .i64 m) 3).1, by simp⟩
 have HC := Lib.hid (mpcontains_any a n c w.heap.size m l _ (h.on hb0) hn ho hM (tab_below hT hb0 hw) (by rw [World.size_alloc]; omega))
 have HB := Lib.hid hb0
 rw [mp_right_eq ho, h.1]
 clear hb0 hM hT hw ho h
 generalize l.all (·.below m) = r at *
 by_cases hd : n ≤ 2000
 · have hi : (n : Int) ≤ 2000 := by omega
   rw [decide_eq_true hd, Bool.and_true]
   clear hd
   go_enter Tryz.func120, Tryz.ntmps120
   go_wp2_with (go_at_call 145; refine HC.out.mono ?_; rintro _ w1 ⟨rfl, hb1⟩)
   go_ret
   exact ⟨retB (by cases r <;> rfl), HB.out.trans (hb1.mono (by simp))⟩
 · have hi : decide ((n : Int) ≤ 2000) = false := decide_eq_false (by omega)
   rw [decide_eq_false hd, Bool.and_false]
   clear hd
   go_enter Tryz.func120, Tryz.ntmps120
   go_wp2
   go_ret
   exact ⟨rfl, HB.out⟩
end Go.Proofs.YtdopheoedpldiaaGreatDoor
namespace Go.Proofs.YtdopheoedpldiaaGreatDoor
open Go.RowKit
theorem region_q {P : Program} {K : Type} (f : K → World) {id : Nat} {Q : Exit → Act → World → Prop} {a : Act} {w : World} {l : List Oper} (hC : ∃ n, w.drew = f n) (hm : P.follows .mixedOrders = true) (hB : Region.lexB .any l.toArray = true)
   (h : wpQuiet P l.toArray (fun w' => ∃ n, w' = f n) (fun a' => ∀ w', (∃ n, w' = f n) → Q .normal a' w') l a) : (Code.region id l.toArray true).wp P Q a w :=
 wp_region_quiet (C := fun w' => ∃ n, w' = f n) hm hB hC (by simpa using h)
theorem worlds_of (w0 : World) : ∃ (K : Type) (_ : Nonempty K) (f : K → World), Hid (∃ n, w0.drew = f n) ∧ Hid (∀ n, Below w0.heap.size w0 (f n)) ∧ Hid (∀ n W, Below (f n).heap.size (f n) W → ∃ m, W = f m) :=
 ⟨{W : World // Below w0.heap.size w0 W}, ⟨⟨w0, Below.refl _ _⟩⟩, Subtype.val, Lib.hid ⟨⟨w0.drew, (Below.refl _ _).drew⟩, rfl⟩, Lib.hid fun n => n.2, Lib.hid fun n W h => ⟨⟨W, below_self n.2 h⟩, rfl⟩⟩
theorem Calls.q {P : Program} {g : FuncId} {args : Array Value} {K : Type} {f : K → World} {v : Value} {n : K} (hU : ∀ n W, Below (f n).heap.size (f n) W → ∃ m, W = f m)
   (h : Calls P g args (f n) fun e w' => e = .returned v ∧ Below (f n).heap.size (f n) w') : Calls P g args (f n) fun e w'' => e = .returned v ∧ ∃ m, w'' = f m :=
 h.mono fun _ W ⟨he, hb⟩ => ⟨he, hU n W hb⟩
theorem cell_q {w0 : World} {K : Type} {f : K → World} (hB : ∀ n, Below w0.heap.size w0 (f n)) {b off : Nat} {v : Value} (hlt : b < w0.heap.size) (h : w0.cell? ⟨b, off, none⟩ = some v) : ∀ n, (f n).cell? ⟨b, off, none⟩ = some v :=
 fun n => ((hB n).cell (p := ⟨b, off, none⟩) hlt).trans h
end Go.Proofs.YtdopheoedpldiaaGreatDoor
