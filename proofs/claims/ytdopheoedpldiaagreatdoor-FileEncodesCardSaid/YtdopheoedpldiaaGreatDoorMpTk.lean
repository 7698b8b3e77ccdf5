/-
 What maps.Take takes. Conditions: at most 2000 sets are asked for (a cursor that a call made); the library's table is laid.
-/
import Derived.Test.YtdopheoedpldiaaGreatDoorMpTT
set_option maxRecDepth 100000
namespace Go.Proofs.YtdopheoedpldiaaGreatDoor
open Go.RowKit
set_option maxHeartbeats 1000000 in
theorem mptake1_any (k : Int) (s : Sl.Four) (hs : s.ok) (p : Nat) (m : Int) (w : World) (hp : MostAt w p m) (hT : Tab w) (hw : 0 < w.heap.size) :
   Calls Tryz.prog 197 #[.agg #[.int .i64 k, .int .u64 (s.a : Int), .int .u64 (s.b : Int), .int .u64 (s.c : Int), .int .u64 (s.d : Int)], .pointer (some ⟨p, 0, none⟩)] w (BoolP (!s.below m) w) := by
 have hb0 := (Below.refl w.heap.size w).alloc (Nat.le_refl _) (.cells #[.int .i64 k, .int .u64 (s.a : Int), .int .u64 (s.b : Int), .int .u64 (s.c : Int), .int .u64 (s.d : Int)] 120)
 have HC := Lib.hid (mpbeyond_any s hs m _ (tab_below hT hb0 hw) (by rw [World.size_alloc]; omega))
 have HB := Lib.hid hb0
 have hc := (hp.on hb0).1
 obtain ⟨_, x1, x2, x3, x4⟩ := (MrunAt.new w k s).cells
 clear hb0 hT hw hs hp
 generalize (!s.below m) = r at *
 go_enter Tryz.func197, Tryz.ntmps197
 go_wp2_with (go_at_call 147; go_must (refine HC.out.mono ?_; rintro _ w1 ⟨rfl, hb1⟩))
 go_ret
 exact ⟨rfl, HB.out.trans (hb1.mono (by simp))⟩
def MtRel (n : Nat) (m : Int) (l : Mp.Runs) (w : World) (i : Value) (wr : World) : Prop :=
 ∃ k : Nat, k ≤ n ∧ i = .int .i64 (k : Int) ∧ Below w.heap.size w wr ∧ (l.take k).all (fun p => p.2.below m) = true
theorem runs_all_succ {l : Mp.Runs} {k : Nat} (p : Nat × Sl.Four → Bool) (h : k < l.length) : (l.take (k + 1)).all p = ((l.take k).all p && p (l.getD k (0, Sl.no))) := by
 rw [Ru.taken h (0, Sl.no), List.all_append]
 simp
theorem runs_all_bad {l : Mp.Runs} {k : Nat} {p : Nat × Sl.Four → Bool} (h : k < l.length) (hp : p (l.getD k (0, Sl.no)) = false) : l.all p = false := by
 refine List.all_eq_false.2 ⟨l[k], List.getElem_mem h, ?_⟩
 have e : l.getD k (0, Sl.no) = l[k] := by simp [List.getD, h]
 rw [← e, hp]
 decide
theorem runs_ok {l : Mp.Runs} (ho : ∀ p ∈ l, p.2.ok) {k : Nat} (h : k < l.length) : (l.getD k (0, Sl.no)).2.ok := by
 have e : l.getD k (0, Sl.no) = l[k] := by simp [List.getD, h]
 rw [e]
 exact ho _ (List.getElem_mem h)
set_option maxHeartbeats 2000000 in
theorem mpruns_index (a : Option Addr) (n c p : Nat) (m : Int) (l : Mp.Runs) (w : World) (h : SetRunsAt w w.heap.size a n l) (hn : n ≤ 9223372036854775807) (ho : ∀ p ∈ l, p.2.ok) (hp : MostAt w p m) (hT : Tab w) (hw : 0 < w.heap.size) :
   Calls Tryz.prog 203 #[.slice a n c, .func (.func 197) #[] #[.pointer (some ⟨p, 0, none⟩)]] w fun e w' => (∃ i : Int, e = .returned (.int .i64 i) ∧ decide (0 ≤ i) = !l.all (fun p => p.2.below m)) ∧ Below w.heap.size w w' := by
 have H := Lib.hid h
 have HL := Lib.hid h.1
 have HC := Lib.hid (fun (W : World) (hb : Below w.heap.size w W) (k : Int) (s : Sl.Four) (hs : s.ok) => mptake1_any k s hs p m W (hp.on hb) (tab_below hT hb hw) (Nat.lt_of_lt_of_le hw hb.size))
 have HO := Lib.hid ho
 clear h ho hp hT hw
 go_enter Tryz.func203, Tryz.ntmps203
 go_wp2
 go_loopw [5, 8] (fun _ i wr => MtRel n m l w i wr) (fun _ i _ => n - (intOf i).toNat)
 case atStart => exact ⟨0, Nat.zero_le _, rfl, Below.refl _ _, rfl⟩
 case round =>
   obtain ⟨k, hk, rfl, hB, hW⟩ := hrel
   have HB := Lib.hid hB
   by_cases hlt : k < n
   · obtain ⟨b, off, num, y, rfl, _, hy, hky, c0, c1, c2, c3, c4⟩ := set_runs_cell (H.out.below hB) hlt
     have HS := Lib.hid (runs_all_succ (fun p => p.2.below m) hky)
     have HBad := Lib.hid (fun hb => runs_all_bad (p := fun p => p.2.below m) hky hb)
     have hoy := runs_ok HO.out hky
     rw [hy, hW] at HS
     rw [hy] at HBad hoy
     have HR := Lib.hid (HC.out wr hB (num : Int) y hoy)
     clear hW hy hky hoy hB
     simp only at HS HBad
     cases hm : y.below m with
     | false =>
       rw [hm] at HR
       have HE := Lib.hid (HBad.out hm)
       clear HS HBad hm
       go_wp2_with (go_at_call 197; go_must (refine HR.out.mono ?_; rintro _ w1 ⟨rfl, hb1⟩))
       go_ret
       exact ⟨⟨_, rfl, by rw [HE.out]; simp⟩, below_self HB.out (hb1.mono (Nat.le_refl _))⟩
     | true =>
       rw [hm] at HR HS
       clear HBad hm
       go_wp2_with (go_at_call 197; go_must (refine HR.out.mono ?_; rintro _ w1 ⟨rfl, hb1⟩))
       go_roundw
       case rel => exact ⟨k + 1, hlt, by go_num, below_self HB.out hb1, HS.out⟩
       case measure => simp [intOf]; omega
   · have HE : Hid (l.all (fun p => p.2.below m) = true) := Lib.hid (by rw [← hW, List.take_of_length_le (by rw [HL.out]; omega)])
     clear hW hB
     go_wp2
     go_ret
     exact ⟨⟨_, rfl, by rw [HE.out]; rfl⟩, HB.out⟩
theorem mpruns_contains (a : Option Addr) (n c p : Nat) (m : Int) (l : Mp.Runs) (w : World) (h : SetRunsAt w w.heap.size a n l) (hn : n ≤ 9223372036854775807) (ho : ∀ p ∈ l, p.2.ok) (hp : MostAt w p m) (hT : Tab w) (hw : 0 < w.heap.size) :
   Calls Tryz.prog 196 #[.slice a n c, .func (.func 197) #[] #[.pointer (some ⟨p, 0, none⟩)]] w (BoolP (!l.all (fun p => p.2.below m)) w) := by
 have H := mpruns_index a n c p m l w h hn ho hp hT hw
 clear h ho hp hT hw
 generalize (!l.all (fun p => p.2.below m)) = r at *
 go_enter Tryz.func196, Tryz.ntmps196
 go_wp2_with (go_at_call 203; go_must (refine H.mono ?_; rintro _ w1 ⟨⟨i, rfl, hi⟩, hb1⟩))
 go_ret
 exact ⟨rfl, hb1⟩
theorem info_set : (Tryz.prog.info? 107).map (fun i => (i.zero, i.size, i.bytes)) = some (some (.agg #[.int .u64 0, .int .u64 0, .int .u64 0, .int .u64 0]), 4, 32) := by kernel_rfl
theorem row_le (r : Mp.Runs) (k : Nat) : (Mp.row (r.take k)).length ≤ (Mp.row r).length := by
 have e : Mp.row r = Mp.row (r.take k) ++ Mp.row (r.drop k) := by rw [← Mp.row_append, List.take_append_drop]
 rw [e, List.length_append]
 omega
def MrwRel (n : Nat) (r : Mp.Runs) (w : World) (u i : Value) (wr : World) : Prop :=
 ∃ k : Nat, k ≤ n ∧ i = .int .i64 (k : Int) ∧ wr.ownsRow w.heap.size 107 4 u (Mp.row (r.take k)).length (sets (Mp.row (r.take k))) ∧ Below w.heap.size w wr
def MrwRelIn (p num : Nat) (x : Sl.Four) (o : List Sl.Four) (w : World) (u i : Value) (wr : World) : Prop :=
 ∃ j : Nat, j ≤ num ∧ i = .int .i64 (j : Int) ∧ wr.ownsRow w.heap.size 107 4 u (o.length + j) (sets (o ++ List.replicate j x)) ∧ Below w.heap.size w wr ∧ MrunAt wr p (num : Int) x ∧ (∀ b, u.ownBlock = some b → b ≠ p)
def OwnSetsP (l : List Sl.Four) (w : World) (e : Ending) (w' : World) : Prop := ∃ v, e = .returned v ∧ w'.ownsRow w.heap.size 107 4 v l.length (sets l) ∧ Below w.heap.size w w'
set_option maxHeartbeats 8000000 in
theorem mprowof_any (a : Option Addr) (n c : Nat) (r : Mp.Runs) (w : World) (h : SetRunsAt w w.heap.size a n r) (hn : n ≤ 9223372036854775807) (hl : (Mp.row r).length ≤ 1048576) :
   Calls Tryz.prog 198 #[.slice a n c] w (OwnSetsP (Mp.row r) w) := by
 obtain ⟨i0, hi, hz0, hz1, hz2⟩ := info_parts info_set
 have H := Lib.hid h
 have HL := Lib.hid h.1
 clear h
 go_enter Tryz.func198, Tryz.ntmps198
 go_wp2
 go_loopw [3, 5, 8] (fun u _ i wr => MrwRel n r w u i wr) (fun _ _ i _ => n - (intOf i).toNat)
 case atStart => exact ⟨0, Nat.zero_le _, rfl, World.ownsRow_nil _ _ _ _, Below.refl _ _⟩
 case round =>
   obtain ⟨k, hk, rfl, hO, hB⟩ := hrel
   have HO := Lib.hid hO
   have HB := Lib.hid hB
   clear hO hB
   by_cases hlt : k < n
   · obtain ⟨b, off, num, y, rfl, _, hy, hky, c0, c1, c2, c3, c4⟩ := set_runs_cell (H.out.on HB.out) hlt
     have hT : Mp.row (r.take (k + 1)) = Mp.row (r.take k) ++ List.replicate num y := by rw [Ru.taken hky (0, Sl.no), Mp.row_append, Mp.row_one, hy]
     have HTk := Lib.hid hT
     have hle := row_le r (k + 1)
     rw [hT, List.length_append, List.length_replicate] at hle
     have HLe := Lib.hid hle
     have hnum : num ≤ 9223372036854775807 := by omega
     clear hT hle hy hky
     generalize Mp.row (r.take k) = o at *
     have hki : (k : Int) < (n : Int) := by omega
     go_wp2
     have HX0 := Lib.hid (MrunAt.new wr (num : Int) y)
     have HO0 := Lib.hid (HO.out.alloc (.cells #[.int .i64 (num : Int), .int .u64 (y.a : Int), .int .u64 (y.b : Int), .int .u64 (y.c : Int), .int .u64 (y.d : Int)] 120))
     have HB0 := Lib.hid (HB.out.alloc HB.out.size (.cells #[.int .i64 (num : Int), .int .u64 (y.a : Int), .int .u64 (y.b : Int), .int .u64 (y.c : Int), .int .u64 (y.d : Int)] 120))
     have HF0 : Hid (∀ b, u3.ownBlock = some b → b ≠ wr.heap.size) := Lib.hid (fun b e => by have := (HO.out.lt b e).2; omega)
     have hwp : w.heap.size ≤ wr.heap.size := HB.out.size
     clear c0 c1 c2 c3 c4
     generalize wr.heap.size = p at *
     go_loopw [3, 14] (fun u j W => MrwRelIn p num y o w u j W) (fun _ j _ => num - (intOf j).toNat)
     case atStart => exact ⟨0, Nat.zero_le _, rfl, by simpa using HO0.out, HB0.out, HX0.out, HF0.out⟩
     case round =>
       obtain ⟨j, hj, rfl, hO3, hB3, hX3, hF3⟩ := hrel
       have HO3 := Lib.hid hO3
       have HB3 := Lib.hid hB3
       have HX3 := Lib.hid hX3
       have HF3 := Lib.hid hF3
       clear hO3 hB3 hX3 hF3
       by_cases hjn : j < num
       · obtain ⟨_, x1, x2, x3, x4⟩ := HX3.out.cells
         have hji : (j : Int) < (num : Int) := by omega
         go_wp2_with (at_builtin; refine wpList_append_lies _ rfl (.tmp 16) (.tmp 19) 41 rfl w.heap.size 107 i0 (.agg #[.int .u64 0, .int .u64 0, .int .u64 0, .int .u64 0]) 4 32 Tryz.underlying41 hi hz0 hz1 hz2 rfl (by decide) u3 (o.length + j) (sets (o ++ List.replicate j y)) rfl (HO3.out.alloc _) ⟨wr.heap.size, 0, none⟩ 1 1 (sets [y]) rfl rfl ?c1 (sets_one _) (by decide) ?c3 ?c4 ?c5 (wr.heap.size + 1) ?c6 ?_)
         case c1 => exact new_set wr _ y
         case c3 => have := HLe.out; unfold maxLen; omega
         case c4 => have := HLe.out; omega
         case c5 => have := HB3.out.size; simp; omega
         case c6 => simp
         intro ga cap w4 hown4 hgrow4 hat4 _
         have HO5 := Lib.hid hown4
         have HB5 := Lib.hid (own_grown HB3.out HO3.out hgrow4)
         have HX5 : Hid (MrunAt w4 p (num : Int) y) := Lib.hid ((hgrow4.block p (by have := HX3.out.lt; simp; omega) (fun e => HF3.out p e.symm rfl)).trans (HX3.out.alloc _))
         have HF5 : Hid (∀ b, (Value.slice (some ⟨ga, 0, none⟩) (o.length + j + 1) cap).ownBlock = some b → b ≠ p) := Lib.hid (fun b e => by
           obtain rfl : ga = b := by injection e
           have := HX3.out.lt
           rcases hat4 with h | h
           · exact HF3.out _ h
           · omega)
         clear hown4 hgrow4 hat4 x1 x2 x3 x4
         go_wp2
         go_roundw
         case rel => exact ⟨j + 1, hjn, by go_num, by rw [List.replicate_succ', ← List.append_assoc, sets_append]; exact HO5.out, HB5.out, HX5.out, HF5.out⟩
         case measure => simp [intOf]; omega
       · obtain rfl : j = num := by omega
         have hji : decide ((j : Int) < (j : Int)) = false := decide_eq_false (by omega)
         go_wp2
         go_roundw
         case rel => exact ⟨k + 1, hlt, by go_num, by rw [HTk.out, List.length_append, List.length_replicate]; exact HO3.out, HB3.out⟩
         case measure => simp [intOf]; omega
   · have HE : Hid (r.take k = r) := Lib.hid (List.take_of_length_le (by rw [HL.out]; omega))
     have hki : decide ((k : Int) < (n : Int)) = false := decide_eq_false (by omega)
     go_wp2
     go_ret
     have h2 := HO.out
     rw [HE.out] at h2
     exact ⟨_, rfl, h2, HB.out⟩
def MpTakeP (g : Nat) (o : List Sl.Four × (List Nat × Nat)) (w : World) (e : Ending) (w' : World) : Prop :=
 ∃ v, e = .returned v ∧ w'.ownsRow w.heap.size 107 4 v o.1.length (sets o.1) ∧ Cur w' g o.2 ∧ w.grownBy w' (some g)
theorem MpTakeP.no {g : Nat} {o : List Sl.Four × (List Nat × Nat)} {s : List Nat × Nat} {w w' : World} (h : o = ([], s)) (hc : Cur w' g s) (hg : w.grownBy w' (some g)) : MpTakeP g o w (.returned (.slice none 0 0)) w' := by
 subst h
 exact ⟨_, rfl, World.ownsRow_nil _ _ _ _, hc, hg⟩
def MtkRel (g N : Nat) (s0 : List Nat × Nat) (w : World) (u l : Value) (wr : World) : Prop :=
 ∃ (r : Mp.Runs) (s : List Nat × Nat) (f : Nat) (z : Int), l = .int .i64 z ∧ z = (N : Int) - ((Mp.row r).length : Int) ∧ (Mp.row r).length ≤ N ∧ wr.ownsRow w.heap.size 120 5 u r.length (runs r) ∧ (∀ p ∈ r, 1 ≤ p.1 ∧ p.2.ok) ∧ Cur wr g s ∧ w.grownBy wr (some g) ∧
   Mp.takeL N f s r = Mp.takeL N (N + 1) s0 [] ∧ N - (Mp.row r).length < f
theorem tab_grown {w w' : World} {g : Nat} (h : Tab w) (hg : w.grownBy w' (some g)) (hne : g ≠ 0) : Tab w' := fun j hj => hg.cell (h j hj) (fun e => by injection e with e; exact hne e.symm)
theorem row_many {r : Mp.Runs} (h : ∀ p ∈ r, 1 ≤ p.1 ∧ p.2.ok) : r.length ≤ (Mp.row r).length := by
 induction r with
 | nil => exact Nat.le_refl _
 | cons p r ih =>
   have h1 := (h p (by simp)).1
   have h2 := ih (fun q hq => h q (by simp [hq]))
   have e : Mp.row (p :: r) = Mp.row [p] ++ Mp.row r := Mp.row_append [p] r
   rw [e, Mp.row_one, List.length_append, List.length_replicate, List.length_cons]
   omega
theorem runs_far {w : World} {base g n k c : Nat} {e : TypeId} {size : Nat} {A : Option Addr} {xs : List Value} (h : w.ownsRow base e size (.slice A k c) n xs) (hg : g < base) : ∀ x, A = some x → x.block ≠ g := by
 intro x hx
 rcases h.2 with ⟨hv, _⟩ | ⟨g', cap, cur, hv, hb, _⟩
 · injection hv with h1
   rw [h1] at hx
   cases hx
 · injection hv with h1
   rw [h1] at hx
   injection hx with hx
   subst hx
   show g' ≠ g
   omega
set_option maxHeartbeats 8000000 in
theorem mptake_cur (g : Nat) (s0 : List Nat × Nat) (n m : Int) (w : World) (h : Cur w g s0) (hn : n ≤ 2000) (hT : Tab w) (hw : 0 < w.heap.size) (hgT : g ≠ 0) :
   Calls Tryz.prog 180 #[.pointer (some ⟨g, 0, none⟩), .int .i64 n, .int .i64 m] w (MpTakeP g (Mp.takeA s0 n m) w) := by
 have hgl := h.lt
 have HM := Lib.hid (show MostAt (w.alloc (.cells #[.int .i64 m] 3)) w.heap.size m from ⟨(new_cell w (.int .i64 m) 3).1, by simp⟩)
 have HT := Lib.hid (tab_below hT ((Below.refl w.heap.size w).alloc (Nat.le_refl _) (.cells #[.int .i64 m] 3)) hw)
 have HC := Lib.hid (h.kept (World.grownBy_alloc w (.cells #[.int .i64 m] 3) none) (by simp))
 have HG := Lib.hid (World.grownBy_alloc w (.cells #[.int .i64 m] 3) (some g))
 have hw1 : 0 < (w.alloc (.cells #[.int .i64 m] 3)).heap.size := by rw [World.size_alloc]; omega
 have hg1 : g < (w.alloc (.cells #[.int .i64 m] 3)).heap.size := by simp; omega
 have hpB : w.heap.size < (w.alloc (.cells #[.int .i64 m] 3)).heap.size := by simp
 clear h hT
 go_enter Tryz.func180, Tryz.ntmps180
 go_wp2
 generalize w.alloc (.cells #[.int .i64 m] 3) = wB at *
 by_cases hn1 : n < 1
 · have HE := Lib.hid (Mp.takeA_none (s := s0) (m := m) hn1)
   have hd1 : decide (0 < n) = false := decide_eq_false (by omega)
   have hd2 : decide (67108863 < n) = false := decide_eq_false (by omega)
   go_loopw [7, 8, 9] (fun u l _ wr => u = .slice none 0 0 ∧ l = .int .i64 n ∧ wr = wB) (fun _ _ _ _ => 0)
   case atStart => exact ⟨rfl, rfl, rfl⟩
   case round =>
     obtain ⟨rfl, rfl, rfl⟩ := hrel
     have HCf := mpruns_contains none 0 0 w.heap.size m [] wr ⟨rfl, fun h => absurd h (Nat.not_lt_zero _)⟩ (by decide) (fun p hp => by cases hp) HM.out HT.out hw1
     simp only [List.all_nil, Bool.not_true] at HCf
     go_wp2_with (first
       | (go_at_call 196; go_must (refine HCf.mono ?_; rintro _ w2 ⟨rfl, hb2⟩; have HB2 := Lib.hid hb2; clear hb2))
       | (go_at_call 198; go_must (refine (mprowof_any none 0 0 [] w2 ⟨rfl, fun h => absurd h (Nat.not_lt_zero _)⟩ (by decide) (by simp [Mp.row])).mono ?_; rintro _ w3 ⟨v3, rfl, ho3, hb3⟩; have HB3 := Lib.hid (And.intro ho3 hb3); clear ho3 hb3)))
     go_ret
     have hb := below_self HB2.out HB3.out.2
     rw [HE.out]
     exact ⟨_, rfl, ownsRow_base HB3.out.1 (Nat.le_trans (Nat.le_of_lt hpB) HB2.out.size), cur_grown HC.out hb, grown_below HG.out hb (Nat.le_of_lt hpB)⟩
 obtain ⟨N, rfl⟩ := Int.eq_ofNat_of_zero_le (show 0 ≤ n by omega)
 obtain ⟨i0, hi, hz0, hz1, hz2⟩ := info_parts info_mrun
 have HAe : Hid (∀ s', Mp.takeL N (N + 1) s0 [] = (none, s') → Mp.takeA s0 (N : Int) m = ([], s')) := Lib.hid (fun s' h => Mp.takeA_err (by rw [Int.toNat_natCast]; exact h))
 have HAg : Hid (∀ r s', Mp.takeL N (N + 1) s0 [] = (some r, s') → r.all (fun p => p.2.below m) = true → Mp.takeA s0 (N : Int) m = (Mp.row r, s')) := Lib.hid (fun r s' h => Mp.takeA_good (by rw [Int.toNat_natCast]; exact h))
 have HAh : Hid (∀ r s', Mp.takeL N (N + 1) s0 [] = (some r, s') → r.all (fun p => p.2.below m) = false → Mp.takeA s0 (N : Int) m = ([], failA s' 14)) := Lib.hid (fun r s' h => Mp.takeA_high (by rw [Int.toNat_natCast]; exact h))
 go_loopw [7, 8, 9] (fun u l _ wr => MtkRel g N s0 wB u l wr) (fun _ l _ _ => (intOf l).toNat)
 case atStart => exact ⟨[], s0, N + 1, (N : Int), rfl, by simp [Mp.row], by simp [Mp.row], World.ownsRow_nil _ _ _ _, by simp, HC.out, World.grownBy.refl _ _, rfl, by simp [Mp.row]⟩
 case round =>
   obtain ⟨r, s, f, z, rfl, hz, hzl, hO, hpos, hC, hG, hTk, hf⟩ := hrel
   obtain ⟨A, cc, rfl, hPA, _⟩ := set_runs_slice hO
   have hgs := hG.size
   have hrN := row_many hpos
   have HO := Lib.hid hO
   have HCr := Lib.hid hC
   have HGr := Lib.hid hG
   have HTT := Lib.hid hTk
   have HPOS := Lib.hid hpos
   have HRN := Lib.hid hrN
   have HZ := Lib.hid hz
   have HZL := Lib.hid hzl
   have HFU := Lib.hid hf
   have hz0' : 0 ≤ z := by omega
   have hzN : z ≤ 2000 := by omega
   by_cases hzp : 0 < z
   · have hzz : z.toNat = N - (Mp.row r).length := by omega
     have HRUN := Lib.hid (mptakeRun_cur g s A r.length cc r z wr hC hPA (fun _ => runs_far hO hg1) (by omega) hz0' (by omega))
     rw [hzz] at HRUN
     have hcl : Clean s := hC.nil
     have hoc : Octets s := hC.byte
     have HGO := Lib.hid (Mp.takeL_go (n := N) (f := f) (s := s) (r := r) (by omega) hf)
     have HER := Lib.hid (Mp.takeL_err (n := N) (f := f) (s := s) (r := r) (by omega) hf)
     have HNO := Lib.hid (fun he => Mp.run_none (s := s) (last := Mp.lastV r) (left := N - (Mp.row r).length) he)
     have HOk : Hid ((Mp.fourV (bitsA s).2).ok) := Lib.hid (Mp.four_ok (bits_octets hoc).2)
     clear hO hC hG hTk hpos hPA hrN hz hzl hf hcl hoc hzz
     generalize Mp.runS s (Mp.lastV r) (N - (Mp.row r).length) = s1 at *
     have HbG : Hid (s1.2 = 0 → 1 ≤ (bitsA s).1 ∧ (bitsA s).1 ≤ N - (Mp.row r).length) := Lib.hid (fun he => by have h1 := HNO.out he; exact ⟨Nat.le_of_not_lt fun h => h1 (.inl h), Nat.le_of_not_lt fun h => h1 (.inr (.inl h))⟩)
     generalize Mp.fourV (bitsA s).2 = x at *
     generalize (bitsA s).1 = b at *
     clear HNO
     go_wp2_with (go_at_call 195; go_must (refine HRUN.out.mono ?_; rintro _ w1 ⟨rfl, hc1, hg1'⟩; refine Hid.out ?_))
     have HC1 := Lib.hid (hc1.kept (World.grownBy_alloc w1 (.cells #[.int .i64 (wrap64 (b : Int)), .int .u64 (x.a : Int), .int .u64 (x.b : Int), .int .u64 (x.c : Int), .int .u64 (x.d : Int)] 120) none) (by simp))
     have HX1 := Lib.hid (MrunAt.new w1 (wrap64 (b : Int)) x)
     have HO1 := Lib.hid (own_grownG HO.out hg1' hg1)
     have HG1 := Lib.hid (Lib.grownBy_trans HGr.out hg1')
     have hs1 := HG1.out.size
     have HER1 := Lib.hid (err_cur g s1 _ HC1.out)
     clear hg1' hc1 HRUN
     by_cases he : s1.2 = 0
     · obtain ⟨f', hf', hgo⟩ := HGO.out he
       obtain ⟨hb1, hbz⟩ := HbG.out he
       have hbw : wrap64 (b : Int) = (b : Int) := by unfold wrap64; omega
       rw [hbw] at HX1 HC1 HER1
       rw [he] at HER1
       have HGO2 := Lib.hid hgo
       have HF' := Lib.hid hf'
       obtain ⟨x0, x1, x2, x3, x4⟩ := HX1.out.cells
       rw [hbw]
       clear hgo hf' HGO HER HbG he hbw
       refine Lib.hid ?_
       go_wp2_with (go_at_call 107; go_must (refine HER1.out.mono ?_; rintro _ w2 ⟨rfl, he2⟩; obtain rfl := he2.symm; refine Hid.out ?_))
       have HO2 := Lib.hid ((HO1.out.alloc (.cells #[.int .i64 (b : Int), .int .u64 (x.a : Int), .int .u64 (x.b : Int), .int .u64 (x.c : Int), .int .u64 (x.d : Int)] 120)).alloc (.cells #[.int .i64 (b : Int), .int .u64 (x.a : Int), .int .u64 (x.b : Int), .int .u64 (x.c : Int), .int .u64 (x.d : Int)] 120))
       refine Lib.hid ?_
       go_wp2_with (at_builtin; refine wpList_append_lies _ rfl (.tmp 20) (.tmp 22) 117 rfl wB.heap.size 120 i0 (.agg #[.int .i64 0, .int .u64 0, .int .u64 0, .int .u64 0, .int .u64 0]) 5 40 Tryz.underlying117 hi hz0 hz1 hz2 rfl (by decide) (.slice A r.length cc) r.length (runs r) rfl HO2.out ⟨w1.heap.size + 1, 0, none⟩ 1 1 (runs [(b, x)]) rfl rfl ?c1 (runs_one _) (by decide) ?c3 ?c4 ?c5 (w1.heap.size + 1 + 1) ?c6 ?_)
       case c1 => have := new_set_run (w1.alloc (.cells #[.int .i64 (b : Int), .int .u64 (x.a : Int), .int .u64 (x.b : Int), .int .u64 (x.c : Int), .int .u64 (x.d : Int)] 120)) 120 b x; simpa only [World.size_alloc] using this
       case c3 => have := HRN.out; have := HZL.out; unfold maxLen; omega
       case c4 => have := HRN.out; have := HZL.out; omega
       case c5 => simp; omega
       case c6 => simp
       intro g3 cap3 w3 hown3 hgrow3 hat3 _
       have hX3 : MrunAt w3 w1.heap.size (b : Int) x := (hgrow3.block w1.heap.size (by simp; omega) (fun e' => absurd (HO1.out.lt _ e'.symm).2 (Nat.lt_irrefl _))).trans (HX1.out.alloc _)
       obtain ⟨y0, _, _, _, _⟩ := hX3.cells
       have HC3 : Hid (Cur w3 g s1) := Lib.hid ((HC1.out.kept (World.grownBy_alloc _ _ none) (by simp)).kept hgrow3 (fun k hk => by have := (HO1.out.lt k hk).1; omega))
       have HG3 := Lib.hid (grown_more (Lib.grownBy_allocR (Lib.grownBy_allocR HG1.out _) _) HO2.out hgrow3)
       have HO3 := Lib.hid hown3
       clear hown3 hgrow3 hat3 x0 x1 x2 x3 x4 hX3
       have hsub : z - (b : Int) = z - (b : Int) := rfl
       go_wp2
       go_roundw
       case rel =>
         have hfl : Mp.row (r ++ [(b, x)]) = Mp.row r ++ List.replicate b x := by rw [Mp.row_append, Mp.row_one]
         refine ⟨r ++ [(b, x)], s1, f', _, rfl, ?_, ?_, ?_, ?_, HC3.out, HG3.out, ?_, ?_⟩
         · rw [hfl, HZ.out, List.length_append, List.length_replicate]; omega
         · rw [hfl, List.length_append, List.length_replicate]; have := HZL.out; omega
         · rw [List.length_append, runs_append]; exact HO3.out
         · intro p hp
           rcases List.mem_append.1 hp with hp | hp
           · exact HPOS.out p hp
           · rw [List.mem_singleton] at hp
             subst hp
             exact ⟨hb1, HOk.out⟩
         · rw [← HGO2.out]; exact HTT.out
         · rw [hfl, List.length_append, List.length_replicate]; have := HFU.out; have := HF'.out; have := HZL.out; omega
       case measure => simp [intOf]; omega
     · have hEE := HAe.out s1 (HTT.out.symm.trans (HER.out he))
       have HEE := Lib.hid hEE
       have hbe : ((s1.2 : Int) != 0) = true := by rw [bne_iff_ne]; omega
       clear HGO HER HbG he hEE
       generalize s1.2 = zz at HER1 hbe
       generalize wrap64 (b : Int) = bw at *
       refine Lib.hid ?_
       go_wp2_with (go_at_call 107; go_must (refine HER1.out.mono ?_; rintro _ w2 ⟨rfl, he2⟩; obtain rfl := he2.symm))
       go_ret
       exact MpTakeP.no HEE.out HC1.out (Lib.grownBy_trans HG.out (Lib.grownBy_allocR HG1.out _))
   · have hzero : z = 0 := by omega
     subst hzero
     have HEE : Hid (Mp.takeL N (N + 1) s0 [] = (some r, s)) := Lib.hid (by rw [← hTk]; exact Mp.takeL_end (by omega))
     have hnb : decide ((67108863 : Int) < (N : Int)) = false := decide_eq_false (by omega)
     have HTb := Lib.hid (tab_grown HT.out hG hgT)
     have HMb : Hid (MostAt wr w.heap.size m) := Lib.hid ⟨hG.cell HM.out.1 (fun e => by injection e with e; simp only at e; omega), by omega⟩
     have HCf := Lib.hid (mpruns_contains A r.length cc w.heap.size m r wr hPA (by omega) (fun p hp => (hpos p hp).2) HMb.out HTb.out (by omega))
     have HPA := Lib.hid hPA
     clear hO hC hG hTk hpos hPA hrN hz hzl hf
     obtain ⟨ok, hok⟩ : ∃ ok, r.all (fun p => p.2.below m) = ok := ⟨_, rfl⟩
     have HOK := Lib.hid hok
     rw [hok] at HCf
     clear hok
     have HFl := Lib.hid (fun W (hW : Cur W g s) => fail_cur g s 14 W hW (by decide))
     cases ok with
     | false =>
       go_wp2_with (first
         | (go_at_call 196; go_must (refine HCf.out.mono ?_; rintro _ w2 ⟨rfl, hb2⟩; have HC2 := Lib.hid (cur_grown HCr.out hb2); have HG2 := Lib.hid (grown_below (Lib.grownBy_trans HG.out HGr.out) hb2 (Nat.le_trans (Nat.le_of_lt hpB) hgs)); clear hb2))
         | (go_at_call 134; go_must (refine (HFl.out _ HC2.out).mono ?_; rintro _ w3 ⟨rfl, hc3, hg3⟩; have HC3 := Lib.hid hc3; have HG3 := Lib.hid (Lib.grownBy_trans HG2.out hg3); clear hc3 hg3)))
       go_ret
       exact MpTakeP.no (HAh.out r s HEE.out HOK.out) HC3.out HG3.out
     | true =>
       have HRo := Lib.hid (fun W (hW : Below wr.heap.size wr W) => mprowof_any A r.length cc r W (HPA.out.on hW) (by have := HRN.out; have := HZL.out; omega) (by have := HZL.out; omega))
       go_wp2_with (first
         | (go_at_call 196; go_must (refine HCf.out.mono ?_; rintro _ w2 ⟨rfl, hb2⟩; have HB2 := Lib.hid hb2; clear hb2))
         | (go_at_call 198; go_must (refine (HRo.out w2 HB2.out).mono ?_; rintro _ w3 ⟨v3, rfl, ho3, hb3⟩; have HB3 := Lib.hid (And.intro ho3 hb3); clear ho3 hb3)))
       go_ret
       have hb := below_self HB2.out HB3.out.2
       rw [HAg.out r s HEE.out HOK.out]
       exact ⟨_, rfl, ownsRow_base HB3.out.1 (Nat.le_trans (Nat.le_of_lt hpB) (Nat.le_trans hgs HB2.out.size)), cur_grown HCr.out hb, grown_below (Lib.grownBy_trans HG.out HGr.out) hb (Nat.le_trans (Nat.le_of_lt hpB) hgs)⟩
end Go.Proofs.YtdopheoedpldiaaGreatDoor
