/-
  What slots.Move answers: each slot by as much greater. Conditions: the words have 64 bits; the table of math/bits is laid.
-/
import Derived.Test.YtinmcelgfdjmfaaDoorSlI
namespace Go.Proofs.YtinmcelgfdjmfaaDoor
open Go.RowKit Go.Shelf

attribute [local go_sem] Oper.semAt_some

/-- What is gathered of the numbers pre, each by z greater. -/
def gone (z : Int) (pre : List Int) : Sl.Four := Sl.of (pre.map fun x => wrap64 (x + z))
theorem gone_snoc (z : Int) (pre : List Int) (x : Int) : gone z (pre ++ [x]) = (gone z pre).with_ (wrap64 (x + z)) := by
  unfold gone
  rw [List.map_append]
  exact Sl.of_snoc _ _
theorem gone_ok (z : Int) (pre : List Int) : (gone z pre).ok := Sl.ok_of _
theorem gone_list (s : Sl.Four) {z d : Int} (hz : z = max (-256) (min d 256)) : gone z s.list = s.move d := by
  rw [← Sl.move_eq, ← hz]
  unfold gone
  congr 1
  apply List.map_congr_left
  intro x hx
  obtain ⟨k, hk, _, rfl⟩ := (Sl.mem_list s x).1 hx
  unfold wrap64
  omega

theorem SetAt.own {β : Type} (g : Nat) (f : β → Sl.Four) : Own (fun s W => SetAt W g (f s)) := fun s W W' row hs hg hr => by
  refine (hg.block g hs.lt (fun e => ?_)).trans hs
  obtain ⟨o, ho, hc⟩ := hr g e.symm
  unfold SetAt at hs
  rw [hs] at ho
  injection ho with ho
  subst ho
  cases hc
theorem keeps_below {W W' : World} (h : Below W.heap.size W W') : KeepsOthers W W' := ⟨h.size, fun k _ hk _ => (h.block k (Array.getElem?_eq_some_iff.1 hk).1).trans hk⟩
theorem keeps_store {W W' : World} (h : KeepsOthers W W') (g : Nat) (a b c d : Value) : KeepsOthers W ((((W'.setCell ⟨g, 0, none⟩ a).setCell ⟨g, 1, none⟩ b).setCell ⟨g, 2, none⟩ c).setCell ⟨g, 3, none⟩ d) :=
  (((h.trans (KeepsOthers.setCell _ _ _)).trans (KeepsOthers.setCell _ _ _)).trans (KeepsOthers.setCell _ _ _)).trans (KeepsOthers.setCell _ _ _)

/-- What Move's loop holds between two rounds. -/
def MoveI (w : World) (z : Int) (pre : List Int) (W : World) : Prop :=
  (SetAt W (w.heap.size + 1 + 1 + 1) (gone z pre) ∧ SetAt W (w.heap.size + 1 + 1) Sl.no ∧ W.cell? ⟨w.heap.size + 1, 0, none⟩ = some (.int .i64 z)) ∧ Below w.heap.size w W
theorem moveI_own (w : World) (z : Int) {B : Nat} (hB : w.heap.size ≤ B) : OwnFrom B (MoveI w z) :=
  OwnFrom.and (Own.from (fun s A B row hs hg hr => ⟨SetAt.own _ (gone z) s A B row hs.1 hg hr, SetAt.own _ (fun _ : List Int => Sl.no) s A B row hs.2.1 hg hr, cell_kept hs.2.2 hg hr⟩) _) (ownFrom_below (Nat.le_refl _) hB)
theorem moveI_step {w W w1 : World} {z : Int} {pre : List Int} {x : Int} (h : MoveI w z pre W) (hb : Below W.heap.size W w1) (hw : w.heap.size ≤ W.heap.size) :
    MoveI w z (pre ++ [x]) ((((w1.setCell ⟨w.heap.size + 1 + 1 + 1, 0, none⟩ (.int .u64 (((gone z pre).with_ (wrap64 (x + z))).a : Int))).setCell ⟨w.heap.size + 1 + 1 + 1, 1, none⟩ (.int .u64 (((gone z pre).with_ (wrap64 (x + z))).b : Int))).setCell ⟨w.heap.size + 1 + 1 + 1, 2, none⟩ (.int .u64 (((gone z pre).with_ (wrap64 (x + z))).c : Int))).setCell ⟨w.heap.size + 1 + 1 + 1, 3, none⟩ (.int .u64 (((gone z pre).with_ (wrap64 (x + z))).d : Int))) := by
  obtain ⟨⟨h1, h2, h3⟩, h4⟩ := h
  have hlt : w.heap.size + 1 < W.heap.size := World.block_lt_of_cell? W ⟨w.heap.size + 1, 0, none⟩ h3
  refine ⟨⟨?_, ?_, ?_⟩, ?_⟩
  · rw [gone_snoc]
    exact (h1.below hb h1.lt).store _
  · exact (h2.below hb h2.lt).far4 (by omega) _ _ _ _
  · have e := (hb.cell (p := ⟨w.heap.size + 1, 0, none⟩) hlt).trans h3
    rw [World.cell?_setCell_other _ _ _ _ (by simp), World.cell?_setCell_other _ _ _ _ (by simp), World.cell?_setCell_other _ _ _ _ (by simp), World.cell?_setCell_other _ _ _ _ (by simp)]
    exact e
  · exact below_store (h4.trans (hb.mono hw)) (by omega) _ _ _ _

set_option maxRecDepth 100000 in
set_option maxHeartbeats 8000000 in
theorem move_any (s : Sl.Four) (hs : s.ok) (d : Int) (w : World) (hT : Tab w) (hw : 0 < w.heap.size) :
    Calls Tryd.prog 17 #[setV s, .int .i64 d] w (SetP (s.move d) w) := by
  have HS := Lib.hid hs
  have HT := Lib.hid hT
  clear hs hT
  rcases (show 256 < d ∨ d = 256 ∨ (-256 < d ∧ d < 256) ∨ d = -256 ∨ d < -256 by omega) with hd | rfl | ⟨hd1, hd2⟩ | rfl | hd
  · refine (callsIn_wide (n := 5)).1 ?_
    refine callsIn_of_wp_marks Tryd.func17 rfl trivial ?_ rfl
    simp only [Tryd.ntmps17, List.size_toArray, List.length_cons, List.length_nil, Nat.reduceAdd, Nat.reduceSub, Array.replicate_succ, Array.replicate_zero, List.push_toArray, List.append_toArray, List.nil_append, List.cons_append]
    gi_wp2_with (refine ⟨trivial, ?_⟩; gi_at_call 31; refine (all_in _ _ _).mono ?_; rintro e w' ⟨rfl, rfl⟩)
    have hB0 : Below w.heap.size w (((((w.alloc (.cells #[.int .u64 (s.a : Int), .int .u64 (s.b : Int), .int .u64 (s.c : Int), .int .u64 (s.d : Int)] 27)).alloc (.cells #[.int .i64 (256)] 3)).alloc (.cells #[.int .u64 0, .int .u64 0, .int .u64 0, .int .u64 0] 27)).alloc (.cells #[.int .u64 0, .int .u64 0, .int .u64 0, .int .u64 0] 27)).alloc (.cells #[.int .u64 (s.a : Int), .int .u64 (s.b : Int), .int .u64 (s.c : Int), .int .u64 (s.d : Int)] 27)) :=
      (((((Below.refl _ w).alloc (Nat.le_refl _) _).alloc (by simp) _).alloc (by simp; omega) _).alloc (by simp; omega) _).alloc (by simp; omega) _
    have hA := SetAt.new ((((w.alloc (.cells #[.int .u64 (s.a : Int), .int .u64 (s.b : Int), .int .u64 (s.c : Int), .int .u64 (s.d : Int)] 27)).alloc (.cells #[.int .i64 (256)] 3)).alloc (.cells #[.int .u64 0, .int .u64 0, .int .u64 0, .int .u64 0] 27)).alloc (.cells #[.int .u64 0, .int .u64 0, .int .u64 0, .int .u64 0] 27)) s
    have hM := SetAt.new (((w.alloc (.cells #[.int .u64 (s.a : Int), .int .u64 (s.b : Int), .int .u64 (s.c : Int), .int .u64 (s.d : Int)] 27)).alloc (.cells #[.int .i64 (256)] 3)).alloc (.cells #[.int .u64 0, .int .u64 0, .int .u64 0, .int .u64 0] 27)) Sl.no
    have hR := SetAt.new ((w.alloc (.cells #[.int .u64 (s.a : Int), .int .u64 (s.b : Int), .int .u64 (s.c : Int), .int .u64 (s.d : Int)] 27)).alloc (.cells #[.int .i64 (256)] 3)) Sl.no
    have hN := new_cell (w.alloc (.cells #[.int .u64 (s.a : Int), .int .u64 (s.b : Int), .int .u64 (s.c : Int), .int .u64 (s.d : Int)] 27)) (.int .i64 (256)) 3
    simp only [World.size_alloc] at hA hN hR hM
    refine wpIn_rangeFunc_ownF rfl (by omega) (gf := 40) (lb := #[.pointer (some ⟨w.heap.size + 1 + 1 + 1 + 1, 0, none⟩)]) rfl trivial (enters_of Tryd.func40 (by kernel_rfl) rfl)
      (all_stops _ (by omega) (w.heap.size + 1 + 1 + 1 + 1) w.heap.size s HS.out _ hA (tab_below HT.out hB0 hw) hw (by simp; omega)) belowK_t (belowK_b (by simp; omega)) (Below.refl _ _) (fun _ => rfl)
      (MoveI w (256)) (fun _ _ _ => False) (moveI_own w _ (by simp; omega)) (fun _ _ _ _ _ hs _ _ => hs)
      ⟨⟨hM.alloc _, (hR.alloc _).alloc _, (more_cell _ (more_cell _ (more_cell _ hN))).1⟩, hB0⟩
      (fun x => { tmps := #[setV s, .int .i64 d, .pointer (some ⟨w.heap.size, 0, none⟩), .pointer (some ⟨w.heap.size + 1, 0, none⟩), .pointer (some ⟨w.heap.size + 1 + 1, 0, none⟩), .pointer (some ⟨w.heap.size + 1 + 1 + 1, 0, none⟩), .int .i64 x, .int .i64 d, .int .i64 256, .int .i64 256, setV s, .func (.func 40) #[] #[.pointer (some ⟨w.heap.size + 1 + 1 + 1 + 1, 0, none⟩)], .int .i64 x, undef, undef, undef, undef, undef, undef], defers := [] }) ?assign ?body ?done ?stop
    case assign =>
      intro l x W K hK
      gi_wp2
      exact hK
    case body =>
      rintro l pre x W hI _
      obtain ⟨⟨c0, c1, c2, c3⟩, f0, f1, f2, f3⟩ := hI.1.1.reads
      have cz := hI.1.2.2
      have HW := Lib.hid (fun w => with_any (gone (256) pre) (gone_ok _ _) (wrap64 (x + (256))) w)
      have HI := Lib.hid hI
      clear hI
      generalize hg : gone (256) pre = g at *
      have HG := Lib.hid hg
      clear hg
      gi_wp2_with (refine ⟨trivial, ?_⟩; gi_at_call 30; refine (CallsIn.inRound l (callsIn_wide.2 (HW.out _))).mono ?_; rintro e w1 ⟨rfl, hbl⟩; obtain ⟨⟨c0, c1, c2, c3⟩, f0, f1, f2, f3⟩ := (SetAt.below HI.out.1.1 hbl HI.out.1.1.lt).reads; rw [HG.out] at c0 c1 c2 c3; have HBL := Lib.hid hbl; clear hbl)
      have hs := HI.out.2.size
      refine ⟨keeps_store (keeps_below HBL.out) _ _ _ _ _, below_store (HBL.out.mono hs) (by omega) _ _ _ _, ?_⟩
      have := moveI_step (x := x) HI.out HBL.out hs
      rw [HG.out] at this
      exact this
    case done =>
      rintro D ys W hD rfl hI hK
      have HL := Lib.hid (gone_list s (z := 256) (d := d) (by omega))
      obtain ⟨⟨c0, c1, c2, c3⟩, f0, f1, f2, f3⟩ := hI.1.1.reads
      obtain ⟨⟨d0, d1, d2, d3⟩, g0, g1, g2, g3⟩ := hI.1.2.1.reads
      rw [HL.out] at c0 c1 c2 c3
      have HI := Lib.hid hI
      clear hI
      generalize hm : s.move d = m at *
      clear hm
      gi_wp2
      have hKO := keeps_store (KeepsOthers.refl W) (w.heap.size + 1 + 1) (.int .u64 (m.a : Int)) (.int .u64 (m.b : Int)) (.int .u64 (m.c : Int)) (.int .u64 (m.d : Int))
      have hK' := hKO.same D _ hK rfl
      refine ⟨by simp, .inl ⟨_, _, rfl, run_takeDeferred hK', ?_⟩⟩
      have hst := SetAt.own (w.heap.size + 1 + 1) (fun _ : Unit => m) () _ _ _ (SetAt.store HI.out.1.2.1 m) (grownBy_putObj' _ D (.deferred none)) (fun r e => by cases e; exact ⟨_, hK', rfl⟩)
      obtain ⟨⟨e0, e1, e2, e3⟩, _⟩ := SetAt.reads hst
      refine ⟨setV m, ?_, rfl, (below_store HI.out.2 (by omega) _ _ _ _).trans (belowK_b (w := w) (Nat.le_refl _) _ D _ _ (by simp at hD; omega) hK' rfl rfl)⟩
      simp [results, Tryd.f17, go_sem, e0, e1, e2, e3]
    case stop =>
      rintro D c pre W _ _ h _
      exact h.elim
  · refine (callsIn_wide (n := 5)).1 ?_
    refine callsIn_of_wp_marks Tryd.func17 rfl trivial ?_ rfl
    simp only [Tryd.ntmps17, List.size_toArray, List.length_cons, List.length_nil, Nat.reduceAdd, Nat.reduceSub, Array.replicate_succ, Array.replicate_zero, List.push_toArray, List.append_toArray, List.nil_append, List.cons_append]
    gi_wp2_with (refine ⟨trivial, ?_⟩; gi_at_call 31; refine (all_in _ _ _).mono ?_; rintro e w' ⟨rfl, rfl⟩)
    have hB0 : Below w.heap.size w (((((w.alloc (.cells #[.int .u64 (s.a : Int), .int .u64 (s.b : Int), .int .u64 (s.c : Int), .int .u64 (s.d : Int)] 27)).alloc (.cells #[.int .i64 (256)] 3)).alloc (.cells #[.int .u64 0, .int .u64 0, .int .u64 0, .int .u64 0] 27)).alloc (.cells #[.int .u64 0, .int .u64 0, .int .u64 0, .int .u64 0] 27)).alloc (.cells #[.int .u64 (s.a : Int), .int .u64 (s.b : Int), .int .u64 (s.c : Int), .int .u64 (s.d : Int)] 27)) :=
      (((((Below.refl _ w).alloc (Nat.le_refl _) _).alloc (by simp) _).alloc (by simp; omega) _).alloc (by simp; omega) _).alloc (by simp; omega) _
    have hA := SetAt.new ((((w.alloc (.cells #[.int .u64 (s.a : Int), .int .u64 (s.b : Int), .int .u64 (s.c : Int), .int .u64 (s.d : Int)] 27)).alloc (.cells #[.int .i64 (256)] 3)).alloc (.cells #[.int .u64 0, .int .u64 0, .int .u64 0, .int .u64 0] 27)).alloc (.cells #[.int .u64 0, .int .u64 0, .int .u64 0, .int .u64 0] 27)) s
    have hM := SetAt.new (((w.alloc (.cells #[.int .u64 (s.a : Int), .int .u64 (s.b : Int), .int .u64 (s.c : Int), .int .u64 (s.d : Int)] 27)).alloc (.cells #[.int .i64 (256)] 3)).alloc (.cells #[.int .u64 0, .int .u64 0, .int .u64 0, .int .u64 0] 27)) Sl.no
    have hR := SetAt.new ((w.alloc (.cells #[.int .u64 (s.a : Int), .int .u64 (s.b : Int), .int .u64 (s.c : Int), .int .u64 (s.d : Int)] 27)).alloc (.cells #[.int .i64 (256)] 3)) Sl.no
    have hN := new_cell (w.alloc (.cells #[.int .u64 (s.a : Int), .int .u64 (s.b : Int), .int .u64 (s.c : Int), .int .u64 (s.d : Int)] 27)) (.int .i64 (256)) 3
    simp only [World.size_alloc] at hA hN hR hM
    refine wpIn_rangeFunc_ownF rfl (by omega) (gf := 40) (lb := #[.pointer (some ⟨w.heap.size + 1 + 1 + 1 + 1, 0, none⟩)]) rfl trivial (enters_of Tryd.func40 (by kernel_rfl) rfl)
      (all_stops _ (by omega) (w.heap.size + 1 + 1 + 1 + 1) w.heap.size s HS.out _ hA (tab_below HT.out hB0 hw) hw (by simp; omega)) belowK_t (belowK_b (by simp; omega)) (Below.refl _ _) (fun _ => rfl)
      (MoveI w (256)) (fun _ _ _ => False) (moveI_own w _ (by simp; omega)) (fun _ _ _ _ _ hs _ _ => hs)
      ⟨⟨hM.alloc _, (hR.alloc _).alloc _, (more_cell _ (more_cell _ (more_cell _ hN))).1⟩, hB0⟩
      (fun x => { tmps := #[setV s, .int .i64 256, .pointer (some ⟨w.heap.size, 0, none⟩), .pointer (some ⟨w.heap.size + 1, 0, none⟩), .pointer (some ⟨w.heap.size + 1 + 1, 0, none⟩), .pointer (some ⟨w.heap.size + 1 + 1 + 1, 0, none⟩), .int .i64 x, .int .i64 256, .int .i64 256, .int .i64 256, setV s, .func (.func 40) #[] #[.pointer (some ⟨w.heap.size + 1 + 1 + 1 + 1, 0, none⟩)], .int .i64 x, undef, undef, undef, undef, undef, undef], defers := [] }) ?assign ?body ?done ?stop
    case assign =>
      intro l x W K hK
      gi_wp2
      exact hK
    case body =>
      rintro l pre x W hI _
      obtain ⟨⟨c0, c1, c2, c3⟩, f0, f1, f2, f3⟩ := hI.1.1.reads
      have cz := hI.1.2.2
      have HW := Lib.hid (fun w => with_any (gone (256) pre) (gone_ok _ _) (wrap64 (x + (256))) w)
      have HI := Lib.hid hI
      clear hI
      generalize hg : gone (256) pre = g at *
      have HG := Lib.hid hg
      clear hg
      gi_wp2_with (refine ⟨trivial, ?_⟩; gi_at_call 30; refine (CallsIn.inRound l (callsIn_wide.2 (HW.out _))).mono ?_; rintro e w1 ⟨rfl, hbl⟩; obtain ⟨⟨c0, c1, c2, c3⟩, f0, f1, f2, f3⟩ := (SetAt.below HI.out.1.1 hbl HI.out.1.1.lt).reads; rw [HG.out] at c0 c1 c2 c3; have HBL := Lib.hid hbl; clear hbl)
      have hs := HI.out.2.size
      refine ⟨keeps_store (keeps_below HBL.out) _ _ _ _ _, below_store (HBL.out.mono hs) (by omega) _ _ _ _, ?_⟩
      have := moveI_step (x := x) HI.out HBL.out hs
      rw [HG.out] at this
      exact this
    case done =>
      rintro D ys W hD rfl hI hK
      have HL := Lib.hid (gone_list s (z := 256) (d := 256) (by omega))
      obtain ⟨⟨c0, c1, c2, c3⟩, f0, f1, f2, f3⟩ := hI.1.1.reads
      obtain ⟨⟨d0, d1, d2, d3⟩, g0, g1, g2, g3⟩ := hI.1.2.1.reads
      rw [HL.out] at c0 c1 c2 c3
      have HI := Lib.hid hI
      clear hI
      generalize hm : s.move 256 = m at *
      clear hm
      gi_wp2
      have hKO := keeps_store (KeepsOthers.refl W) (w.heap.size + 1 + 1) (.int .u64 (m.a : Int)) (.int .u64 (m.b : Int)) (.int .u64 (m.c : Int)) (.int .u64 (m.d : Int))
      have hK' := hKO.same D _ hK rfl
      refine ⟨by simp, .inl ⟨_, _, rfl, run_takeDeferred hK', ?_⟩⟩
      have hst := SetAt.own (w.heap.size + 1 + 1) (fun _ : Unit => m) () _ _ _ (SetAt.store HI.out.1.2.1 m) (grownBy_putObj' _ D (.deferred none)) (fun r e => by cases e; exact ⟨_, hK', rfl⟩)
      obtain ⟨⟨e0, e1, e2, e3⟩, _⟩ := SetAt.reads hst
      refine ⟨setV m, ?_, rfl, (below_store HI.out.2 (by omega) _ _ _ _).trans (belowK_b (w := w) (Nat.le_refl _) _ D _ _ (by simp at hD; omega) hK' rfl rfl)⟩
      simp [results, Tryd.f17, go_sem, e0, e1, e2, e3]
    case stop =>
      rintro D c pre W _ _ h _
      exact h.elim
  · refine (callsIn_wide (n := 5)).1 ?_
    refine callsIn_of_wp_marks Tryd.func17 rfl trivial ?_ rfl
    simp only [Tryd.ntmps17, List.size_toArray, List.length_cons, List.length_nil, Nat.reduceAdd, Nat.reduceSub, Array.replicate_succ, Array.replicate_zero, List.push_toArray, List.append_toArray, List.nil_append, List.cons_append]
    gi_wp2_with (refine ⟨trivial, ?_⟩; gi_at_call 31; refine (all_in _ _ _).mono ?_; rintro e w' ⟨rfl, rfl⟩)
    have hB0 : Below w.heap.size w (((((w.alloc (.cells #[.int .u64 (s.a : Int), .int .u64 (s.b : Int), .int .u64 (s.c : Int), .int .u64 (s.d : Int)] 27)).alloc (.cells #[.int .i64 (d)] 3)).alloc (.cells #[.int .u64 0, .int .u64 0, .int .u64 0, .int .u64 0] 27)).alloc (.cells #[.int .u64 0, .int .u64 0, .int .u64 0, .int .u64 0] 27)).alloc (.cells #[.int .u64 (s.a : Int), .int .u64 (s.b : Int), .int .u64 (s.c : Int), .int .u64 (s.d : Int)] 27)) :=
      (((((Below.refl _ w).alloc (Nat.le_refl _) _).alloc (by simp) _).alloc (by simp; omega) _).alloc (by simp; omega) _).alloc (by simp; omega) _
    have hA := SetAt.new ((((w.alloc (.cells #[.int .u64 (s.a : Int), .int .u64 (s.b : Int), .int .u64 (s.c : Int), .int .u64 (s.d : Int)] 27)).alloc (.cells #[.int .i64 (d)] 3)).alloc (.cells #[.int .u64 0, .int .u64 0, .int .u64 0, .int .u64 0] 27)).alloc (.cells #[.int .u64 0, .int .u64 0, .int .u64 0, .int .u64 0] 27)) s
    have hM := SetAt.new (((w.alloc (.cells #[.int .u64 (s.a : Int), .int .u64 (s.b : Int), .int .u64 (s.c : Int), .int .u64 (s.d : Int)] 27)).alloc (.cells #[.int .i64 (d)] 3)).alloc (.cells #[.int .u64 0, .int .u64 0, .int .u64 0, .int .u64 0] 27)) Sl.no
    have hR := SetAt.new ((w.alloc (.cells #[.int .u64 (s.a : Int), .int .u64 (s.b : Int), .int .u64 (s.c : Int), .int .u64 (s.d : Int)] 27)).alloc (.cells #[.int .i64 (d)] 3)) Sl.no
    have hN := new_cell (w.alloc (.cells #[.int .u64 (s.a : Int), .int .u64 (s.b : Int), .int .u64 (s.c : Int), .int .u64 (s.d : Int)] 27)) (.int .i64 (d)) 3
    simp only [World.size_alloc] at hA hN hR hM
    refine wpIn_rangeFunc_ownF rfl (by omega) (gf := 40) (lb := #[.pointer (some ⟨w.heap.size + 1 + 1 + 1 + 1, 0, none⟩)]) rfl trivial (enters_of Tryd.func40 (by kernel_rfl) rfl)
      (all_stops _ (by omega) (w.heap.size + 1 + 1 + 1 + 1) w.heap.size s HS.out _ hA (tab_below HT.out hB0 hw) hw (by simp; omega)) belowK_t (belowK_b (by simp; omega)) (Below.refl _ _) (fun _ => rfl)
      (MoveI w (d)) (fun _ _ _ => False) (moveI_own w _ (by simp; omega)) (fun _ _ _ _ _ hs _ _ => hs)
      ⟨⟨hM.alloc _, (hR.alloc _).alloc _, (more_cell _ (more_cell _ (more_cell _ hN))).1⟩, hB0⟩
      (fun x => { tmps := #[setV s, .int .i64 d, .pointer (some ⟨w.heap.size, 0, none⟩), .pointer (some ⟨w.heap.size + 1, 0, none⟩), .pointer (some ⟨w.heap.size + 1 + 1, 0, none⟩), .pointer (some ⟨w.heap.size + 1 + 1 + 1, 0, none⟩), .int .i64 x, .int .i64 d, .int .i64 d, .int .i64 d, setV s, .func (.func 40) #[] #[.pointer (some ⟨w.heap.size + 1 + 1 + 1 + 1, 0, none⟩)], .int .i64 x, undef, undef, undef, undef, undef, undef], defers := [] }) ?assign ?body ?done ?stop
    case assign =>
      intro l x W K hK
      gi_wp2
      exact hK
    case body =>
      rintro l pre x W hI _
      obtain ⟨⟨c0, c1, c2, c3⟩, f0, f1, f2, f3⟩ := hI.1.1.reads
      have cz := hI.1.2.2
      have HW := Lib.hid (fun w => with_any (gone (d) pre) (gone_ok _ _) (wrap64 (x + (d))) w)
      have HI := Lib.hid hI
      clear hI
      generalize hg : gone (d) pre = g at *
      have HG := Lib.hid hg
      clear hg
      gi_wp2_with (refine ⟨trivial, ?_⟩; gi_at_call 30; refine (CallsIn.inRound l (callsIn_wide.2 (HW.out _))).mono ?_; rintro e w1 ⟨rfl, hbl⟩; obtain ⟨⟨c0, c1, c2, c3⟩, f0, f1, f2, f3⟩ := (SetAt.below HI.out.1.1 hbl HI.out.1.1.lt).reads; rw [HG.out] at c0 c1 c2 c3; have HBL := Lib.hid hbl; clear hbl)
      have hs := HI.out.2.size
      refine ⟨keeps_store (keeps_below HBL.out) _ _ _ _ _, below_store (HBL.out.mono hs) (by omega) _ _ _ _, ?_⟩
      have := moveI_step (x := x) HI.out HBL.out hs
      rw [HG.out] at this
      exact this
    case done =>
      rintro D ys W hD rfl hI hK
      have HL := Lib.hid (gone_list s (z := d) (d := d) (by omega))
      obtain ⟨⟨c0, c1, c2, c3⟩, f0, f1, f2, f3⟩ := hI.1.1.reads
      obtain ⟨⟨d0, d1, d2, d3⟩, g0, g1, g2, g3⟩ := hI.1.2.1.reads
      rw [HL.out] at c0 c1 c2 c3
      have HI := Lib.hid hI
      clear hI
      generalize hm : s.move d = m at *
      clear hm
      gi_wp2
      have hKO := keeps_store (KeepsOthers.refl W) (w.heap.size + 1 + 1) (.int .u64 (m.a : Int)) (.int .u64 (m.b : Int)) (.int .u64 (m.c : Int)) (.int .u64 (m.d : Int))
      have hK' := hKO.same D _ hK rfl
      refine ⟨by simp, .inl ⟨_, _, rfl, run_takeDeferred hK', ?_⟩⟩
      have hst := SetAt.own (w.heap.size + 1 + 1) (fun _ : Unit => m) () _ _ _ (SetAt.store HI.out.1.2.1 m) (grownBy_putObj' _ D (.deferred none)) (fun r e => by cases e; exact ⟨_, hK', rfl⟩)
      obtain ⟨⟨e0, e1, e2, e3⟩, _⟩ := SetAt.reads hst
      refine ⟨setV m, ?_, rfl, (below_store HI.out.2 (by omega) _ _ _ _).trans (belowK_b (w := w) (Nat.le_refl _) _ D _ _ (by simp at hD; omega) hK' rfl rfl)⟩
      simp [results, Tryd.f17, go_sem, e0, e1, e2, e3]
    case stop =>
      rintro D c pre W _ _ h _
      exact h.elim
  · refine (callsIn_wide (n := 5)).1 ?_
    refine callsIn_of_wp_marks Tryd.func17 rfl trivial ?_ rfl
    simp only [Tryd.ntmps17, List.size_toArray, List.length_cons, List.length_nil, Nat.reduceAdd, Nat.reduceSub, Array.replicate_succ, Array.replicate_zero, List.push_toArray, List.append_toArray, List.nil_append, List.cons_append]
    gi_wp2_with (refine ⟨trivial, ?_⟩; gi_at_call 31; refine (all_in _ _ _).mono ?_; rintro e w' ⟨rfl, rfl⟩)
    have hB0 : Below w.heap.size w (((((w.alloc (.cells #[.int .u64 (s.a : Int), .int .u64 (s.b : Int), .int .u64 (s.c : Int), .int .u64 (s.d : Int)] 27)).alloc (.cells #[.int .i64 (-256)] 3)).alloc (.cells #[.int .u64 0, .int .u64 0, .int .u64 0, .int .u64 0] 27)).alloc (.cells #[.int .u64 0, .int .u64 0, .int .u64 0, .int .u64 0] 27)).alloc (.cells #[.int .u64 (s.a : Int), .int .u64 (s.b : Int), .int .u64 (s.c : Int), .int .u64 (s.d : Int)] 27)) :=
      (((((Below.refl _ w).alloc (Nat.le_refl _) _).alloc (by simp) _).alloc (by simp; omega) _).alloc (by simp; omega) _).alloc (by simp; omega) _
    have hA := SetAt.new ((((w.alloc (.cells #[.int .u64 (s.a : Int), .int .u64 (s.b : Int), .int .u64 (s.c : Int), .int .u64 (s.d : Int)] 27)).alloc (.cells #[.int .i64 (-256)] 3)).alloc (.cells #[.int .u64 0, .int .u64 0, .int .u64 0, .int .u64 0] 27)).alloc (.cells #[.int .u64 0, .int .u64 0, .int .u64 0, .int .u64 0] 27)) s
    have hM := SetAt.new (((w.alloc (.cells #[.int .u64 (s.a : Int), .int .u64 (s.b : Int), .int .u64 (s.c : Int), .int .u64 (s.d : Int)] 27)).alloc (.cells #[.int .i64 (-256)] 3)).alloc (.cells #[.int .u64 0, .int .u64 0, .int .u64 0, .int .u64 0] 27)) Sl.no
    have hR := SetAt.new ((w.alloc (.cells #[.int .u64 (s.a : Int), .int .u64 (s.b : Int), .int .u64 (s.c : Int), .int .u64 (s.d : Int)] 27)).alloc (.cells #[.int .i64 (-256)] 3)) Sl.no
    have hN := new_cell (w.alloc (.cells #[.int .u64 (s.a : Int), .int .u64 (s.b : Int), .int .u64 (s.c : Int), .int .u64 (s.d : Int)] 27)) (.int .i64 (-256)) 3
    simp only [World.size_alloc] at hA hN hR hM
    refine wpIn_rangeFunc_ownF rfl (by omega) (gf := 40) (lb := #[.pointer (some ⟨w.heap.size + 1 + 1 + 1 + 1, 0, none⟩)]) rfl trivial (enters_of Tryd.func40 (by kernel_rfl) rfl)
      (all_stops _ (by omega) (w.heap.size + 1 + 1 + 1 + 1) w.heap.size s HS.out _ hA (tab_below HT.out hB0 hw) hw (by simp; omega)) belowK_t (belowK_b (by simp; omega)) (Below.refl _ _) (fun _ => rfl)
      (MoveI w (-256)) (fun _ _ _ => False) (moveI_own w _ (by simp; omega)) (fun _ _ _ _ _ hs _ _ => hs)
      ⟨⟨hM.alloc _, (hR.alloc _).alloc _, (more_cell _ (more_cell _ (more_cell _ hN))).1⟩, hB0⟩
      (fun x => { tmps := #[setV s, .int .i64 (-256), .pointer (some ⟨w.heap.size, 0, none⟩), .pointer (some ⟨w.heap.size + 1, 0, none⟩), .pointer (some ⟨w.heap.size + 1 + 1, 0, none⟩), .pointer (some ⟨w.heap.size + 1 + 1 + 1, 0, none⟩), .int .i64 x, .int .i64 (-256), .int .i64 (-256), .int .i64 (-256), setV s, .func (.func 40) #[] #[.pointer (some ⟨w.heap.size + 1 + 1 + 1 + 1, 0, none⟩)], .int .i64 x, undef, undef, undef, undef, undef, undef], defers := [] }) ?assign ?body ?done ?stop
    case assign =>
      intro l x W K hK
      gi_wp2
      exact hK
    case body =>
      rintro l pre x W hI _
      obtain ⟨⟨c0, c1, c2, c3⟩, f0, f1, f2, f3⟩ := hI.1.1.reads
      have cz := hI.1.2.2
      have HW := Lib.hid (fun w => with_any (gone (-256) pre) (gone_ok _ _) (wrap64 (x + (-256))) w)
      have HI := Lib.hid hI
      clear hI
      generalize hg : gone (-256) pre = g at *
      have HG := Lib.hid hg
      clear hg
      gi_wp2_with (refine ⟨trivial, ?_⟩; gi_at_call 30; refine (CallsIn.inRound l (callsIn_wide.2 (HW.out _))).mono ?_; rintro e w1 ⟨rfl, hbl⟩; obtain ⟨⟨c0, c1, c2, c3⟩, f0, f1, f2, f3⟩ := (SetAt.below HI.out.1.1 hbl HI.out.1.1.lt).reads; rw [HG.out] at c0 c1 c2 c3; have HBL := Lib.hid hbl; clear hbl)
      have hs := HI.out.2.size
      refine ⟨keeps_store (keeps_below HBL.out) _ _ _ _ _, below_store (HBL.out.mono hs) (by omega) _ _ _ _, ?_⟩
      have := moveI_step (x := x) HI.out HBL.out hs
      rw [HG.out] at this
      exact this
    case done =>
      rintro D ys W hD rfl hI hK
      have HL := Lib.hid (gone_list s (z := -256) (d := (-256)) (by omega))
      obtain ⟨⟨c0, c1, c2, c3⟩, f0, f1, f2, f3⟩ := hI.1.1.reads
      obtain ⟨⟨d0, d1, d2, d3⟩, g0, g1, g2, g3⟩ := hI.1.2.1.reads
      rw [HL.out] at c0 c1 c2 c3
      have HI := Lib.hid hI
      clear hI
      generalize hm : s.move (-256) = m at *
      clear hm
      gi_wp2
      have hKO := keeps_store (KeepsOthers.refl W) (w.heap.size + 1 + 1) (.int .u64 (m.a : Int)) (.int .u64 (m.b : Int)) (.int .u64 (m.c : Int)) (.int .u64 (m.d : Int))
      have hK' := hKO.same D _ hK rfl
      refine ⟨by simp, .inl ⟨_, _, rfl, run_takeDeferred hK', ?_⟩⟩
      have hst := SetAt.own (w.heap.size + 1 + 1) (fun _ : Unit => m) () _ _ _ (SetAt.store HI.out.1.2.1 m) (grownBy_putObj' _ D (.deferred none)) (fun r e => by cases e; exact ⟨_, hK', rfl⟩)
      obtain ⟨⟨e0, e1, e2, e3⟩, _⟩ := SetAt.reads hst
      refine ⟨setV m, ?_, rfl, (below_store HI.out.2 (by omega) _ _ _ _).trans (belowK_b (w := w) (Nat.le_refl _) _ D _ _ (by simp at hD; omega) hK' rfl rfl)⟩
      simp [results, Tryd.f17, go_sem, e0, e1, e2, e3]
    case stop =>
      rintro D c pre W _ _ h _
      exact h.elim
  · refine (callsIn_wide (n := 5)).1 ?_
    refine callsIn_of_wp_marks Tryd.func17 rfl trivial ?_ rfl
    simp only [Tryd.ntmps17, List.size_toArray, List.length_cons, List.length_nil, Nat.reduceAdd, Nat.reduceSub, Array.replicate_succ, Array.replicate_zero, List.push_toArray, List.append_toArray, List.nil_append, List.cons_append]
    gi_wp2_with (refine ⟨trivial, ?_⟩; gi_at_call 31; refine (all_in _ _ _).mono ?_; rintro e w' ⟨rfl, rfl⟩)
    have hB0 : Below w.heap.size w (((((w.alloc (.cells #[.int .u64 (s.a : Int), .int .u64 (s.b : Int), .int .u64 (s.c : Int), .int .u64 (s.d : Int)] 27)).alloc (.cells #[.int .i64 (-256)] 3)).alloc (.cells #[.int .u64 0, .int .u64 0, .int .u64 0, .int .u64 0] 27)).alloc (.cells #[.int .u64 0, .int .u64 0, .int .u64 0, .int .u64 0] 27)).alloc (.cells #[.int .u64 (s.a : Int), .int .u64 (s.b : Int), .int .u64 (s.c : Int), .int .u64 (s.d : Int)] 27)) :=
      (((((Below.refl _ w).alloc (Nat.le_refl _) _).alloc (by simp) _).alloc (by simp; omega) _).alloc (by simp; omega) _).alloc (by simp; omega) _
    have hA := SetAt.new ((((w.alloc (.cells #[.int .u64 (s.a : Int), .int .u64 (s.b : Int), .int .u64 (s.c : Int), .int .u64 (s.d : Int)] 27)).alloc (.cells #[.int .i64 (-256)] 3)).alloc (.cells #[.int .u64 0, .int .u64 0, .int .u64 0, .int .u64 0] 27)).alloc (.cells #[.int .u64 0, .int .u64 0, .int .u64 0, .int .u64 0] 27)) s
    have hM := SetAt.new (((w.alloc (.cells #[.int .u64 (s.a : Int), .int .u64 (s.b : Int), .int .u64 (s.c : Int), .int .u64 (s.d : Int)] 27)).alloc (.cells #[.int .i64 (-256)] 3)).alloc (.cells #[.int .u64 0, .int .u64 0, .int .u64 0, .int .u64 0] 27)) Sl.no
    have hR := SetAt.new ((w.alloc (.cells #[.int .u64 (s.a : Int), .int .u64 (s.b : Int), .int .u64 (s.c : Int), .int .u64 (s.d : Int)] 27)).alloc (.cells #[.int .i64 (-256)] 3)) Sl.no
    have hN := new_cell (w.alloc (.cells #[.int .u64 (s.a : Int), .int .u64 (s.b : Int), .int .u64 (s.c : Int), .int .u64 (s.d : Int)] 27)) (.int .i64 (-256)) 3
    simp only [World.size_alloc] at hA hN hR hM
    refine wpIn_rangeFunc_ownF rfl (by omega) (gf := 40) (lb := #[.pointer (some ⟨w.heap.size + 1 + 1 + 1 + 1, 0, none⟩)]) rfl trivial (enters_of Tryd.func40 (by kernel_rfl) rfl)
      (all_stops _ (by omega) (w.heap.size + 1 + 1 + 1 + 1) w.heap.size s HS.out _ hA (tab_below HT.out hB0 hw) hw (by simp; omega)) belowK_t (belowK_b (by simp; omega)) (Below.refl _ _) (fun _ => rfl)
      (MoveI w (-256)) (fun _ _ _ => False) (moveI_own w _ (by simp; omega)) (fun _ _ _ _ _ hs _ _ => hs)
      ⟨⟨hM.alloc _, (hR.alloc _).alloc _, (more_cell _ (more_cell _ (more_cell _ hN))).1⟩, hB0⟩
      (fun x => { tmps := #[setV s, .int .i64 d, .pointer (some ⟨w.heap.size, 0, none⟩), .pointer (some ⟨w.heap.size + 1, 0, none⟩), .pointer (some ⟨w.heap.size + 1 + 1, 0, none⟩), .pointer (some ⟨w.heap.size + 1 + 1 + 1, 0, none⟩), .int .i64 x, .int .i64 d, .int .i64 d, .int .i64 (-256), setV s, .func (.func 40) #[] #[.pointer (some ⟨w.heap.size + 1 + 1 + 1 + 1, 0, none⟩)], .int .i64 x, undef, undef, undef, undef, undef, undef], defers := [] }) ?assign ?body ?done ?stop
    case assign =>
      intro l x W K hK
      gi_wp2
      exact hK
    case body =>
      rintro l pre x W hI _
      obtain ⟨⟨c0, c1, c2, c3⟩, f0, f1, f2, f3⟩ := hI.1.1.reads
      have cz := hI.1.2.2
      have HW := Lib.hid (fun w => with_any (gone (-256) pre) (gone_ok _ _) (wrap64 (x + (-256))) w)
      have HI := Lib.hid hI
      clear hI
      generalize hg : gone (-256) pre = g at *
      have HG := Lib.hid hg
      clear hg
      gi_wp2_with (refine ⟨trivial, ?_⟩; gi_at_call 30; refine (CallsIn.inRound l (callsIn_wide.2 (HW.out _))).mono ?_; rintro e w1 ⟨rfl, hbl⟩; obtain ⟨⟨c0, c1, c2, c3⟩, f0, f1, f2, f3⟩ := (SetAt.below HI.out.1.1 hbl HI.out.1.1.lt).reads; rw [HG.out] at c0 c1 c2 c3; have HBL := Lib.hid hbl; clear hbl)
      have hs := HI.out.2.size
      refine ⟨keeps_store (keeps_below HBL.out) _ _ _ _ _, below_store (HBL.out.mono hs) (by omega) _ _ _ _, ?_⟩
      have := moveI_step (x := x) HI.out HBL.out hs
      rw [HG.out] at this
      exact this
    case done =>
      rintro D ys W hD rfl hI hK
      have HL := Lib.hid (gone_list s (z := -256) (d := d) (by omega))
      obtain ⟨⟨c0, c1, c2, c3⟩, f0, f1, f2, f3⟩ := hI.1.1.reads
      obtain ⟨⟨d0, d1, d2, d3⟩, g0, g1, g2, g3⟩ := hI.1.2.1.reads
      rw [HL.out] at c0 c1 c2 c3
      have HI := Lib.hid hI
      clear hI
      generalize hm : s.move d = m at *
      clear hm
      gi_wp2
      have hKO := keeps_store (KeepsOthers.refl W) (w.heap.size + 1 + 1) (.int .u64 (m.a : Int)) (.int .u64 (m.b : Int)) (.int .u64 (m.c : Int)) (.int .u64 (m.d : Int))
      have hK' := hKO.same D _ hK rfl
      refine ⟨by simp, .inl ⟨_, _, rfl, run_takeDeferred hK', ?_⟩⟩
      have hst := SetAt.own (w.heap.size + 1 + 1) (fun _ : Unit => m) () _ _ _ (SetAt.store HI.out.1.2.1 m) (grownBy_putObj' _ D (.deferred none)) (fun r e => by cases e; exact ⟨_, hK', rfl⟩)
      obtain ⟨⟨e0, e1, e2, e3⟩, _⟩ := SetAt.reads hst
      refine ⟨setV m, ?_, rfl, (below_store HI.out.2 (by omega) _ _ _ _).trans (belowK_b (w := w) (Nat.le_refl _) _ D _ _ (by simp at hD; omega) hK' rfl rfl)⟩
      simp [results, Tryd.f17, go_sem, e0, e1, e2, e3]
    case stop =>
      rintro D c pre W _ _ h _
      exact h.elim

end Go.Proofs.YtinmcelgfdjmfaaDoor
