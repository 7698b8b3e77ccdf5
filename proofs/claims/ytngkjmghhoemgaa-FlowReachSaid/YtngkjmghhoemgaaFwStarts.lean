/-
  Where pieces begin: the program's answer. Conditions: the function can be read, and laid; words of 64 bits; not more than a thousand instructions and nodes.
-/
import Derived.Test.YtngkjmghhoemgaaFwBegin
import Derived.Test.YtngkjmghhoemgaaFwCatch
namespace Go.Proofs.Ytngkjmghhoemgaa
open Go.RowKit

set_option maxHeartbeats 16000000 in
set_option maxRecDepth 100000 in
theorem fwstarts_any (v : FnV) (f : Fn.F) (w : World) (h : FnOk w w.heap.size v f) (hw : f.Wf) (hcan : f.can = 0) (hk2 : v.code.n ≤ 1000) (hnn : v.nodes.n ≤ 1000) :
    Calls Try.prog 9 #[.agg v.cells] w (RowP (Fw.starts f) w) := by
  obtain ⟨ib, hib, hbz0, hbz1, hbz2⟩ := info_parts info_bool
  have hb := (Below.refl w.heap.size w).alloc (Nat.le_refl _) (.cells v.cells 28)
  have HB := Lib.hid hb
  have HA := Lib.hid (FnAt.new w v)
  have hA := FnAt.new w v
  have c0 := hA.c0; have c1 := hA.c1; have c2 := hA.c2; have c3 := hA.c3; have c4 := hA.c4; have c5 := hA.c5; have c6 := hA.c6; have c7 := hA.c7; have c8 := hA.c8; have c9 := hA.c9; have c10 := hA.c10
  have HCt := Lib.hid (fun (k : Nat) (hk : k < v.code.n) (W : World) (hx : Below w.heap.size w W) => fwcatch_any v f k W (h.on hx) hw hcan hk (by omega))
  have HOp := Lib.hid (fun (k : Nat) (hk : k < v.code.n) (W : World) (hx : Below w.heap.size w W) => fwopens_any v f k W (h.on hx) hk)
  have HBg := Lib.hid (fun (q p g : Nat) (u : Value) (l M : List Int) (W : World) hA hp hg hl hql hpl hll => fwbegin_any q p g v f u l M W hA h.n_code hp hg hl hql hpl hll)
  have HPc := Lib.hid (h.on hb).code.1
  have HN : Hid (f.code.length = v.code.n ∧ v.code.n ≤ 1000 ∧ f.nodes.length ≤ 1000) := Lib.hid ⟨h.n_code, hk2, by have := h.n_nodes; omega⟩
  clear h hw hcan hnn hb hA hk2
  obtain ⟨nm, inn, ⟨oa, on, oc⟩, ⟨pa, pn, pc⟩, ⟨ra, rn, rc⟩, ⟨la, ln, lc⟩, ⟨ca, cn, cc⟩, ⟨ia, i_n, ic⟩, ⟨na, nn, nc⟩, ⟨ta, tn, tc⟩, ⟨va, vn, vc⟩⟩ := v
  have HC := Lib.hid (And.intro c0 (And.intro c1 (And.intro c2 (And.intro c3 (And.intro c4 (And.intro c5 (And.intro c6 (And.intro c7 (And.intro c8 (And.intro c9 c10))))))))))
  have HN : Hid (f.code.length = cn ∧ cn ≤ 1000 ∧ f.nodes.length ≤ 1000) := HN
  go_enter Try.func9, Try.ntmps9
  go_wp2_with (first
    | (at_make; refine wpList_make_full _ rfl _ _ 31 rfl (w.heap.size + 1) 4 ib (.bool false) 1 Try.underlying31 hib hbz0 hbz1 .i64 .i64 _ _ cn rfl rfl rfl rfl (by have := HN.out; rw [hbz2]; omega) (by have := HN.out; unfold maxLen; omega) (by simp) ?_; intro w2 hown2 hgrow2; have HO2 := Lib.hid hown2; have HG2 := Lib.hid hgrow2; clear hown2 hgrow2)
    | (go_at_call 21; refine Hid.out ?_))
  refine Lib.hid ?_
  have hq2 := Bq.made HO2.out
  rw [World.size_alloc] at hq2
  have hg2s : w.heap.size + 1 < w2.heap.size := hq2.lt
  have hb2 : Below (w.heap.size + 1) (w.alloc (.cells (FnV.cells ⟨nm, inn, ⟨oa, on, oc⟩, ⟨pa, pn, pc⟩, ⟨ra, rn, rc⟩, ⟨la, ln, lc⟩, ⟨ca, cn, cc⟩, ⟨ia, i_n, ic⟩, ⟨na, nn, nc⟩, ⟨ta, tn, tc⟩, ⟨va, vn, vc⟩⟩) 28)) w2 := (Below.refl _ _).grown HG2.out (by simp) (fun k hk => by cases hk)
  obtain ⟨w1, hw1⟩ : ∃ W, W = w.alloc (.cells (FnV.cells ⟨nm, inn, ⟨oa, on, oc⟩, ⟨pa, pn, pc⟩, ⟨ra, rn, rc⟩, ⟨la, ln, lc⟩, ⟨ca, cn, cc⟩, ⟨ia, i_n, ic⟩, ⟨na, nn, nc⟩, ⟨ta, tn, tc⟩, ⟨va, vn, vc⟩⟩) 28) := ⟨_, rfl⟩
  have hs1 : w1.heap.size = w.heap.size + 1 := by rw [hw1, World.size_alloc]
  rw [← hw1] at hb2 HA HPc HB HC
  obtain ⟨w3, hw3⟩ : ∃ W, W = w2.alloc (.cells #[.slice (some ⟨w.heap.size + 1, 0, none⟩) cn cn] 31) := ⟨_, rfl⟩
  have hb23 : Below w2.heap.size w2 w3 := by rw [hw3]; exact (Below.refl _ _).alloc (Nat.le_refl _) _
  have hs3 : w3.heap.size = w2.heap.size + 1 := by rw [hw3, World.size_alloc]
  have hp3 : w3.cell? ⟨w2.heap.size, 0, none⟩ = some (.slice (some ⟨w.heap.size + 1, 0, none⟩) cn cn) := by rw [hw3]; exact (new_cell w2 _ _).1
  have hb13 : Below (w.heap.size + 1) w1 w3 := hb2.trans (hb23.mono (by omega))
  have hq3 := hq2.below hb23
  rw [← hw3]
  have hne : w.heap.size + 1 ≠ w2.heap.size := by omega
  have HFn := Lib.hid (fun (W : World) (hx : w3.grownBy W (some (w.heap.size + 1))) => show FnAt W w.heap.size ⟨nm, inn, ⟨oa, on, oc⟩, ⟨pa, pn, pc⟩, ⟨ra, rn, rc⟩, ⟨la, ln, lc⟩, ⟨ca, cn, cc⟩, ⟨ia, i_n, ic⟩, ⟨na, nn, nc⟩, ⟨ta, tn, tc⟩, ⟨va, vn, vc⟩⟩ from (hx.block w.heap.size (by omega) (fun e => by injection e with e; omega)).trans (HA.out.below hb13 (Nat.lt_succ_self _)))
  have HCell := Lib.hid (fun (W : World) (hx : w3.grownBy W (some (w.heap.size + 1))) (b i : Nat) (z : Value) (hb : b < w.heap.size + 1) (hz : w1.cell? ⟨b, i, none⟩ = some z) => hx.cell (a := ⟨b, i, none⟩) ((hb13.cell (p := ⟨b, i, none⟩) hb).trans hz) (fun e => by injection e with e; simp only at e; omega))
  have HC3 := Lib.hid (fun (W : World) (hx : w3.grownBy W (some (w.heap.size + 1))) => And.intro (HCell.out W hx w.heap.size 0 _ (Nat.lt_succ_self _) HC.out.1) (And.intro (HCell.out W hx w.heap.size 1 _ (Nat.lt_succ_self _) HC.out.2.1) (And.intro (HCell.out W hx w.heap.size 2 _ (Nat.lt_succ_self _) HC.out.2.2.1) (And.intro (HCell.out W hx w.heap.size 3 _ (Nat.lt_succ_self _) HC.out.2.2.2.1) (And.intro (HCell.out W hx w.heap.size 4 _ (Nat.lt_succ_self _) HC.out.2.2.2.2.1) (And.intro (HCell.out W hx w.heap.size 5 _ (Nat.lt_succ_self _) HC.out.2.2.2.2.2.1) (And.intro (HCell.out W hx w.heap.size 6 _ (Nat.lt_succ_self _) HC.out.2.2.2.2.2.2.1) (And.intro (HCell.out W hx w.heap.size 7 _ (Nat.lt_succ_self _) HC.out.2.2.2.2.2.2.2.1) (And.intro (HCell.out W hx w.heap.size 8 _ (Nat.lt_succ_self _) HC.out.2.2.2.2.2.2.2.2.1) (And.intro (HCell.out W hx w.heap.size 9 _ (Nat.lt_succ_self _) HC.out.2.2.2.2.2.2.2.2.2.1) (HCell.out W hx w.heap.size 10 _ (Nat.lt_succ_self _) HC.out.2.2.2.2.2.2.2.2.2.2)))))))))))
  have HSz := Lib.hid (fun (W : World) (hx : w3.grownBy W (some (w.heap.size + 1))) => show w.heap.size + 1 + 1 ≤ W.heap.size by have := hx.size; omega)
  have HBW := Lib.hid (fun (W : World) (hx : w3.grownBy W (some (w.heap.size + 1))) => show Below w.heap.size w W from (HB.out.trans (hb13.mono (Nat.le_succ _))).grown hx (by omega) (fun k hk => by injection hk with hk; omega))
  have HBeg := Lib.hid (fun (u : Value) (l M : List Int) (W : World) (hx : w3.grownBy W (some (w.heap.size + 1))) (hq : Bq W (w.heap.size + 1) (Fw.mk cn M)) (hl : Rq W (w.heap.size + 1 + 1) u l) (hll : l.length ≤ 1000000) =>
    HBg.out w.heap.size w2.heap.size (w.heap.size + 1) u l M W (HFn.out W hx) (hx.cell (a := ⟨w2.heap.size, 0, none⟩) hp3 (fun e => by injection e with e; simp only at e; omega)) hq hl (by omega) (by omega) hll)
  have HLit := Lib.hid (fun (x : Int) (M : List Int) (W : World) (hx : w3.grownBy W (some (w.heap.size + 1))) (hq : Bq W (w.heap.size + 1) (Fw.mk cn M)) =>
    show Calls Try.prog 21 #[.slice (some ⟨W.heap.size, 0, none⟩) 1 1, .pointer (some ⟨w.heap.size, 0, none⟩), .pointer (some ⟨w2.heap.size, 0, none⟩)] (W.alloc (.cells #[.int .i64 x] 3)) (fun e w' => e = .returned (.tuple #[]) ∧ Bq w' (w.heap.size + 1) (Fw.mk cn (M ++ [x])) ∧ w3.grownBy w' (some (w.heap.size + 1))) from
      (HBeg.out (.slice (some ⟨W.heap.size, 0, none⟩) 1 1) [x] M (W.alloc (.cells #[.int .i64 x] 3)) (hx.trans (World.grownBy_alloc W _ _)) (hq.below ((Below.refl _ _).alloc (Nat.le_refl _) _)) (Rq.lit W _ [x] (HSz.out W hx)) (by simp)).mono (fun e w' h => ⟨h.1, h.2.1, (hx.trans (World.grownBy_alloc W _ _)).trans h.2.2⟩))
  have HPcell := Lib.hid (fun (k : Nat) (hk : k < cn) => pairs_cell HPc.out hk)
  rw [← Fw.mk_none] at hq3
  have HQ3 := Lib.hid hq3
  have HS3 := Lib.hid (And.intro hs3 (And.intro hg2s hs1))
  have HP3 := Lib.hid hp3
  clear hp3 hq3 hb13 hb23 hb2 hq2 hs1 hs3 hw3 hne hg2s HBg HA HPc HO2 HG2
  refine (HBeg.out _ [0] [] _ (World.grownBy_alloc w3 _ _) (HQ3.out.below ((Below.refl _ _).alloc (Nat.le_refl _) _)) (by have := Rq.lit w3 (w.heap.size + 1 + 1) [0] (by have := HS3.out; omega); rw [HS3.out.1] at this; exact this) (by decide)).mono ?_
  rintro _ w4 ⟨rfl, hq4, hg4⟩
  have HQ4 : Hid (Bq w4 (w.heap.size + 1) (Fw.mk cn (Fw.marks f 0))) := Lib.hid hq4
  have HG4 := Lib.hid ((World.grownBy_alloc w3 _ _).trans hg4)
  clear hq4 hg4
  obtain ⟨m0, m1, m2, m3, m4, m5, m6, m7, m8, m9, m10⟩ := HC3.out _ HG4.out
  go_wp2
  go_loopw [21] (fun i wr => ∃ k : Nat, i = .int .i64 (k : Int) ∧ k ≤ cn ∧ Bq wr (w.heap.size + 1) (Fw.mk cn (Fw.marks f k)) ∧ w3.grownBy wr (some (w.heap.size + 1))) (fun i _ => cn - (intOf i).toNat)
  case atStart => exact ⟨0, rfl, Nat.zero_le _, HQ4.out, HG4.out⟩
  case round =>
    obtain ⟨k, rfl, hk, hqr, hgr⟩ := hrel
    have HQr := Lib.hid hqr
    have HGr := Lib.hid hgr
    clear hqr hgr m0 m1 m2 m3 m4 m5 m6 m7 m8 m9 m10
    by_cases hkl : k < cn
    · obtain ⟨b, off, y, rfl, hlt, hy, _, e0, e1⟩ := HPcell.out k hkl
      have hlt1 : b < w.heap.size + 1 := by have := HS3.out; omega
      have d0 := HCell.out _ HGr.out b _ _ hlt1 e0
      have d1 := HCell.out _ HGr.out b _ _ hlt1 e1
      have HOp2 : Hid (Fw.op f k = y.1 ∧ Fw.arg f k = y.2) := Lib.hid ⟨by unfold Fw.op; rw [hy], by unfold Fw.arg; rw [hy]⟩
      obtain ⟨o, ar⟩ := y
      simp only at d0 d1 HOp2
      have HG0 := Lib.hid (HGr.out.trans (World.grownBy_alloc wr (.cells #[.int .i64 o, .int .i64 ar] 39) _))
      have HQ0 := Lib.hid (HQr.out.below ((Below.refl _ _).alloc (Nat.le_refl _) (.cells #[.int .i64 o, .int .i64 ar] 39)))
      have HPr : Hid (∀ W : World, (wr.alloc (.cells #[.int .i64 o, .int .i64 ar] 39)).grownBy W (some (w.heap.size + 1)) → W.cell? ⟨wr.heap.size, 0, none⟩ = some (.int .i64 o) ∧ W.cell? ⟨wr.heap.size, 1, none⟩ = some (.int .i64 ar)) := Lib.hid (fun W hx => by
        have hz := HSz.out _ HGr.out
        have hr : (wr.alloc (.cells #[.int .i64 o, .int .i64 ar] 39)).heap[wr.heap.size]? = some (.cells #[.int .i64 o, .int .i64 ar] 39 (0, 0)) := heap_alloc_new wr _
        exact ⟨hx.cell (a := ⟨wr.heap.size, 0, none⟩) (cell_of_row _ _ 0 _ _ _ hr) (fun e => by injection e with e; simp only at e; omega), hx.cell (a := ⟨wr.heap.size, 1, none⟩) (cell_of_row _ _ 1 _ _ _ hr) (fun e => by injection e with e; simp only at e; omega)⟩)
      obtain ⟨k0, k1, k2, k3, k4, k5, k6, k7, k8, k9, k10⟩ := HC3.out _ HG0.out
      have HK := Lib.hid hkl
      have hkb : k ≤ 1000 := by have := HN.out; omega
      have hki : (k : Int) < (cn : Int) := by omega
      have HL1 : Hid ((Fw.catch_ f k).length ≤ 1000000) := Lib.hid (by have := Fw.catch_len (f := f) k; have := HN.out; omega)
      have HL2 : Hid ((Fw.opens f k).length ≤ 1000000) := Lib.hid (by have := Fw.opens_len (f := f) k; omega)
      clear hk hkl hy hlt hlt1 e0 e1
      by_cases h21 : o = 21
      · subst h21
        have HT : Hid (Fw.begun f k = Fw.catch_ f k ++ Fw.opens f k ++ [ar, (k : Int) + 1]) := Lib.hid (by
          unfold Fw.begun Fw.turns
          rw [HOp2.out.1, HOp2.out.2, if_pos (by decide), if_pos ((Fw.ends_kinds _).2 (by decide))]
          rfl)
        clear HOp2
        go_wp2_with (first
          | (go_at_call 22; refine (HCt.out k HK.out _ (HBW.out _ HG0.out)).mono ?_; rintro _ wb ⟨u1, rfl, hu, hb⟩; have HX1 := Lib.hid (grown_of_below (row := some (w.heap.size + 1)) hb); have HG1 := Lib.hid (HG0.out.trans HX1.out); have HQ1 := Lib.hid (HQ0.out.below hb); have HU1 := Lib.hid (hu.more (HSz.out _ HG0.out)); clear hu hb)
          | (go_at_call 21; refine (HBeg.out _ _ _ _ HG1.out HQ1.out HU1.out HL1.out).mono ?_; rintro _ wc ⟨rfl, hq, hg⟩; have HX2 := Lib.hid (HX1.out.trans hg); have HG2 := Lib.hid (HG1.out.trans hg); have HQ2 := Lib.hid hq; clear hq hg; have kk := HC3.out _ HG2.out; obtain ⟨m0, m1, m2, m3, m4, m5, m6, m7, m8, m9, m10⟩ := kk; clear HU1)
          | (go_at_call 23; refine (HOp.out k HK.out _ (HBW.out _ HG2.out)).mono ?_; rintro _ wd ⟨u2, rfl, hu, hb⟩; have HX3 := Lib.hid (HX2.out.trans (grown_of_below hb)); have HG3 := Lib.hid (HG2.out.trans (grown_of_below hb)); have HQ3 := Lib.hid (HQ2.out.below hb); have HU3 := Lib.hid (hu.more (HSz.out _ HG2.out)); clear hu hb)
          | (go_at_call 21; refine (HBeg.out _ _ _ _ HG3.out HQ3.out HU3.out HL2.out).mono ?_; rintro _ we ⟨rfl, hq, hg⟩; have hpr := HPr.out _ (HX3.out.trans hg); have HG4 := Lib.hid (HG3.out.trans hg); have HQ4 := Lib.hid hq; clear hq hg HU3; have xo := hpr.1; have xa := hpr.2; clear hpr)
          | (go_at_call 21; refine (HLit.out (ar) _ we HG4.out HQ4.out).mono ?_; rintro _ wf ⟨rfl, hq, hg⟩; have HG5 := Lib.hid hg; have HQ5 := Lib.hid hq; clear hq hg HQ4)
          | (go_at_call 21; refine (HLit.out ((k : Int) + 1) _ wf HG5.out HQ5.out).mono ?_; rintro _ wg ⟨rfl, hq, hg⟩; have HG6 := Lib.hid hg; have HQ6 := Lib.hid hq; clear hq hg HQ5))
        go_roundw
        case rel =>
          refine ⟨k + 1, by go_num, HK.out, ?_, HG6.out⟩
          have hq := HQ6.out
          rw [show Fw.marks f (k + 1) = Fw.marks f k ++ Fw.begun f k from rfl, HT.out]
          simpa [List.append_assoc] using hq
        case measure => have := HK.out; simp [intOf]; omega
      by_cases h22 : o = 22
      · subst h22
        have HT : Hid (Fw.begun f k = Fw.catch_ f k ++ Fw.opens f k ++ [ar, (k : Int) + 1]) := Lib.hid (by
          unfold Fw.begun Fw.turns
          rw [HOp2.out.1, HOp2.out.2, if_pos (by decide), if_pos ((Fw.ends_kinds _).2 (by decide))]
          rfl)
        clear HOp2
        go_wp2_with (first
          | (go_at_call 22; refine (HCt.out k HK.out _ (HBW.out _ HG0.out)).mono ?_; rintro _ wb ⟨u1, rfl, hu, hb⟩; have HX1 := Lib.hid (grown_of_below (row := some (w.heap.size + 1)) hb); have HG1 := Lib.hid (HG0.out.trans HX1.out); have HQ1 := Lib.hid (HQ0.out.below hb); have HU1 := Lib.hid (hu.more (HSz.out _ HG0.out)); clear hu hb)
          | (go_at_call 21; refine (HBeg.out _ _ _ _ HG1.out HQ1.out HU1.out HL1.out).mono ?_; rintro _ wc ⟨rfl, hq, hg⟩; have HX2 := Lib.hid (HX1.out.trans hg); have HG2 := Lib.hid (HG1.out.trans hg); have HQ2 := Lib.hid hq; clear hq hg; have kk := HC3.out _ HG2.out; obtain ⟨m0, m1, m2, m3, m4, m5, m6, m7, m8, m9, m10⟩ := kk; clear HU1)
          | (go_at_call 23; refine (HOp.out k HK.out _ (HBW.out _ HG2.out)).mono ?_; rintro _ wd ⟨u2, rfl, hu, hb⟩; have HX3 := Lib.hid (HX2.out.trans (grown_of_below hb)); have HG3 := Lib.hid (HG2.out.trans (grown_of_below hb)); have HQ3 := Lib.hid (HQ2.out.below hb); have HU3 := Lib.hid (hu.more (HSz.out _ HG2.out)); clear hu hb)
          | (go_at_call 21; refine (HBeg.out _ _ _ _ HG3.out HQ3.out HU3.out HL2.out).mono ?_; rintro _ we ⟨rfl, hq, hg⟩; have hpr := HPr.out _ (HX3.out.trans hg); have HG4 := Lib.hid (HG3.out.trans hg); have HQ4 := Lib.hid hq; clear hq hg HU3; have xo := hpr.1; have xa := hpr.2; clear hpr)
          | (go_at_call 21; refine (HLit.out (ar) _ we HG4.out HQ4.out).mono ?_; rintro _ wf ⟨rfl, hq, hg⟩; have HG5 := Lib.hid hg; have HQ5 := Lib.hid hq; clear hq hg HQ4)
          | (go_at_call 21; refine (HLit.out ((k : Int) + 1) _ wf HG5.out HQ5.out).mono ?_; rintro _ wg ⟨rfl, hq, hg⟩; have HG6 := Lib.hid hg; have HQ6 := Lib.hid hq; clear hq hg HQ5))
        go_roundw
        case rel =>
          refine ⟨k + 1, by go_num, HK.out, ?_, HG6.out⟩
          have hq := HQ6.out
          rw [show Fw.marks f (k + 1) = Fw.marks f k ++ Fw.begun f k from rfl, HT.out]
          simpa [List.append_assoc] using hq
        case measure => have := HK.out; simp [intOf]; omega
      by_cases h25 : o = 25
      · subst h25
        have HT : Hid (Fw.begun f k = Fw.catch_ f k ++ Fw.opens f k ++ [(k : Int) + 1]) := Lib.hid (by
          unfold Fw.begun Fw.turns
          rw [HOp2.out.1, HOp2.out.2, if_neg (by decide), if_pos ((Fw.ends_kinds _).2 (by decide))]
          rfl)
        clear HOp2
        go_wp2_with (first
          | (go_at_call 22; refine (HCt.out k HK.out _ (HBW.out _ HG0.out)).mono ?_; rintro _ wb ⟨u1, rfl, hu, hb⟩; have HX1 := Lib.hid (grown_of_below (row := some (w.heap.size + 1)) hb); have HG1 := Lib.hid (HG0.out.trans HX1.out); have HQ1 := Lib.hid (HQ0.out.below hb); have HU1 := Lib.hid (hu.more (HSz.out _ HG0.out)); clear hu hb)
          | (go_at_call 21; refine (HBeg.out _ _ _ _ HG1.out HQ1.out HU1.out HL1.out).mono ?_; rintro _ wc ⟨rfl, hq, hg⟩; have HX2 := Lib.hid (HX1.out.trans hg); have HG2 := Lib.hid (HG1.out.trans hg); have HQ2 := Lib.hid hq; clear hq hg; have kk := HC3.out _ HG2.out; obtain ⟨m0, m1, m2, m3, m4, m5, m6, m7, m8, m9, m10⟩ := kk; clear HU1)
          | (go_at_call 23; refine (HOp.out k HK.out _ (HBW.out _ HG2.out)).mono ?_; rintro _ wd ⟨u2, rfl, hu, hb⟩; have HX3 := Lib.hid (HX2.out.trans (grown_of_below hb)); have HG3 := Lib.hid (HG2.out.trans (grown_of_below hb)); have HQ3 := Lib.hid (HQ2.out.below hb); have HU3 := Lib.hid (hu.more (HSz.out _ HG2.out)); clear hu hb)
          | (go_at_call 21; refine (HBeg.out _ _ _ _ HG3.out HQ3.out HU3.out HL2.out).mono ?_; rintro _ we ⟨rfl, hq, hg⟩; have hpr := HPr.out _ (HX3.out.trans hg); have HG4 := Lib.hid (HG3.out.trans hg); have HQ4 := Lib.hid hq; clear hq hg HU3; have xo := hpr.1; have xa := hpr.2; clear hpr)
          | (go_at_call 21; refine (HLit.out ((k : Int) + 1) _ we HG4.out HQ4.out).mono ?_; rintro _ wg ⟨rfl, hq, hg⟩; have HG6 := Lib.hid hg; have HQ6 := Lib.hid hq; clear hq hg HQ4))
        go_roundw
        case rel =>
          refine ⟨k + 1, by go_num, HK.out, ?_, HG6.out⟩
          have hq := HQ6.out
          rw [show Fw.marks f (k + 1) = Fw.marks f k ++ Fw.begun f k from rfl, HT.out]
          simpa [List.append_assoc] using hq
        case measure => have := HK.out; simp [intOf]; omega
      by_cases h26 : o = 26
      · subst h26
        have HT : Hid (Fw.begun f k = Fw.catch_ f k ++ Fw.opens f k ++ [(k : Int) + 1]) := Lib.hid (by
          unfold Fw.begun Fw.turns
          rw [HOp2.out.1, HOp2.out.2, if_neg (by decide), if_pos ((Fw.ends_kinds _).2 (by decide))]
          rfl)
        clear HOp2
        go_wp2_with (first
          | (go_at_call 22; refine (HCt.out k HK.out _ (HBW.out _ HG0.out)).mono ?_; rintro _ wb ⟨u1, rfl, hu, hb⟩; have HX1 := Lib.hid (grown_of_below (row := some (w.heap.size + 1)) hb); have HG1 := Lib.hid (HG0.out.trans HX1.out); have HQ1 := Lib.hid (HQ0.out.below hb); have HU1 := Lib.hid (hu.more (HSz.out _ HG0.out)); clear hu hb)
          | (go_at_call 21; refine (HBeg.out _ _ _ _ HG1.out HQ1.out HU1.out HL1.out).mono ?_; rintro _ wc ⟨rfl, hq, hg⟩; have HX2 := Lib.hid (HX1.out.trans hg); have HG2 := Lib.hid (HG1.out.trans hg); have HQ2 := Lib.hid hq; clear hq hg; have kk := HC3.out _ HG2.out; obtain ⟨m0, m1, m2, m3, m4, m5, m6, m7, m8, m9, m10⟩ := kk; clear HU1)
          | (go_at_call 23; refine (HOp.out k HK.out _ (HBW.out _ HG2.out)).mono ?_; rintro _ wd ⟨u2, rfl, hu, hb⟩; have HX3 := Lib.hid (HX2.out.trans (grown_of_below hb)); have HG3 := Lib.hid (HG2.out.trans (grown_of_below hb)); have HQ3 := Lib.hid (HQ2.out.below hb); have HU3 := Lib.hid (hu.more (HSz.out _ HG2.out)); clear hu hb)
          | (go_at_call 21; refine (HBeg.out _ _ _ _ HG3.out HQ3.out HU3.out HL2.out).mono ?_; rintro _ we ⟨rfl, hq, hg⟩; have hpr := HPr.out _ (HX3.out.trans hg); have HG4 := Lib.hid (HG3.out.trans hg); have HQ4 := Lib.hid hq; clear hq hg HU3; have xo := hpr.1; have xa := hpr.2; clear hpr)
          | (go_at_call 21; refine (HLit.out ((k : Int) + 1) _ we HG4.out HQ4.out).mono ?_; rintro _ wg ⟨rfl, hq, hg⟩; have HG6 := Lib.hid hg; have HQ6 := Lib.hid hq; clear hq hg HQ4))
        go_roundw
        case rel =>
          refine ⟨k + 1, by go_num, HK.out, ?_, HG6.out⟩
          have hq := HQ6.out
          rw [show Fw.marks f (k + 1) = Fw.marks f k ++ Fw.begun f k from rfl, HT.out]
          simpa [List.append_assoc] using hq
        case measure => have := HK.out; simp [intOf]; omega
      by_cases h34 : o = 34
      · subst h34
        have HT : Hid (Fw.begun f k = Fw.catch_ f k ++ Fw.opens f k ++ [(k : Int) + 1]) := Lib.hid (by
          unfold Fw.begun Fw.turns
          rw [HOp2.out.1, HOp2.out.2, if_neg (by decide), if_pos ((Fw.ends_kinds _).2 (by decide))]
          rfl)
        clear HOp2
        go_wp2_with (first
          | (go_at_call 22; refine (HCt.out k HK.out _ (HBW.out _ HG0.out)).mono ?_; rintro _ wb ⟨u1, rfl, hu, hb⟩; have HX1 := Lib.hid (grown_of_below (row := some (w.heap.size + 1)) hb); have HG1 := Lib.hid (HG0.out.trans HX1.out); have HQ1 := Lib.hid (HQ0.out.below hb); have HU1 := Lib.hid (hu.more (HSz.out _ HG0.out)); clear hu hb)
          | (go_at_call 21; refine (HBeg.out _ _ _ _ HG1.out HQ1.out HU1.out HL1.out).mono ?_; rintro _ wc ⟨rfl, hq, hg⟩; have HX2 := Lib.hid (HX1.out.trans hg); have HG2 := Lib.hid (HG1.out.trans hg); have HQ2 := Lib.hid hq; clear hq hg; have kk := HC3.out _ HG2.out; obtain ⟨m0, m1, m2, m3, m4, m5, m6, m7, m8, m9, m10⟩ := kk; clear HU1)
          | (go_at_call 23; refine (HOp.out k HK.out _ (HBW.out _ HG2.out)).mono ?_; rintro _ wd ⟨u2, rfl, hu, hb⟩; have HX3 := Lib.hid (HX2.out.trans (grown_of_below hb)); have HG3 := Lib.hid (HG2.out.trans (grown_of_below hb)); have HQ3 := Lib.hid (HQ2.out.below hb); have HU3 := Lib.hid (hu.more (HSz.out _ HG2.out)); clear hu hb)
          | (go_at_call 21; refine (HBeg.out _ _ _ _ HG3.out HQ3.out HU3.out HL2.out).mono ?_; rintro _ we ⟨rfl, hq, hg⟩; have hpr := HPr.out _ (HX3.out.trans hg); have HG4 := Lib.hid (HG3.out.trans hg); have HQ4 := Lib.hid hq; clear hq hg HU3; have xo := hpr.1; have xa := hpr.2; clear hpr)
          | (go_at_call 21; refine (HLit.out ((k : Int) + 1) _ we HG4.out HQ4.out).mono ?_; rintro _ wg ⟨rfl, hq, hg⟩; have HG6 := Lib.hid hg; have HQ6 := Lib.hid hq; clear hq hg HQ4))
        go_roundw
        case rel =>
          refine ⟨k + 1, by go_num, HK.out, ?_, HG6.out⟩
          have hq := HQ6.out
          rw [show Fw.marks f (k + 1) = Fw.marks f k ++ Fw.begun f k from rfl, HT.out]
          simpa [List.append_assoc] using hq
        case measure => have := HK.out; simp [intOf]; omega
      have HT : Hid (Fw.begun f k = Fw.catch_ f k ++ Fw.opens f k ++ []) := Lib.hid (by
        unfold Fw.begun Fw.turns
        rw [HOp2.out.1, HOp2.out.2, if_neg (by omega), if_neg (fun e => by have := (Fw.ends_kinds _).1 e; omega)]
        rfl)
      have e21 : (o == 21) = false := beq_eq_false_iff_ne.2 h21
      have e22 : (o == 22) = false := beq_eq_false_iff_ne.2 h22
      have e25 : (o == 25) = false := beq_eq_false_iff_ne.2 h25
      have e26 : (o == 26) = false := beq_eq_false_iff_ne.2 h26
      have e34 : (o == 34) = false := beq_eq_false_iff_ne.2 h34
      clear HOp2 h21 h22 h25 h26 h34
      go_wp2_with (first
        | (go_at_call 22; refine (HCt.out k HK.out _ (HBW.out _ HG0.out)).mono ?_; rintro _ wb ⟨u1, rfl, hu, hb⟩; have HX1 := Lib.hid (grown_of_below (row := some (w.heap.size + 1)) hb); have HG1 := Lib.hid (HG0.out.trans HX1.out); have HQ1 := Lib.hid (HQ0.out.below hb); have HU1 := Lib.hid (hu.more (HSz.out _ HG0.out)); clear hu hb)
        | (go_at_call 21; refine (HBeg.out _ _ _ _ HG1.out HQ1.out HU1.out HL1.out).mono ?_; rintro _ wc ⟨rfl, hq, hg⟩; have HX2 := Lib.hid (HX1.out.trans hg); have HG2 := Lib.hid (HG1.out.trans hg); have HQ2 := Lib.hid hq; clear hq hg; have kk := HC3.out _ HG2.out; obtain ⟨m0, m1, m2, m3, m4, m5, m6, m7, m8, m9, m10⟩ := kk; clear HU1)
        | (go_at_call 23; refine (HOp.out k HK.out _ (HBW.out _ HG2.out)).mono ?_; rintro _ wd ⟨u2, rfl, hu, hb⟩; have HX3 := Lib.hid (HX2.out.trans (grown_of_below hb)); have HG3 := Lib.hid (HG2.out.trans (grown_of_below hb)); have HQ3 := Lib.hid (HQ2.out.below hb); have HU3 := Lib.hid (hu.more (HSz.out _ HG2.out)); clear hu hb)
        | (go_at_call 21; refine (HBeg.out _ _ _ _ HG3.out HQ3.out HU3.out HL2.out).mono ?_; rintro _ we ⟨rfl, hq, hg⟩; have hpr := HPr.out _ (HX3.out.trans hg); have HG4 := Lib.hid (HG3.out.trans hg); have HQ4 := Lib.hid hq; clear hq hg HU3; have xo := hpr.1; have xa := hpr.2; clear hpr))
      go_roundw
      case rel =>
        refine ⟨k + 1, by go_num, HK.out, ?_, HG4.out⟩
        have hq := HQ4.out
        rw [show Fw.marks f (k + 1) = Fw.marks f k ++ Fw.begun f k from rfl, HT.out]
        simpa [List.append_assoc] using hq
      case measure => have := HK.out; simp [intOf]; omega
    · rename World => wz
      obtain rfl : k = cn := by omega
      have kp := HGr.out.cell (a := ⟨w2.heap.size, 0, none⟩) HP3.out (fun e => by injection e with e; have := HS3.out; simp only at e; omega)
      have HBz := Lib.hid (HBW.out _ HGr.out)
      have HE : Hid (Fw.starts f = Fw.picks (Fw.mk k (Fw.marks f k)) k) := Lib.hid (by unfold Fw.starts; rw [HN.out.1])
      have HBl : Hid ((Fw.mk k (Fw.marks f k)).length = k ∧ k ≤ 1000) := Lib.hid ⟨Fw.mk_len _ _, HN.out.2.1⟩
      generalize Fw.mk k (Fw.marks f k) = bl at *
      clear hk hkl HLit HBeg HPcell HC3 HFn HCell HSz HCt HOp HQ4 HG4
      go_wp2
      go_loopw [7, 58] (fun sv i wr => ∃ j : Nat, i = .int .i64 (j : Int) ∧ j ≤ k ∧ Rq wr wz.heap.size sv (Fw.picks bl j) ∧ Below wz.heap.size wz wr) (fun _ i _ => k - (intOf i).toNat)
      case atStart => exact ⟨0, rfl, Nat.zero_le _, Rq.nil _ _, Below.refl _ _⟩
      case round =>
        obtain ⟨j, rfl, hj, hsv, hbz⟩ := hrel
        have HSv := Lib.hid hsv
        have HZ := Lib.hid hbz
        clear hsv hbz
        by_cases hjl : j < k
        · have z1 := (HQr.out.below HZ.out).cell (k := j) (by rw [HBl.out.1]; exact hjl)
          have HJ := Lib.hid hjl
          have hjb : j ≤ 1000 := by have := HBl.out; omega
          have hji : (j : Int) < (k : Int) := by omega
          have HPl : Hid ((Fw.picks bl j).length ≤ 1000) := Lib.hid (by have := Fw.picks_len bl j; omega)
          clear hj hjl
          cases hbj : bl.getD j false with
          | false =>
            rw [hbj] at z1
            have HS : Hid (Fw.picks bl (j + 1) = Fw.picks bl j) := Lib.hid (by rw [Fw.picks, hbj]; simp)
            clear hbj
            go_wp2
            go_roundw
            case rel => exact ⟨j + 1, by go_num, HJ.out, by rw [HS.out]; exact HSv.out, HZ.out⟩
            case measure => have := HJ.out; simp [intOf]; omega
          | true =>
            rw [hbj] at z1
            have HS : Hid (Fw.picks bl (j + 1) = Fw.picks bl j ++ [(j : Int)]) := Lib.hid (by rw [Fw.picks, hbj]; simp)
            clear hbj
            go_wp2_with (at_builtin; refine wpList_append_q rfl rfl (.tmp 64) (.tmp 66) rfl (base := wz.heap.size) rfl (HSv.out.alloc _) rfl (ints_lit rfl _) (by have := HZ.out.size; simp; omega) (by have := HPl.out; omega) ?_; intro v7 w7 hq7 hg7 _; have HQ7 := Lib.hid hq7; have HB7 := Lib.hid (below_append (HZ.out.alloc HZ.out.size _) (HSv.out.alloc _) hg7); clear hq7 hg7)
            go_roundw
            case rel => exact ⟨j + 1, by go_num, HJ.out, by rw [HS.out]; exact HQ7.out, HB7.out⟩
            case measure => have := HJ.out; simp [intOf]; omega
        · obtain rfl : j = k := by omega
          clear hj hjl
          go_wp2
          go_ret
          rw [HE.out]
          exact RowP.on ⟨_, rfl, HSv.out, HZ.out⟩ HBz.out
end Go.Proofs.Ytngkjmghhoemgaa
