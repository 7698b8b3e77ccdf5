/-
 A tree taken out of bytes: the plain mathematics. Conditions: none.
-/
import Derived.Test.YtdopheoedpldiaaGreatDoorCurS
import Derived.Test.YtdopheoedpldiaaGreatDoorTrP
import Derived.Test.YtdopheoedpldiaaGreatDoorTrWR
set_option maxRecDepth 100000
namespace Go.Proofs.YtdopheoedpldiaaGreatDoor
namespace Tr
variable {s : List Nat × Nat}
def intsS : Nat → List Nat × Nat → List Nat × Nat
 | 0, s => s
 | k + 1, s => (intA (intsS k s)).2
def intsV (s : List Nat × Nat) (k : Nat) : Int := (intA (intsS k s)).1
theorem intsS_clean (h : Clean s) : ∀ k, Clean (intsS k s)
 | 0 => h
 | k + 1 => int_clean (intsS_clean h k)
theorem intsS_err (h : Clean s) (h0 : s.2 ≠ 0) : ∀ k, intsS k s = s
 | 0 => rfl
 | k + 1 => by rw [intsS, intsS_err h h0 k, int_err h h0]
theorem intsS_add (a b : Nat) (s : List Nat × Nat) : intsS (a + b) s = intsS b (intsS a s) := by
 induction b with
 | zero => rfl
 | succ b ih => rw [Nat.add_succ, intsS, intsS, ih]
def nodeV (s : List Nat × Nat) : Nd := ⟨intsV s 0, intsV s 1, intsV s 2, intsV s 3, intsV s 4, intsV s 5, intsV s 6⟩
def nodesS (k : Nat) (s : List Nat × Nat) : List Nat × Nat := intsS (7 * k) s
def nodesV (s : List Nat × Nat) : Nat → List Nd
 | 0 => []
 | k + 1 => nodesV s k ++ [nodeV (nodesS k s)]
theorem nodesS_succ (k : Nat) (s : List Nat × Nat) : nodesS (k + 1) s = intsS 7 (nodesS k s) := by
 unfold nodesS
 rw [show 7 * (k + 1) = 7 * k + 7 by omega, intsS_add]
theorem nodesV_len (s : List Nat × Nat) : ∀ k, (nodesV s k).length = k
 | 0 => rfl
 | k + 1 => by rw [nodesV, List.length_append, nodesV_len s k, List.length_singleton]
theorem nodesS_clean (h : Clean s) (k : Nat) : Clean (nodesS k s) := intsS_clean h _
theorem nodesS_err (h : Clean s) {k : Nat} (he : (nodesS k s).2 ≠ 0) {n : Nat} (hn : k ≤ n) : nodesS n s = nodesS k s := by
 obtain ⟨d, rfl⟩ : ∃ d, n = k + d := ⟨n - k, by omega⟩
 unfold nodesS at he ⊢
 rw [show 7 * (k + d) = 7 * k + 7 * d by omega, intsS_add, intsS_err (intsS_clean h _) he]
def take (s : List Nat × Nat) : List Nd × (List Nat × Nat) :=
 if (nodesS (numA s 120).1 (numA s 120).2).2 ≠ 0 then ([], nodesS (numA s 120).1 (numA s 120).2)
 else if right (nodesV (numA s 120).2 (numA s 120).1) then (nodesV (numA s 120).2 (numA s 120).1, nodesS (numA s 120).1 (numA s 120).2)
 else ([], failA (nodesS (numA s 120).1 (numA s 120).2) 14)
theorem num_le (s : List Nat × Nat) : (numA s 120).1 ≤ 120 := by
 unfold numA
 split
 · exact Nat.zero_le _
 · rename_i h
   simp only at h ⊢
   omega
theorem take_err (h : Clean s) {k : Nat} (hk : k ≤ (numA s 120).1) (he : (nodesS k (numA s 120).2).2 ≠ 0) : take s = ([], nodesS k (numA s 120).2) := by
 have e := nodesS_err (num_clean 120 h) he hk
 unfold take
 rw [e, if_pos he]
theorem take_right (h0 : (nodesS (numA s 120).1 (numA s 120).2).2 = 0) (hr : right (nodesV (numA s 120).2 (numA s 120).1) = true) : take s = (nodesV (numA s 120).2 (numA s 120).1, nodesS (numA s 120).1 (numA s 120).2) := by
 unfold take
 rw [if_neg (by omega), if_pos hr]
theorem take_wrong (h0 : (nodesS (numA s 120).1 (numA s 120).2).2 = 0) (hr : right (nodesV (numA s 120).2 (numA s 120).1) = false) : take s = ([], failA (nodesS (numA s 120).1 (numA s 120).2) 14) := by
 unfold take
 rw [if_neg (by omega), if_neg (by rw [hr]; decide)]
end Tr
end Go.Proofs.YtdopheoedpldiaaGreatDoor
namespace Go.Proofs.YtdopheoedpldiaaGreatDoor
open Go.RowKit
theorem info_node : (Tryz.prog.info? 104).map (fun i => (i.zero, i.size, i.bytes)) = some (some (.agg #[.int .i64 0, .int .i64 0, .int .i64 0, .int .i64 0, .int .i64 0, .int .i64 0, .int .i64 0]), 7, 56) := by kernel_rfl
namespace Tr
def box (s : List Nat × Nat) (j : Nat) : List Int := (List.range 7).map fun i => if i < j then intsV s i else 0
theorem box_zero (s : List Nat × Nat) : box s 0 = [0, 0, 0, 0, 0, 0, 0] := by simp [box, List.range_succ]
theorem box_all (s : List Nat × Nat) : box s 7 = (nodeV s).list := by simp [box, List.range_succ, nodeV, Nd.list]
theorem box_set (s : List Nat × Nat) {j : Nat} (h : j < 7) : (box s j).set j (intsV s j) = box s (j + 1) := by
 rcases (show j = 0 ∨ j = 1 ∨ j = 2 ∨ j = 3 ∨ j = 4 ∨ j = 5 ∨ j = 6 by omega) with rfl | rfl | rfl | rfl | rfl | rfl | rfl <;> simp [box, List.range_succ]
theorem box_len (s : List Nat × Nat) (j : Nat) : (box s j).length = 7 := by simp [box]
end Tr
def BoxAt (w : World) (p : Nat) (t : TypeId) (l : List Int) : Prop := w.heap[p]? = some (.cells (vs l).toArray t (0, 0))
theorem BoxAt.lt {w : World} {p : Nat} {t : TypeId} {l : List Int} (h : BoxAt w p t l) : p < w.heap.size := (Array.getElem?_eq_some_iff.1 h).1
theorem BoxAt.cell {w : World} {p : Nat} {t : TypeId} {l : List Int} (h : BoxAt w p t l) {j : Nat} (hj : j < l.length) : w.cell? ⟨p, j, none⟩ = some (.int .i64 (l.getD j 0)) := by
 refine (cell_of_row w p j _ _ _ h).trans ?_
 simp [vs, List.getD, hj]
theorem BoxAt.f {w : World} {p : Nat} {t : TypeId} {l : List Int} (h : BoxAt w p t l) (j : Nat) : w.frozen? ⟨p, j, none⟩ = false := by
 unfold BoxAt at h
 simp [World.frozen?, h]
theorem BoxAt.set {w : World} {p : Nat} {t : TypeId} {l : List Int} (h : BoxAt w p t l) (j : Nat) (x : Int) : BoxAt (w.setCell ⟨p, j, none⟩ (.int .i64 x)) p t (l.set j x) := by
 unfold BoxAt at h ⊢
 simp [World.setCell, Array.getElem?_modify, h, vs]
theorem BoxAt.kept {w w' : World} {p g : Nat} {t : TypeId} {l : List Int} (h : BoxAt w p t l) (hg : w.grownBy w' (some g)) (hne : g ≠ p) : BoxAt w' p t l := (hg.block p h.lt (by intro e; injection e with e; exact hne e.symm)).trans h
theorem BoxAt.node {w : World} {p : Nat} {t : TypeId} {y : Tr.Nd} (h : BoxAt w p t y.list) : NodeAt w p t y := h
def TrTkRel (g m : Nat) (s1 : List Nat × Nat) (w : World) (u i : Value) (wr : World) : Prop :=
 ∃ k : Nat, k ≤ m ∧ i = .int .i64 (k : Int) ∧ wr.ownsRow w.heap.size 104 7 u k (nds (Tr.nodesV s1 k)) ∧ Cur wr g (Tr.nodesS k s1) ∧ w.grownBy wr (some g)
def TkIn (g p k : Nat) (s s1 : List Nat × Nat) (w : World) (u i : Value) (wr : World) : Prop :=
 ∃ j : Nat, j ≤ 7 ∧ i = .int .i64 (j : Int) ∧ BoxAt wr p 104 (Tr.box s j) ∧ wr.ownsRow w.heap.size 104 7 u k (nds (Tr.nodesV s1 k)) ∧ Cur wr g (Tr.intsS j s) ∧ w.grownBy wr (some g)
theorem tkIn_step {g p k j : Nat} {s s1 : List Nat × Nat} {w w2 : World} {u : Value} (hj : j < 7) (hgw : g < w.heap.size) (hwp : w.heap.size ≤ p) (hu : ∀ b, u.ownBlock = some b → b < p) (hb : BoxAt w2 p 104 (Tr.box s j)) (hr : w2.ownsRow w.heap.size 104 7 u k (nds (Tr.nodesV s1 k)))
   (hc : Cur w2 g (intA (Tr.intsS j s)).2) (hg : w.grownBy w2 (some g)) : TkIn g p k s s1 w u (.int .i64 ((j : Int) + 1)) (w2.setCell ⟨p, j, none⟩ (.int .i64 (intA (Tr.intsS j s)).1)) := by
 refine ⟨j + 1, hj, rfl, ?_, ?_, ?_, grown_set hg hwp _ _⟩
 · rw [← Tr.box_set s hj]
   exact hb.set j _
 · exact row_kept hr (fun b e => Below.heap_setCell w2 ⟨p, j, none⟩ _ b (by have := hu b e; show b ≠ p; omega))
 · exact hc.kept (row := some p) (Lib.grownBy_setB (World.grownBy.refl _ _) _ _) (fun k e => by injection e with e; omega)
def TakeT (g : Nat) (o : List Tr.Nd × (List Nat × Nat)) (w : World) (e : Ending) (w' : World) : Prop :=
 (∃ A c, e = .returned (.slice A o.1.length c) ∧ NodesAt w' w'.heap.size A o.1.length o.1) ∧ Cur w' g o.2 ∧ w.grownBy w' (some g)
def TakeO (g : Nat) (o : List Tr.Nd × (List Nat × Nat)) (w : World) (e : Ending) (w' : World) : Prop :=
 (∃ A c, e = .returned (.slice A o.1.length c) ∧ w'.ownsRow w.heap.size 104 7 (.slice A o.1.length c) o.1.length (nds o.1)) ∧ Cur w' g o.2 ∧ w.grownBy w' (some g)
theorem TakeO.no {g : Nat} {o : List Tr.Nd × (List Nat × Nat)} {s : List Nat × Nat} {w w' : World} (h : o = ([], s)) (hc : Cur w' g s) (hg : w.grownBy w' (some g)) : TakeO g o w (.returned (.slice none 0 0)) w' := by
 subst h
 exact ⟨⟨Option.none, 0, rfl, World.ownsRow_nil _ _ _ _⟩, hc, hg⟩
theorem TakeO.t {g : Nat} {o : List Tr.Nd × (List Nat × Nat)} {w w' : World} {e : Ending} (h : TakeO g o w e w') : TakeT g o w e w' :=
 let ⟨⟨A, c, he, ho⟩, hc, hg⟩ := h
 ⟨⟨A, c, he, (nodes_of_own ho).2.1⟩, hc, hg⟩
set_option maxHeartbeats 8000000 in
theorem trtake_own (g : Nat) (s : List Nat × Nat) (w : World) (h : Cur w g s) : Calls Tryz.prog 176 #[.pointer (some ⟨g, 0, none⟩)] w (TakeO g (Tr.take s) w) := by
 obtain ⟨i0, hi, hz0, hz1, hz2⟩ := info_parts info_node
 have hgl := h.lt
 have HNm := Lib.hid (num_cur g s 120 w h (by decide) (by decide))
 have HCl : Hid (Clean s) := Lib.hid h.nil
 have hm120 := Tr.num_le s
 obtain ⟨m, s1, hns⟩ : ∃ m s1, numA s 120 = (m, s1) := ⟨_, _, rfl⟩
 have HC1 : Hid (Clean s1) := Lib.hid (by have := num_clean 120 HCl.out; rwa [hns] at this)
 rw [hns] at HNm hm120
 dsimp only at HNm hm120
 have HNs := Lib.hid hns
 clear h hns
 go_enter Tryz.func176, Tryz.ntmps176
 go_wp2_with (go_at_call 106; refine HNm.out.mono ?_; rintro _ w1 ⟨rfl, hc1, hg1⟩; have HI := Lib.hid (And.intro hc1 hg1); clear hc1 hg1 HNm)
 go_loopw [3, 4, 6, 9] (fun u _ _ i wr => TrTkRel g m s1 w u i wr) (fun _ _ _ i _ => m - (intOf i).toNat)
 case atStart => exact ⟨0, Nat.zero_le _, rfl, World.ownsRow_nil _ _ _ _, HI.out.1, HI.out.2⟩
 case round =>
   obtain ⟨k, hk, rfl, hO, hC, hG⟩ := hrel
   have HO := Lib.hid hO
   have HC := Lib.hid hC
   have HG := Lib.hid hG
   clear hO hC hG
   by_cases hlt : k < m
   · have HNum := Lib.hid (fun (W : World) => trnumbers_any wr.heap.size W)
     unfold places7 at HNum
     go_wp2_with (go_at_call 93; go_must (refine (HNum.out _).mono ?_; rintro _ w2 ⟨rfl, hb2⟩))
     have HB0 := Lib.hid (show BoxAt w2 wr.heap.size 104 (Tr.box (Tr.nodesS k s1) 0) from by rw [Tr.box_zero]; exact (hb2.block wr.heap.size (by simp)).trans (heap_alloc_new wr _))
     have HO0 := Lib.hid (ownsRow_below (HO.out.alloc (.cells #[.int .i64 0, .int .i64 0, .int .i64 0, .int .i64 0, .int .i64 0, .int .i64 0, .int .i64 0] 104)) hb2)
     have HC0 := Lib.hid (cur_grown (HC.out.kept (World.grownBy_alloc wr (.cells #[.int .i64 0, .int .i64 0, .int .i64 0, .int .i64 0, .int .i64 0, .int .i64 0, .int .i64 0] 104) none) (by simp)) hb2)
     have HG0 := Lib.hid (grown_below (Lib.grownBy_allocR HG.out (.cells #[.int .i64 0, .int .i64 0, .int .i64 0, .int .i64 0, .int .i64 0, .int .i64 0, .int .i64 0] 104)) hb2 (by have := HG.out.size; simp; omega))
     have HU : Hid (∀ b, u3.ownBlock = some b → b < wr.heap.size) := Lib.hid (fun b e => (HO.out.lt b e).2)
     have hwp : w.heap.size ≤ wr.heap.size := HG.out.size
     have hgp : g < wr.heap.size := by omega
     generalize wr.heap.size = p at *
     clear hb2
     go_loopw [6, 12] (fun _ j W => TkIn g p k (Tr.nodesS k s1) s1 w u3 j W) (fun _ j _ => 7 - (intOf j).toNat)
     case atStart => exact ⟨0, by omega, rfl, HB0.out, HO0.out, HC0.out, HG0.out⟩
     case round =>
       obtain ⟨j, hj7, rfl, hB3, hO3, hC3, hG3⟩ := hrel
       have HB3 := Lib.hid hB3
       have HO3 := Lib.hid hO3
       have HC3 := Lib.hid hC3
       have HG3 := Lib.hid hG3
       clear hB3 hO3 hC3 hG3
       by_cases hj6 : j < 7
       · have hi64 : (j : Int) < 7 := by omega
         have ix := place7 p j hj6
         unfold places7 at ix
         have HInt := Lib.hid (int_cur g _ wr HC3.out)
         go_wp2_with (go_at_call 192; go_must (refine HInt.out.mono ?_; rintro _ w3 ⟨rfl, hc3, hg3⟩; have HB4 := Lib.hid (HB3.out.kept hg3 (by omega)); have ec := HB4.out.cell (j := j) (by rw [Tr.box_len]; exact hj6); have ef := HB4.out.f j; have HC4 := Lib.hid hc3; have HG4 := Lib.hid hg3; clear hc3 hg3))
         exact ⟨tkIn_step hj6 hgl hwp HU.out HB4.out (own_grownG HO3.out HG4.out hgl) HC4.out (Lib.grownBy_trans HG3.out HG4.out), by simp [intOf]; omega⟩
       · obtain rfl : j = 7 := by omega
         have HN : NodeAt wr p 104 (Tr.nodeV (Tr.nodesS k s1)) := by have h := HB3.out; rw [Tr.box_all] at h; exact h.node
         have HV : Hid (Tr.nodesV s1 (k + 1) = Tr.nodesV s1 k ++ [Tr.nodeV (Tr.nodesS k s1)]) := Lib.hid rfl
         have HS : Hid (Tr.nodesS (k + 1) s1 = Tr.intsS 7 (Tr.nodesS k s1)) := Lib.hid (Tr.nodesS_succ k s1)
         generalize Tr.nodeV (Tr.nodesS k s1) = y at HN HV
         obtain ⟨e0, e1, e2, e3, e4, e5, e6⟩ := HN.cells
         have hk120 : k < 120 := by omega
         go_wp2_with (at_builtin; refine wpList_append_lies _ rfl (.tmp 20) (.tmp 22) 40 rfl w.heap.size 104 i0 (.agg #[.int .i64 0, .int .i64 0, .int .i64 0, .int .i64 0, .int .i64 0, .int .i64 0, .int .i64 0]) 7 56 Tryz.underlying40 hi hz0 hz1 hz2 rfl (by decide) u3 k (nds (Tr.nodesV s1 k)) rfl (HO3.out.alloc _) ⟨wr.heap.size, 0, none⟩ 1 1 (nds [y]) rfl rfl ?c1 (nds_one _) (by decide) ?c3 ?c4 ?c5 (wr.heap.size + 1) ?c6 ?_)
         case c1 => exact new_node wr _ y
         case c3 => unfold maxLen; omega
         case c4 => omega
         case c5 => have := HG3.out.size; simp; omega
         case c6 => simp
         intro ga cap w4 hown4 hgrow4 hat4 _
         have HO5 := Lib.hid hown4
         have HCa := Lib.hid (HC3.out.kept (World.grownBy_alloc wr (.cells #[.int .i64 y.p, .int .i64 y.f, .int .i64 y.l, .int .i64 y.a, .int .i64 y.g, .int .i64 y.t, .int .i64 y.r] 104) none) (by simp))
         have HC5 := Lib.hid (HCa.out.kept hgrow4 (fun b e => by have := (HO3.out.lt b e).1; omega))
         have HG5 := Lib.hid (grown_more (Lib.grownBy_allocR HG3.out (.cells #[.int .i64 y.p, .int .i64 y.f, .int .i64 y.l, .int .i64 y.a, .int .i64 y.g, .int .i64 y.t, .int .i64 y.r] 104)) (HO3.out.alloc _) hgrow4)
         clear hown4 hgrow4 hat4 e0 e1 e2 e3 e4 e5 e6 HN
         go_wp2
         go_roundw
         case rel => exact ⟨k + 1, hlt, by go_num, by rw [HV.out, nds_append]; exact HO5.out, by rw [HS.out]; exact HC5.out, HG5.out⟩
         case measure => simp [intOf]; omega
   · obtain rfl : k = m := by omega
     have hlen : (Tr.nodesV s1 k).length = k := Tr.nodesV_len s1 k
     have hO : wr.ownsRow w.heap.size 104 7 u3 (Tr.nodesV s1 k).length (nds (Tr.nodesV s1 k)) := by rw [hlen]; exact HO.out
     obtain ⟨A, c, rfl, hN, _⟩ := nodes_slice hO
     rw [hlen] at hN hO
     have HN := Lib.hid hN
     have HOk := Lib.hid hO
     have HRt := trright_any A k c (Tr.nodesV s1 k) wr hN (by omega)
     have HNr := Lib.hid HNs.out
     have hclean : Clean (Tr.nodesS k s1) := Tr.nodesS_clean HC1.out k
     have ht : (numA s 120).1 = k ∧ (numA s 120).2 = s1 := by rw [HNs.out]; exact ⟨rfl, rfl⟩
     have hki : decide ((k : Int) < (k : Int)) = false := decide_eq_false (by omega)
     rw [hlen]
     clear hO hN
     by_cases h0 : (Tr.nodesS k s1).2 = 0
     · cases hb : Tr.right (Tr.nodesV s1 k) with
       | true =>
         rw [hb] at HRt
         have HT : Hid (Tr.take s = (Tr.nodesV s1 k, Tr.nodesS k s1)) := Lib.hid (by have := Tr.take_right (s := s) (by rw [ht.1, ht.2]; exact h0) (by rw [ht.1, ht.2]; exact hb); rw [ht.1, ht.2] at this; exact this)
         have HE := Lib.hid (fun W (hW : Cur W g (Tr.nodesS k s1)) => err_cur g _ W hW)
         rw [h0] at HE
         clear hb h0 hclean ht
         go_wp2_with (first
           | (go_at_call 119; go_must (refine HRt.mono ?_; rintro _ w2 ⟨rfl, hb2⟩; have HC2 := Lib.hid (cur_grown HC.out hb2); have HB2 := Lib.hid hb2; clear hb2))
           | (go_at_call 107; go_must (refine (HE.out _ HC2.out).mono ?_; rintro _ w3 ⟨rfl, he⟩; obtain rfl := he.symm)))
         go_ret
         unfold TakeO
         rw [HT.out]
         dsimp only
         rw [hlen]
         exact ⟨⟨A, c, rfl, ownsRow_below HOk.out HB2.out⟩, HC2.out, grown_below HG.out HB2.out HG.out.size⟩
       | false =>
         rw [hb] at HRt
         have HT : Hid (Tr.take s = ([], failA (Tr.nodesS k s1) 14)) := Lib.hid (by have := Tr.take_wrong (s := s) (by rw [ht.1, ht.2]; exact h0) (by rw [ht.1, ht.2]; exact hb); rw [ht.1, ht.2] at this; exact this)
         have hf : (failA (Tr.nodesS k s1) 14).2 = 14 := by rw [fail_sets h0 (by decide)]
         have HE := Lib.hid (fun W (hW : Cur W g (failA (Tr.nodesS k s1) 14)) => err_cur g _ W hW)
         rw [hf] at HE
         clear hb h0 hclean ht hf
         go_wp2_with (first
           | (go_at_call 119; go_must (refine HRt.mono ?_; rintro _ w2 ⟨rfl, hb2⟩; have HC2 := Lib.hid (cur_grown HC.out hb2); have HG2 := Lib.hid (grown_below HG.out hb2 HG.out.size); clear hb2))
           | (go_at_call 134; go_must (refine (fail_cur g _ 14 _ HC2.out (by decide)).mono ?_; rintro _ w3 ⟨rfl, hc3, hg3⟩; have HC3 := Lib.hid hc3; have HG3 := Lib.hid (Lib.grownBy_trans HG2.out hg3); clear hc3 hg3))
           | (go_at_call 107; go_must (refine (HE.out _ HC3.out).mono ?_; rintro _ w4 ⟨rfl, he⟩; obtain rfl := he.symm)))
         go_ret
         exact TakeO.no HT.out HC3.out HG3.out
     · have HT : Hid (Tr.take s = ([], Tr.nodesS k s1)) := Lib.hid (by have := Tr.take_err HCl.out (k := k) (by rw [ht.1]; exact Nat.le_refl _) (by rw [ht.2]; exact h0); rw [ht.2] at this; exact this)
       have hf : failA (Tr.nodesS k s1) 14 = Tr.nodesS k s1 := fail_stays 14 h0
       have HE := Lib.hid (fun W (hW : Cur W g (Tr.nodesS k s1)) => err_cur g _ W hW)
       have HFl := Lib.hid (fun W (hW : Cur W g (Tr.nodesS k s1)) => fail_cur g _ 14 W hW (by decide))
       rw [hf] at HFl
       generalize Tr.right (Tr.nodesV s1 k) = b at HRt
       generalize hz : (Tr.nodesS k s1).2 = z at HE h0
       have d1 : (((z : Nat) : Int) == 0) = false := beq_eq_false_iff_ne.2 (by omega)
       have d2 : (((z : Nat) : Int) != 0) = true := bne_iff_ne.2 (by omega)
       clear hclean ht hf hz h0
       cases b with
       | true =>
         go_wp2_with (first
           | (go_at_call 119; go_must (refine HRt.mono ?_; rintro _ w2 ⟨rfl, hb2⟩; have HC2 := Lib.hid (cur_grown HC.out hb2); have HG2 := Lib.hid (grown_below HG.out hb2 HG.out.size); clear hb2))
           | (go_at_call 107; go_must (refine (HE.out _ HC2.out).mono ?_; rintro _ w4 ⟨rfl, he⟩; obtain rfl := he.symm)))
         go_ret
         exact TakeO.no HT.out HC2.out HG2.out
       | false =>
         go_wp2_with (first
           | (go_at_call 119; go_must (refine HRt.mono ?_; rintro _ w2 ⟨rfl, hb2⟩; have HC2 := Lib.hid (cur_grown HC.out hb2); have HG2 := Lib.hid (grown_below HG.out hb2 HG.out.size); clear hb2))
           | (go_at_call 134; go_must (refine (HFl.out _ HC2.out).mono ?_; rintro _ w3 ⟨rfl, hc3, hg3⟩; have HC3 := Lib.hid hc3; have HG3 := Lib.hid (Lib.grownBy_trans HG2.out hg3); clear hc3 hg3))
           | (go_at_call 107; go_must (refine (HE.out _ HC3.out).mono ?_; rintro _ w4 ⟨rfl, he⟩; obtain rfl := he.symm)))
         go_ret
         exact TakeO.no HT.out HC3.out HG3.out
end Go.Proofs.YtdopheoedpldiaaGreatDoor
