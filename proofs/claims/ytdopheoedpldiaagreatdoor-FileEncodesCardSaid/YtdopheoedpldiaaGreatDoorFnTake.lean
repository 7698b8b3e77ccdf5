/-
 The function that stands next in bytes, taken group by group, part by part. Conditions: a cursor that a call made; the library's table is laid; each group answers its parts.
-/
import Derived.Test.YtdopheoedpldiaaGreatDoorFnTypes
import Derived.WalkMore
import Derived.Deep.MidRow
set_option maxRecDepth 100000
namespace Go.Proofs.YtdopheoedpldiaaGreatDoor
open Go.RowKit
namespace Fn
def grp : Nat → St → List (St → St)
 | 0 => gTitle
 | 1 => gTypes
 | 2 => gBody
 | _ => gTables
def grpJ : Nat → St → Prop
 | 0 => St.Fresh
 | 1 => St.Fresh
 | 2 => St.Fresh
 | _ => St.Ok
def rest (i : Nat) : List (St → List (St → St)) := [gTitle, gTypes, gBody, gTables].drop i
theorem rest_at {i : Nat} (h : i < 4) : rest i = grp i :: rest (i + 1) := by
 have : i = 0 ∨ i = 1 ∨ i = 2 ∨ i = 3 := by omega
 rcases this with rfl | rfl | rfl | rfl <;> rfl
theorem grp_len (i : Nat) (t : St) : (grp i t).length ≤ 5 := by
 match i with
 | 0 => exact Nat.le_of_ble_eq_true rfl
 | 1 => show (gTypes t).length ≤ 5; unfold gTypes; split <;> decide
 | 2 => exact Nat.le_of_ble_eq_true rfl
 | _ + 3 => show (gTables t).length ≤ 5; unfold gTables; split <;> decide
theorem take_rest (s : List Nat × Nat) : take s = goG (rest 0) ⟨F.zero, 0, 0, s⟩ := rfl
theorem goG_bad {i : Nat} (h : i < 4) {t : St} {z : List Nat × Nat} (e : goP (grp i t) t = .inl z) : goG (rest i) t = (F.zero, z) := by
 rw [rest_at h, goG, e]
theorem goG_next {i : Nat} (h : i < 4) {t t' : St} (e : goP (grp i t) t = .inr t') : goG (rest i) t = goG (rest (i + 1)) t' := by
 rw [rest_at h, goG, e]
theorem goP_at {ps : List (St → St)} {j : Nat} (h : j < ps.length) {t : St} (e : (ps[j] t).s.2 = 0) : goP (ps.drop j) t = goP (ps.drop (j + 1)) (ps[j] t) := by
 rw [List.drop_eq_getElem_cons h, goP_ok e]
theorem goP_bad {ps : List (St → St)} {j : Nat} (h : j < ps.length) {t : St} (e : (ps[j] t).s.2 ≠ 0) : goP (ps.drop j) t = .inl (ps[j] t).s := by
 rw [List.drop_eq_getElem_cons h, goP_err e]
end Fn
def tkNo : Nat → Nat
 | 0 => 136
 | 1 => 137
 | 2 => 138
 | _ => 139
theorem en_tkNo : ∀ i, Enters (tkNo i)
 | 0 => en_title
 | 1 => en_types
 | 2 => en_body
 | _ + 3 => en_tables
def tkF (p i : Nat) : Value := .func (.func (tkNo i)) #[.pointer (some ⟨p, 0, none⟩)] #[]
def TkP (g : Nat) (o : Fn.F × (List Nat × Nat)) (w : World) (e : Ending) (w' : World) : Prop :=
 ∃ v : FnV, e = .returned (.agg v.cells) ∧ FnOwn w' (w.heap.size + 2) v o.1 ∧ Cur w' g o.2 ∧ w.grownBy w' (some g)
structure TkO (g p r : Nat) (o : Fn.F × (List Nat × Nat)) (W1 : World) (i : Nat) (wr : World) : Prop where
 st : ∃ v t, TkAt g p v t wr ∧ Fn.grpJ i t ∧ o = Fn.goG (Fn.rest i) t
 off : Off g p W1 wr
structure TkI (g p : Nat) (ps : List (Fn.St → Fn.St)) (K : World → Prop) (I : Nat → Fn.St → Prop) (z : (List Nat × Nat) ⊕ Fn.St) (W1 : World) (j : Nat) (wr : World) : Prop where
 st : ∃ v t, TkAt g p v t wr ∧ I j t ∧ z = Fn.goP (ps.drop j) t
 k : K wr
 off : Off g p W1 wr
def tkW (g : Nat) (W : World) : World :=
 ((W.alloc (.cells FnV.zero.cells 43)).alloc (.cells (tkCells g .zero 0 0) 157)).alloc (.cells #[tkF (W.heap.size + 1) 0, tkF (W.heap.size + 1) 1, tkF (W.heap.size + 1) 2, tkF (W.heap.size + 1) 3] 158)
structure TkB (B : Nat) (W1 : World) : Prop where
 res : W1.heap[B]? = some (.cells FnV.zero.cells 43 (0, 0))
 sl : W1.heap[B + 1 + 1]? = some (.cells #[tkF (B + 1) 0, tkF (B + 1) 1, tkF (B + 1) 2, tkF (B + 1) 3] 158 (0, 0))
theorem TkB.off {g B : Nat} {W1 wr : World} (h : TkB B W1) (hg : g < B) (ho : Off g (B + 1) W1 wr) : TkB B wr :=
 ⟨(ho.block B (heap_lt h.res) (by omega) (by omega)).trans h.res, (ho.block (B + 1 + 1) (heap_lt h.sl) (by omega) (by omega)).trans h.sl⟩
structure TkZ (g p : Nat) (o : Fn.F × (List Nat × Nat)) (v : FnV) (W1 wr : World) : Prop where
 own : FnOwn wr (p + 1) v o.1
 cur : Cur wr g o.2
 off : Off g p W1 wr
 box : wr.rangeAt p 1 v.cells.toList
theorem sets_grown (p : Nat) : ∀ (vs : List Value) (o : Nat) (w : World), w.grownBy (w.setCells p o vs) (some p)
 | [], _, w => World.grownBy.refl w _
 | v :: r, o, w => Lib.grownBy_trans (Lib.grownBy_setB (World.grownBy.refl w _) o v) (sets_grown p r (o + 1) _)
theorem Off.grownp {g p : Nat} {a b : World} (h : a.grownBy b (some p)) : Off g p a b := ⟨h.os, h.tape, h.output, h.size, fun j hj _ h2 => h.block j hj (fun e => by injection e with e; exact h2 e)⟩
theorem there_block {w : World} {b : Nat} {C : Array Value} {t : TypeId} (h : w.heap[b]? = some (.cells C t (0, 0))) {o n : Nat} (hn : o + n ≤ C.size) : w.there b o n := fun j hj => by
 refine ⟨?_, by simp [World.frozen?, h]⟩
 rw [cell_of_row w b (o + j) C t _ h, Array.getElem?_eq_getElem (by omega)]
 rfl
theorem TkAt.z {g p : Nat} {v : FnV} {t : Fn.St} {W1 wr : World} (h : TkAt g p v t wr) (ho : Off g p W1 wr) : TkZ g p (t.f, t.s) v W1 wr :=
 ⟨h.own, h.cur, ho, World.rangeAt_of_block h.box 1 11⟩
theorem TkAt.bad {g p : Nat} {v : FnV} {t : Fn.St} {W1 wr : World} (h : TkAt g p v t wr) (ho : Off g p W1 wr) : TkZ g p (Fn.F.zero, t.s) .zero W1 (wr.setCells p 1 FnV.zero.cells.toList) :=
 ⟨FnOwn.zero _ _, h.cur.kept (sets_grown p _ 1 wr) (fun k e => by injection e with e; have := h.gp; omega), ho.trans (Off.grownp (sets_grown p _ 1 wr)), World.rangeAt_setCells_same _ _ _ _ (there_block h.box (Nat.le_of_ble_eq_true rfl))⟩
theorem TkZ.told {g : Nat} {o : Fn.F × (List Nat × Nat)} {v : FnV} {W W1 wr : World} (h : TkZ g (W.heap.size + 1) o v W1 wr) (hg : g < W.heap.size) (hB : TkB W.heap.size wr) (hb : Below W.heap.size W W1) :
   FnOwn (wr.setCells W.heap.size 0 v.cells.toList) (W.heap.size + 2) v o.1 ∧ Cur (wr.setCells W.heap.size 0 v.cells.toList) g o.2 ∧ W.grownBy (wr.setCells W.heap.size 0 v.cells.toList) (some g) ∧ (wr.setCells W.heap.size 0 v.cells.toList).rangeAt W.heap.size 0 v.cells.toList := by
 have k1 := sets_grown W.heap.size v.cells.toList 0 wr
 refine ⟨h.own.off (g := g) (Off.grownp k1) (by omega) (by omega), h.cur.kept k1 (fun k e => by injection e with e; omega), ?_, World.rangeAt_setCells_same _ _ _ _ (there_block hB.res (by rw [Array.length_toList]; exact Nat.le_of_eq (by rfl)))⟩
 exact ⟨k1.os.trans (h.off.os.trans hb.os), k1.tape.trans (h.off.tape.trans hb.tape), k1.output.trans (h.off.output.trans hb.output), Nat.le_trans hb.size (Nat.le_trans h.off.size k1.size), fun j hj h1 => (k1.block j (Nat.lt_of_lt_of_le (Nat.lt_of_lt_of_le hj hb.size) h.off.size) (fun e => by injection e with e; omega)).trans ((h.off.block j (Nat.lt_of_lt_of_le hj hb.size) (fun e => h1 (by rw [e])) (by omega)).trans (hb.block j hj))⟩
theorem tkW_ok {g : Nat} {s : List Nat × Nat} {W : World} (hc : Cur W g s) : TkAt g (W.heap.size + 1) .zero ⟨Fn.F.zero, 0, 0, s⟩ (tkW g W) ∧ TkB W.heap.size (tkW g W) ∧ Below W.heap.size W (tkW g W) := by
 have hlt := hc.lt
 have b1 := (Below.refl W.heap.size W).alloc (Nat.le_refl _) (.cells FnV.zero.cells 43)
 have b2 := b1.alloc (by simp) (.cells (tkCells g .zero 0 0) 157)
 have b3 : Below W.heap.size W (tkW g W) := b2.alloc (by simp; omega) _
 have s1 : (W.alloc (.cells FnV.zero.cells 43)).heap.size = W.heap.size + 1 := by simp
 have s2 : ((W.alloc (.cells FnV.zero.cells 43)).alloc (.cells (tkCells g .zero 0 0) 157)).heap.size = W.heap.size + 1 + 1 := by simp
 have e0 := heap_alloc_new W (.cells FnV.zero.cells 43)
 have e1 := heap_alloc_new (W.alloc (.cells FnV.zero.cells 43)) (.cells (tkCells g .zero 0 0) 157)
 have e2 := heap_alloc_new ((W.alloc (.cells FnV.zero.cells 43)).alloc (.cells (tkCells g .zero 0 0) 157)) (.cells #[tkF (W.heap.size + 1) 0, tkF (W.heap.size + 1) 1, tkF (W.heap.size + 1) 2, tkF (W.heap.size + 1) 3] 158)
 rw [s1] at e1
 rw [s2] at e2
 have f1 : (tkW g W).heap[W.heap.size + 1]? = some (.cells (tkCells g .zero 0 0) 157 (0, 0)) := (Below.heap_alloc _ _ _ (by rw [s2]; omega)).trans e1
 have f0 : (tkW g W).heap[W.heap.size]? = some (.cells FnV.zero.cells 43 (0, 0)) := (Below.heap_alloc _ _ _ (by rw [s2]; omega)).trans ((Below.heap_alloc _ _ _ (by rw [s1]; omega)).trans e0)
 exact ⟨⟨f1, cur_grown hc b3, FnOwn.zero _ _, by omega, fun _ => rfl⟩, ⟨f0, e2⟩, b3⟩
theorem tk_results {B : Nat} {tmps : Array Value} {v : FnV} {w : World} (h2 : tmps.getD 2 undef = .pointer (some ⟨B, 0, none⟩)) (hr : w.rangeAt B 0 v.cells.toList) : (results Tryz.f108 tmps).run Tryz.prog w = .ok (.agg v.cells) w := by
 have hl := run_loadVar_mid (P := Tryz.prog) w B 0 43 v.cells.toList _ hr Tryz.underlying43 rfl (by kernel_rfl)
 have h3 : tmps[2]?.getD undef = .pointer (some ⟨B, 0, none⟩) := by simpa using h2
 simp [results, Tryz.results108, asAddr, h3, hl]
set_option maxHeartbeats 8000000 in
theorem fntake_walk (g : Nat) (s : List Nat × Nat) (W : World) (hc : Cur W g s) (hT : Tab W) (hgT : g ≠ 0)
   (HG0 : ∀ i, i < 4 → ∀ p v t W, TkAt g p v t W → Tab W → p ≠ 0 → Fn.grpJ i t → Calls Tryz.prog (tkNo i) #[.pointer (some ⟨p, 0, none⟩)] W (AllP g p (Fn.grp i t) (Fn.grpJ i) (Fn.grpJ (i + 1)) W)) :
   Calls Tryz.prog 108 #[.pointer (some ⟨g, 0, none⟩)] W (TkP g (Fn.take s) W) := by
 have HG := Lib.hid HG0
 have HW := Lib.hid (tkW_ok hc)
 have HL := Lib.hid hc.lt
 have HR := Lib.hid (Fn.take_rest s)
 have HT := Lib.hid (tab_below hT (tkW_ok hc).2.2 (tab_in hT))
 have HTl := Lib.hid (tab_in hT)
 generalize Fn.take s = o at *
 clear hc hT HG0
 go_enter Tryz.func108, Tryz.ntmps108
 go_wp2
 go_step3
 go_wp2
 go_step3
 go_wp2
 go_loopw [5, 7, 16] (fun _ _ i wr => ∃ k : Nat, k ≤ 4 ∧ i = .int .i64 (k : Int) ∧ TkO g (W.heap.size + 1) W.heap.size o (tkW g W) k wr) (fun _ _ i _ => 4 - (intOf i).toNat)
 case atStart => exact ⟨0, by omega, rfl, ⟨_, _, HW.out.1, Fn.ok_zero s |> (⟨·, rfl⟩), HR.out⟩, Off.refl _ _ _⟩
 case round =>
   obtain ⟨k, hk, rfl, hO⟩ := hrel
   rename World => wo
   by_cases hlt : k < 4
   · have hlti : (k : Int) < 4 := by omega
     have hB := HW.out.2.1.off HL.out hO.off
     have cF := cell_of_row wo (W.heap.size + 1 + 1) k _ _ _ hB.sl
     have hF : (#[tkF (W.heap.size + 1) 0, tkF (W.heap.size + 1) 1, tkF (W.heap.size + 1) 2, tkF (W.heap.size + 1) 3] : Array Value)[k]? = some (.func (.func (tkNo k)) #[.pointer (some ⟨W.heap.size + 1, 0, none⟩)] #[]) := by
       have : k = 0 ∨ k = 1 ∨ k = 2 ∨ k = 3 := by omega
       rcases this with rfl | rfl | rfl | rfl <;> rfl
     rw [hF] at cF
     obtain ⟨⟨v, t, ht, hJ, ho⟩, hoff⟩ := hO
     have HC := HG.out k hlt _ v t wo ht (tab_off HT.out hoff hgT (by have := HTl.out; omega)) (by have := HTl.out; omega) hJ
     have HO := Lib.hid (And.intro ho (And.intro hoff hJ))
     have HB := Lib.hid hB
     have HTk := Lib.hid ht
     have hE := en_tkNo k #[.pointer (some ⟨W.heap.size + 1, 0, none⟩)]
     have hln := Fn.grp_len k t
     have HGo := Lib.hid (fun z (e : Fn.goP (Fn.grp k t) t = .inl z) => ho.trans (Fn.goG_bad hlt e))
     have HGn := Lib.hid (fun t' (e : Fn.goP (Fn.grp k t) t = .inr t') => ho.trans (Fn.goG_next hlt e))
     obtain ⟨z, hz⟩ : ∃ z, Fn.goP (Fn.grp k t) t = z := ⟨_, rfl⟩
     have HZ := Lib.hid hz
     rw [hz] at HGo HGn
     generalize tkNo k = kf at *
     generalize Fn.grp k t = ps at *
     clear hF ht hJ ho hoff hB hz
     go_wp2_with (show Calls _ kf _ _ _; refine HC.mono ?_; rintro _ w2 ⟨A, c, K, I, rfl, hps, hJI, hIJ, hK, hb2⟩; clear HC hE; refine Hid.out ?_)
     have HI0 := Lib.hid (show TkI g (W.heap.size + 1) ps K I z wo 0 w2 from ⟨⟨v, t, HTk.out.on hb2, hJI t HO.out.2.2, HZ.out.symm⟩, hK, Off.below hb2⟩)
     have HPs := Lib.hid hps
     have HIJ := Lib.hid hIJ
     clear hps hJI hIJ hK hb2 cF HZ HTk
     refine Lib.hid ?_
     go_wp2
     go_loopw [7, 23] (fun _ j w3 => ∃ m : Nat, m ≤ ps.length ∧ j = .int .i64 (m : Int) ∧ TkI g (W.heap.size + 1) ps K I z wo m w3) (fun _ j _ => ps.length - (intOf j).toNat)
     case atStart => exact ⟨0, Nat.zero_le _, rfl, HI0.out⟩
     case round =>
       obtain ⟨m, hm, rfl, hI⟩ := hrel
       by_cases hml : m < ps.length
       · have hmi : (m : Int) < (ps.length : Int) := by omega
         obtain ⟨⟨v2, t2, ht2, hI2, hz2⟩, hk2, ho2⟩ := hI
         obtain ⟨b, kf2, cap, rfl, hcell, hen, hcall⟩ := HPs.out.part m hml _ hk2
         have HC2 := hcall v2 t2 hI2 ht2
         have hE2 := hen cap
         have HI2 := Lib.hid (And.intro hI2 (And.intro hz2 (And.intro hk2 ho2)))
         have HT2 := Lib.hid ht2
         clear ht2 hI2 hz2 hk2 ho2 hcall hen
         go_wp2_with (show Calls _ kf2 _ _ _; refine HC2.mono ?_; rintro _ w4 ⟨rfl, ⟨v4, ht4⟩, ho4⟩; clear HC2 hE2; refine Hid.out ?_)
         have HEr := Lib.hid (err_cur g _ w4 ht4.cur)
         have HN := Lib.hid (show (ps[m] t2).s.2 = 0 → TkI g (W.heap.size + 1) ps K I z wo (m + 1) w4 from fun e => ⟨⟨v4, _, ht4, HPs.out.ok m hml t2 HI2.out.1 HT2.out.cur.byte, HI2.out.2.1.trans (Fn.goP_at hml e)⟩, HPs.out.off _ _ HI2.out.2.2.1 ho4, HI2.out.2.2.2.trans ho4⟩)
         have HX := Lib.hid (show (ps[m] t2).s.2 ≠ 0 → o = (Fn.F.zero, (ps[m] t2).s) from fun e => HGo.out _ (HI2.out.2.1.trans (Fn.goP_bad hml e)))
         have HT4 := Lib.hid ht4
         have HO4 := Lib.hid (HO.out.2.1.trans (HI2.out.2.2.2.trans ho4))
         clear ht4 ho4 HI2 HT2 hcell
         generalize ps[m] t2 = t4 at *
         by_cases he : t4.s.2 = 0
         · have d1 : (((t4.s.2 : Nat) : Int) != 0) = false := by rw [he]; rfl
           have HN1 := Lib.hid (HN.out he)
           clear he HN HX
           refine Lib.hid ?_
           go_wp2_with (go_at_call 107; go_must (refine HEr.out.mono ?_; rintro _ w5 ⟨rfl, rfl⟩))
           go_roundw
           case rel => exact ⟨m + 1, hml, by go_num, HN1.out⟩
           case measure => simp [intOf]; omega
         · have d1 : (((t4.s.2 : Nat) : Int) != 0) = true := bne_iff_ne.2 (by omega)
           have HX1 := Lib.hid (HX.out he)
           have HZz := Lib.hid (show TkZ g (W.heap.size + 1) o .zero (tkW g W) (w4.setCells (W.heap.size + 1) 1 FnV.zero.cells.toList) by rw [HX1.out]; exact HT4.out.bad HO4.out)
           have HB4 := Lib.hid (HW.out.2.1.off HL.out HZz.out.off)
           have HTo := Lib.hid (HZz.out.told HL.out HB4.out HW.out.2.2)
           have ht1 := there_block HT4.out.box (o := 1) (n := FnV.zero.cells.size) (Nat.le_of_ble_eq_true rfl)
           have ht2 := there_block HB4.out.res (o := 0) (n := FnV.zero.cells.size) (Nat.le_of_ble_eq_true rfl)
           refine Lib.hid ?_
           go_wp2_with (first
             | (go_at_call 107; go_must (refine HEr.out.mono ?_; rintro _ w5 ⟨rfl, rfl⟩))
             | (with_reducible refine wpList_store_mid ?_ 43 (.tmp 33) (.tmp 32) ?_ (W.heap.size + 1) 1 FnV.zero.cells ?_ ?_ ht1 ?_ ?_ ?_; rfl; rfl; go_must (go_simp; kernel_rfl; kernel_rfl; kernel_rfl))
             | (with_reducible refine wpList_load_mid ?_ 43 (.tmp 36) ?_ (W.heap.size + 1) 1 ?_ FnV.zero.cells.toList _ HZz.out.box Tryz.underlying43 ?_ ?_ ?_; rfl; rfl; go_must (go_simp; rfl; kernel_rfl))
             | (with_reducible refine wpList_store_mid ?_ 43 (.tmp 2) (.tmp 37) ?_ W.heap.size 0 FnV.zero.cells ?_ ?_ ht2 ?_ ?_ ?_; rfl; rfl; go_must (go_simp; kernel_rfl; kernel_rfl; kernel_rfl)))
           rw [Exit.noGoto_ret]
           refine bodyPost_ret (tk_results (by go_simp) HTo.out.2.2.2) (by go_simp) ?_
           exact ⟨.zero, rfl, HTo.out.1, HTo.out.2.1, HTo.out.2.2.1⟩
       · obtain rfl : m = ps.length := by omega
         have hmi : ¬ (ps.length : Int) < (ps.length : Int) := by omega
         obtain ⟨⟨v2, t2, ht2, hI2, hz2⟩, hk2, ho2⟩ := hI
         have HR2 := Lib.hid (show TkO g (W.heap.size + 1) W.heap.size o (tkW g W) (k + 1) _ from ⟨⟨v2, t2, ht2, HIJ.out _ hI2, HGn.out _ (by rw [hz2, List.drop_length, Fn.goP])⟩, HO.out.2.1.trans ho2⟩)
         clear ht2 hI2 hz2 hk2 ho2
         go_wp2
         exact ⟨⟨k + 1, by omega, by go_num, HR2.out⟩, by simp [intOf]; omega⟩
   · have HK4 : Hid (k = 4) := Lib.hid (by omega)
     have hlti : decide ((k : Int) < 4) = false := decide_eq_false (by omega)
     obtain ⟨⟨v, t, ht, hJ, ho⟩, hoff⟩ := hO
     have HZz := Lib.hid (show TkZ g (W.heap.size + 1) o v (tkW g W) wo by rw [ho, HK4.out]; exact ht.z hoff)
     have HB4 := Lib.hid (HW.out.2.1.off HL.out HZz.out.off)
     have HTo := Lib.hid (HZz.out.told HL.out HB4.out HW.out.2.2)
     have ht2 := there_block HB4.out.res (o := 0) (n := v.cells.size) (Nat.le_of_ble_eq_true rfl)
     clear ht hJ ho hoff
     go_wp2_with (first
       | (with_reducible refine wpList_load_mid ?_ 43 (.tmp 36) ?_ (W.heap.size + 1) 1 ?_ v.cells.toList _ HZz.out.box Tryz.underlying43 ?_ ?_ ?_; rfl; rfl; go_must (go_simp; rfl; kernel_rfl))
       | (with_reducible refine wpList_store_mid ?_ 43 (.tmp 2) (.tmp 37) ?_ W.heap.size 0 v.cells ?_ ?_ ht2 ?_ ?_ ?_; rfl; rfl; go_must (go_simp; kernel_rfl; kernel_rfl; kernel_rfl)))
     rw [Exit.noGoto_ret]
     refine bodyPost_ret (tk_results (by go_simp) HTo.out.2.2.2) (by go_simp) ?_
     exact ⟨v, rfl, HTo.out.1, HTo.out.2.1, HTo.out.2.2.1⟩
theorem fntake_cur (g : Nat) (s : List Nat × Nat) (W : World) (hc : Cur W g s) (hT : Tab W) (hgT : g ≠ 0) :
   Calls Tryz.prog 108 #[.pointer (some ⟨g, 0, none⟩)] W (TkP g (Fn.take s) W) := by
 refine fntake_walk g s W hc hT hgT (fun i hi p v t W h hT hp hJ => ?_)
 have : i = 0 ∨ i = 1 ∨ i = 2 ∨ i = 3 := by omega
 rcases this with rfl | rfl | rfl | rfl
 · exact title_all g p v t W h hT hgT hp
 · exact types_all g p v t W h
 · exact body_all g p v t W h hT hgT hp
 · exact tables_all g p v t W h hJ hT hgT hp
end Go.Proofs.YtdopheoedpldiaaGreatDoor
