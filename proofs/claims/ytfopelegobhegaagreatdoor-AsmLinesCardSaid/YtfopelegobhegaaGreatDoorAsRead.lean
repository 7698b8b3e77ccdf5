/-
 What asm.Read tells of any text. Conditions: at most a million bytes; the library's variables and table are laid.
-/
import Derived.Test.YtfopelegobhegaaGreatDoorAsRdLine
import Derived.Test.YtfopelegobhegaaGreatDoorAsIt
import Derived.Test.YtfopelegobhegaaGreatDoorFlC
set_option maxRecDepth 100000
namespace Go.Proofs.YtfopelegobhegaaGreatDoor
open Go.RowKit Go.Shelf
attribute [local go_sem] Oper.semAt_some
def AsReadP (x : ByteArray) (w : World) (e : Ending) (w' : World) : Prop := ∃ (s : Sl3) (us : List FnV), e = .returned (.tuple #[.agg #[s.val], .int .i64 ((As.read x).1.2 : Int), .int .i64 ((As.read x).2 : Int)]) ∧ s.n = (As.read x).1.1.length ∧ FnsAt w' w'.heap.size s.a s.n us (As.read x).1.1 ∧ s.nilOk ∧ Below w.heap.size w w'
def Box1 (W : World) (b : Nat) (T : TypeId) (v : Value) : Prop := W.heap[b]? = some (.cells #[v] T (0, 0))
section
variable {W W' : World} {b : Nat} {T : TypeId} {v : Value}
theorem Box1.cell (h : Box1 W b T v) : W.cell? ⟨b, 0, none⟩ = some v := cell_of_row _ _ 0 _ _ _ h
theorem Box1.ice (h : Box1 W b T v) : W.frozen? ⟨b, 0, none⟩ = false := by unfold Box1 at h; simp [World.frozen?, h]
theorem Box1.lt (h : Box1 W b T v) : b < W.heap.size := heap_lt h
theorem Box1.set (h : Box1 W b T v) (y : Value) : Box1 (W.setCell ⟨b, 0, none⟩ y) b T y := mid_set h y
theorem Box1.past {p : Nat} (h : Box1 W b T v) (hp : b ≠ p) (i : Nat) (y : Value) : Box1 (W.setCell ⟨p, i, none⟩ y) b T v := (Below.heap_setCell W ⟨p, i, none⟩ y b hp).trans h
theorem Box1.at (h : Box1 W b T v) (e : W'.heap[b]? = W.heap[b]?) : Box1 W' b T v := e.trans h
theorem Box1.marked (h : Box1 W b T v) {row : Option Nat} (hg : W.grownBy W' row) (hr : ∀ r, row = some r → ∃ o, W.heap[r]? = some o ∧ o.isCells = false) : Box1 W' b T v :=
 (hg.block b (heap_lt h) fun e => by
   obtain ⟨o, h3, h4⟩ := hr b e.symm
   unfold Box1 at h
   rw [h] at h3
   injection h3 with h3
   subst h3
   cases h4).trans h
end
def raw (pre : List LnT) : List (Nat × ByteArray) := pre.map (·.1)
theorem raw_snoc (pre : List LnT) (x : LnT) : raw (pre ++ [x]) = raw pre ++ [x.1] := List.map_append
def ReadI (q l : Nat) (Wb : World) (pre : List LnT) (W : World) : Prop :=
 (As.after (raw pre)).2 = 0 ∧ As.Fits (As.after (raw pre)).1.1 pre.length ∧ RdAt q l Wb (As.after (raw pre)).1.1 W ∧ Box1 W l 3 (.int .i64 ((As.after (raw pre)).1.2 : Int))
def ReadX (w : World) (c : Code) (pre : List LnT) (W : World) : Prop :=
 c = .ret ∧ (As.after (raw pre)).2 ≠ 0 ∧ Box1 W w.heap.size 42 (.slice none 0 0) ∧ Box1 W (w.heap.size + 1) 3 (.int .i64 ((As.after (raw pre)).1.2 : Int)) ∧ Box1 W (w.heap.size + 2) 26 (.int .i64 ((As.after (raw pre)).2 : Int)) ∧ Below w.heap.size w W
theorem readI_own (q l : Nat) (Wb : World) : OwnFrom Wb.heap.size (ReadI q l Wb) := fun pre W W' row hs hg hr => by
 obtain ⟨h0, h1, ⟨W0, s, us, v, h2⟩, h3⟩ := hs
 exact ⟨h0, h1, ⟨W0, s, us, v, h2.marked hg hr⟩, h3.marked hg fun r e => (hr r e).2⟩
theorem readX_own (w : World) (c : Code) {B : Nat} (hB : w.heap.size ≤ B) : OwnFrom B (ReadX w c) := fun pre W W' row hs hg hr => by
 obtain ⟨h0, h1, h2, h3, h4, h5⟩ := hs
 exact ⟨h0, h1, h2.marked hg fun r e => (hr r e).2, h3.marked hg fun r e => (hr r e).2, h4.marked hg fun r e => (hr r e).2, h5.grown hg h5.size (fun k e => Nat.le_trans hB (hr k e).1)⟩
theorem RdAt.last {q l : Nat} {Wb W : World} {t : As.St} (h : RdAt q l Wb t W) (y : Value) : RdAt q l Wb t (W.setCell ⟨l, 0, none⟩ y) := by
 obtain ⟨W0, s, us, v, h⟩ := h
 have hg := Lib.grownBy_setB (World.grownBy.refl W (some l)) 0 y
 have hq := h.ql
 have ho : Off q l W (W.setCell ⟨l, 0, none⟩ y) := Off.set q l 0 y W
 exact ⟨W0, s, us, v, (Below.heap_setCell W ⟨l, 0, none⟩ y q hq.2.2).trans h.box, h.off.on ho, h.whole.trans ho, h.base, h.len, h.row, h.old, fun e => ⟨(h.cur e).1.off ho (Nat.lt_of_lt_of_le hq.1 h.base) (Nat.lt_of_lt_of_le hq.2.1 h.base), (h.cur e).2⟩, hq⟩
structure RdW (w : World) (x : ByteArray) (Wb : World) : Prop where
 size : Wb.heap.size = w.heap.size + 1 + 1 + 1 + 1 + 1 + 1
 b0 : Box1 Wb w.heap.size 42 (.slice none 0 0)
 b1 : Box1 Wb (w.heap.size + 1) 3 (.int .i64 0)
 b2 : Box1 Wb (w.heap.size + 1 + 1) 26 (.int .i64 0)
 q : Wb.heap[w.heap.size + 1 + 1 + 1]? = some (.cells (rdCells .nil .zero false) 66 (0, 0))
 l : Box1 Wb (w.heap.size + 1 + 1 + 1 + 1) 3 (.int .i64 1)
 t : Box1 Wb (w.heap.size + 1 + 1 + 1 + 1 + 1) 9 (.string x)
 below : Below w.heap.size w Wb
theorem alloc_last {w : World} {o : Obj} {n : Nat} (h : w.heap.size = n) : (w.alloc o).heap[n]? = some o := by subst h; exact World.alloc_heap_new w o
theorem alloc_elder {w : World} {o y : Obj} {j : Nat} (h : w.heap[j]? = some y) : (w.alloc o).heap[j]? = some y := (Below.heap_alloc w o j (heap_lt h)).trans h
theorem rdW_is (w : World) (x : ByteArray) : RdW w x ((((((w.alloc (.cells #[.slice none 0 0] 42)).alloc (.cells #[.int .i64 0] 3)).alloc (.cells #[.int .i64 0] 26)).alloc (.cells #[.slice none 0 0, .string ⟨#[]⟩, .bool false, .slice none 0 0, .slice none 0 0, .slice none 0 0, .slice none 0 0, .slice none 0 0, .slice none 0 0, .slice none 0 0, .slice none 0 0, .slice none 0 0, .bool false] 66)).alloc (.cells #[.int .i64 1] 3)).alloc (.cells #[.string x] 9)) := by
 refine ⟨by simp only [World.size_alloc], ?_, ?_, ?_, ?_, ?_, ?_, ?_⟩
 · exact alloc_elder (alloc_elder (alloc_elder (alloc_elder (alloc_elder (alloc_last rfl)))))
 · exact alloc_elder (alloc_elder (alloc_elder (alloc_elder (alloc_last (by simp only [World.size_alloc])))))
 · exact alloc_elder (alloc_elder (alloc_elder (alloc_last (by simp only [World.size_alloc]))))
 · exact alloc_elder (alloc_elder (alloc_last (by simp only [World.size_alloc])))
 · exact alloc_elder (alloc_last (by simp only [World.size_alloc]))
 · exact alloc_last (by simp only [World.size_alloc])
 · exact ((((((Below.refl _ w).alloc (Nat.le_refl _) _).alloc (by simp) _).alloc (by simp; omega) _).alloc (by simp; omega) _).alloc (by simp; omega) _).alloc (by simp; omega) _
theorem RdIs.told {q l : Nat} {Wb W0 W W' : World} {s : Sl3} {us : List FnV} {v : FnV} {t : As.St} {n : Nat} (h : RdIs q l Wb W0 s us v t W) (hf : As.Fits t n) (hk : ∀ (j : Nat) (C : Array Value) (T : TypeId) (m : Nat × Nat), Wb.heap.size ≤ j → W.heap[j]? = some (Obj.cells C T m) → W'.heap[j]? = some (Obj.cells C T m)) :
   s.n = t.done.length ∧ FnsAt W' W'.heap.size s.a s.n us t.done ∧ s.nilOk := by
 have kr : ∀ {e : TypeId} {size n : Nat} {u : Value} {xs : List Value}, W.ownsRow Wb.heap.size e size u n xs → W'.ownsRow Wb.heap.size e size u n xs := fun ho => row_kept ho fun g hg => by
   obtain ⟨C, m, h2⟩ := row_kind ho g hg
   exact (hk g C _ m (ho.lt g hg).1 h2).trans h2.symm
 have ko : ∀ k, k < us.length → FnOwn W' Wb.heap.size (us.getD k .zero) (t.done.getD k .zero) := fun k hkl =>
   have a := h.oldW k hkl
   ⟨a.name, a.inner, kr a.outer, kr a.params, kr a.results, kr a.locals, kr a.code, kr a.lines, kr a.nodes, kr a.at_, kr a.live⟩
 obtain ⟨e1, e2, e3⟩ := funcs_of_own (kr h.rowW) ko h.len.symm (fun f hfm => by have := (hf.done f hfm).name; omega)
 rw [← e1] at e2
 exact ⟨e1.trans h.len, e2, e3⟩
set_option maxHeartbeats 16000000 in
theorem asread_any (x : ByteArray) (hx : x.size ≤ 1048576) (w : World) (hg : Glob w) (hT : Tab w) (hgt : 5 < w.heap.size) : Calls Tryz.prog 10 #[.string x] w (AsReadP x w) := by
 have HG := Lib.hid hg
 have HT := Lib.hid (And.intro hT hgt)
 clear hg hT hgt
 refine (callsIn_wide (n := 5)).1 ?_
 refine callsIn_of_wp_marks Tryz.func10 rfl trivial ?_ rfl
 simp only [Tryz.ntmps10, List.size_toArray, List.length_cons, List.length_nil, Nat.reduceAdd, Nat.reduceSub, Array.replicate_succ, Array.replicate_zero, List.push_toArray, List.append_toArray, List.nil_append, List.cons_append]
 gi_wp2_with (refine ⟨trivial, ?_⟩; gi_at_call 28; refine (aslines_in _ _ _).mono ?_; rintro e w' ⟨rfl, rfl⟩)
 have HW := Lib.hid (rdW_is w x)
 have HRd : Hid (As.read x = As.readOf (As.after (As.lines x))) := Lib.hid rfl
 generalize ((((((w.alloc (.cells #[.slice none 0 0] 42)).alloc (.cells #[.int .i64 0] 3)).alloc (.cells #[.int .i64 0] 26)).alloc (.cells #[.slice none 0 0, .string ⟨#[]⟩, .bool false, .slice none 0 0, .slice none 0 0, .slice none 0 0, .slice none 0 0, .slice none 0 0, .slice none 0 0, .slice none 0 0, .slice none 0 0, .slice none 0 0, .bool false] 66)).alloc (.cells #[.int .i64 1] 3)).alloc (.cells #[.string x] 9)) = Wb at *
 generalize hq : w.heap.size + 1 + 1 + 1 = q at *
 have HQ := Lib.hid hq
 refine wpIn_rangeFunc_ownF rfl (by omega) (gf := 49) (lb := #[.pointer (some ⟨q + 1 + 1, 0, none⟩)]) rfl trivial (enters_of Tryz.func49 (by kernel_rfl) rfl)
   (lines_stops _ (by omega) (q + 1 + 1) x hx Wb (by rw [← hq]; exact HW.out.t)) (fun _ _ => trivial) (fun _ _ _ _ _ _ _ _ => trivial) (Below.refl _ _) (fun _ => rfl)
   (ReadI q (q + 1) Wb) (ReadX w) (readI_own q (q + 1) Wb) (fun c => readX_own w c HW.out.below.size) ?init
   (fun y : LnT => { tmps := #[.string x, undef, .pointer (some ⟨w.heap.size, 0, none⟩), .pointer (some ⟨w.heap.size + 1, 0, none⟩), .pointer (some ⟨w.heap.size + 1 + 1, 0, none⟩), .pointer (some ⟨q, 0, none⟩), .pointer (some ⟨q + 1, 0, none⟩), .int .i64 (y.1.1 : Int), .string y.1.2, undef, undef, .string x, .func (.func 49) #[] #[.pointer (some ⟨q + 1 + 1, 0, none⟩)], .int .i64 (y.1.1 : Int), .string y.1.2, undef, undef, undef, undef, undef, undef, undef, undef, undef, undef, undef, undef, undef, undef, undef, undef, undef, undef, undef, undef, undef], defers := [] }) ?assign ?body ?done ?stop
 case init =>
   refine ⟨rfl, As.Fits.first, ⟨Wb, .nil, [], .zero, by rw [← hq]; exact HW.out.q, OffC.refl _ _ _, Off.refl _ _ _, Nat.le_refl _, rfl, World.ownsRow_nil _ _ _ _, fun k hk => absurd hk (Nat.not_lt_zero _), (fun e => by cases e), ?_⟩, by rw [← hq]; exact HW.out.l⟩
   have := HW.out.size
   omega
 case assign =>
   intro l y W K hK
   simp only [encN]
   gi_wp2
   exact hK
 case body =>
   rintro l pre y W ⟨h0, hF, hR, hl⟩ hlen
   have HBw := Lib.hid (fun (W : World) (ho : Off q (q + 1) Wb W) => show Below w.heap.size w W from HW.out.below.trans ⟨ho.os, ho.tape, ho.output, ho.size, fun j hj => ho.block j (by have := HW.out.size; omega) (by omega) (by omega)⟩)
   have HBx := Lib.hid (fun (W : World) (ho : Off q (q + 1) Wb W) => show Box1 W w.heap.size 42 (.slice none 0 0) ∧ Box1 W (w.heap.size + 1) 3 (.int .i64 0) ∧ Box1 W (w.heap.size + 1 + 1) 26 (.int .i64 0) from
     ⟨HW.out.b0.at (ho.block _ HW.out.b0.lt (by omega) (by omega)), HW.out.b1.at (ho.block _ HW.out.b1.lt (by omega) (by omega)), HW.out.b2.at (ho.block _ HW.out.b2.lt (by omega) (by omega))⟩)
   obtain ⟨⟨n, z⟩, hz⟩ := y
   have hN := Nat.le_trans (As.numbered_len (As.words 10 x) 1) (As.words_len 10 x.size x (Nat.le_refl _))
   have hlen2 : pre.length ≤ 1048576 := by unfold As.lines at hlen; omega
   have HNx := Lib.hid (As.after_snoc h0 (n, z))
   obtain ⟨t, ht⟩ : ∃ t, (As.after (raw pre)).1.1 = t := ⟨_, rfl⟩
   rw [ht] at hF hR HNx
   have HLn := rdline_any q (q + 1) Wb t W hR z hz (HG.out.below (HBw.out W hR.off)) (Nat.le_trans hF.len.2.1 hlen2) (Nat.le_trans hF.len.2.2 hlen2) (Nat.le_trans hF.len.1 hlen2)
   unfold RdP at HLn
   have HF2 := Lib.hid (hF.step hz)
   simp only at HNx
   obtain ⟨o, ho⟩ : ∃ o, As.step t z = o := ⟨_, rfl⟩
   rw [ho] at HLn HNx HF2
   have HL := Lib.hid hl
   have HSn := Lib.hid (raw_snoc pre ⟨(n, z), hz⟩)
   clear hF hR hl hlen hlen2 hN ht ho h0
   by_cases he : o.2 = 0
   · have hd : ((o.2 : Int) != 0) = false := by rw [he]; rfl
     have HE := Lib.hid he
     clear he
     gi_wp2_with (refine ⟨trivial, ?_⟩; gi_at_call 29; refine (CallsIn.inRound l (callsIn_wide.2 HLn)).mono ?_; clear HLn; rintro e w1 ⟨rfl, h1, hko, hkl⟩; have hbl := Box1.at HL.out hkl; have cl := hbl.cell; have fl := hbl.ice; have H1 := Lib.hid (And.intro h1 (And.intro hko hbl)); clear h1 hko hkl hbl)
     refine ⟨H1.out.2.1.trans (KeepsOthers.setCell _ _ _), trivial, ?_⟩
     unfold ReadI
     rw [HSn.out, HNx.out]
     exact ⟨HE.out, by rw [List.length_append]; exact HF2.out, H1.out.1.last _, H1.out.2.2.set _⟩
   · have hd : ((o.2 : Int) != 0) = true := by rw [bne_iff_ne]; omega
     have HE := Lib.hid he
     clear he
     gi_wp2_with (refine ⟨trivial, ?_⟩; gi_at_call 29; refine (CallsIn.inRound l (callsIn_wide.2 HLn)).mono ?_; clear HLn; rintro e w1 ⟨rfl, h1, hko, _⟩; obtain ⟨e0, e1, e2⟩ := HBx.out w1 h1.off; have c0 := e0.cell; have f0 := e0.ice; have c1 := e1.cell; have f1 := e1.ice; have c2 := e2.cell; have f2 := e2.ice; have H1 := Lib.hid (And.intro (HBw.out w1 h1.off) (And.intro hko (And.intro e0 (And.intro e1 e2)))); clear h1 hko e0 e1 e2)
     refine ⟨((H1.out.2.1.trans (KeepsOthers.setCell _ _ _)).trans (KeepsOthers.setCell _ _ _)).trans (KeepsOthers.setCell _ _ _), ?_⟩
     unfold ReadX
     rw [HSn.out, HNx.out]
     exact ⟨rfl, HE.out, ((H1.out.2.2.1.set _).past (by omega) _ _).past (by omega) _ _, ((H1.out.2.2.2.1.past (by omega) _ _).set _).past (by omega) _ _, ((H1.out.2.2.2.2.past (by omega) _ _).past (by omega) _ _).set _, ((H1.out.1.setCell (by simp) _).setCell (by simp) _).setCell (by simp; omega) _⟩
 case done =>
   rintro D ys W hD hys ⟨h0, hF, hR, hl⟩ hK
   have HRead : Hid (As.read x = As.readOf (As.after (raw ys))) := Lib.hid (by rw [HRd.out, ← hys]; rfl)
   obtain ⟨⟨⟨t, last⟩, er⟩, ho⟩ : ∃ o, As.after (raw ys) = o := ⟨_, rfl⟩
   rw [ho] at HRead h0 hF hR hl
   simp only at h0 hF hR hl
   subst h0
   have HBw := Lib.hid (show Below w.heap.size w W from HW.out.below.trans ⟨hR.off.os, hR.off.tape, hR.off.output, hR.off.size, fun j hj => hR.off.block j (by have := HW.out.size; omega) (by omega) (by omega)⟩)
   have hbx : Box1 W w.heap.size 42 (.slice none 0 0) ∧ Box1 W (w.heap.size + 1) 3 (.int .i64 0) ∧ Box1 W (w.heap.size + 1 + 1) 26 (.int .i64 0) :=
     ⟨HW.out.b0.at (hR.off.block _ HW.out.b0.lt (by omega) (by omega)), HW.out.b1.at (hR.off.block _ HW.out.b1.lt (by omega) (by omega)), HW.out.b2.at (hR.off.block _ HW.out.b2.lt (by omega) (by omega))⟩
   have HWh := rdwhole_any q (q + 1) Wb t W hR
   have HBX := Lib.hid hbx
   have HL := Lib.hid hl
   have HR := Lib.hid hR
   have HF := Lib.hid hF
   have HK := Lib.hid hK
   have HD := Lib.hid (Nat.le_trans HW.out.below.size hD)
   clear ho hys hF hR hl hbx
   by_cases hw : t.isOpen = false ∧ 0 < t.done.length
   rotate_left
   · have hb : (!t.isOpen && decide (0 < t.done.length)) = false := by
       cases ht : t.isOpen with
       | true => rfl
       | false => simp only [Bool.not_false, Bool.true_and]; exact decide_eq_false (fun h => hw ⟨ht, h⟩)
     rw [hb] at HWh
     have HO : Hid (As.read x = (([], last), 3)) := Lib.hid (by
       rw [HRead.out]
       unfold As.readOf
       rw [if_neg (by simp), if_pos]
       cases ht : t.isOpen with
       | true => exact .inl rfl
       | false => exact .inr (Nat.eq_zero_of_not_pos fun h => hw ⟨ht, h⟩))
     obtain ⟨e0, e1, e2⟩ := HBX.out
     have c0 := e0.cell; have f0 := e0.ice; have c1 := e1.cell; have f1 := e1.ice; have c2 := e2.cell; have f2 := e2.ice
     have cl := HL.out.cell
     clear hw hb e0 e1 e2
     gi_wp2_with (refine ⟨trivial, ?_⟩; gi_at_call 30; refine (callsIn_wide.2 HWh).mono ?_; clear HWh; rintro e w1 ⟨rfl, he⟩; obtain rfl := he.symm)
     refine wpIn_wide.2 ?_
     go_region
     have hko := (((KeepsOthers.setCell W ⟨w.heap.size, 0, none⟩ (.slice none 0 0)).trans (KeepsOthers.setCell _ ⟨w.heap.size + 1, 0, none⟩ (.int .i64 (last : Int)))).trans (KeepsOthers.setCell _ ⟨w.heap.size + 1 + 1, 0, none⟩ (.int .i64 3))).trans (KeepsOthers.drew _)
     have hK2 := hko.same D _ HK.out rfl
     have b0 : Box1 (((W.setCell ⟨w.heap.size, 0, none⟩ (.slice none 0 0)).setCell ⟨w.heap.size + 1, 0, none⟩ (.int .i64 (last : Int))).setCell ⟨w.heap.size + 1 + 1, 0, none⟩ (.int .i64 3)).drew w.heap.size 42 (.slice none 0 0) := ((HBX.out.1.set _).past (by omega) _ _).past (by omega) _ _
     have b1 : Box1 (((W.setCell ⟨w.heap.size, 0, none⟩ (.slice none 0 0)).setCell ⟨w.heap.size + 1, 0, none⟩ (.int .i64 (last : Int))).setCell ⟨w.heap.size + 1 + 1, 0, none⟩ (.int .i64 3)).drew (w.heap.size + 1) 3 (.int .i64 (last : Int)) := ((HBX.out.2.1.past (by omega) _ _).set _).past (by omega) _ _
     have b2 : Box1 (((W.setCell ⟨w.heap.size, 0, none⟩ (.slice none 0 0)).setCell ⟨w.heap.size + 1, 0, none⟩ (.int .i64 (last : Int))).setCell ⟨w.heap.size + 1 + 1, 0, none⟩ (.int .i64 3)).drew (w.heap.size + 1 + 1) 26 (.int .i64 3) := ((HBX.out.2.2.past (by omega) _ _).past (by omega) _ _).set _
     have hB := (((HBw.out.setCell (p := ⟨w.heap.size, 0, none⟩) (by simp) (.slice none 0 0)).setCell (p := ⟨w.heap.size + 1, 0, none⟩) (by simp) (.int .i64 (last : Int))).setCell (p := ⟨w.heap.size + 1 + 1, 0, none⟩) (by simp; omega) (.int .i64 3)).drew
     clear c0 c1 c2 f0 f1 f2 cl hko
     generalize (((W.setCell ⟨w.heap.size, 0, none⟩ (.slice none 0 0)).setCell ⟨w.heap.size + 1, 0, none⟩ (.int .i64 (last : Int))).setCell ⟨w.heap.size + 1 + 1, 0, none⟩ (.int .i64 3)).drew = w7 at *
     have hm : ∀ r, some D = some r → ∃ o, w7.heap[r]? = some o ∧ o.isCells = false := fun r e => by cases e; exact ⟨_, hK2, rfl⟩
     have g := grownBy_putObj' w7 D (.deferred none)
     have c0 := (b0.marked g hm).cell
     have c1 := (b1.marked g hm).cell
     have c2 := (b2.marked g hm).cell
     have HB := Lib.hid (hB.trans (belowK_b (w := w) (Nat.le_refl _) w7 D _ (.deferred none) HD.out hK2 rfl rfl))
     clear b0 b1 b2 hB hm g
     gi_wp2
     refine ⟨by simp, .inl ⟨_, _, rfl, run_takeDeferred hK2, ?_⟩⟩
     refine ⟨.tuple #[.agg #[.slice none 0 0], .int .i64 (last : Int), .int .i64 3], ?_, ?_⟩
     · simp [results, Tryz.f10, go_sem, c0, c1, c2]
     · unfold AsReadP
       rw [HO.out]
       exact ⟨.nil, [], rfl, rfl, fns_nil _ _, fun _ => rfl, HB.out⟩
   have hb : (!t.isOpen && decide (0 < t.done.length)) = true := by rw [hw.1, decide_eq_true hw.2]; rfl
   rw [hb] at HWh
   obtain ⟨W0, s, us, v, h⟩ := HR.out
   have hfs := h.told (W' := W) HF.out (fun _ _ _ _ _ e => e)
   have hT := tab_below HT.out.1 HBw.out HT.out.2
   have HCn := flcan_any s.a s.n s.c us t.done W hfs.2.1 (fun f hf => (HF.out.done f hf).wf) hT (Nat.lt_of_lt_of_le HT.out.2 HBw.out.size)
   obtain ⟨cn, hcn⟩ : ∃ cn, Fl.can t.done = cn := ⟨_, rfl⟩
   rw [hcn] at HCn
   unfold ErrP at HCn
   have cq : W.cell? ⟨q, 0, none⟩ = some (.slice s.a s.n s.c) := h.cell 0
   have HH := Lib.hid h
   have HO : Hid (As.read x = if cn ≠ 0 then (([], 0), cn) else ((t.done, 0), 0)) := Lib.hid (by
     rw [HRead.out, ← hcn]
     unfold As.readOf
     rw [if_neg (by simp), if_neg (by simp only [hw.1]; rintro (h | h); exact absurd h (by decide); have := hw.2; omega)])
   clear h hfs hT hcn hb hw
   have HBX2 := Lib.hid (fun (W2 : World) (hb : Below W.heap.size W W2) => show Box1 W2 w.heap.size 42 (.slice none 0 0) ∧ Box1 W2 (w.heap.size + 1) 3 (.int .i64 0) ∧ Box1 W2 (w.heap.size + 1 + 1) 26 (.int .i64 0) from
     ⟨HBX.out.1.at (hb.block _ HBX.out.1.lt), HBX.out.2.1.at (hb.block _ HBX.out.2.1.lt), HBX.out.2.2.at (hb.block _ HBX.out.2.2.lt)⟩)
   by_cases hc : cn = 0
   · subst hc
     have HO : Hid (As.read x = ((t.done, 0), 0)) := Lib.hid (HO.out.trans (if_neg (by simp)))
     gi_wp2_with (first
       | (refine ⟨trivial, ?_⟩; gi_at_call 30; refine (callsIn_wide.2 HWh).mono ?_; clear HWh; rintro e w1 ⟨rfl, he⟩; obtain rfl := he.symm)
       | (refine ⟨trivial, ?_⟩; gi_at_call 31; refine (callsIn_wide.2 HCn).mono ?_; clear HCn; rintro e w1 ⟨rfl, hb1⟩; obtain ⟨e0, e1, e2⟩ := HBX2.out w1 hb1; have c0 := e0.cell; have f0 := e0.ice; have c1 := e1.cell; have f1 := e1.ice; have c2 := e2.cell; have f2 := e2.ice; have cq1 := (hb1.cell (p := ⟨q, 0, none⟩) HH.out.lt).trans cq; have H1 := Lib.hid (And.intro hb1 (And.intro e0 (And.intro e1 e2))); clear hb1 e0 e1 e2 cq))
     have hko := (((ko_below H1.out.1).trans (KeepsOthers.setCell w1 ⟨w.heap.size, 0, none⟩ (.slice s.a s.n s.c))).trans (KeepsOthers.setCell _ ⟨w.heap.size + 1, 0, none⟩ (.int .i64 0))).trans (KeepsOthers.setCell _ ⟨w.heap.size + 1 + 1, 0, none⟩ (.int .i64 0))
     have hK2 := hko.same D _ HK.out rfl
     have b0 : Box1 (((w1.setCell ⟨w.heap.size, 0, none⟩ (.slice s.a s.n s.c)).setCell ⟨w.heap.size + 1, 0, none⟩ (.int .i64 0)).setCell ⟨w.heap.size + 1 + 1, 0, none⟩ (.int .i64 0)) w.heap.size 42 (.slice s.a s.n s.c) := ((H1.out.2.1.set _).past (by omega) _ _).past (by omega) _ _
     have b1 : Box1 (((w1.setCell ⟨w.heap.size, 0, none⟩ (.slice s.a s.n s.c)).setCell ⟨w.heap.size + 1, 0, none⟩ (.int .i64 0)).setCell ⟨w.heap.size + 1 + 1, 0, none⟩ (.int .i64 0)) (w.heap.size + 1) 3 (.int .i64 0) := ((H1.out.2.2.1.past (by omega) _ _).set _).past (by omega) _ _
     have b2 : Box1 (((w1.setCell ⟨w.heap.size, 0, none⟩ (.slice s.a s.n s.c)).setCell ⟨w.heap.size + 1, 0, none⟩ (.int .i64 0)).setCell ⟨w.heap.size + 1 + 1, 0, none⟩ (.int .i64 0)) (w.heap.size + 1 + 1) 26 (.int .i64 0) := ((H1.out.2.2.2.past (by omega) _ _).past (by omega) _ _).set _
     have hB := (((HBw.out.trans (H1.out.1.mono HBw.out.size)).setCell (p := ⟨w.heap.size, 0, none⟩) (by simp) (.slice s.a s.n s.c)).setCell (p := ⟨w.heap.size + 1, 0, none⟩) (by simp) (.int .i64 0)).setCell (p := ⟨w.heap.size + 1 + 1, 0, none⟩) (by simp; omega) (.int .i64 0)
     have hcl : ∀ (j : Nat) (C : Array Value) (T : TypeId) (m : Nat × Nat), Wb.heap.size ≤ j → W.heap[j]? = some (Obj.cells C T m) → (((w1.setCell ⟨w.heap.size, 0, none⟩ (.slice s.a s.n s.c)).setCell ⟨w.heap.size + 1, 0, none⟩ (.int .i64 0)).setCell ⟨w.heap.size + 1 + 1, 0, none⟩ (.int .i64 0)).heap[j]? = some (Obj.cells C T m) := fun j C T m hj e => by
       have hz := HW.out.size
       rw [Below.heap_setCell _ _ _ _ (by simp only; omega), Below.heap_setCell _ _ _ _ (by simp only; omega), Below.heap_setCell _ _ _ _ (by simp only; omega)]
       exact (H1.out.1.block j (heap_lt e)).trans e
     clear c0 c1 c2 f0 f1 f2 cq1 hko
     generalize ((w1.setCell ⟨w.heap.size, 0, none⟩ (.slice s.a s.n s.c)).setCell ⟨w.heap.size + 1, 0, none⟩ (.int .i64 0)).setCell ⟨w.heap.size + 1 + 1, 0, none⟩ (.int .i64 0) = w7 at *
     have hm : ∀ r, some D = some r → ∃ o, w7.heap[r]? = some o ∧ o.isCells = false := fun r e => by cases e; exact ⟨_, hK2, rfl⟩
     have g := grownBy_putObj' w7 D (.deferred none)
     have c0 := (b0.marked g hm).cell
     have c1 := (b1.marked g hm).cell
     have c2 := (b2.marked g hm).cell
     have HB := Lib.hid (hB.trans (belowK_b (w := w) (Nat.le_refl _) w7 D _ (.deferred none) HD.out hK2 rfl rfl))
     have HTd := Lib.hid (HH.out.told (W' := w7.putObj D (.deferred none)) HF.out (fun j C T m hj e => (g.block j (heap_lt (hcl j C T m hj e)) (fun e' => by
       injection e' with e'
       have h3 := hcl j C T m hj e
       rw [e', hK2] at h3
       cases h3)).trans (hcl j C T m hj e)))
     clear b0 b1 b2 hB hm g hcl
     refine ⟨by simp, .inl ⟨_, _, rfl, run_takeDeferred hK2, ?_⟩⟩
     refine ⟨.tuple #[.agg #[(.slice s.a s.n s.c)], .int .i64 0, .int .i64 0], ?_, ?_⟩
     · simp [results, Tryz.f10, go_sem, c0, c1, c2]
     · unfold AsReadP
       rw [HO.out]
       exact ⟨s, us, rfl, HTd.out.1, HTd.out.2.1, HTd.out.2.2, HB.out⟩
   · have hd : ((cn : Int) != 0) = true := by rw [bne_iff_ne]; omega
     have HO : Hid (As.read x = (([], 0), cn)) := Lib.hid (HO.out.trans (if_pos hc))
     clear hc
     gi_wp2_with (first
       | (refine ⟨trivial, ?_⟩; gi_at_call 30; refine (callsIn_wide.2 HWh).mono ?_; clear HWh; rintro e w1 ⟨rfl, he⟩; obtain rfl := he.symm)
       | (refine ⟨trivial, ?_⟩; gi_at_call 31; refine (callsIn_wide.2 HCn).mono ?_; clear HCn; rintro e w1 ⟨rfl, hb1⟩; obtain ⟨e0, e1, e2⟩ := HBX2.out w1 hb1; have c0 := e0.cell; have f0 := e0.ice; have c1 := e1.cell; have f1 := e1.ice; have c2 := e2.cell; have f2 := e2.ice; have cq1 := (hb1.cell (p := ⟨q, 0, none⟩) HH.out.lt).trans cq; have H1 := Lib.hid (And.intro hb1 (And.intro e0 (And.intro e1 e2))); clear hb1 e0 e1 e2 cq))
     have hko := (((ko_below H1.out.1).trans (KeepsOthers.setCell w1 ⟨w.heap.size, 0, none⟩ (.slice none 0 0))).trans (KeepsOthers.setCell _ ⟨w.heap.size + 1, 0, none⟩ (.int .i64 0))).trans (KeepsOthers.setCell _ ⟨w.heap.size + 1 + 1, 0, none⟩ (.int .i64 (cn : Int)))
     have hK2 := hko.same D _ HK.out rfl
     have b0 : Box1 (((w1.setCell ⟨w.heap.size, 0, none⟩ (.slice none 0 0)).setCell ⟨w.heap.size + 1, 0, none⟩ (.int .i64 0)).setCell ⟨w.heap.size + 1 + 1, 0, none⟩ (.int .i64 (cn : Int))) w.heap.size 42 (.slice none 0 0) := ((H1.out.2.1.set _).past (by omega) _ _).past (by omega) _ _
     have b1 : Box1 (((w1.setCell ⟨w.heap.size, 0, none⟩ (.slice none 0 0)).setCell ⟨w.heap.size + 1, 0, none⟩ (.int .i64 0)).setCell ⟨w.heap.size + 1 + 1, 0, none⟩ (.int .i64 (cn : Int))) (w.heap.size + 1) 3 (.int .i64 0) := ((H1.out.2.2.1.past (by omega) _ _).set _).past (by omega) _ _
     have b2 : Box1 (((w1.setCell ⟨w.heap.size, 0, none⟩ (.slice none 0 0)).setCell ⟨w.heap.size + 1, 0, none⟩ (.int .i64 0)).setCell ⟨w.heap.size + 1 + 1, 0, none⟩ (.int .i64 (cn : Int))) (w.heap.size + 1 + 1) 26 (.int .i64 (cn : Int)) := ((H1.out.2.2.2.past (by omega) _ _).past (by omega) _ _).set _
     have hB := (((HBw.out.trans (H1.out.1.mono HBw.out.size)).setCell (p := ⟨w.heap.size, 0, none⟩) (by simp) (.slice none 0 0)).setCell (p := ⟨w.heap.size + 1, 0, none⟩) (by simp) (.int .i64 0)).setCell (p := ⟨w.heap.size + 1 + 1, 0, none⟩) (by simp; omega) (.int .i64 (cn : Int))
     have hcl : ∀ (j : Nat) (C : Array Value) (T : TypeId) (m : Nat × Nat), Wb.heap.size ≤ j → W.heap[j]? = some (Obj.cells C T m) → (((w1.setCell ⟨w.heap.size, 0, none⟩ (.slice none 0 0)).setCell ⟨w.heap.size + 1, 0, none⟩ (.int .i64 0)).setCell ⟨w.heap.size + 1 + 1, 0, none⟩ (.int .i64 (cn : Int))).heap[j]? = some (Obj.cells C T m) := fun j C T m hj e => by
       have hz := HW.out.size
       rw [Below.heap_setCell _ _ _ _ (by simp only; omega), Below.heap_setCell _ _ _ _ (by simp only; omega), Below.heap_setCell _ _ _ _ (by simp only; omega)]
       exact (H1.out.1.block j (heap_lt e)).trans e
     clear c0 c1 c2 f0 f1 f2 cq1 hko
     generalize ((w1.setCell ⟨w.heap.size, 0, none⟩ (.slice none 0 0)).setCell ⟨w.heap.size + 1, 0, none⟩ (.int .i64 0)).setCell ⟨w.heap.size + 1 + 1, 0, none⟩ (.int .i64 (cn : Int)) = w7 at *
     have hm : ∀ r, some D = some r → ∃ o, w7.heap[r]? = some o ∧ o.isCells = false := fun r e => by cases e; exact ⟨_, hK2, rfl⟩
     have g := grownBy_putObj' w7 D (.deferred none)
     have c0 := (b0.marked g hm).cell
     have c1 := (b1.marked g hm).cell
     have c2 := (b2.marked g hm).cell
     have HB := Lib.hid (hB.trans (belowK_b (w := w) (Nat.le_refl _) w7 D _ (.deferred none) HD.out hK2 rfl rfl))
     have HTd := Lib.hid (HH.out.told (W' := w7.putObj D (.deferred none)) HF.out (fun j C T m hj e => (g.block j (heap_lt (hcl j C T m hj e)) (fun e' => by
       injection e' with e'
       have h3 := hcl j C T m hj e
       rw [e', hK2] at h3
       cases h3)).trans (hcl j C T m hj e)))
     clear b0 b1 b2 hB hm g hcl
     refine ⟨by simp, .inl ⟨_, _, rfl, run_takeDeferred hK2, ?_⟩⟩
     refine ⟨.tuple #[.agg #[(.slice none 0 0)], .int .i64 0, .int .i64 (cn : Int)], ?_, ?_⟩
     · simp [results, Tryz.f10, go_sem, c0, c1, c2]
     · unfold AsReadP
       rw [HO.out]
       exact ⟨.nil, [], rfl, rfl, fns_nil _ _, fun _ => rfl, HB.out⟩
 case stop =>
   rintro D c pre W hD hpre ⟨rfl, h0, b0, b1, b2, hB⟩ hK
   have HO : Hid (As.read x = (([], (As.after (raw pre)).1.2), (As.after (raw pre)).2)) := Lib.hid (by
     rw [HRd.out, As.after_stop hpre h0]
     exact if_pos h0)
   have hm : ∀ r, some D = some r → ∃ o, W.heap[r]? = some o ∧ o.isCells = false := fun r e => by cases e; exact ⟨_, hK, rfl⟩
   have g := grownBy_putObj' W D (.deferred none)
   have c0 := (b0.marked g hm).cell
   have c1 := (b1.marked g hm).cell
   have c2 := (b2.marked g hm).cell
   have HB := Lib.hid (hB.trans (belowK_b (w := w) (Nat.le_refl _) W D _ (.deferred none) (Nat.le_trans HW.out.below.size hD) hK rfl rfl))
   clear hpre h0 b0 b1 b2 hB hm g
   generalize (As.after (raw pre)).1.2 = n at *
   generalize (As.after (raw pre)).2 = er at *
   gi_wp2
   refine ⟨by simp, .inl ⟨_, _, rfl, run_takeDeferred hK, ?_⟩⟩
   refine ⟨.tuple #[.agg #[.slice none 0 0], .int .i64 (n : Int), .int .i64 (er : Int)], ?_, ?_⟩
   · simp [results, Tryz.f10, go_sem, c0, c1, c2]
   · unfold AsReadP
     rw [HO.out]
     exact ⟨.nil, [], rfl, rfl, fns_nil _ _, fun _ => rfl, HB.out⟩
end Go.Proofs.YtfopelegobhegaaGreatDoor
