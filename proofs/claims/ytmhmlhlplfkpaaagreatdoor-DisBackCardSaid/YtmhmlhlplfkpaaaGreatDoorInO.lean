/-
 What ops.named yields: each instruction, and its name. Conditions: each round keeps the iterators that there are.
-/
import Derived.Test.YtmhmlhlplfkpaaaGreatDoorInR
import Derived.Test.YtmhmlhlplfkpaaaGreatDoorInBB
import Derived.Test.YtmhmlhlplfkpaaaGreatDoorInN
set_option maxRecDepth 100000
namespace Go.Proofs.YtmhmlhlplfkpaaaGreatDoor
open Go.RowKit Go.Shelf
attribute [local go_sem] Oper.semAt_some
def encN (x : Nat × ByteArray) : Array Value := #[.int .i64 (x.1 : Int), .string x.2]
def NmRel (it : Nat) (J : List (Nat × ByteArray) → World → Prop) (o f : Value) (wr : World) : Prop :=
 ∃ (p : Nat) (x : Op.Scan), p ≤ 176 ∧ Op.scan Op.list 44 p = x ∧ o = .int .i64 (x.k : Int) ∧ f = .int .i64 (x.start : Int) ∧ J x.told wr ∧ wr.heap[it]? = some (.stringIter Op.list p)
theorem abides_iter {β : Type} {B : Nat} {J : β → World → Prop} (h : AbidesFrom B J) {s : β} {W : World} (hJ : J s W) {k : Nat} {t : ByteArray} {p : Nat} (hk : W.heap[k]? = some (.stringIter t p)) (hB : B ≤ k) (q : Nat) : J s (W.iterAt k t q) :=
 h s W (W.iterAt k t q) (some k) hJ ⟨rfl, rfl, rfl, by rw [Lib.iterAt_size]; exact Nat.le_refl _, fun i _ hi => Lib.iterAt_other W k i t q (fun e => hi (by rw [e]))⟩ (fun r e => by cases e; exact ⟨hB, _, hk, rfl⟩)
theorem abides_alloc {β : Type} {B : Nat} {J : β → World → Prop} (h : AbidesFrom B J) {s : β} {W : World} (hJ : J s W) (o : Obj) : J s (W.alloc o) :=
 h s W _ none hJ (World.grownBy_alloc W o none) (fun r e => by cases e)
set_option maxHeartbeats 4000000 in
theorem named_in (n : Nat) (hn : 1 ≤ n) (l : Nat) (J Jx : List (Nat × ByteArray) → World → Prop) (B : Nat) (hJ : AbidesFrom B J)
   (hY : ∀ pre x W, J pre W → pre.length < 35 → YieldAt Fence.wide (n - 1) Tryz.prog l (encN x) W fun e W' =>
     (e = .returned (.bool true) ∧ J (pre ++ [x]) W' ∧ KeepsWalks W W') ∨ (e = .returned (.bool false) ∧ Jx (pre ++ [x]) W'))
   (W : World) (hB : B ≤ W.heap.size) (h0 : J [] W) :
   CallsIn Fence.wide n Tryz.prog 117 #[.func (.yield l) #[] #[]] W fun e W' => (∃ v, e = .returned v) ∧
     ((∃ ys, ys = Op.all ∧ J ys W') ∨ (∃ pre, pre <+: Op.all ∧ Jx pre W')) := by
 have HY := Lib.hid hY
 have HJ := Lib.hid hJ
 have HB := Lib.hid hB
 clear hY hJ hB
 have hsz : Op.list.size = 176 := Op.list_size
 refine callsIn_of_wp Tryz.func117 rfl trivial ?_ rfl
 simp only [Tryz.ntmps117, List.size_toArray, List.length_cons, List.length_nil, Nat.reduceAdd, Nat.reduceSub, Array.replicate_succ, Array.replicate_zero, List.push_toArray, List.append_toArray, List.nil_append, List.cons_append]
 unfold Tryz.f117
 rw [Op.lit_list]
 gi_wp2
 gi_loopw [2, 3] (NmRel W.heap.size J) (fun _ _ wr => 176 - wr.iterPos W.heap.size)
 case atStart => exact ⟨0, _, by omega, rfl, rfl, rfl, abides_alloc HJ.out h0 _, World.iter_heap _ _ _⟩
 case round =>
   obtain ⟨p, x, hp, hx, rfl, rfl, hJr, hit⟩ := hrel
   obtain ⟨hs1, hs2, hs3, hs4⟩ := Op.scan_le Op.list 44 p
   have HPR := Lib.hid fun (q : Nat) (h : p ≤ q) => Op.scan_prefix Op.list 44 p q h
   have HHit := Lib.hid (Op.scan_hit (s := Op.list) (c := 44) (p := p))
   have HMiss := Lib.hid (Op.scan_miss (s := Op.list) (c := 44) (p := p))
   rw [hx] at hs1 hs2 hs3 hs4 HPR HHit HMiss
   have HX := Lib.hid hx
   have HS3 := Lib.hid hs3
   clear hx hs4 hs3
   obtain ⟨k, st, told⟩ := x
   dsimp only at hs1 hs2 HS3 HPR HHit HMiss hJr ⊢
   by_cases hlt : p < 176
   · have hnx := fun ty => Lib.run_next_ascii_at (P := Tryz.prog) wr W.heap.size Op.list p ty hit (by omega) (by rw [Op.byte_eq]; exact Op.list_ascii p hlt)
     have HI2 := Lib.hid (Lib.iterAt_heap wr W.heap.size Op.list p (p + 1) hit)
     have HJ2 := Lib.hid (abides_iter HJ.out hJr hit HB.out (p + 1))
     have HM : Hid (wr.iterPos W.heap.size = p) := Lib.hid (iterPos_of hit)
     generalize wr.iterAt W.heap.size Op.list (p + 1) = w2 at *
     clear hit hJr
     have hby := Op.byte_eq Op.list p (by omega)
     rw [hby] at hnx
     clear hby
     obtain ⟨c, hc⟩ : ∃ c, Op.byte Op.list p = c := ⟨_, rfl⟩
     rw [hc] at hnx HHit HMiss
     clear hc
     by_cases h44 : c = 44
     · subst h44
       have HN := Lib.hid (HHit.out rfl)
       clear HHit HMiss
       have HPre : Hid (told ++ [(k, Op.list.extract st p)] <+: Op.all) := Lib.hid (by
         have := Op.scan_prefix Op.list 44 (p + 1) 176 (by omega)
         rw [HN.out, Op.list_all] at this
         exact this)
       obtain ⟨fn, tmps, assign, body, hy, hR⟩ := HY.out told (k, Op.list.extract st p) w2 HJ2.out (by
         have h1 := HPre.out.length_le
         have h2 : Op.all.length = 35 := by kernel_rfl
         rw [List.length_append, h2] at h1
         simp at h1
         omega)
       dsimp only [encN] at hy
       have hpi : (p : Int) ≤ 176 := by omega
       have hsi : (st : Int) ≤ (p : Int) := by omega
       gi_wp2
       refine hR.mono ?_
       rintro e W3 (⟨rfl, hJ3, hk3⟩ | ⟨rfl, hJx3⟩)
       · have HI3 := Lib.hid (hk3.same _ _ HI2.out rfl)
         have HJ3 := Lib.hid hJ3
         clear hk3 hJ3
         gi_wp2
         go_roundw
         case rel => exact ⟨p + 1, _, by omega, HN.out, by go_num, by go_num, HJ3.out, HI3.out⟩
         case measure => rw [iterPos_of HI3.out, HM.out]; omega
       · gi_wp2
         refine bodyPost_ret (results_none rfl _ _ _) rfl ?_
         exact ⟨⟨_, rfl⟩, .inr ⟨_, HPre.out, hJx3⟩⟩
     · have hd : ((c : Int) != 44) = true := by rw [bne_iff_ne]; omega
       have HN := Lib.hid (HMiss.out h44)
       clear HHit HMiss
       gi_wp2
       go_roundw
       case rel => exact ⟨p + 1, _, by omega, HN.out, rfl, rfl, HJ2.out, HI2.out⟩
       case measure => rw [iterPos_of HI2.out, HM.out]; omega
   · obtain rfl : p = 176 := by omega
     have hnx := fun ty => Lib.run_next_end_at (P := Tryz.prog) wr W.heap.size Op.list 176 ty hit (by omega)
     have HE : Hid (told = Op.all) := Lib.hid (by have := Op.list_all; rw [HX.out] at this; exact this)
     gi_wp2
     go_end0
     exact ⟨⟨_, rfl⟩, .inl ⟨told, HE.out, hJr⟩⟩
theorem named_stops (n : Nat) (hn : 1 ≤ n) (w : World) :
   SeqStopsK Fence.wide n Tryz.prog 117 #[] encN KeepsWalks (fun ys => ys = Op.all) (fun pre => pre <+: Op.all) 35 w :=
 fun l J Jx W _ hJ _ hY h0 => named_in n hn l J Jx W.heap.size hJ hY W (Nat.le_refl _) h0
end Go.Proofs.YtmhmlhlplfkpaaaGreatDoor
namespace Go.Proofs.YtmhmlhlplfkpaaaGreatDoor
open Go.RowKit Go.Shelf
attribute [local go_sem] Oper.semAt_some
theorem op_new_cell (W : World) (v : Value) (t : TypeId) : (W.alloc (.cells #[v] t)).cell? ⟨W.heap.size, 0, none⟩ = some v ∧ (W.alloc (.cells #[v] t)).frozen? ⟨W.heap.size, 0, none⟩ = false := by
 have h : (W.alloc (.cells #[v] t)).heap[W.heap.size]? = some (.cells #[v] t (0, 0)) := heap_alloc_new W _
 refine ⟨cell_of_row _ _ 0 _ _ _ h, ?_⟩
 simp only [World.frozen?, h]
 rfl
theorem op_more_cell {W : World} {a : Addr} {v : Value} (o : Obj) (h : W.cell? a = some v ∧ W.frozen? a = false) : (W.alloc o).cell? a = some v ∧ (W.alloc o).frozen? a = false :=
 ⟨cell_kept h.1 (World.grownBy_alloc W o none) (fun r e => by cases e), (frozen_kept h.1 (World.grownBy_alloc W o none) (fun r e => by cases e)).trans h.2⟩
theorem snoc_all {α : Type} {p : α → Prop} {pre : List α} {x : α} (h : ∀ y ∈ pre, p y) (hx : p x) : ∀ y ∈ pre ++ [x], p y := by
 intro y hy
 rcases List.mem_append.1 hy with hy | hy
 · exact h y hy
 · rw [List.mem_singleton] at hy
   subst hy
   exact hx
theorem snoc_has {α : Type} (pre : List α) (x : α) : x ∈ pre ++ [x] := List.mem_append.2 (.inr (by simp))
theorem name_none {op : Int} (h : ∀ y ∈ Op.all, (y.1 : Int) ≠ op) : Op.name op = ⟨#[]⟩ := by
 apply Op.name_out
 intro hr
 obtain ⟨k, rfl⟩ : ∃ k : Nat, op = (k : Int) := ⟨op.toNat, by omega⟩
 exact h _ (Op.all_has (by omega)) rfl
set_option maxHeartbeats 4000000 in
theorem name_any (op : Int) (w : World) :
   Calls Tryz.prog 97 #[.int .i64 op] w fun e w' => e = .returned (.string (Op.name op)) ∧ Below w.heap.size w w' := by
 refine (callsIn_wide (n := 5)).1 ?_
 refine callsIn_of_wp_marks Tryz.func97 rfl trivial ?_ rfl
 simp only [Tryz.ntmps97, List.size_toArray, List.length_cons, List.length_nil, Nat.reduceAdd, Nat.reduceSub, Array.replicate_succ, Array.replicate_zero, List.push_toArray, List.append_toArray, List.nil_append, List.cons_append]
 gi_wp2
 have hB0 : Below w.heap.size w ((w.alloc (.cells #[.int .i64 op] 46)).alloc (.cells #[.string ⟨#[]⟩] 9)) :=
   ((Below.refl _ w).alloc (Nat.le_refl _) _).alloc (by simp) _
 have hN := op_new_cell w (.int .i64 op) 46
 have hR := op_new_cell (w.alloc (.cells #[.int .i64 op] 46)) (.string ⟨#[]⟩) 9
 simp only [World.size_alloc] at hN hR
 refine wpIn_rangeFunc_ownF rfl (by omega) (gf := 117) (lb := #[]) rfl trivial (enters_of Tryz.func117 (by kernel_rfl) rfl)
   (named_stops _ (by omega) _) walksK_t walksK_b (Below.refl _ _) (fun _ => rfl)
   (fun pre W => ((∀ y ∈ pre, (y.1 : Int) ≠ op) ∧ W.cell? ⟨w.heap.size, 0, none⟩ = some (.int .i64 op) ∧ W.cell? ⟨w.heap.size + 1, 0, none⟩ = some (.string ⟨#[]⟩) ∧ W.frozen? ⟨w.heap.size + 1, 0, none⟩ = false) ∧ Below w.heap.size w W)
   (fun c pre W => (c = .ret ∧ ∃ y ∈ pre, (y.1 : Int) = op ∧ W.cell? ⟨w.heap.size + 1, 0, none⟩ = some (.string y.2)) ∧ Below w.heap.size w W)
   (OwnFrom.and (Own.from (fun s A B row hs hg hr => ⟨hs.1, cell_kept hs.2.1 hg hr, cell_kept hs.2.2.1 hg hr, (frozen_kept hs.2.2.1 hg hr).trans hs.2.2.2⟩) _) (ownFrom_below (Nat.le_refl _) (by simp; omega)))
   (fun c => OwnFrom.and (Own.from (fun s A B row hs hg hr => ⟨hs.1, hs.2.elim fun y h => ⟨y, h.1, h.2.1, cell_kept h.2.2 hg hr⟩⟩) _) (ownFrom_below (Nat.le_refl _) (by simp; omega)))
   ⟨⟨by simp, (op_more_cell _ hN).1, hR.1, hR.2⟩, hB0⟩
   (fun x => { tmps := #[.int .i64 op, .pointer (some ⟨w.heap.size, 0, none⟩), .pointer (some ⟨w.heap.size + 1, 0, none⟩), .int .i64 (x.1 : Int), .string x.2, .int .i64 (x.1 : Int), .string x.2, undef, undef, undef, undef], defers := [] }) ?assign ?body ?done ?stop
 case assign =>
   intro l x W K hK
   simp only [encN]
   gi_wp2
   exact hK
 case body =>
   rintro l pre x W ⟨⟨hp, hcw, hcr, hfr⟩, hB⟩ _
   by_cases he : (x.1 : Int) = op
   · have hd : ((x.1 : Int) == op) = true := by rw [beq_iff_eq]; exact he
     have HE := Lib.hid he
     clear he
     gi_wp2
     exact ⟨KeepsOthers.setCell _ _ _, ⟨rfl, x, snoc_has _ _, HE.out, World.cell?_setCell_same' _ _ _ (by rw [hcr]; rfl)⟩, hB.setCell (p := ⟨w.heap.size + 1, 0, none⟩) (by simp) _⟩
   · have hd : ((x.1 : Int) == op) = false := beq_eq_false_iff_ne.2 he
     have HE := Lib.hid he
     clear he
     gi_wp2
     exact ⟨KeepsOthers.refl _, KeepsWalks.refl _, ⟨snoc_all hp HE.out, hcw, hcr, hfr⟩, hB⟩
 case done =>
   rintro D ys W hD rfl ⟨⟨hne, _, hcr, hfr⟩, hB⟩ hK
   have HN := Lib.hid (name_none hne)
   clear hne
   gi_wp2
   have hK' := (KeepsOthers.setCell W ⟨w.heap.size + 1, 0, none⟩ (.string ⟨#[]⟩)).same D _ hK rfl
   refine ⟨by simp, .inl ⟨_, _, rfl, run_takeDeferred hK', ?_⟩⟩
   have hc5 := cell_kept (World.cell?_setCell_same' W ⟨w.heap.size + 1, 0, none⟩ (.string ⟨#[]⟩) (by rw [hcr]; rfl)) (grownBy_putObj' _ D (.deferred none)) (fun r e => by cases e; exact ⟨_, hK', rfl⟩)
   refine ⟨.string ⟨#[]⟩, ?_, by rw [HN.out], (hB.setCell (p := ⟨w.heap.size + 1, 0, none⟩) (by simp) _).trans (belowK_b (w := w) (Nat.le_refl _) _ D _ _ (by simp at hD; omega) hK' rfl rfl)⟩
   simp [results, Tryz.f97, go_sem, hc5]
 case stop =>
   rintro D c pre W hD hpre ⟨⟨rfl, y, hy, hyo, hcr⟩, hB⟩ hK
   have HN := Lib.hid (Op.name_of (hpre.subset hy))
   rw [hyo] at HN
   clear hyo
   gi_wp2
   refine ⟨by simp, .inl ⟨_, _, rfl, run_takeDeferred hK, ?_⟩⟩
   have hc5 := cell_kept hcr (grownBy_putObj' _ D (.deferred none)) (fun r e => by cases e; exact ⟨_, hK, rfl⟩)
   refine ⟨.string y.2, ?_, by rw [HN.out], hB.trans (belowK_b (w := w) (Nat.le_refl _) W D _ _ (by simp at hD; omega) hK rfl rfl)⟩
   simp [results, Tryz.f97, go_sem, hc5]
theorem cell_past {W : World} {a b : Addr} {v u : Value} (h : W.cell? a = some v) (hne : a.block ≠ b.block) : (W.setCell b u).cell? a = some v := by
 rw [World.cell?_setCell_other _ _ _ _ (fun e => hne (by rw [e]))]
 exact h
set_option maxHeartbeats 4000000 in
theorem opfind_any (name : ByteArray) (w : World) :
   Calls Tryz.prog 154 #[.string name] w fun e w' => e = .returned (.tuple #[.int .i64 (Op.find name).1, .bool (Op.find name).2]) ∧ Below w.heap.size w w' := by
 refine (callsIn_wide (n := 5)).1 ?_
 refine callsIn_of_wp_marks Tryz.func154 rfl trivial ?_ rfl
 simp only [Tryz.ntmps154, List.size_toArray, List.length_cons, List.length_nil, Nat.reduceAdd, Nat.reduceSub, Array.replicate_succ, Array.replicate_zero, List.push_toArray, List.append_toArray, List.nil_append, List.cons_append]
 gi_wp2
 have hB0 : Below w.heap.size w (((w.alloc (.cells #[.string name] 9)).alloc (.cells #[.int .i64 0] 46)).alloc (.cells #[.bool false] 4)) :=
   (((Below.refl _ w).alloc (Nat.le_refl _) _).alloc (by simp) _).alloc (by simp; omega) _
 have hN := op_new_cell w (.string name) 9
 have hR := op_new_cell (w.alloc (.cells #[.string name] 9)) (.int .i64 0) 46
 have hS := op_new_cell ((w.alloc (.cells #[.string name] 9)).alloc (.cells #[.int .i64 0] 46)) (.bool false) 4
 simp only [World.size_alloc] at hN hR hS
 refine wpIn_rangeFunc_ownF rfl (by omega) (gf := 117) (lb := #[]) rfl trivial (enters_of Tryz.func117 (by kernel_rfl) rfl)
   (named_stops _ (by omega) _) walksK_t walksK_b (Below.refl _ _) (fun _ => rfl)
   (fun pre W => ((∀ y ∈ pre, y.2 ≠ name) ∧ W.cell? ⟨w.heap.size, 0, none⟩ = some (.string name) ∧ (W.cell? ⟨w.heap.size + 1, 0, none⟩ = some (.int .i64 0) ∧ W.frozen? ⟨w.heap.size + 1, 0, none⟩ = false) ∧ (W.cell? ⟨w.heap.size + 1 + 1, 0, none⟩ = some (.bool false) ∧ W.frozen? ⟨w.heap.size + 1 + 1, 0, none⟩ = false)) ∧ Below w.heap.size w W)
   (fun c pre W => (c = .ret ∧ ∃ y ∈ pre, y.2 = name ∧ W.cell? ⟨w.heap.size + 1, 0, none⟩ = some (.int .i64 (y.1 : Int)) ∧ W.cell? ⟨w.heap.size + 1 + 1, 0, none⟩ = some (.bool true)) ∧ Below w.heap.size w W)
   (OwnFrom.and (Own.from (fun s A B row hs hg hr => ⟨hs.1, cell_kept hs.2.1 hg hr, ⟨cell_kept hs.2.2.1.1 hg hr, (frozen_kept hs.2.2.1.1 hg hr).trans hs.2.2.1.2⟩, cell_kept hs.2.2.2.1 hg hr, (frozen_kept hs.2.2.2.1 hg hr).trans hs.2.2.2.2⟩) _) (ownFrom_below (Nat.le_refl _) (by simp; omega)))
   (fun c => OwnFrom.and (Own.from (fun s A B row hs hg hr => ⟨hs.1, hs.2.elim fun y h => ⟨y, h.1, h.2.1, cell_kept h.2.2.1 hg hr, cell_kept h.2.2.2 hg hr⟩⟩) _) (ownFrom_below (Nat.le_refl _) (by simp; omega)))
   ⟨⟨by simp, (op_more_cell _ (op_more_cell _ hN)).1, op_more_cell _ hR, hS⟩, hB0⟩
   (fun x => { tmps := #[.string name, .pointer (some ⟨w.heap.size, 0, none⟩), .pointer (some ⟨w.heap.size + 1, 0, none⟩), .pointer (some ⟨w.heap.size + 1 + 1, 0, none⟩), .int .i64 (x.1 : Int), .string x.2, .int .i64 (x.1 : Int), .string x.2, undef, undef, undef, undef], defers := [] }) ?assign ?body ?done ?stop
 case assign =>
   intro l x W K hK
   simp only [encN]
   gi_wp2
   exact hK
 case body =>
   rintro l pre x W ⟨⟨hp, hcw, ⟨hcr, hfr⟩, hcs, hfs⟩, hB⟩ _
   by_cases he : x.2 = name
   · have hd : (x.2.toList == name.toList) = true := by rw [he]; exact beq_self_eq_true _
     have HE := Lib.hid he
     clear he
     gi_wp2
     exact ⟨(KeepsOthers.setCell _ _ _).trans (KeepsOthers.setCell _ _ _), ⟨rfl, x, snoc_has _ _, HE.out, cell_past (World.cell?_setCell_same' _ _ _ (by rw [hcr]; rfl)) (by simp), World.cell?_setCell_same' _ _ _ (by rw [cell_past hcs (by simp)]; rfl)⟩, (hB.setCell (p := ⟨w.heap.size + 1, 0, none⟩) (by simp) _).setCell (p := ⟨w.heap.size + 1 + 1, 0, none⟩) (by simp; omega) _⟩
   · have hd : (x.2.toList == name.toList) = false := (Lib.bytes_beq_false_iff _ _).2 he
     have HE := Lib.hid he
     clear he
     gi_wp2
     exact ⟨KeepsOthers.refl _, KeepsWalks.refl _, ⟨snoc_all hp HE.out, hcw, ⟨hcr, hfr⟩, hcs, hfs⟩, hB⟩
 case done =>
   rintro D ys W hD rfl ⟨⟨hne, _, ⟨hcr, hfr⟩, hcs, hfs⟩, hB⟩ hK
   have HN := Lib.hid (Op.find_none hne)
   clear hne
   gi_wp2
   have hK' := ((KeepsOthers.setCell W ⟨w.heap.size + 1, 0, none⟩ (.int .i64 0)).trans (KeepsOthers.setCell _ ⟨w.heap.size + 1 + 1, 0, none⟩ (.bool false))).same D _ hK rfl
   refine ⟨by simp, .inl ⟨_, _, rfl, run_takeDeferred hK', ?_⟩⟩
   have hc5 := cell_kept (cell_past (b := ⟨w.heap.size + 1 + 1, 0, none⟩) (u := .bool false) (World.cell?_setCell_same' W ⟨w.heap.size + 1, 0, none⟩ (.int .i64 0) (by rw [hcr]; rfl)) (by simp)) (grownBy_putObj' _ D (.deferred none)) (fun r e => by cases e; exact ⟨_, hK', rfl⟩)
   have hc6 := cell_kept (World.cell?_setCell_same' (W.setCell ⟨w.heap.size + 1, 0, none⟩ (.int .i64 0)) ⟨w.heap.size + 1 + 1, 0, none⟩ (.bool false) (by rw [cell_past hcs (by simp)]; rfl)) (grownBy_putObj' _ D (.deferred none)) (fun r e => by cases e; exact ⟨_, hK', rfl⟩)
   refine ⟨.tuple #[.int .i64 0, .bool false], ?_, by rw [HN.out], ((hB.setCell (p := ⟨w.heap.size + 1, 0, none⟩) (by simp) _).setCell (p := ⟨w.heap.size + 1 + 1, 0, none⟩) (by simp; omega) _).trans (belowK_b (w := w) (Nat.le_refl _) _ D _ _ (by simp at hD; omega) hK' rfl rfl)⟩
   simp [results, Tryz.f154, go_sem, hc5, hc6]
 case stop =>
   rintro D c pre W hD hpre ⟨⟨rfl, y, hy, hyo, hcr, hcs⟩, hB⟩ hK
   have HN := Lib.hid (Op.find_of (hpre.subset hy))
   rw [hyo] at HN
   clear hyo
   gi_wp2
   refine ⟨by simp, .inl ⟨_, _, rfl, run_takeDeferred hK, ?_⟩⟩
   have hc5 := cell_kept hcr (grownBy_putObj' _ D (.deferred none)) (fun r e => by cases e; exact ⟨_, hK, rfl⟩)
   have hc6 := cell_kept hcs (grownBy_putObj' _ D (.deferred none)) (fun r e => by cases e; exact ⟨_, hK, rfl⟩)
   refine ⟨.tuple #[.int .i64 (y.1 : Int), .bool true], ?_, by rw [HN.out], hB.trans (belowK_b (w := w) (Nat.le_refl _) W D _ _ (by simp at hD; omega) hK rfl rfl)⟩
   simp [results, Tryz.f154, go_sem, hc5, hc6]
end Go.Proofs.YtmhmlhlplfkpaaaGreatDoor
namespace Go.Proofs.YtmhmlhlplfkpaaaGreatDoor
open Go.RowKit
def WdRel (op : Int) (w : World) (f k i : Value) (wr : World) : Prop :=
 ∃ (p : Nat) (x : Op.Scan), p ≤ 176 ∧ Op.scan Op.words 32 p = x ∧ f = .int .i64 (x.start : Int) ∧ k = .int .i64 (x.k : Int) ∧ i = .int .i64 (p : Int) ∧ (x.k : Int) ≤ op ∧ wr = w
theorem rname_low (op : Int) (h : op < 0) (w : World) : Calls Tryz.prog 69 #[.int .i64 op] w fun e w' => e = .returned (.string ⟨#[]⟩) ∧ w' = w := by
 have d0 : decide (op < 0) = true := decide_eq_true h
 go_enter Tryz.func69, Tryz.ntmps69
 go_wp2
 go_ret
 exact ⟨rfl, rfl⟩
theorem rname_high (op : Int) (h : 35 ≤ op) (w : World) : Calls Tryz.prog 69 #[.int .i64 op] w fun e w' => e = .returned (.string ⟨#[]⟩) ∧ w' = w := by
 have d0 : decide (op < 0) = false := decide_eq_false (by omega)
 have d1 : decide (35 ≤ op) = true := decide_eq_true h
 go_enter Tryz.func69, Tryz.ntmps69
 go_wp2
 go_ret
 exact ⟨rfl, rfl⟩
set_option maxHeartbeats 4000000 in
theorem rname_in (op : Int) (h0 : 0 ≤ op) (h1 : op < 35) (w : World) : Calls Tryz.prog 69 #[.int .i64 op] w fun e w' => e = .returned (.string (Op.name op)) ∧ w' = w := by
 have d0 : decide (op < 0) = false := decide_eq_false (by omega)
 have d1 : decide (35 ≤ op) = false := decide_eq_false (by omega)
 have hsz : Op.words.size = 176 := Op.words_size
 go_enter Tryz.func69, Tryz.ntmps69
 rw [Op.lit_words]
 go_wp2
 go_loopw [3, 4, 5] (WdRel op w) (fun _ _ i _ => 176 - (intOf i).toNat)
 case atStart => exact ⟨0, _, by omega, rfl, rfl, rfl, rfl, by simpa [Op.scan] using h0, rfl⟩
 case round =>
   obtain ⟨p, x, hp, hx, rfl, rfl, rfl, hk, rfl⟩ := hrel
   obtain ⟨hs1, hs2, hs3, hs4⟩ := Op.scan_le Op.words 32 p
   have HHit := Lib.hid (Op.scan_hit (s := Op.words) (c := 32) (p := p))
   have HMiss := Lib.hid (Op.scan_miss (s := Op.words) (c := 32) (p := p))
   rw [hx] at hs1 hs2 hs3 hs4 HHit HMiss
   have HX := Lib.hid hx
   have HS3 := Lib.hid hs3
   clear hx hs4 hs3
   obtain ⟨k, st, told⟩ := x
   dsimp only at hs1 hs2 HS3 HHit HMiss hk ⊢
   by_cases hlt : p < 176
   · have hpi : (p : Int) < 176 := by omega
     have hby := Op.byte_eq Op.words p (by omega)
     rw [← hby] at HHit HMiss
     clear hby
     by_cases h32 : (Op.words[p]'(by omega)).toNat = 32
     · have HN := Lib.hid (HHit.out h32)
       have hd : (((Op.words[p]'(by omega)).toNat : Int) != 32) = false := by rw [h32]; rfl
       clear HHit HMiss h32
       have HPre : Hid (told ++ [(k, Op.words.extract st p)] <+: Op.all) := Lib.hid (by
         have := Op.scan_prefix Op.words 32 (p + 1) 176 (by omega)
         rw [HN.out, Op.words_all] at this
         exact this)
       have hsi : (st : Int) ≤ (p : Int) := by omega
       by_cases he : (k : Int) = op
       · have hd2 : ((k : Int) == op) = true := by rw [beq_iff_eq]; exact he
         have HE : Hid (Op.name op = Op.words.extract st p) := Lib.hid (by
           have := Op.name_of (HPre.out.subset (List.mem_append.2 (.inr (List.mem_singleton.2 rfl))))
           rw [← he]
           exact this)
         clear he
         go_wp2
         go_ret
         exact ⟨by rw [HE.out]; rfl, rfl⟩
       · have hd2 : ((k : Int) == op) = false := beq_eq_false_iff_ne.2 he
         have hk2 : (k : Int) + 1 ≤ op := by omega
         clear he
         go_wp2
         go_roundw
         case rel => exact ⟨p + 1, _, by omega, HN.out, by go_num, by go_num, by go_num, by simpa using hk2, rfl⟩
         case measure => simp [intOf]; omega
     · have hd : (((Op.words[p]'(by omega)).toNat : Int) != 32) = true := by rw [bne_iff_ne]; omega
       have HN := Lib.hid (HMiss.out h32)
       clear HHit HMiss h32
       go_wp2
       go_roundw
       case rel => exact ⟨p + 1, _, by omega, HN.out, rfl, rfl, by go_num, hk, rfl⟩
       case measure => simp [intOf]; omega
   · obtain rfl : p = 176 := by omega
     have he : told = Op.all := by have := Op.words_all; rw [HX.out] at this; exact this
     have h2 : Op.all.length = 35 := by kernel_rfl
     have := HS3.out
     rw [he, h2] at this
     omega
theorem rname_any (op : Int) (w : World) : Calls Tryz.prog 69 #[.int .i64 op] w fun e w' => e = .returned (.string (Op.name op)) ∧ w' = w := by
 by_cases h0 : op < 0
 · rw [Op.name_out (by omega)]; exact rname_low op h0 w
 by_cases h1 : 35 ≤ op
 · rw [Op.name_out (by omega)]; exact rname_high op h1 w
 exact rname_in op (by omega) (by omega) w
end Go.Proofs.YtmhmlhlplfkpaaaGreatDoor
namespace Go.Proofs.YtmhmlhlplfkpaaaGreatDoor
open Go.RowKit
theorem name_size (op : Int) : (Op.name op).size ≤ 21 := by
 unfold Op.name
 split
 · have h : Op.names.all (fun x => decide (x.size ≤ 21)) = true := by kernel_rfl
   rcases Nat.lt_or_ge op.toNat Op.names.length with hl | hl
   · rw [List.getD_eq_getElem?_getD, List.getElem?_eq_getElem hl]
     exact of_decide_eq_true (List.all_eq_true.1 h _ (List.getElem_mem hl))
   · rw [List.getD_eq_getElem?_getD, List.getElem?_eq_none hl]
     exact Nat.zero_le _
 · exact Nat.zero_le _
def TxG (p : Nat) (op a0 : Int) (nm dg : ByteArray) (_ : Unit) : Nat → Value → Prop
 | 0, v => v = .pointer (some ⟨p, 0, none⟩)
 | 1, v => v = .int .i64 op
 | 2, v => v = .string nm
 | 3, v => v = .string (nm ++ ByteArray.mk #[32])
 | 4, v => v = .pointer (some ⟨p, 1, none⟩)
 | 5, v => v = .int .i64 a0
 | 6, v => v = .string dg
 | 7, v => v = .string (nm ++ ByteArray.mk #[32] ++ dg)
 | 8, v => v = .string (nm ++ ByteArray.mk #[32] ++ dg)
 | _, _ => True
set_option maxHeartbeats 1000000 in
theorem intext_pow (op a0 : Int) (h0 : -9223372036854775808 ≤ a0) (h1 : a0 ≤ 9223372036854775807) (w : World) (hg : Pow w) : Calls Tryz.prog 68 #[.agg #[.int .i64 op, .int .i64 a0]] w (StrP (In.text op a0) w) := by
 have HRt := inright_any op a0
 have HGl := Lib.hid hg
 have HNm := Lib.hid (name_any op)
 have HDg := Lib.hid (fun W hW => indigits_pow a0 h0 h1 W hW)
 have HNb := numbered_any op
 have hs1 := name_size op
 have hs2 := txt_size a0 h0 h1
 clear hg h0 h1
 unfold In.text
 cases hr : In.right op a0 with
 | false =>
   rw [hr] at HRt
   rw [if_neg (by decide)]
   clear hr
   go_enter Tryz.func68, Tryz.ntmps68
   go_wp2_with (go_at_call 95; refine (HRt _).mono ?_; rintro _ w1 ⟨rfl, b1⟩)
   go_ret
   exact ⟨rfl, below_self ((Below.refl _ _).alloc (Nat.le_refl _) _) b1⟩
 | true =>
   rw [hr] at HRt
   rw [if_pos rfl]
   clear hr
   cases hn : In.numbered op with
   | false =>
     rw [hn] at HNb
     rw [if_neg (by decide)]
     clear hn
     generalize Op.name op = nm at *
     go_enter Tryz.func68, Tryz.ntmps68
     go_wp2_with (first
       | (go_at_call 95; refine (HRt _).mono ?_; rintro _ w1 ⟨rfl, b1⟩; obtain ⟨q0, q1, hl1, B1⟩ := box_kept b1; clear b1)
       | (go_at_call 96; refine (HNb _).mono ?_; rintro _ w2 ⟨rfl, b2⟩; obtain ⟨r0, r1, hl2⟩ := box_on q0 q1 hl1 b2)
       | (go_at_call 97; refine (HNm.out _).mono ?_; rintro _ w3 ⟨rfl, b3⟩))
     go_ret
     exact ⟨rfl, below_self (below_self B1 b2) b3⟩
   | true =>
     rw [hn] at HNb
     rw [if_pos rfl]
     clear hn
     generalize Op.name op = nm at *
     generalize In.txt a0 = dg at *
     go_enter Tryz.func68, Tryz.ntmps68
     go_wp2_with (first
       | (go_at_call 95; refine (HRt _).mono ?_; rintro _ w1 ⟨rfl, b1⟩; obtain ⟨q0, q1, hl1, B1⟩ := box_kept b1; clear b1)
       | (go_at_call 96; refine (HNb _).mono ?_; rintro _ w3 ⟨rfl, b2⟩; obtain ⟨r0, r1, hl2⟩ := box_on q0 q1 hl1 b2))
     have HB := Lib.hid (below_self B1 b2)
     have HG3 := Lib.hid (HGl.out.below HB.out)
     clear q0 q1 hl1 B1 b2 HRt HNb
     have q0 := r0
     have q1 := r1
     have hlp := hl2
     clear r0 r1 hl2
     generalize hp : w.heap.size = p at *
     refine region_k () 22 (fun _ _ W => Below w3.heap.size w3 W) (TxG p op a0 nm dg) (by kernel_rfl) (by kernel_rfl) (by kernel_rfl) rfl rfl (Below.refl _ _).drew ?_ ?_
     · refine ⟨?_, ?_, ?_, ?_, ?_, ?_, ?_, ?_, ?_, trivial⟩
       · intro x D a w hI hdep hD0 K hK
         have e1 : a.eval (.tmp 1) = .pointer (some ⟨p, 0, none⟩) := hI.read 1 rfl
         refine ok_value (wanted_none rfl) (v := .pointer (some ⟨p, 0, none⟩)) ?_ (hK x _ _ (hI.world) (fun _ _ _ h => h) rfl)
         obtain ⟨ec, ef⟩ := ecs a; clear hI hdep hK; generalize a.eval = ρ at e1 ec ef ⊢; go_simp
       · intro x D a w hI hdep hD0 K hK
         have e11 : a.eval (.tmp 11) = .pointer (some ⟨p, 0, none⟩) := hI.good 0 11 (dep_of hdep 0 rfl) rfl
         have x0 := (hI.world.cell (p := ⟨p, 0, none⟩) hlp).trans q0
         refine ok_value (wanted_none rfl) (v := .int .i64 op) ?_ (hK x _ _ (hI.world) (fun _ _ _ h => h) rfl)
         obtain ⟨ec, ef⟩ := ecs a; clear hI hdep hK; generalize a.eval = ρ at e11 ec ef ⊢; go_simp
       · intro x D a w hI hdep hD0 K hK
         have e12 : a.eval (.tmp 12) = .int .i64 op := hI.good 1 12 (dep_of hdep 1 rfl) rfl
         refine ok_call (wanted_none rfl) (f := 97) (args := #[.int .i64 op]) ?_ (HNm.out w) ?_
         · obtain ⟨ec, ef⟩ := ecs a; clear hI hdep hK; generalize a.eval = ρ at e12 ec ef ⊢; go_simp
         · rintro e w2 ⟨rfl, hb2⟩
           exact ⟨_, rfl, hK x _ _ (hI.world.trans (hb2.mono hI.world.size)) (fun _ _ _ h => h) rfl⟩
       · intro x D a w hI hdep hD0 K hK
         have e13 : a.eval (.tmp 13) = .string nm := hI.good 2 13 (dep_of hdep 2 rfl) rfl
         refine ok_value (wanted_none rfl) (v := .string (nm ++ ByteArray.mk #[32])) ?_ (hK x _ _ (hI.world) (fun _ _ _ h => h) rfl)
         obtain ⟨ec, ef⟩ := ecs a; clear hI hdep hK; generalize a.eval = ρ at e13 ec ef ⊢; go_simp
         omega
       · intro x D a w hI hdep hD0 K hK
         have e1 : a.eval (.tmp 1) = .pointer (some ⟨p, 0, none⟩) := hI.read 1 rfl
         refine ok_value (wanted_none rfl) (v := .pointer (some ⟨p, 1, none⟩)) ?_ (hK x _ _ (hI.world) (fun _ _ _ h => h) rfl)
         obtain ⟨ec, ef⟩ := ecs a; clear hI hdep hK; generalize a.eval = ρ at e1 ec ef ⊢; go_simp
       · intro x D a w hI hdep hD0 K hK
         have e15 : a.eval (.tmp 15) = .pointer (some ⟨p, 1, none⟩) := hI.good 4 15 (dep_of hdep 4 rfl) rfl
         have x0 := (hI.world.cell (p := ⟨p, 1, none⟩) hlp).trans q1
         refine ok_value (wanted_none rfl) (v := .int .i64 a0) ?_ (hK x _ _ (hI.world) (fun _ _ _ h => h) rfl)
         obtain ⟨ec, ef⟩ := ecs a; clear hI hdep hK; generalize a.eval = ρ at e15 ec ef ⊢; go_simp
       · intro x D a w hI hdep hD0 K hK
         have e16 : a.eval (.tmp 16) = .int .i64 a0 := hI.good 5 16 (dep_of hdep 5 rfl) rfl
         refine ok_call (wanted_none rfl) (f := 57) (args := #[.int .i64 a0]) ?_ (HDg.out w (HG3.out.below hI.world)) ?_
         · obtain ⟨ec, ef⟩ := ecs a; clear hI hdep hK; generalize a.eval = ρ at e16 ec ef ⊢; go_simp
         · rintro e w2 ⟨rfl, hb2⟩
           exact ⟨_, rfl, hK x _ _ (hI.world.trans (hb2.mono hI.world.size)) (fun _ _ _ h => h) rfl⟩
       · intro x D a w hI hdep hD0 K hK
         have e14 : a.eval (.tmp 14) = .string (nm ++ ByteArray.mk #[32]) := hI.good 3 14 (dep_of hdep 3 rfl) rfl
         have e17 : a.eval (.tmp 17) = .string dg := hI.good 6 17 (dep_of hdep 6 rfl) rfl
         have hz1 : (nm ++ ByteArray.mk #[32]).size ≤ 22 := by rw [ByteArray.size_append]; exact Nat.add_le_add hs1 (Nat.le_refl 1)
         refine ok_value (wanted_none rfl) (v := .string (nm ++ ByteArray.mk #[32] ++ dg)) ?_ (hK x _ _ (hI.world) (fun _ _ _ h => h) rfl)
         generalize nm ++ ByteArray.mk #[32] = nb at e14 hz1 ⊢
         obtain ⟨ec, ef⟩ := ecs a; clear hI hdep hK; generalize a.eval = ρ at e14 e17 ec ef ⊢; go_simp
         omega
       · intro x D a w hI hdep hD0 K hK
         have e18 : a.eval (.tmp 18) = .string (nm ++ ByteArray.mk #[32] ++ dg) := hI.good 7 18 (dep_of hdep 7 rfl) rfl
         refine ok_value (wanted_none rfl) (v := .string (nm ++ ByteArray.mk #[32] ++ dg)) ?_ (hK x _ _ (hI.world) (fun _ _ _ h => h) rfl)
         obtain ⟨ec, ef⟩ := ecs a; clear hI hdep hK; generalize a.eval = ρ at e18 ec ef ⊢; go_simp
     · intro x D a w hI hD
       have hfr := hI.frame [(11, .pointer (some ⟨p, 0, none⟩)), (12, .int .i64 op), (13, .string nm), (14, .string (nm ++ ByteArray.mk #[32])), (15, .pointer (some ⟨p, 1, none⟩)), (16, .int .i64 a0), (17, .string dg), (18, .string (nm ++ ByteArray.mk #[32] ++ dg)), (2, .string (nm ++ ByteArray.mk #[32] ++ dg))] (all_cons (hI.good 0 11 (hD 0 (by decide)) rfl) (all_cons (hI.good 1 12 (hD 1 (by decide)) rfl) (all_cons (hI.good 2 13 (hD 2 (by decide)) rfl) (all_cons (hI.good 3 14 (hD 3 (by decide)) rfl) (all_cons (hI.good 4 15 (hD 4 (by decide)) rfl) (all_cons (hI.good 5 16 (hD 5 (by decide)) rfl) (all_cons (hI.good 6 17 (hD 6 (by decide)) rfl) (all_cons (hI.good 7 18 (hD 7 (by decide)) rfl) (all_cons (hI.good 8 2 (hD 8 (by decide)) rfl) all_nil))))))))) rfl
       have hW := hI.world
       clear hI
       subst hfr
       simp only [List.foldl_cons, List.foldl_nil, List.setIfInBounds_toArray, List.set_cons_succ, List.set_cons_zero]
       have HB2 := Lib.hid (HB.out.trans (hW.mono (Nat.le_of_lt hlp)))
       clear hW hD q0 q1
       go_wp2
       go_ret
       exact ⟨rfl, by rw [hp]; exact HB2.out⟩
set_option maxHeartbeats 1000000 in
theorem rintext_any (op a0 : Int) (h0 : -9223372036854775808 ≤ a0) (h1 : a0 ≤ 9223372036854775807) (w : World) : Calls Tryz.prog 41 #[.agg #[.int .i64 op, .int .i64 a0]] w (StrP (In.text op a0) w) := by
 have HRt := rinright_any op a0
 have HNm := rname_any op
 have HDg := fun W => rdigits_any a0 h0 h1 W
 have HOp := roperand_any op
 have hk := In.kind_in op
 have hs1 := name_size op
 have hs2 := txt_size a0 h0 h1
 clear h0 h1
 unfold In.text
 cases hr : In.right op a0 with
 | false =>
   rw [hr] at HRt
   rw [if_neg (by decide)]
   clear hr
   go_enter Tryz.func41, Tryz.ntmps41
   go_wp2_with (go_at_call 22; refine (HRt _).mono ?_; rintro _ w1 ⟨rfl, b1⟩)
   go_ret
   exact ⟨rfl, below_self ((Below.refl _ _).alloc (Nat.le_refl _) _) b1⟩
 | true =>
   rw [hr] at HRt
   rw [if_pos rfl]
   clear hr
   cases hn : In.numbered op with
   | false =>
     have hk0 : (Op.row op).operand = 0 := by unfold In.numbered In.kind at hn; simpa using hn
     rw [hk0] at HOp
     rw [if_neg (by decide)]
     clear hn hk hk0
     generalize Op.name op = nm at *
     go_enter Tryz.func41, Tryz.ntmps41
     go_wp2_with (first
       | (go_at_call 22; refine (HRt _).mono ?_; rintro _ w1 ⟨rfl, b1⟩; obtain ⟨q0, q1, hl1, B1⟩ := box_kept b1; clear b1)
       | (go_at_call 69; refine (HNm _).mono ?_; rintro _ wa ⟨rfl, he⟩; obtain rfl := he.symm)
       | (go_at_call 50; refine (HOp _).mono ?_; rintro _ wa ⟨rfl, he⟩; obtain rfl := he.symm))
     go_ret
     exact ⟨rfl, B1⟩
   | true =>
     have hk0 : 0 < (Op.row op).operand := by
       unfold In.kind at hk
       have : (Op.row op).operand ≠ 0 := by unfold In.numbered In.kind at hn; simpa using hn
       omega
     rw [if_pos rfl]
     clear hn hk
     generalize (Op.row op).operand = k at *
     generalize Op.name op = nm at *
     generalize In.txt a0 = dg at *
     go_enter Tryz.func41, Tryz.ntmps41
     go_wp2_with (first
       | (go_at_call 22; refine (HRt _).mono ?_; rintro _ w1 ⟨rfl, b1⟩; obtain ⟨q0, q1, hl1, B1⟩ := box_kept b1; clear b1)
       | (go_at_call 69; refine (HNm _).mono ?_; rintro _ wa ⟨rfl, he⟩; obtain rfl := he.symm)
       | (go_at_call 50; refine (HOp _).mono ?_; rintro _ wa ⟨rfl, he⟩; obtain rfl := he.symm)
       | (go_at_call 33; refine (HDg _).mono ?_; rintro _ w3 ⟨rfl, b3⟩))
     go_ret
     exact ⟨rfl, below_self B1 b3⟩
end Go.Proofs.YtmhmlhlplfkpaaaGreatDoor
namespace Go.Proofs.YtmhmlhlplfkpaaaGreatDoor
open Go.RowKit
def ReadP (s : ByteArray) (w : World) (e : Ending) (w' : World) : Prop :=
 e = .returned (.tuple #[.agg #[.int .i64 (In.read s).1.1, .int .i64 (In.read s).1.2], .int .i64 ((In.read s).2 : Int)]) ∧ Below w.heap.size w w'
theorem retRead {s : ByteArray} {a b c : Int} {e : Nat} (h : In.read s = ((a, b), e)) (hc : c = (e : Int) := by rfl) :
   Ending.returned (.tuple #[.agg #[.int .i64 a, .int .i64 b], .int .i64 c]) = .returned (.tuple #[.agg #[.int .i64 (In.read s).1.1, .int .i64 (In.read s).1.2], .int .i64 ((In.read s).2 : Int)]) := by rw [h, hc]
namespace In
theorem read_op {s : ByteArray} {op : Int} (h : Op.find (head s) = (op, false)) : read s = ((0, 0), 8) := by
 unfold read
 rw [h]
 rfl
theorem read_form {s : ByteArray} {op : Int} (h : Op.find (head s) = (op, true)) (hm : more s ≠ numbered op) : read s = ((0, 0), 5) := by
 unfold read
 rw [h]
 simp [hm]
theorem read_num {s : ByteArray} {op n : Int} {e : Nat} (h : Op.find (head s) = (op, true)) (hm : more s = true) (hn : numbered op = true) (hx : num (tail s) = (n, e)) (he : e ≠ 0) : read s = ((0, 0), e) := by
 unfold read
 rw [h, hx]
 simp [hm, hn, he]
theorem read_arg {s : ByteArray} {op n : Int} (h : Op.find (head s) = (op, true)) (hm : more s = true) (hn : numbered op = true) (hx : num (tail s) = (n, 0)) (hr : right op n = false) : read s = ((0, 0), 2) := by
 unfold read
 rw [h, hx]
 simp [hm, hn, hr]
theorem read_both {s : ByteArray} {op n : Int} (h : Op.find (head s) = (op, true)) (hm : more s = true) (hn : numbered op = true) (hx : num (tail s) = (n, 0)) (hr : right op n = true) : read s = ((op, n), 0) := by
 unfold read
 rw [h, hx]
 simp [hm, hn, hr]
theorem read_bare {s : ByteArray} {op : Int} (h : Op.find (head s) = (op, true)) (hm : more s = false) (hn : numbered op = false) : read s = ((op, 0), 0) := by
 unfold read
 rw [h]
 simp [hm, hn]
end In
set_option maxHeartbeats 2000000 in
theorem inread_any (s : ByteArray) (hs : s.size < 4294967281) (w : World) (hg : Glob w) : Calls Tryz.prog 127 #[.string s] w (ReadP s w) := by
 have HG0 := Lib.hid (hg.below ((Below.refl _ w).alloc (Nat.le_refl _) (.cells #[.int .i64 0, .int .i64 0] 48)))
 have R0 := Lib.hid (Ins.new w 0 0)
 have B0 := Lib.hid ((Below.refl w.heap.size w).alloc (Nat.le_refl _) (.cells #[.int .i64 0, .int .i64 0] 48))
 have HT : Hid ((In.tail s).size ≤ 281474976710656) := Lib.hid (by
   have : (In.tail s).size ≤ s.size := by
     unfold In.tail
     rw [ByteArray.size_extract]
     omega
   omega)
 clear hg
 go_enter Tryz.func127, Tryz.ntmps127
 go_wp2_with fail
 refine (strcut_any s hs _ HG0.out).mono ?_
 rintro _ w1 ⟨rfl, b1⟩
 have R1 := Lib.hid (R0.out.on b1)
 have B1 := Lib.hid (below_self B0.out b1)
 have HG1 := Lib.hid (HG0.out.below b1)
 clear b1 HG0 R0 B0
 obtain ⟨op, ok, hf⟩ : ∃ op ok, Op.find (In.head s) = (op, ok) := ⟨_, _, rfl⟩
 have HF := opfind_any (In.head s)
 rw [hf] at HF
 dsimp only at HF
 have HFd := Lib.hid hf
 clear hf
 generalize In.head s = hd at HF ⊢
 obtain ⟨m, hm⟩ : ∃ m, In.more s = m := ⟨_, rfl⟩
 rw [hm]
 have HM := Lib.hid hm
 clear hm
 obtain ⟨tl, htl⟩ : ∃ t, In.tail s = t := ⟨_, rfl⟩
 rw [htl]
 have HTl := Lib.hid htl
 clear htl
 go_wp2_with fail
 refine (HF _).mono ?_
 rintro _ w2 ⟨rfl, b2⟩
 have R2 := Lib.hid (R1.out.on b2)
 have B2 := Lib.hid (below_self B1.out b2)
 have HG2 := Lib.hid (HG1.out.below b2)
 clear b2 HG1 R1 B1 HF
 cases ok with
 | false =>
   have HR := Lib.hid (In.read_op HFd.out)
   have x0 := R2.out.c0
   have x1 := R2.out.c1
   have f0 := R2.out.f 0
   have f1 := R2.out.f 1
   go_wp2
   exact bodyPost_ret (v := .tuple #[.agg #[.int .i64 0, .int .i64 0], .int .i64 8]) (by simp [results, Tryz.results127, go_sem, x0, x1]) rfl ⟨retRead HR.out, (B2.out.setCell (by simp) _).setCell (by simp) _⟩
 | true =>
   go_wp2_with fail
   refine (numbered_any op _).mono ?_
   rintro _ w3 ⟨rfl, b3⟩
   have R3 := Lib.hid (R2.out.on b3)
   have B3 := Lib.hid (below_self B2.out b3)
   have HG3 := Lib.hid (HG2.out.below b3)
   clear b3 HG2 R2 B2
   by_cases hmn : m = In.numbered op
   · obtain ⟨nb, hnb⟩ : ∃ nb, In.numbered op = nb := ⟨_, rfl⟩
     rw [hnb] at hmn ⊢
     have HNb := Lib.hid hnb
     clear hnb
     subst hmn
     have HB3 := Lib.hid ((Below.refl w3.heap.size w3).alloc (Nat.le_refl _) (.cells #[.int .i64 op, .int .i64 0] 48))
     have I3 := Lib.hid (Ins.new w3 op 0)
     have Q3 := Lib.hid (R3.out.alloc (.cells #[.int .i64 op, .int .i64 0] 48))
     cases m with
     | false =>
       have HR := Lib.hid (In.read_bare HFd.out HM.out HNb.out)
       have HRt := inright_any op 0
       rw [In.bare_right (In.find_in (by rw [HFd.out])  |> fun h => by rw [HFd.out] at h; exact h) HNb.out] at HRt
       go_wp2_with fail
       refine (HRt _).mono ?_
       rintro _ w4 ⟨rfl, b4⟩
       have R4 := Q3.out.on b4
       have I4 := I3.out.on b4
       have x0 := R4.c0
       have x1 := R4.c1
       have f0 := R4.f 0
       have f1 := R4.f 1
       have y0 := I4.c0
       have y1 := I4.c1
       have B4 := Lib.hid (below_self (below_self B3.out HB3.out) b4)
       clear b4 R4 I4
       go_wp2
       exact bodyPost_ret (v := .tuple #[.agg #[.int .i64 op, .int .i64 0], .int .i64 0]) (by simp [results, Tryz.results127, go_sem, x0, x1]) rfl ⟨retRead HR.out, (B4.out.setCell (by simp) _).setCell (by simp) _⟩
     | true =>
       obtain ⟨n, er, hx⟩ : ∃ n er, In.num tl = (n, er) := ⟨_, _, rfl⟩
       have HNum := innumber_any tl (by rw [← HTl.out]; exact HT.out)
       unfold NumP at HNum
       rw [hx] at HNum
       dsimp only at HNum
       rw [← HTl.out] at hx
       have HX := Lib.hid hx
       clear hx
       go_wp2_with fail
       refine (HNum _ (HG3.out.below HB3.out)).mono ?_
       rintro _ w4 ⟨rfl, b4⟩
       have R4 := Q3.out.on b4
       have I4 := I3.out.on b4
       have B4 := Lib.hid (below_self (below_self B3.out HB3.out) b4)
       clear b4 HNum
       by_cases he : er = 0
       · subst he
         have HI5 := Lib.hid (I4.set1 n)
         have HR5 : Hid (Ins (w4.setCell ⟨w3.heap.size, 1, none⟩ (.int .i64 n)) w.heap.size 0 0) := Lib.hid (R4.below (((Below.refl w3.heap.size w4).setCell (p := ⟨w3.heap.size, 1, none⟩) (Nat.le_refl _) (.int .i64 n))) R3.out.lt)
         have B5 := Lib.hid (B4.out.setCell (p := ⟨w3.heap.size, 1, none⟩) B3.out.size (.int .i64 n))
         have y1 := I4.c1
         have g1 := I4.f 1
         have HRt := inright_any op n
         obtain ⟨r, hr⟩ : ∃ r, In.right op n = r := ⟨_, rfl⟩
         rw [hr] at HRt
         have HRr := Lib.hid hr
         clear hr R4
         have J5 := HI5.out.c0
         have J6 := HI5.out.c1
         go_wp2_with fail
         refine (HRt _).mono ?_
         rintro _ w5 ⟨rfl, b5⟩
         have R5 := HR5.out.on b5
         have I5 := HI5.out.on b5
         have x0 := R5.c0
         have x1 := R5.c1
         have f0 := R5.f 0
         have f1 := R5.f 1
         have z0 := I5.c0
         have z1 := I5.c1
         have B6 := Lib.hid (below_self B5.out b5)
         clear b5 R5 I5 y1 g1 J5 J6 I4
         cases r with
         | false =>
           have HR := Lib.hid (In.read_arg HFd.out HM.out HNb.out HX.out HRr.out)
           go_wp2
           exact bodyPost_ret (v := .tuple #[.agg #[.int .i64 0, .int .i64 0], .int .i64 2]) (by simp [results, Tryz.results127, go_sem, x0, x1]) rfl ⟨retRead HR.out, (B6.out.setCell (by simp) _).setCell (by simp) _⟩
         | true =>
           have HR := Lib.hid (In.read_both HFd.out HM.out HNb.out HX.out HRr.out)
           go_wp2
           exact bodyPost_ret (v := .tuple #[.agg #[.int .i64 op, .int .i64 n], .int .i64 0]) (by simp [results, Tryz.results127, go_sem, x0, x1]) rfl ⟨retRead HR.out, (B6.out.setCell (by simp) _).setCell (by simp) _⟩
       · have HR := Lib.hid (In.read_num HFd.out HM.out HNb.out HX.out he)
         have hb : ((er : Int) != 0) = true := by rw [bne_iff_ne]; omega
         have x0 := R4.c0
         have x1 := R4.c1
         have f0 := R4.f 0
         have f1 := R4.f 1
         clear R4 I4 he
         go_wp2
         exact bodyPost_ret (v := .tuple #[.agg #[.int .i64 0, .int .i64 0], .int .i64 (er : Int)]) (by simp [results, Tryz.results127, go_sem, x0, x1]) rfl ⟨retRead HR.out, (B4.out.setCell (by simp) _).setCell (by simp) _⟩
   · have HR := Lib.hid (In.read_form HFd.out (by rw [HM.out]; exact hmn))
     have hb : In.numbered op = !m := by cases m <;> cases h : In.numbered op <;> first | rfl | exact absurd h.symm hmn
     rw [hb]
     have x0 := R3.out.c0
     have x1 := R3.out.c1
     have f0 := R3.out.f 0
     have f1 := R3.out.f 1
     clear hmn hb HM
     cases m
     all_goals
       go_wp2
       exact bodyPost_ret (v := .tuple #[.agg #[.int .i64 0, .int .i64 0], .int .i64 5]) (by simp [results, Tryz.results127, go_sem, x0, x1]) rfl ⟨retRead HR.out, (B3.out.setCell (by simp) _).setCell (by simp) _⟩
end Go.Proofs.YtmhmlhlplfkpaaaGreatDoor
namespace Go.Proofs.YtmhmlhlplfkpaaaGreatDoor
open Go.RowKit
namespace In
end In
end Go.Proofs.YtmhmlhlplfkpaaaGreatDoor
