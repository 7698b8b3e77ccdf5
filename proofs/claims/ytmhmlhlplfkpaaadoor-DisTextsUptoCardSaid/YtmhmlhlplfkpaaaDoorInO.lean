/-
 What ops.named yields: each instruction, and its name. Conditions: each round keeps the iterators that there are.
-/
import Derived.Test.YtmhmlhlplfkpaaaDoorInR
import Derived.Test.YtmhmlhlplfkpaaaDoorInBB
import Derived.Test.YtmhmlhlplfkpaaaDoorInN
set_option maxRecDepth 100000
namespace Go.Proofs.YtmhmlhlplfkpaaaDoor
open Go.RowKit Go.Shelf
attribute [local go_sem] Oper.semAt_some
def encN (x : Nat × ByteArray) : Array Value := #[.int .i64 (x.1 : Int), .string x.2]
def NmRel (it : Nat) (J : List (Nat × ByteArray) → World → Prop) (o f : Value) (wr : World) : Prop :=
 ∃ (p : Nat) (x : Op.Scan), p ≤ 176 ∧ Op.scan Op.list 44 p = x ∧ o = .int .i64 (x.k : Int) ∧ f = .int .i64 (x.start : Int) ∧ J x.told wr ∧ wr.heap[it]? = some (.stringIter Op.list p)
theorem abides_iter {β : Type} {B : Nat} {J : β → World → Prop} (h : AbidesFrom B J) {s : β} {W : World} (hJ : J s W) {k : Nat} {t : ByteArray} {p : Nat} (hk : W.heap[k]? = some (.stringIter t p)) (hB : B ≤ k) (q : Nat) : J s (W.iterAt k t q) :=
 h s W (W.iterAt k t q) (some k) hJ ⟨rfl, rfl, rfl, by rw [Lib.iterAt_size]; exact Nat.le_refl _, fun i _ hi => Lib.iterAt_other W k i t q (fun e => hi (by rw [e]))⟩ (fun r e => by cases e; exact ⟨hB, _, hk, rfl⟩)
theorem abides_alloc {β : Type} {B : Nat} {J : β → World → Prop} (h : AbidesFrom B J) {s : β} {W : World} (hJ : J s W) (o : Obj) : J s (W.alloc o) :=
 h s W _ none hJ (World.grownBy_alloc W o none) (fun r e => by cases e)
set_option maxHeartbeats 4000000 in
theorem named_in (n : Nat) (hn : 1 ≤ n) (l : Nat) (J Jx : List (Nat × ByteArray) → World → Prop) (B : Nat) (hJ : AbidesFrom B J)
   (hY : ∀ pre x W, J pre W → pre.length < 35 → YieldAt Fence.wide (n - 1) Tryd.prog l (encN x) W fun e W' =>
     (e = .returned (.bool true) ∧ J (pre ++ [x]) W' ∧ KeepsWalks W W') ∨ (e = .returned (.bool false) ∧ Jx (pre ++ [x]) W'))
   (W : World) (hB : B ≤ W.heap.size) (h0 : J [] W) :
   CallsIn Fence.wide n Tryd.prog 44 #[.func (.yield l) #[] #[]] W fun e W' => (∃ v, e = .returned v) ∧
     ((∃ ys, ys = Op.all ∧ J ys W') ∨ (∃ pre, pre <+: Op.all ∧ Jx pre W')) := by
 have HY := Lib.hid hY
 have HJ := Lib.hid hJ
 have HB := Lib.hid hB
 clear hY hJ hB
 have hsz : Op.list.size = 176 := Op.list_size
 refine callsIn_of_wp Tryd.func44 rfl trivial ?_ rfl
 simp only [Tryd.ntmps44, List.size_toArray, List.length_cons, List.length_nil, Nat.reduceAdd, Nat.reduceSub, Array.replicate_succ, Array.replicate_zero, List.push_toArray, List.append_toArray, List.nil_append, List.cons_append]
 unfold Tryd.f44
 rw [Op.lit_list]
 gi_wp2
 gi_loopw [2, 3] (NmRel W.heap.size J) (fun _ _ wr => 176 - wr.iterPos W.heap.size)
 case atStart => exact ⟨0, _, by omega, rfl, rfl, rfl, abides_alloc HJ.out h0 _, World.iter_heap _ _ _⟩
 case round =>
   obtain ⟨p, x, hp, hx, rfl, rfl, hJr, hit⟩ := hrel
   obtain ⟨hs1, hs2, hs3, hs4⟩ := Op.scan_le Op.list 44 p
   have HPR := Lib.hid fun (q : Nat) (h : p ≤ q) => Op.scan_prefix Op.list 44 p q h
   have HHit := Lib.hid (Op.scan_hit (s := Op.list) (c := 44) (p := p))
   have HMiss := Lib.hid (Op.scan_miss (s := Op.list) (c := 44) (p := p))
   rw [hx] at hs1 hs2 hs3 hs4 HPR HHit HMiss
   have HX := Lib.hid hx
   have HS3 := Lib.hid hs3
   clear hx hs4 hs3
   obtain ⟨k, st, told⟩ := x
   dsimp only at hs1 hs2 HS3 HPR HHit HMiss hJr ⊢
   by_cases hlt : p < 176
   · have hnx := fun ty => Lib.run_next_ascii_at (P := Tryd.prog) wr W.heap.size Op.list p ty hit (by omega) (by rw [Op.byte_eq]; exact Op.list_ascii p hlt)
     have HI2 := Lib.hid (Lib.iterAt_heap wr W.heap.size Op.list p (p + 1) hit)
     have HJ2 := Lib.hid (abides_iter HJ.out hJr hit HB.out (p + 1))
     have HM : Hid (wr.iterPos W.heap.size = p) := Lib.hid (iterPos_of hit)
     generalize wr.iterAt W.heap.size Op.list (p + 1) = w2 at *
     clear hit hJr
     have hby := Op.byte_eq Op.list p (by omega)
     rw [hby] at hnx
     clear hby
     obtain ⟨c, hc⟩ : ∃ c, Op.byte Op.list p = c := ⟨_, rfl⟩
     rw [hc] at hnx HHit HMiss
     clear hc
     by_cases h44 : c = 44
     · subst h44
       have HN := Lib.hid (HHit.out rfl)
       clear HHit HMiss
       have HPre : Hid (told ++ [(k, Op.list.extract st p)] <+: Op.all) := Lib.hid (by
         have := Op.scan_prefix Op.list 44 (p + 1) 176 (by omega)
         rw [HN.out, Op.list_all] at this
         exact this)
       obtain ⟨fn, tmps, assign, body, hy, hR⟩ := HY.out told (k, Op.list.extract st p) w2 HJ2.out (by
         have h1 := HPre.out.length_le
         have h2 : Op.all.length = 35 := by kernel_rfl
         rw [List.length_append, h2] at h1
         simp at h1
         omega)
       dsimp only [encN] at hy
       have hpi : (p : Int) ≤ 176 := by omega
       have hsi : (st : Int) ≤ (p : Int) := by omega
       gi_wp2
       refine hR.mono ?_
       rintro e W3 (⟨rfl, hJ3, hk3⟩ | ⟨rfl, hJx3⟩)
       · have HI3 := Lib.hid (hk3.same _ _ HI2.out rfl)
         have HJ3 := Lib.hid hJ3
         clear hk3 hJ3
         gi_wp2
         go_roundw
         case rel => exact ⟨p + 1, _, by omega, HN.out, by go_num, by go_num, HJ3.out, HI3.out⟩
         case measure => rw [iterPos_of HI3.out, HM.out]; omega
       · gi_wp2
         refine bodyPost_ret (results_none rfl _ _ _) rfl ?_
         exact ⟨⟨_, rfl⟩, .inr ⟨_, HPre.out, hJx3⟩⟩
     · have hd : ((c : Int) != 44) = true := by rw [bne_iff_ne]; omega
       have HN := Lib.hid (HMiss.out h44)
       clear HHit HMiss
       gi_wp2
       go_roundw
       case rel => exact ⟨p + 1, _, by omega, HN.out, rfl, rfl, HJ2.out, HI2.out⟩
       case measure => rw [iterPos_of HI2.out, HM.out]; omega
   · obtain rfl : p = 176 := by omega
     have hnx := fun ty => Lib.run_next_end_at (P := Tryd.prog) wr W.heap.size Op.list 176 ty hit (by omega)
     have HE : Hid (told = Op.all) := Lib.hid (by have := Op.list_all; rw [HX.out] at this; exact this)
     gi_wp2
     go_end0
     exact ⟨⟨_, rfl⟩, .inl ⟨told, HE.out, hJr⟩⟩
theorem named_stops (n : Nat) (hn : 1 ≤ n) (w : World) :
   SeqStopsK Fence.wide n Tryd.prog 44 #[] encN KeepsWalks (fun ys => ys = Op.all) (fun pre => pre <+: Op.all) 35 w :=
 fun l J Jx W _ hJ _ hY h0 => named_in n hn l J Jx W.heap.size hJ hY W (Nat.le_refl _) h0
end Go.Proofs.YtmhmlhlplfkpaaaDoor
namespace Go.Proofs.YtmhmlhlplfkpaaaDoor
open Go.RowKit Go.Shelf
attribute [local go_sem] Oper.semAt_some
theorem op_new_cell (W : World) (v : Value) (t : TypeId) : (W.alloc (.cells #[v] t)).cell? ⟨W.heap.size, 0, none⟩ = some v ∧ (W.alloc (.cells #[v] t)).frozen? ⟨W.heap.size, 0, none⟩ = false := by
 have h : (W.alloc (.cells #[v] t)).heap[W.heap.size]? = some (.cells #[v] t (0, 0)) := heap_alloc_new W _
 refine ⟨cell_of_row _ _ 0 _ _ _ h, ?_⟩
 simp only [World.frozen?, h]
 rfl
theorem op_more_cell {W : World} {a : Addr} {v : Value} (o : Obj) (h : W.cell? a = some v ∧ W.frozen? a = false) : (W.alloc o).cell? a = some v ∧ (W.alloc o).frozen? a = false :=
 ⟨cell_kept h.1 (World.grownBy_alloc W o none) (fun r e => by cases e), (frozen_kept h.1 (World.grownBy_alloc W o none) (fun r e => by cases e)).trans h.2⟩
theorem snoc_all {α : Type} {p : α → Prop} {pre : List α} {x : α} (h : ∀ y ∈ pre, p y) (hx : p x) : ∀ y ∈ pre ++ [x], p y := by
 intro y hy
 rcases List.mem_append.1 hy with hy | hy
 · exact h y hy
 · rw [List.mem_singleton] at hy
   subst hy
   exact hx
theorem snoc_has {α : Type} (pre : List α) (x : α) : x ∈ pre ++ [x] := List.mem_append.2 (.inr (by simp))
theorem name_none {op : Int} (h : ∀ y ∈ Op.all, (y.1 : Int) ≠ op) : Op.name op = ⟨#[]⟩ := by
 apply Op.name_out
 intro hr
 obtain ⟨k, rfl⟩ : ∃ k : Nat, op = (k : Int) := ⟨op.toNat, by omega⟩
 exact h _ (Op.all_has (by omega)) rfl
set_option maxHeartbeats 4000000 in
theorem name_any (op : Int) (w : World) :
   Calls Tryd.prog 31 #[.int .i64 op] w fun e w' => e = .returned (.string (Op.name op)) ∧ Below w.heap.size w w' := by
 refine (callsIn_wide (n := 5)).1 ?_
 refine callsIn_of_wp_marks Tryd.func31 rfl trivial ?_ rfl
 simp only [Tryd.ntmps31, List.size_toArray, List.length_cons, List.length_nil, Nat.reduceAdd, Nat.reduceSub, Array.replicate_succ, Array.replicate_zero, List.push_toArray, List.append_toArray, List.nil_append, List.cons_append]
 gi_wp2
 have hB0 : Below w.heap.size w ((w.alloc (.cells #[.int .i64 op] 50)).alloc (.cells #[.string ⟨#[]⟩] 9)) :=
   ((Below.refl _ w).alloc (Nat.le_refl _) _).alloc (by simp) _
 have hN := op_new_cell w (.int .i64 op) 50
 have hR := op_new_cell (w.alloc (.cells #[.int .i64 op] 50)) (.string ⟨#[]⟩) 9
 simp only [World.size_alloc] at hN hR
 refine wpIn_rangeFunc_ownF rfl (by omega) (gf := 44) (lb := #[]) rfl trivial (enters_of Tryd.func44 (by kernel_rfl) rfl)
   (named_stops _ (by omega) _) walksK_t walksK_b (Below.refl _ _) (fun _ => rfl)
   (fun pre W => ((∀ y ∈ pre, (y.1 : Int) ≠ op) ∧ W.cell? ⟨w.heap.size, 0, none⟩ = some (.int .i64 op) ∧ W.cell? ⟨w.heap.size + 1, 0, none⟩ = some (.string ⟨#[]⟩) ∧ W.frozen? ⟨w.heap.size + 1, 0, none⟩ = false) ∧ Below w.heap.size w W)
   (fun c pre W => (c = .ret ∧ ∃ y ∈ pre, (y.1 : Int) = op ∧ W.cell? ⟨w.heap.size + 1, 0, none⟩ = some (.string y.2)) ∧ Below w.heap.size w W)
   (OwnFrom.and (Own.from (fun s A B row hs hg hr => ⟨hs.1, cell_kept hs.2.1 hg hr, cell_kept hs.2.2.1 hg hr, (frozen_kept hs.2.2.1 hg hr).trans hs.2.2.2⟩) _) (ownFrom_below (Nat.le_refl _) (by simp; omega)))
   (fun c => OwnFrom.and (Own.from (fun s A B row hs hg hr => ⟨hs.1, hs.2.elim fun y h => ⟨y, h.1, h.2.1, cell_kept h.2.2 hg hr⟩⟩) _) (ownFrom_below (Nat.le_refl _) (by simp; omega)))
   ⟨⟨by simp, (op_more_cell _ hN).1, hR.1, hR.2⟩, hB0⟩
   (fun x => { tmps := #[.int .i64 op, .pointer (some ⟨w.heap.size, 0, none⟩), .pointer (some ⟨w.heap.size + 1, 0, none⟩), .int .i64 (x.1 : Int), .string x.2, .int .i64 (x.1 : Int), .string x.2, undef, undef, undef, undef], defers := [] }) ?assign ?body ?done ?stop
 case assign =>
   intro l x W K hK
   simp only [encN]
   gi_wp2
   exact hK
 case body =>
   rintro l pre x W ⟨⟨hp, hcw, hcr, hfr⟩, hB⟩ _
   by_cases he : (x.1 : Int) = op
   · have hd : ((x.1 : Int) == op) = true := by rw [beq_iff_eq]; exact he
     have HE := Lib.hid he
     clear he
     gi_wp2
     exact ⟨KeepsOthers.setCell _ _ _, ⟨rfl, x, snoc_has _ _, HE.out, World.cell?_setCell_same' _ _ _ (by rw [hcr]; rfl)⟩, hB.setCell (p := ⟨w.heap.size + 1, 0, none⟩) (by simp) _⟩
   · have hd : ((x.1 : Int) == op) = false := beq_eq_false_iff_ne.2 he
     have HE := Lib.hid he
     clear he
     gi_wp2
     exact ⟨KeepsOthers.refl _, KeepsWalks.refl _, ⟨snoc_all hp HE.out, hcw, hcr, hfr⟩, hB⟩
 case done =>
   rintro D ys W hD rfl ⟨⟨hne, _, hcr, hfr⟩, hB⟩ hK
   have HN := Lib.hid (name_none hne)
   clear hne
   gi_wp2
   have hK' := (KeepsOthers.setCell W ⟨w.heap.size + 1, 0, none⟩ (.string ⟨#[]⟩)).same D _ hK rfl
   refine ⟨by simp, .inl ⟨_, _, rfl, run_takeDeferred hK', ?_⟩⟩
   have hc5 := cell_kept (World.cell?_setCell_same' W ⟨w.heap.size + 1, 0, none⟩ (.string ⟨#[]⟩) (by rw [hcr]; rfl)) (grownBy_putObj' _ D (.deferred none)) (fun r e => by cases e; exact ⟨_, hK', rfl⟩)
   refine ⟨.string ⟨#[]⟩, ?_, by rw [HN.out], (hB.setCell (p := ⟨w.heap.size + 1, 0, none⟩) (by simp) _).trans (belowK_b (w := w) (Nat.le_refl _) _ D _ _ (by simp at hD; omega) hK' rfl rfl)⟩
   simp [results, Tryd.f31, go_sem, hc5]
 case stop =>
   rintro D c pre W hD hpre ⟨⟨rfl, y, hy, hyo, hcr⟩, hB⟩ hK
   have HN := Lib.hid (Op.name_of (hpre.subset hy))
   rw [hyo] at HN
   clear hyo
   gi_wp2
   refine ⟨by simp, .inl ⟨_, _, rfl, run_takeDeferred hK, ?_⟩⟩
   have hc5 := cell_kept hcr (grownBy_putObj' _ D (.deferred none)) (fun r e => by cases e; exact ⟨_, hK, rfl⟩)
   refine ⟨.string y.2, ?_, by rw [HN.out], hB.trans (belowK_b (w := w) (Nat.le_refl _) W D _ _ (by simp at hD; omega) hK rfl rfl)⟩
   simp [results, Tryd.f31, go_sem, hc5]
end Go.Proofs.YtmhmlhlplfkpaaaDoor
namespace Go.Proofs.YtmhmlhlplfkpaaaDoor
open Go.RowKit
def WdRel (op : Int) (w : World) (f k i : Value) (wr : World) : Prop :=
 ∃ (p : Nat) (x : Op.Scan), p ≤ 176 ∧ Op.scan Op.words 32 p = x ∧ f = .int .i64 (x.start : Int) ∧ k = .int .i64 (x.k : Int) ∧ i = .int .i64 (p : Int) ∧ (x.k : Int) ≤ op ∧ wr = w
theorem rname_low (op : Int) (h : op < 0) (w : World) : Calls Tryd.prog 36 #[.int .i64 op] w fun e w' => e = .returned (.string ⟨#[]⟩) ∧ w' = w := by
 have d0 : decide (op < 0) = true := decide_eq_true h
 go_enter Tryd.func36, Tryd.ntmps36
 go_wp2
 go_ret
 exact ⟨rfl, rfl⟩
theorem rname_high (op : Int) (h : 35 ≤ op) (w : World) : Calls Tryd.prog 36 #[.int .i64 op] w fun e w' => e = .returned (.string ⟨#[]⟩) ∧ w' = w := by
 have d0 : decide (op < 0) = false := decide_eq_false (by omega)
 have d1 : decide (35 ≤ op) = true := decide_eq_true h
 go_enter Tryd.func36, Tryd.ntmps36
 go_wp2
 go_ret
 exact ⟨rfl, rfl⟩
set_option maxHeartbeats 4000000 in
theorem rname_in (op : Int) (h0 : 0 ≤ op) (h1 : op < 35) (w : World) : Calls Tryd.prog 36 #[.int .i64 op] w fun e w' => e = .returned (.string (Op.name op)) ∧ w' = w := by
 have d0 : decide (op < 0) = false := decide_eq_false (by omega)
 have d1 : decide (35 ≤ op) = false := decide_eq_false (by omega)
 have hsz : Op.words.size = 176 := Op.words_size
 go_enter Tryd.func36, Tryd.ntmps36
 rw [Op.lit_words]
 go_wp2
 go_loopw [3, 4, 5] (WdRel op w) (fun _ _ i _ => 176 - (intOf i).toNat)
 case atStart => exact ⟨0, _, by omega, rfl, rfl, rfl, rfl, by simpa [Op.scan] using h0, rfl⟩
 case round =>
   obtain ⟨p, x, hp, hx, rfl, rfl, rfl, hk, rfl⟩ := hrel
   obtain ⟨hs1, hs2, hs3, hs4⟩ := Op.scan_le Op.words 32 p
   have HHit := Lib.hid (Op.scan_hit (s := Op.words) (c := 32) (p := p))
   have HMiss := Lib.hid (Op.scan_miss (s := Op.words) (c := 32) (p := p))
   rw [hx] at hs1 hs2 hs3 hs4 HHit HMiss
   have HX := Lib.hid hx
   have HS3 := Lib.hid hs3
   clear hx hs4 hs3
   obtain ⟨k, st, told⟩ := x
   dsimp only at hs1 hs2 HS3 HHit HMiss hk ⊢
   by_cases hlt : p < 176
   · have hpi : (p : Int) < 176 := by omega
     have hby := Op.byte_eq Op.words p (by omega)
     rw [← hby] at HHit HMiss
     clear hby
     by_cases h32 : (Op.words[p]'(by omega)).toNat = 32
     · have HN := Lib.hid (HHit.out h32)
       have hd : (((Op.words[p]'(by omega)).toNat : Int) != 32) = false := by rw [h32]; rfl
       clear HHit HMiss h32
       have HPre : Hid (told ++ [(k, Op.words.extract st p)] <+: Op.all) := Lib.hid (by
         have := Op.scan_prefix Op.words 32 (p + 1) 176 (by omega)
         rw [HN.out, Op.words_all] at this
         exact this)
       have hsi : (st : Int) ≤ (p : Int) := by omega
       by_cases he : (k : Int) = op
       · have hd2 : ((k : Int) == op) = true := by rw [beq_iff_eq]; exact he
         have HE : Hid (Op.name op = Op.words.extract st p) := Lib.hid (by
           have := Op.name_of (HPre.out.subset (List.mem_append.2 (.inr (List.mem_singleton.2 rfl))))
           rw [← he]
           exact this)
         clear he
         go_wp2
         go_ret
         exact ⟨by rw [HE.out]; rfl, rfl⟩
       · have hd2 : ((k : Int) == op) = false := beq_eq_false_iff_ne.2 he
         have hk2 : (k : Int) + 1 ≤ op := by omega
         clear he
         go_wp2
         go_roundw
         case rel => exact ⟨p + 1, _, by omega, HN.out, by go_num, by go_num, by go_num, by simpa using hk2, rfl⟩
         case measure => simp [intOf]; omega
     · have hd : (((Op.words[p]'(by omega)).toNat : Int) != 32) = true := by rw [bne_iff_ne]; omega
       have HN := Lib.hid (HMiss.out h32)
       clear HHit HMiss h32
       go_wp2
       go_roundw
       case rel => exact ⟨p + 1, _, by omega, HN.out, rfl, rfl, by go_num, hk, rfl⟩
       case measure => simp [intOf]; omega
   · obtain rfl : p = 176 := by omega
     have he : told = Op.all := by have := Op.words_all; rw [HX.out] at this; exact this
     have h2 : Op.all.length = 35 := by kernel_rfl
     have := HS3.out
     rw [he, h2] at this
     omega
theorem rname_any (op : Int) (w : World) : Calls Tryd.prog 36 #[.int .i64 op] w fun e w' => e = .returned (.string (Op.name op)) ∧ w' = w := by
 by_cases h0 : op < 0
 · rw [Op.name_out (by omega)]; exact rname_low op h0 w
 by_cases h1 : 35 ≤ op
 · rw [Op.name_out (by omega)]; exact rname_high op h1 w
 exact rname_in op (by omega) (by omega) w
end Go.Proofs.YtmhmlhlplfkpaaaDoor
namespace Go.Proofs.YtmhmlhlplfkpaaaDoor
open Go.RowKit
theorem name_size (op : Int) : (Op.name op).size ≤ 21 := by
 unfold Op.name
 split
 · have h : Op.names.all (fun x => decide (x.size ≤ 21)) = true := by kernel_rfl
   rcases Nat.lt_or_ge op.toNat Op.names.length with hl | hl
   · rw [List.getD_eq_getElem?_getD, List.getElem?_eq_getElem hl]
     exact of_decide_eq_true (List.all_eq_true.1 h _ (List.getElem_mem hl))
   · rw [List.getD_eq_getElem?_getD, List.getElem?_eq_none hl]
     exact Nat.zero_le _
 · exact Nat.zero_le _
def TxG (p : Nat) (op a0 : Int) (nm dg : ByteArray) (_ : Unit) : Nat → Value → Prop
 | 0, v => v = .pointer (some ⟨p, 0, none⟩)
 | 1, v => v = .int .i64 op
 | 2, v => v = .string nm
 | 3, v => v = .string (nm ++ ByteArray.mk #[32])
 | 4, v => v = .pointer (some ⟨p, 1, none⟩)
 | 5, v => v = .int .i64 a0
 | 6, v => v = .string dg
 | 7, v => v = .string (nm ++ ByteArray.mk #[32] ++ dg)
 | 8, v => v = .string (nm ++ ByteArray.mk #[32] ++ dg)
 | _, _ => True
set_option maxHeartbeats 1000000 in
theorem intext_pow (op a0 : Int) (h0 : -9223372036854775808 ≤ a0) (h1 : a0 ≤ 9223372036854775807) (w : World) (hg : Pow w) : Calls Tryd.prog 19 #[.agg #[.int .i64 op, .int .i64 a0]] w (StrP (In.text op a0) w) := by
 have HRt := inright_any op a0
 have HGl := Lib.hid hg
 have HNm := Lib.hid (name_any op)
 have HDg := Lib.hid (fun W hW => indigits_pow a0 h0 h1 W hW)
 have HNb := numbered_any op
 have hs1 := name_size op
 have hs2 := txt_size a0 h0 h1
 clear hg h0 h1
 unfold In.text
 cases hr : In.right op a0 with
 | false =>
   rw [hr] at HRt
   rw [if_neg (by decide)]
   clear hr
   go_enter Tryd.func19, Tryd.ntmps19
   go_wp2_with (go_at_call 29; refine (HRt _).mono ?_; rintro _ w1 ⟨rfl, b1⟩)
   go_ret
   exact ⟨rfl, below_self ((Below.refl _ _).alloc (Nat.le_refl _) _) b1⟩
 | true =>
   rw [hr] at HRt
   rw [if_pos rfl]
   clear hr
   cases hn : In.numbered op with
   | false =>
     rw [hn] at HNb
     rw [if_neg (by decide)]
     clear hn
     generalize Op.name op = nm at *
     go_enter Tryd.func19, Tryd.ntmps19
     go_wp2_with (first
       | (go_at_call 29; refine (HRt _).mono ?_; rintro _ w1 ⟨rfl, b1⟩; obtain ⟨q0, q1, hl1, B1⟩ := box_kept b1; clear b1)
       | (go_at_call 30; refine (HNb _).mono ?_; rintro _ w2 ⟨rfl, b2⟩; obtain ⟨r0, r1, hl2⟩ := box_on q0 q1 hl1 b2)
       | (go_at_call 31; refine (HNm.out _).mono ?_; rintro _ w3 ⟨rfl, b3⟩))
     go_ret
     exact ⟨rfl, below_self (below_self B1 b2) b3⟩
   | true =>
     rw [hn] at HNb
     rw [if_pos rfl]
     clear hn
     generalize Op.name op = nm at *
     generalize In.txt a0 = dg at *
     go_enter Tryd.func19, Tryd.ntmps19
     go_wp2_with (first
       | (go_at_call 29; refine (HRt _).mono ?_; rintro _ w1 ⟨rfl, b1⟩; obtain ⟨q0, q1, hl1, B1⟩ := box_kept b1; clear b1)
       | (go_at_call 30; refine (HNb _).mono ?_; rintro _ w3 ⟨rfl, b2⟩; obtain ⟨r0, r1, hl2⟩ := box_on q0 q1 hl1 b2))
     have HB := Lib.hid (below_self B1 b2)
     have HG3 := Lib.hid (HGl.out.below HB.out)
     clear q0 q1 hl1 B1 b2 HRt HNb
     have q0 := r0
     have q1 := r1
     have hlp := hl2
     clear r0 r1 hl2
     generalize hp : w.heap.size = p at *
     refine region_k () 22 (fun _ _ W => Below w3.heap.size w3 W) (TxG p op a0 nm dg) (by kernel_rfl) (by kernel_rfl) (by kernel_rfl) rfl rfl (Below.refl _ _).drew ?_ ?_
     · refine ⟨?_, ?_, ?_, ?_, ?_, ?_, ?_, ?_, ?_, trivial⟩
       · intro x D a w hI hdep hD0 K hK
         have e1 : a.eval (.tmp 1) = .pointer (some ⟨p, 0, none⟩) := hI.read 1 rfl
         refine ok_value (wanted_none rfl) (v := .pointer (some ⟨p, 0, none⟩)) ?_ (hK x _ _ (hI.world) (fun _ _ _ h => h) rfl)
         obtain ⟨ec, ef⟩ := ecs a; clear hI hdep hK; generalize a.eval = ρ at e1 ec ef ⊢; go_simp
       · intro x D a w hI hdep hD0 K hK
         have e11 : a.eval (.tmp 11) = .pointer (some ⟨p, 0, none⟩) := hI.good 0 11 (dep_of hdep 0 rfl) rfl
         have x0 := (hI.world.cell (p := ⟨p, 0, none⟩) hlp).trans q0
         refine ok_value (wanted_none rfl) (v := .int .i64 op) ?_ (hK x _ _ (hI.world) (fun _ _ _ h => h) rfl)
         obtain ⟨ec, ef⟩ := ecs a; clear hI hdep hK; generalize a.eval = ρ at e11 ec ef ⊢; go_simp
       · intro x D a w hI hdep hD0 K hK
         have e12 : a.eval (.tmp 12) = .int .i64 op := hI.good 1 12 (dep_of hdep 1 rfl) rfl
         refine ok_call (wanted_none rfl) (f := 31) (args := #[.int .i64 op]) ?_ (HNm.out w) ?_
         · obtain ⟨ec, ef⟩ := ecs a; clear hI hdep hK; generalize a.eval = ρ at e12 ec ef ⊢; go_simp
         · rintro e w2 ⟨rfl, hb2⟩
           exact ⟨_, rfl, hK x _ _ (hI.world.trans (hb2.mono hI.world.size)) (fun _ _ _ h => h) rfl⟩
       · intro x D a w hI hdep hD0 K hK
         have e13 : a.eval (.tmp 13) = .string nm := hI.good 2 13 (dep_of hdep 2 rfl) rfl
         refine ok_value (wanted_none rfl) (v := .string (nm ++ ByteArray.mk #[32])) ?_ (hK x _ _ (hI.world) (fun _ _ _ h => h) rfl)
         obtain ⟨ec, ef⟩ := ecs a; clear hI hdep hK; generalize a.eval = ρ at e13 ec ef ⊢; go_simp
         omega
       · intro x D a w hI hdep hD0 K hK
         have e1 : a.eval (.tmp 1) = .pointer (some ⟨p, 0, none⟩) := hI.read 1 rfl
         refine ok_value (wanted_none rfl) (v := .pointer (some ⟨p, 1, none⟩)) ?_ (hK x _ _ (hI.world) (fun _ _ _ h => h) rfl)
         obtain ⟨ec, ef⟩ := ecs a; clear hI hdep hK; generalize a.eval = ρ at e1 ec ef ⊢; go_simp
       · intro x D a w hI hdep hD0 K hK
         have e15 : a.eval (.tmp 15) = .pointer (some ⟨p, 1, none⟩) := hI.good 4 15 (dep_of hdep 4 rfl) rfl
         have x0 := (hI.world.cell (p := ⟨p, 1, none⟩) hlp).trans q1
         refine ok_value (wanted_none rfl) (v := .int .i64 a0) ?_ (hK x _ _ (hI.world) (fun _ _ _ h => h) rfl)
         obtain ⟨ec, ef⟩ := ecs a; clear hI hdep hK; generalize a.eval = ρ at e15 ec ef ⊢; go_simp
       · intro x D a w hI hdep hD0 K hK
         have e16 : a.eval (.tmp 16) = .int .i64 a0 := hI.good 5 16 (dep_of hdep 5 rfl) rfl
         refine ok_call (wanted_none rfl) (f := 17) (args := #[.int .i64 a0]) ?_ (HDg.out w (HG3.out.below hI.world)) ?_
         · obtain ⟨ec, ef⟩ := ecs a; clear hI hdep hK; generalize a.eval = ρ at e16 ec ef ⊢; go_simp
         · rintro e w2 ⟨rfl, hb2⟩
           exact ⟨_, rfl, hK x _ _ (hI.world.trans (hb2.mono hI.world.size)) (fun _ _ _ h => h) rfl⟩
       · intro x D a w hI hdep hD0 K hK
         have e14 : a.eval (.tmp 14) = .string (nm ++ ByteArray.mk #[32]) := hI.good 3 14 (dep_of hdep 3 rfl) rfl
         have e17 : a.eval (.tmp 17) = .string dg := hI.good 6 17 (dep_of hdep 6 rfl) rfl
         have hz1 : (nm ++ ByteArray.mk #[32]).size ≤ 22 := by rw [ByteArray.size_append]; exact Nat.add_le_add hs1 (Nat.le_refl 1)
         refine ok_value (wanted_none rfl) (v := .string (nm ++ ByteArray.mk #[32] ++ dg)) ?_ (hK x _ _ (hI.world) (fun _ _ _ h => h) rfl)
         generalize nm ++ ByteArray.mk #[32] = nb at e14 hz1 ⊢
         obtain ⟨ec, ef⟩ := ecs a; clear hI hdep hK; generalize a.eval = ρ at e14 e17 ec ef ⊢; go_simp
         omega
       · intro x D a w hI hdep hD0 K hK
         have e18 : a.eval (.tmp 18) = .string (nm ++ ByteArray.mk #[32] ++ dg) := hI.good 7 18 (dep_of hdep 7 rfl) rfl
         refine ok_value (wanted_none rfl) (v := .string (nm ++ ByteArray.mk #[32] ++ dg)) ?_ (hK x _ _ (hI.world) (fun _ _ _ h => h) rfl)
         obtain ⟨ec, ef⟩ := ecs a; clear hI hdep hK; generalize a.eval = ρ at e18 ec ef ⊢; go_simp
     · intro x D a w hI hD
       have hfr := hI.frame [(11, .pointer (some ⟨p, 0, none⟩)), (12, .int .i64 op), (13, .string nm), (14, .string (nm ++ ByteArray.mk #[32])), (15, .pointer (some ⟨p, 1, none⟩)), (16, .int .i64 a0), (17, .string dg), (18, .string (nm ++ ByteArray.mk #[32] ++ dg)), (2, .string (nm ++ ByteArray.mk #[32] ++ dg))] (all_cons (hI.good 0 11 (hD 0 (by decide)) rfl) (all_cons (hI.good 1 12 (hD 1 (by decide)) rfl) (all_cons (hI.good 2 13 (hD 2 (by decide)) rfl) (all_cons (hI.good 3 14 (hD 3 (by decide)) rfl) (all_cons (hI.good 4 15 (hD 4 (by decide)) rfl) (all_cons (hI.good 5 16 (hD 5 (by decide)) rfl) (all_cons (hI.good 6 17 (hD 6 (by decide)) rfl) (all_cons (hI.good 7 18 (hD 7 (by decide)) rfl) (all_cons (hI.good 8 2 (hD 8 (by decide)) rfl) all_nil))))))))) rfl
       have hW := hI.world
       clear hI
       subst hfr
       simp only [List.foldl_cons, List.foldl_nil, List.setIfInBounds_toArray, List.set_cons_succ, List.set_cons_zero]
       have HB2 := Lib.hid (HB.out.trans (hW.mono (Nat.le_of_lt hlp)))
       clear hW hD q0 q1
       go_wp2
       go_ret
       exact ⟨rfl, by rw [hp]; exact HB2.out⟩
set_option maxHeartbeats 1000000 in
theorem rintext_any (op a0 : Int) (h0 : -9223372036854775808 ≤ a0) (h1 : a0 ≤ 9223372036854775807) (w : World) : Calls Tryd.prog 24 #[.agg #[.int .i64 op, .int .i64 a0]] w (StrP (In.text op a0) w) := by
 have HRt := rinright_any op a0
 have HNm := rname_any op
 have HDg := fun W => rdigits_any a0 h0 h1 W
 have HOp := roperand_any op
 have hk := In.kind_in op
 have hs1 := name_size op
 have hs2 := txt_size a0 h0 h1
 clear h0 h1
 unfold In.text
 cases hr : In.right op a0 with
 | false =>
   rw [hr] at HRt
   rw [if_neg (by decide)]
   clear hr
   go_enter Tryd.func24, Tryd.ntmps24
   go_wp2_with (go_at_call 35; refine (HRt _).mono ?_; rintro _ w1 ⟨rfl, b1⟩)
   go_ret
   exact ⟨rfl, below_self ((Below.refl _ _).alloc (Nat.le_refl _) _) b1⟩
 | true =>
   rw [hr] at HRt
   rw [if_pos rfl]
   clear hr
   cases hn : In.numbered op with
   | false =>
     have hk0 : (Op.row op).operand = 0 := by unfold In.numbered In.kind at hn; simpa using hn
     rw [hk0] at HOp
     rw [if_neg (by decide)]
     clear hn hk hk0
     generalize Op.name op = nm at *
     go_enter Tryd.func24, Tryd.ntmps24
     go_wp2_with (first
       | (go_at_call 35; refine (HRt _).mono ?_; rintro _ w1 ⟨rfl, b1⟩; obtain ⟨q0, q1, hl1, B1⟩ := box_kept b1; clear b1)
       | (go_at_call 36; refine (HNm _).mono ?_; rintro _ wa ⟨rfl, he⟩; obtain rfl := he.symm)
       | (go_at_call 37; refine (HOp _).mono ?_; rintro _ wa ⟨rfl, he⟩; obtain rfl := he.symm))
     go_ret
     exact ⟨rfl, B1⟩
   | true =>
     have hk0 : 0 < (Op.row op).operand := by
       unfold In.kind at hk
       have : (Op.row op).operand ≠ 0 := by unfold In.numbered In.kind at hn; simpa using hn
       omega
     rw [if_pos rfl]
     clear hn hk
     generalize (Op.row op).operand = k at *
     generalize Op.name op = nm at *
     generalize In.txt a0 = dg at *
     go_enter Tryd.func24, Tryd.ntmps24
     go_wp2_with (first
       | (go_at_call 35; refine (HRt _).mono ?_; rintro _ w1 ⟨rfl, b1⟩; obtain ⟨q0, q1, hl1, B1⟩ := box_kept b1; clear b1)
       | (go_at_call 36; refine (HNm _).mono ?_; rintro _ wa ⟨rfl, he⟩; obtain rfl := he.symm)
       | (go_at_call 37; refine (HOp _).mono ?_; rintro _ wa ⟨rfl, he⟩; obtain rfl := he.symm)
       | (go_at_call 22; refine (HDg _).mono ?_; rintro _ w3 ⟨rfl, b3⟩))
     go_ret
     exact ⟨rfl, below_self B1 b3⟩
end Go.Proofs.YtmhmlhlplfkpaaaDoor
