/-
 A cursor in memory: its block, the bytes that it has still, and its error; what a store into its block leaves. Conditions: as each states.
-/
import Derived.Test.YtdopheoedpldiaaGreatDoorUv
import Derived.Lib.BufferOwn
import Derived.Test.YtdopheoedpldiaaGreatDoorReg
set_option maxRecDepth 100000
namespace Go.Proofs.YtdopheoedpldiaaGreatDoor
open Go.RowKit
def Cells (w : World) (g : Nat) (A : Option Addr) (n c : Nat) (m : Bool) (e : Nat) : Prop := w.heap[g]? = some (.cells #[.slice A n c, .bool m, .int .i64 (e : Int)] 137 (0, 0))
theorem heap_lt {w : World} {g : Nat} {o : Obj} (h : w.heap[g]? = some o) : g < w.heap.size := by
 rcases Nat.lt_or_ge g w.heap.size with h1 | h1
 · exact h1
 · rw [Array.getElem?_eq_none h1] at h; cases h
theorem heap_set {w : World} {g i : Nat} {cur : Array Value} {t : TypeId} {f : Nat × Nat} (h : w.heap[g]? = some (.cells cur t f)) (v : Value) : (w.setCell ⟨g, i, none⟩ v).heap[g]? = some (.cells (cur.setIfInBounds i v) t f) := by
 have hlt := heap_lt h
 rw [Array.getElem?_eq_getElem hlt] at h
 injection h with h
 unfold World.setCell
 simp only
 rw [Array.getElem?_eq_getElem (by simpa using hlt), Array.getElem_modify_self, h]
 simp
section
variable {w : World} {g : Nat} {A : Option Addr} {n c : Nat} {m : Bool} {e : Nat} (h : Cells w g A n c m e)
include h
theorem Cells.lt : g < w.heap.size := heap_lt h
theorem Cells.c0 : w.cell? ⟨g, 0, none⟩ = some (.slice A n c) := by unfold Cells at h; simp [World.cell?, h]
theorem Cells.c1 : w.cell? ⟨g, 1, none⟩ = some (.bool m) := by unfold Cells at h; simp [World.cell?, h]
theorem Cells.c2 : w.cell? ⟨g, 2, none⟩ = some (.int .i64 (e : Int)) := by unfold Cells at h; simp [World.cell?, h]
theorem Cells.f (i : Nat) : w.frozen? ⟨g, i, none⟩ = false := by unfold Cells at h; simp [World.frozen?, h]
theorem Cells.set0 (A' : Option Addr) (n' c' : Nat) : Cells (w.setCell ⟨g, 0, none⟩ (.slice A' n' c')) g A' n' c' m e := (heap_set h _).trans rfl
theorem Cells.set2 (e' : Nat) : Cells (w.setCell ⟨g, 2, none⟩ (.int .i64 (e' : Int))) g A n c m e' := (heap_set h _).trans rfl
theorem Cells.kept {w' : World} {row : Option Nat} (hg : w.grownBy w' row) (hne : row ≠ some g) : Cells w' g A n c m e := (hg.block g (heap_lt h) (Ne.symm hne)).trans h
end
theorem BytesAt.kept {w w' : World} {B n : Nat} {A : Option Addr} {l : List Nat} (h : BytesAt w B A n l) {row : Option Nat} (hg : w.grownBy w' row) (hr : ∀ k, row = some k → B ≤ k) : BytesAt w' B A n l :=
 ⟨h.1, h.2.1, fun hp => by
   obtain ⟨b, off, e, hlt, hc⟩ := h.2.2 hp
   exact ⟨b, off, e, hlt, fun i hi => hg.cell (hc i hi) (fun e => by have := hr b e.symm; omega)⟩⟩
theorem BytesAt.cut {w : World} {B n c k : Nat} {A : Option Addr} {l : List Nat} (h : BytesAt w B A n l) (hk : k ≤ n) (hc : n ≤ c) : BytesAt w B (if c = k then A else A.map (·.add (k * 1))) (n - k) (l.drop k) := by
 refine ⟨by simp [h.1], fun x hx => h.2.1 x (List.mem_of_mem_drop hx), fun hp => ?_⟩
 obtain ⟨b, off, e, hlt, hcell⟩ := h.2.2 (by omega)
 subst e
 rw [if_neg (by omega)]
 refine ⟨b, off + k, ?_, hlt, fun i hi => ?_⟩
 · simp [Addr.add]
 · rw [Nat.add_assoc, hcell (k + i) (by omega)]
   simp [List.getD, List.getElem?_drop]
def Cur (w : World) (g : Nat) (s : List Nat × Nat) : Prop :=
 ∃ A n c m e0, Cells w g A n c m e0 ∧ BytesAt w g A n s.1 ∧ n ≤ c ∧ c ≤ 9223372036854775807 ∧ s.2 = (if m then e0 else 1) ∧ (s.2 ≠ 0 → s.1 = []) ∧ s.2 ≤ 9223372036854775807
theorem Cur.lt {w : World} {g : Nat} {s : List Nat × Nat} (h : Cur w g s) : g < w.heap.size := by
 obtain ⟨A, n, c, m, e0, h, _⟩ := h
 exact h.lt
theorem Cur.kept {w w' : World} {g : Nat} {s : List Nat × Nat} (h : Cur w g s) {row : Option Nat} (hg : w.grownBy w' row) (hr : ∀ k, row = some k → g < k) : Cur w' g s := by
 obtain ⟨A, n, c, m, e0, h1, h2, h3⟩ := h
 exact ⟨A, n, c, m, e0, h1.kept hg (fun e => by have := hr g e; omega), h2.kept hg (fun k e => by have := hr k e; omega), h3⟩
end Go.Proofs.YtdopheoedpldiaaGreatDoor
namespace Go.Proofs.YtdopheoedpldiaaGreatDoor
open Go.RowKit
def ClonePost (n : Nat) (l : List Nat) (w : World) (e : Ending) (w' : World) : Prop :=
 ∃ A' c', e = .returned (.slice A' n c') ∧ BytesAt w' w'.heap.size A' n l ∧ n ≤ c' ∧ c' ≤ 9223372036854775807 ∧ Below w.heap.size w w'
theorem eql_nil (w : World) (a : Option Addr) (n c n' c' : Nat) : (binOp .eql 27 (.slice a n c) (.slice none n' c')).run Tryz.prog w = .ok (.bool a.isNone) w := Lib.run_eql_slice_nil w _ _ a n c n' c' Tryz.underlying27
set_option maxHeartbeats 400000 in
theorem clone_any (A : Option Addr) (n c : Nat) (l : List Nat) (w : World) (h : BytesAt w w.heap.size A n l) (hn : n ≤ 140737488355328) :
   Calls Tryz.prog 105 #[.slice A n c] w (ClonePost n l w) := by
 have q := eql_nil
 cases A with
 | none =>
   have hn0 : n = 0 := by
     rcases Nat.eq_zero_or_pos n with h0 | h0
     · exact h0
     · obtain ⟨b, off, h, _⟩ := h.2.2 h0
       cases h
   subst hn0
   have H := Lib.hid h
   clear h
   go_enter Tryz.func105, Tryz.ntmps105
   go_wp2
   go_ret
   exact ⟨none, 0, rfl, H.out, Nat.le_refl _, by omega, Below.refl _ _⟩
 | some ad =>
   have hown0 := World.ownsRow_lit (base := w.heap.size) (e := 5) (size := 1) w #[] 0 (Nat.le_refl _) (by decide) rfl
   obtain ⟨v2, w2, hr2, hown2, hg2⟩ := append_bytes (c := c) hown0 (h.below ((Below.refl _ _).alloc (Nat.le_refl _) _)) (by simp) (by simp) (by simp; omega)
   have hb2 : Below w.heap.size w w2 := ((Below.refl _ _).alloc (Nat.le_refl _) _).grown hg2 (by simp) (fun k hk => (hown0.lt k hk).1)
   have hlb := h.2.1
   have hl := h.1
   have HR := Lib.hid (hr2 27 rfl)
   have HB := Lib.hid hb2
   have HO := Lib.hid hown2
   have HL := Lib.hid hl
   clear hown0 hr2 hown2 hg2 hb2 h hl
   go_enter Tryz.func105, Tryz.ntmps105
   go_wp2_with (at_builtin; refine Lib.wpList_append_run _ rfl (.tmp 5) (.tmp 6) _ _ rfl _ _ rfl rfl _ _ HR.out ?_)
   go_ret
   have ho := HO.out
   simp only [Nat.zero_add] at ho
   have hbs : (#[] : Array Value).toList ++ bs l = bs l := by simp
   rcases ho.2 with ⟨rfl, h0⟩ | ⟨g, cap, cur, rfl, _, hg, hnc, hcm, _, ht⟩
   · subst h0
     have : l = [] := List.eq_nil_of_length_eq_zero HL.out
     subst this
     exact ⟨none, 0, rfl, ⟨rfl, by simp, by simp⟩, Nat.le_refl _, by omega, HB.out⟩
   · unfold maxLen at hcm
     refine ⟨_, cap, rfl, bytesAt_own (cur := cur) hg HL.out (by simpa using ht) hlb, hnc, by omega, HB.out⟩
def NewCur (l : List Nat) (w : World) (e : Ending) (w' : World) : Prop :=
 ∃ g, e = .returned (.pointer (some ⟨g, 0, none⟩)) ∧ w.heap.size ≤ g ∧ Cur w' g (l, 0) ∧ Below w.heap.size w w'
set_option maxHeartbeats 400000 in
theorem new_any (A : Option Addr) (n c : Nat) (l : List Nat) (w : World) (h : BytesAt w w.heap.size A n l) (hn : n ≤ 140737488355328) :
   Calls Tryz.prog 67 #[.slice A n c] w (NewCur l w) := by
 have HC := Lib.hid (clone_any A n c l w h hn)
 clear h
 go_enter Tryz.func67, Tryz.ntmps67
 go_wp2_with (go_at_call 105; refine HC.out.mono ?_; rintro e w1 ⟨A', c', rfl, hb, h1, h2, hbl⟩)
 go_ret
 refine ⟨w1.heap.size, rfl, hbl.size, ⟨A', n, c', true, 0, heap_alloc_new w1 _, ?_, h1, h2, rfl, by simp, by simp⟩, hbl.alloc hbl.size _⟩
 exact hb.below ((Below.refl _ _).alloc (Nat.le_refl _) _)
def CurP (w : World) (q : Option Addr) (s : List Nat × Nat) : Prop := (q = none ∧ s = ([], 1)) ∨ ∃ g, q = some ⟨g, 0, none⟩ ∧ Cur w g s
def SomePost (q : Option Addr) (s : List Nat × Nat) (w : World) (e : Ending) (w' : World) : Prop :=
 ∃ g, e = .returned (.pointer (some ⟨g, 0, none⟩)) ∧ Cur w' g s ∧ ((q = some ⟨g, 0, none⟩ ∧ w' = w) ∨ (q = none ∧ w.heap.size ≤ g ∧ Below w.heap.size w w'))
set_option maxHeartbeats 400000 in
theorem some_any (q : Option Addr) (s : List Nat × Nat) (w : World) (h : CurP w q s) : Calls Tryz.prog 135 #[.pointer q] w (SomePost q s w) := by
 rcases h with ⟨rfl, rfl⟩ | ⟨g, rfl, h⟩
 · go_enter Tryz.func135, Tryz.ntmps135
   go_wp2
   go_ret
   exact ⟨w.heap.size, rfl, ⟨none, 0, 0, false, 0, heap_alloc_new w _, ⟨rfl, by simp, by simp⟩, Nat.le_refl _, by omega, rfl, by simp, by simp⟩, .inr ⟨rfl, Nat.le_refl _, (Below.refl _ _).alloc (Nat.le_refl _) _⟩⟩
 · have H := Lib.hid h
   clear h
   go_enter Tryz.func135, Tryz.ntmps135
   go_wp2
   go_ret
   exact ⟨g, rfl, H.out, .inl ⟨rfl, rfl⟩⟩
def Only (q : Option Addr) (w w' : World) : Prop := w.grownBy w' (q.map (·.block))
theorem Only.of_some {q : Option Addr} {g : Nat} {w w1 w2 : World} (h : (q = some ⟨g, 0, none⟩ ∧ w1 = w) ∨ (q = none ∧ w.heap.size ≤ g ∧ Below w.heap.size w w1)) (hg : w1.grownBy w2 (some g)) : Only q w w2 := by
 rcases h with ⟨rfl, rfl⟩ | ⟨rfl, hg0, hb⟩
 · exact hg
 · refine ⟨hg.os.trans hb.os, hg.tape.trans hb.tape, hg.output.trans hb.output, Nat.le_trans hb.size hg.size, fun k hk _ => ?_⟩
   rw [hg.block k (Nat.lt_of_lt_of_le hk hb.size) (by intro e; injection e with e; omega), hb.block k hk]
theorem CurP.of_some {q : Option Addr} {g : Nat} {w w1 w2 : World} {s : List Nat × Nat} (h : (q = some ⟨g, 0, none⟩ ∧ w1 = w) ∨ (q = none ∧ w.heap.size ≤ g ∧ Below w.heap.size w w1)) (hc : Cur w2 g s) (hs : q = none → s = ([], 1)) : CurP w2 q s := by
 rcases h with ⟨rfl, rfl⟩ | ⟨rfl, _, _⟩
 · exact .inr ⟨g, rfl, hc⟩
 · exact .inl ⟨rfl, hs rfl⟩
end Go.Proofs.YtdopheoedpldiaaGreatDoor
namespace Go.Proofs.YtdopheoedpldiaaGreatDoor
open Go.RowKit
def Same (q : Option Addr) (w w' : World) : Prop := (q ≠ none ∧ w' = w) ∨ (q = none ∧ Below w.heap.size w w')
theorem Same.of_some {q : Option Addr} {g : Nat} {w w1 : World} (h : (q = some ⟨g, 0, none⟩ ∧ w1 = w) ∨ (q = none ∧ w.heap.size ≤ g ∧ Below w.heap.size w w1)) : Same q w w1 := by
 rcases h with ⟨rfl, rfl⟩ | ⟨rfl, _, hb⟩
 · exact .inl ⟨by simp, rfl⟩
 · exact .inr ⟨rfl, hb⟩
theorem Same.grown {q : Option Addr} {w w' : World} (h : Same q w w') (row : Option Nat) : w.grownBy w' row := by
 rcases h with ⟨_, rfl⟩ | ⟨_, hb⟩
 · exact World.grownBy.refl _ _
 · exact ⟨hb.os, hb.tape, hb.output, hb.size, fun k hk _ => hb.block k hk⟩
theorem Same.refl (q : Option Addr) (w : World) : Same q w w := by
 cases q with
 | none => exact .inr ⟨rfl, Below.refl _ _⟩
 | some a => exact .inl ⟨by simp, rfl⟩
theorem Same.trans {q : Option Addr} {w w1 w2 : World} (h : Same q w w1) (k : Same q w1 w2) : Same q w w2 := by
 rcases h with ⟨hq, rfl⟩ | ⟨hq, hb⟩
 · exact k
 · rcases k with ⟨hq', _⟩ | ⟨_, hb'⟩
   · exact absurd hq hq'
   · exact .inr ⟨hq, hb.trans (hb'.mono hb.size)⟩
theorem CurP.same {q : Option Addr} {w w' : World} {s : List Nat × Nat} (h : CurP w q s) (k : Same q w w') : CurP w' q s := by
 rcases k with ⟨_, rfl⟩ | ⟨rfl, _⟩
 · exact h
 · rcases h with h | ⟨g, h, _⟩
   · exact .inl h
   · cases h
def Told (k : IntKind) (x : Int) (q : Option Addr) (w : World) (e : Ending) (w' : World) : Prop := e = .returned (.int k x) ∧ Same q w w'
set_option maxHeartbeats 400000 in
theorem err_any (q : Option Addr) (s : List Nat × Nat) (w : World) (h : CurP w q s) : Calls Tryz.prog 107 #[.pointer q] w (Told .i64 s.2 q w) := by
 have HS := Lib.hid (some_any q s w h)
 clear h
 go_enter Tryz.func107, Tryz.ntmps107
 go_wp2_with fail
 refine HS.out.mono ?_
 rintro e w1 ⟨g, rfl, ⟨A, n, c, m, e0, hc, _, _, _, hs, _, _⟩, hq⟩
 have c1 := hc.c1
 have c2 := hc.c2
 have HQ := Lib.hid hq
 have HE := Lib.hid hs
 clear hc hq hs HS
 cases m with
 | false =>
   go_wp2
   go_ret
   exact ⟨ret_int (by rw [HE.out]; rfl), Same.of_some HQ.out⟩
 | true =>
   go_wp2
   go_ret
   exact ⟨ret_int (by rw [HE.out]; rfl), Same.of_some HQ.out⟩
set_option maxHeartbeats 400000 in
theorem left_any (q : Option Addr) (s : List Nat × Nat) (w : World) (h : CurP w q s) : Calls Tryz.prog 109 #[.pointer q] w (Told .i64 s.1.length q w) := by
 have HS := Lib.hid (some_any q s w h)
 clear h
 go_enter Tryz.func109, Tryz.ntmps109
 go_wp2_with fail
 refine HS.out.mono ?_
 rintro e w1 ⟨g, rfl, ⟨A, n, c, m, e0, hc, hb, _, _, _, _, _⟩, hq⟩
 have c0 := hc.c0
 have HQ := Lib.hid hq
 have HB := Lib.hid hb.1
 clear hc hq hb HS
 go_wp2
 go_ret
 exact ⟨ret_int (by rw [HB.out]), Same.of_some HQ.out⟩
def endA (s : List Nat × Nat) : Nat := if s.2 ≠ 0 then s.2 else if 0 < s.1.length then 4 else 0
set_option maxHeartbeats 400000 in
theorem end_any (q : Option Addr) (s : List Nat × Nat) (w : World) (h : CurP w q s) : Calls Tryz.prog 70 #[.pointer q] w (Told .i64 (endA s) q w) := by
 have HS := Lib.hid (err_any q s w h)
 have HL := Lib.hid (fun w1 hs => left_any q s w1 (h.same hs))
 clear h
 by_cases he : s.2 = 0
 · have hv : endA s = if 0 < s.1.length then 4 else 0 := by unfold endA; rw [if_neg (by omega)]
   rw [he] at HS
   rw [hv]
   clear hv he
   generalize s.1.length = n at *
   go_enter Tryz.func70, Tryz.ntmps70
   go_wp2_with (first
     | (go_at_call 107; refine HS.out.mono ?_; rintro e w1 ⟨rfl, hs1⟩)
     | (go_at_call 109; refine (HL.out _ hs1).mono ?_; rintro e w2 ⟨rfl, hs2⟩))
   · go_ret
     exact ⟨ret_int rfl, hs1.trans hs2⟩
   · go_ret
     exact ⟨ret_int rfl, hs1.trans hs2⟩
 · have hv : endA s = s.2 := by unfold endA; rw [if_pos he]
   rw [hv]
   clear HL hv
   have hb : ((s.2 : Int) != 0) = true := by rw [bne_iff_ne]; omega
   clear he
   generalize s.2 = x at *
   go_enter Tryz.func70, Tryz.ntmps70
   go_wp2_with (go_at_call 107; refine HS.out.mono ?_; rintro e w1 ⟨rfl, hs1⟩)
   go_ret
   exact ⟨rfl, hs1⟩
def failA (s : List Nat × Nat) (er : Nat) : List Nat × Nat := if er = 0 ∨ s.2 ≠ 0 then s else ([], er)
def Turned (v : Value) (q : Option Addr) (s' : List Nat × Nat) (w : World) (e : Ending) (w' : World) : Prop := e = .returned v ∧ CurP w' q s' ∧ Only q w w'
theorem Only.same {q : Option Addr} {w w' : World} (h : Same q w w') : Only q w w' := h.grown _
set_option maxHeartbeats 400000 in
theorem fail_any (q : Option Addr) (s : List Nat × Nat) (er : Nat) (w : World) (h : CurP w q s) (hr : er ≤ 9223372036854775807) :
   Calls Tryz.prog 134 #[.pointer q, .int .i64 (er : Int)] w (Turned (.tuple #[]) q (failA s er) w) := by
 have H := Lib.hid h
 have HS := Lib.hid (err_any q s w h)
 by_cases h0 : er = 0
 · subst h0
   have hf : failA s 0 = s := by unfold failA; rw [if_pos (.inl rfl)]
   rw [hf]
   clear hf h
   go_enter Tryz.func134, Tryz.ntmps134
   go_wp2
   go_end0
   exact ⟨rfl, H.out, World.grownBy.refl _ _⟩
 by_cases he : s.2 = 0
 · have hf : failA s er = ([], er) := by unfold failA; rw [if_neg (by omega)]
   rw [hf]
   clear hf
   rcases h with ⟨rfl, rfl⟩ | ⟨g, rfl, A, n, c, m, e0, hc, hb, _, _, hs, _, _⟩
   · cases he
   · rw [he] at HS hs
     obtain rfl : m = true := by cases m with
       | true => rfl
       | false => cases hs
     have hs0 : e0 = 0 := by simpa using hs.symm
     subst hs0
     have f2 := hc.f 2
     have f0 := hc.f 0
     have c2 := hc.c2
     have c0 := hc.c0
     have hb0 : ((er : Int) == 0) = false := by rw [beq_eq_false_iff_ne]; omega
     have HC := Lib.hid hc
     clear hc hs hb h0 he
     go_enter Tryz.func134, Tryz.ntmps134
     go_wp2_with (go_at_call 107; refine HS.out.mono ?_; rintro e w1 ⟨rfl, ⟨_, rfl⟩ | ⟨hx, _⟩⟩ <;> first | cases hx | skip)
     go_end0
     refine ⟨rfl, .inr ⟨g, rfl, none, 0, 0, true, er, (HC.out.set2 er).set0 none 0 0, ⟨rfl, by simp, by simp⟩, Nat.le_refl _, by omega, rfl, by simp, hr⟩, ?_⟩
     exact Lib.grownBy_setB (Lib.grownBy_setB (World.grownBy.refl _ _) _ _) _ _
 · have hf : failA s er = s := by unfold failA; rw [if_pos (.inr he)]
   rw [hf]
   have hb0 : ((er : Int) == 0) = false := by rw [beq_eq_false_iff_ne]; omega
   have hb : ((s.2 : Int) != 0) = true := by rw [bne_iff_ne]; omega
   clear hf h he h0
   go_enter Tryz.func134, Tryz.ntmps134
   go_wp2_with (go_at_call 107; refine HS.out.mono ?_; rintro e w1 ⟨rfl, hs1⟩)
   go_end0
   exact ⟨rfl, H.out.same hs1, Only.same hs1⟩
end Go.Proofs.YtdopheoedpldiaaGreatDoor
namespace Go.Proofs.YtdopheoedpldiaaGreatDoor
open Go.RowKit
def SrcPost (v : Value) (er : Nat) (g : Nat) (s' : List Nat × Nat) (w : World) (e : Ending) (w' : World) : Prop :=
 e = .returned (.tuple #[v, .int .i64 (er : Int)]) ∧ Cur w' g s' ∧ w.grownBy w' (some g)
theorem get_le {l : List Nat} (hb : ∀ c ∈ l, c < 256) : (Uv.get l).2.1 ≤ l.length := by
 rcases Uv.get_just hb with ⟨n, h, _, hl, _⟩ | ⟨e, h, _⟩
 · rw [h]; exact hl
 · rw [h]; exact Nat.zero_le _
theorem Cur.cut {w : World} {g : Nat} {s : List Nat × Nat} {A : Option Addr} {n c : Nat} {m : Bool} {e0 k : Nat} (h1 : Cells w g A n c m e0) (h2 : BytesAt w g A n s.1) (h3 : n ≤ c) (h4 : c ≤ 9223372036854775807) (h5 : s.2 = (if m then e0 else 1)) (h6 : s.2 ≠ 0 → s.1 = []) (h7 : s.2 ≤ 9223372036854775807) (hk : k ≤ n)
   {A' : Option Addr} {n' c' : Nat} (hA : A' = if c = k then A else A.map (·.add (k * 1))) (hn : n' = n - k) (hc : c' = c - k) :
   Cur (w.setCell ⟨g, 0, none⟩ (.slice A' n' c')) g (s.1.drop k, s.2) ∧ w.grownBy (w.setCell ⟨g, 0, none⟩ (.slice A' n' c')) (some g) := by
 have hg : w.grownBy (w.setCell ⟨g, 0, none⟩ (.slice A' n' c')) (some g) := Lib.grownBy_setB (World.grownBy.refl _ _) _ _
 subst hA hn hc
 refine ⟨⟨_, _, _, m, e0, h1.set0 _ _ _, (h2.cut hk h3).kept hg (fun j e => by injection e with e; omega), by omega, by omega, h5, fun h => ?_, h7⟩, hg⟩
 show s.1.drop k = []
 rw [h6 h]
 simp
set_option maxHeartbeats 400000 in
theorem number_any (g : Nat) (s : List Nat × Nat) (w : World) (h : Cur w g s) :
   Calls Tryz.prog 160 #[.pointer (some ⟨g, 0, none⟩)] w (SrcPost (.int .u64 (Uv.get s.1).1) (Uv.get s.1).2.2 g (s.1.drop (Uv.get s.1).2.1, s.2) w) := by
 obtain ⟨A, n, c, m, e0, h1, h2, h3, h4, h5, h6, h7⟩ := h
 have hk := get_le h2.2.1
 rw [h2.1] at hk
 have HG := Lib.hid (get_any A n c g s.1 w h2 (by omega))
 have HX := Lib.hid (fun A' n' c' => Cur.cut (A' := A') (n' := n') (c' := c') h1 h2 h3 h4 h5 h6 h7 hk)
 have c0 := h1.c0
 have f0 := h1.f 0
 clear h1 h2 h5 h6 h7
 generalize (Uv.get s.1).1 = x at *
 generalize (Uv.get s.1).2.1 = k at *
 generalize (Uv.get s.1).2.2 = z at *
 go_enter Tryz.func160, Tryz.ntmps160
 go_wp2_with (go_at_call 186; refine HG.out.mono ?_; unfold Triple; rintro e w' ⟨rfl, rfl⟩)
 all_goals
   go_ret2
   exact ⟨rfl, HX.out _ _ _ (by first | rw [if_pos (by assumption)] | (rw [if_neg (by assumption)]; simp)) rfl (by omega)⟩
set_option maxHeartbeats 400000 in
theorem signed_any (g : Nat) (s : List Nat × Nat) (w : World) (h : Cur w g s) :
   Calls Tryz.prog 201 #[.pointer (some ⟨g, 0, none⟩)] w (SrcPost (.int .i64 (Uv.unfold_ (Uv.get s.1).1)) (Uv.get s.1).2.2 g (s.1.drop (Uv.get s.1).2.1, s.2) w) := by
 obtain ⟨A, n, c, m, e0, h1, h2, h3, h4, h5, h6, h7⟩ := h
 have hk := get_le h2.2.1
 rw [h2.1] at hk
 have HG := Lib.hid (getInt_any A n c g s.1 w h2 (by omega))
 have HX := Lib.hid (fun A' n' c' => Cur.cut (A' := A') (n' := n') (c' := c') h1 h2 h3 h4 h5 h6 h7 hk)
 have c0 := h1.c0
 have f0 := h1.f 0
 clear h1 h2 h5 h6 h7
 unfold getInt at HG
 simp only at HG
 generalize Uv.unfold_ (Uv.get s.1).1 = x at *
 generalize (Uv.get s.1).2.1 = k at *
 generalize (Uv.get s.1).2.2 = z at *
 go_enter Tryz.func201, Tryz.ntmps201
 go_wp2_with (go_at_call 206; refine HG.out.mono ?_; unfold Triple; rintro e w' ⟨rfl, rfl⟩)
 all_goals
   go_ret2
   exact ⟨rfl, HX.out _ _ _ (by first | rw [if_pos (by assumption)] | (rw [if_neg (by assumption)]; simp)) rfl (by omega)⟩
def octB (l : List Nat) : Nat × Nat × Nat := match l with | [] => (0, 0, 3) | c :: _ => (c, 1, 0)
set_option maxHeartbeats 400000 in
theorem octet_any (g : Nat) (s : List Nat × Nat) (w : World) (h : Cur w g s) :
   Calls Tryz.prog 191 #[.pointer (some ⟨g, 0, none⟩)] w (SrcPost (.int .u8 (octB s.1).1) (octB s.1).2.2 g (s.1.drop (octB s.1).2.1, s.2) w) := by
 have H := Lib.hid h
 obtain ⟨A, n, c, m, e0, h1, h2, h3, h4, h5, h6, h7⟩ := h
 have c0 := h1.c0
 have f0 := h1.f 0
 by_cases hn : n = 0
 · have hl : s.1 = [] := List.eq_nil_of_length_eq_zero (by rw [h2.1, hn])
   have hs : s = ([], s.2) := Prod.ext hl rfl
   have HS := Lib.hid hs
   rw [hl]
   subst hn
   clear h1 h2 h5 h6 h7 hl hs
   go_enter Tryz.func191, Tryz.ntmps191
   go_wp2
   go_ret2
   refine ⟨rfl, ?_, World.grownBy.refl _ _⟩
   have := H.out
   rw [HS.out] at this
   exact this
 · obtain ⟨x, r, hl⟩ : ∃ x r, s.1 = x :: r := by
     cases hl : s.1 with
     | nil => have := h2.1; rw [hl] at this; simp at this; omega
     | cons x r => exact ⟨x, r, rfl⟩
   obtain ⟨b, off, hA, _, hcell⟩ := h2.2.2 (by omega)
   subst hA
   have hx := hcell 0 (by omega)
   rw [hl] at hx
   simp only [List.getD_cons_zero, Nat.add_zero] at hx
   have HX := Lib.hid (fun A' n' c' => Cur.cut (A' := A') (n' := n') (c' := c') (k := 1) h1 h2 h3 h4 h5 h6 h7 (by omega))
   have HL := Lib.hid hl
   rw [hl] at HX ⊢
   have hn1 : 0 < n := by omega
   clear h1 h2 h5 h6 h7 hl hcell hn
   go_enter Tryz.func191, Tryz.ntmps191
   go_wp2
   all_goals
     go_ret2
     exact ⟨rfl, HX.out _ _ _ (by first | rw [if_pos (by assumption)] | (rw [if_neg (by assumption)]; simp [Addr.add])) rfl (by omega)⟩
def textB (l : List Nat) (z : Nat) : ByteArray × Nat × Nat := if l.length < z then (str [], 0, 3) else (str (l.take z), z, 0)
set_option maxHeartbeats 400000 in
theorem text_any (g z : Nat) (s : List Nat × Nat) (w : World) (h : Cur w g s) (hz : z ≤ 9223372036854775807) :
   Calls Tryz.prog 189 #[.pointer (some ⟨g, 0, none⟩), .int .i64 (z : Int)] w (SrcPost (.string (textB s.1 z).1) (textB s.1 z).2.2 g (s.1.drop (textB s.1 z).2.1, s.2) w) := by
 have H := Lib.hid h
 obtain ⟨A, n, c, m, e0, h1, h2, h3, h4, h5, h6, h7⟩ := h
 have c0 := h1.c0
 have f0 := h1.f 0
 have hl := h2.1
 by_cases hn : n < z
 · have ht : textB s.1 z = (str [], 0, 3) := by unfold textB; rw [if_pos (by omega)]
   rw [ht]
   clear h1 h2 h5 h6 h7 hl ht
   go_enter Tryz.func189, Tryz.ntmps189
   go_wp2
   go_ret2
   exact ⟨rfl, H.out, World.grownBy.refl _ _⟩
 · have ht : textB s.1 z = (str (s.1.take z), z, 0) := by unfold textB; rw [if_neg (by omega)]
   rw [ht]
   have HX := Lib.hid (fun A' n' c' => Cur.cut (A' := A') (n' := n') (c' := c') (k := z) h1 h2 h3 h4 h5 h6 h7 (by omega))
   have h2t : BytesAt w g A z (s.1.take z) := ⟨by simp; omega, fun x hx => h2.2.1 x (List.mem_of_mem_take hx), fun hp => by
     obtain ⟨b, off, e, hlt, hc⟩ := h2.2.2 (by omega)
     refine ⟨b, off, e, hlt, fun i hi => ?_⟩
     rw [hc i (by omega)]
     simp [List.getD, hi]⟩
   have hconv := conv_bytes (c := c) h2t
   have hzn : z ≤ n := by omega
   clear h1 h2 h5 h6 h7 hl ht hn h2t H
   go_enter Tryz.func189, Tryz.ntmps189
   go_wp2
   all_goals
     go_ret2
     exact ⟨rfl, HX.out _ _ _ (by first | rw [if_pos (by assumption)] | (rw [if_neg (by assumption)]; simp)) rfl (by omega)⟩
end Go.Proofs.YtdopheoedpldiaaGreatDoor
namespace Go.Proofs.YtdopheoedpldiaaGreatDoor
open Go.RowKit
theorem get_err {l : List Nat} (hb : ∀ c ∈ l, c < 256) : (Uv.get l).2.2 ≤ 5 := by
 rcases Uv.get_just hb with ⟨n, h, _, hl, _⟩ | ⟨e, h, he⟩
 · rw [h]; exact Nat.zero_le _
 · rw [h]; show e ≤ 5; omega
theorem Cur.byte {w : World} {g : Nat} {s : List Nat × Nat} (h : Cur w g s) : ∀ c ∈ s.1, c < 256 := by
 obtain ⟨A, n, c, m, e0, h1, h2, _⟩ := h
 exact h2.2.1
theorem fail_cur (g : Nat) (s : List Nat × Nat) (er : Nat) (w : World) (h : Cur w g s) (hr : er ≤ 9223372036854775807) :
   Calls Tryz.prog 134 #[.pointer (some ⟨g, 0, none⟩), .int .i64 (er : Int)] w fun e w' => e = .returned (.tuple #[]) ∧ Cur w' g (failA s er) ∧ w.grownBy w' (some g) := by
 refine (fail_any (some ⟨g, 0, none⟩) s er w (.inr ⟨g, rfl, h⟩) hr).mono ?_
 rintro e w' ⟨rfl, hc, ho⟩
 refine ⟨rfl, ?_, ho⟩
 rcases hc with ⟨h, _⟩ | ⟨g', he, hc⟩
 · cases h
 · injection he with he
   injection he with he
   subst he
   exact hc
def TakePost (v : Value) (g : Nat) (s' : List Nat × Nat) (w : World) (e : Ending) (w' : World) : Prop := e = .returned v ∧ Cur w' g s' ∧ w.grownBy w' (some g)
set_option maxHeartbeats 400000 in
theorem take_u64 (g : Nat) (x : Int) (er : Nat) (s' : List Nat × Nat) (w : World) (hr : er ≤ 9223372036854775807)
   (hf : Calls Tryz.prog 160 #[.pointer (some ⟨g, 0, none⟩)] w (SrcPost (.int .u64 x) er g s' w)) :
   Calls Tryz.prog 159 #[.pointer (some ⟨g, 0, none⟩), .func (.func 160) #[.pointer (some ⟨g, 0, none⟩)] #[]] w (TakePost (.int .u64 x) g (failA s' er) w) := by
 have HF := Lib.hid hf
 clear hf
 go_enter Tryz.func159, Tryz.ntmps159
 go_wp2_with (first
   | (go_at_call 160; refine HF.out.mono ?_; rintro e w1 ⟨rfl, hc1, hg1⟩)
   | (go_at_call 134; refine (fail_cur g _ er _ hc1 hr).mono ?_; rintro e w2 ⟨rfl, hc2, hg2⟩))
 go_ret
 exact ⟨rfl, hc2, Lib.grownBy_trans hg1 hg2⟩
set_option maxHeartbeats 400000 in
theorem take_i64 (g : Nat) (x : Int) (er : Nat) (s' : List Nat × Nat) (w : World) (hr : er ≤ 9223372036854775807)
   (hf : Calls Tryz.prog 201 #[.pointer (some ⟨g, 0, none⟩)] w (SrcPost (.int .i64 x) er g s' w)) :
   Calls Tryz.prog 200 #[.pointer (some ⟨g, 0, none⟩), .func (.func 201) #[.pointer (some ⟨g, 0, none⟩)] #[]] w (TakePost (.int .i64 x) g (failA s' er) w) := by
 have HF := Lib.hid hf
 clear hf
 go_enter Tryz.func200, Tryz.ntmps200
 go_wp2_with (first
   | (go_at_call 201; refine HF.out.mono ?_; rintro e w1 ⟨rfl, hc1, hg1⟩)
   | (go_at_call 134; refine (fail_cur g _ er _ hc1 hr).mono ?_; rintro e w2 ⟨rfl, hc2, hg2⟩))
 go_ret
 exact ⟨rfl, hc2, Lib.grownBy_trans hg1 hg2⟩
set_option maxHeartbeats 400000 in
theorem take_u8 (g : Nat) (x : Int) (er : Nat) (s' : List Nat × Nat) (w : World) (hr : er ≤ 9223372036854775807)
   (hf : Calls Tryz.prog 191 #[.pointer (some ⟨g, 0, none⟩)] w (SrcPost (.int .u8 x) er g s' w)) :
   Calls Tryz.prog 190 #[.pointer (some ⟨g, 0, none⟩), .func (.func 191) #[.pointer (some ⟨g, 0, none⟩)] #[]] w (TakePost (.int .u8 x) g (failA s' er) w) := by
 have HF := Lib.hid hf
 clear hf
 go_enter Tryz.func190, Tryz.ntmps190
 go_wp2_with (first
   | (go_at_call 191; refine HF.out.mono ?_; rintro e w1 ⟨rfl, hc1, hg1⟩)
   | (go_at_call 134; refine (fail_cur g _ er _ hc1 hr).mono ?_; rintro e w2 ⟨rfl, hc2, hg2⟩))
 go_ret
 exact ⟨rfl, hc2, Lib.grownBy_trans hg1 hg2⟩
theorem CurP.nil {w : World} {q : Option Addr} {s : List Nat × Nat} (h : CurP w q s) : q = none → s = ([], 1) := by
 rcases h with ⟨_, h⟩ | ⟨g, rfl, _⟩
 · exact fun _ => h
 · intro h; cases h
theorem octB_err (l : List Nat) : (octB l).2.2 ≤ 3 := by cases l <;> simp [octB]
def bitsA (s : List Nat × Nat) : Nat × List Nat × Nat := ((Uv.get s.1).1, failA (s.1.drop (Uv.get s.1).2.1, s.2) (Uv.get s.1).2.2)
def intA (s : List Nat × Nat) : Int × List Nat × Nat := (Uv.unfold_ (Uv.get s.1).1, failA (s.1.drop (Uv.get s.1).2.1, s.2) (Uv.get s.1).2.2)
def byteA (s : List Nat × Nat) : Nat × List Nat × Nat := ((octB s.1).1, failA (s.1.drop (octB s.1).2.1, s.2) (octB s.1).2.2)
set_option maxHeartbeats 400000 in
theorem bits_any (q : Option Addr) (s : List Nat × Nat) (w : World) (h : CurP w q s) :
   Calls Tryz.prog 133 #[.pointer q] w (Turned (.int .u64 (bitsA s).1) q (bitsA s).2 w) := by
 have hn := h.nil
 have HS := Lib.hid (some_any q s w h)
 have HN := Lib.hid hn
 clear h hn
 go_enter Tryz.func133, Tryz.ntmps133
 go_wp2_with fail
 refine HS.out.mono ?_
 rintro e w1 ⟨g, rfl, hc, hq⟩
 have HT := Lib.hid (take_u64 g (Uv.get s.1).1 _ _ w1 (by have := get_err hc.byte; omega) (number_any g s w1 hc))
 have HQ := Lib.hid hq
 clear hc hq HS
 go_wp2_with (go_at_call 159; refine HT.out.mono ?_; rintro e w2 ⟨rfl, hc2, hg2⟩)
 go_ret
 refine ⟨rfl, CurP.of_some HQ.out hc2 (fun hq => ?_), Only.of_some HQ.out hg2⟩
 rw [HN.out hq]
 rfl
set_option maxHeartbeats 400000 in
theorem int_any (q : Option Addr) (s : List Nat × Nat) (w : World) (h : CurP w q s) :
   Calls Tryz.prog 192 #[.pointer q] w (Turned (.int .i64 (intA s).1) q (intA s).2 w) := by
 have hn := h.nil
 have HS := Lib.hid (some_any q s w h)
 have HN := Lib.hid hn
 clear h hn
 go_enter Tryz.func192, Tryz.ntmps192
 go_wp2_with fail
 refine HS.out.mono ?_
 rintro e w1 ⟨g, rfl, hc, hq⟩
 have HT := Lib.hid (take_i64 g (Uv.unfold_ (Uv.get s.1).1) _ _ w1 (by have := get_err hc.byte; omega) (signed_any g s w1 hc))
 have HQ := Lib.hid hq
 clear hc hq HS
 go_wp2_with (go_at_call 200; refine HT.out.mono ?_; rintro e w2 ⟨rfl, hc2, hg2⟩)
 go_ret
 refine ⟨rfl, CurP.of_some HQ.out hc2 (fun hq => ?_), Only.of_some HQ.out hg2⟩
 rw [HN.out hq]
 rfl
set_option maxHeartbeats 400000 in
theorem byte_any (q : Option Addr) (s : List Nat × Nat) (w : World) (h : CurP w q s) :
   Calls Tryz.prog 165 #[.pointer q] w (Turned (.int .u8 (byteA s).1) q (byteA s).2 w) := by
 have hn := h.nil
 have HS := Lib.hid (some_any q s w h)
 have HN := Lib.hid hn
 clear h hn
 go_enter Tryz.func165, Tryz.ntmps165
 go_wp2_with fail
 refine HS.out.mono ?_
 rintro e w1 ⟨g, rfl, hc, hq⟩
 have HT := Lib.hid (take_u8 g (octB s.1).1 _ _ w1 (by have := octB_err s.1; omega) (octet_any g s w1 hc))
 have HQ := Lib.hid hq
 clear hc hq HS
 go_wp2_with (go_at_call 190; refine HT.out.mono ?_; rintro e w2 ⟨rfl, hc2, hg2⟩)
 go_ret
 refine ⟨rfl, CurP.of_some HQ.out hc2 (fun hq => ?_), Only.of_some HQ.out hg2⟩
 rw [HN.out hq]
 rfl
def numA (s : List Nat × Nat) (most : Int) : Nat × List Nat × Nat := if most < 0 ∨ most < ((bitsA s).1 : Int) then (0, failA (bitsA s).2 6) else ((bitsA s).1, (bitsA s).2)
theorem CurP.byte {w : World} {q : Option Addr} {s : List Nat × Nat} (h : CurP w q s) : ∀ c ∈ s.1, c < 256 := by
 rcases h with ⟨_, rfl⟩ | ⟨g, rfl, h⟩
 · simp
 · exact h.byte
theorem Only.trans {q : Option Addr} {w w1 w2 : World} (h : Only q w w1) (k : Only q w1 w2) : Only q w w2 := Lib.grownBy_trans h k
set_option maxHeartbeats 400000 in
theorem num_any (q : Option Addr) (s : List Nat × Nat) (most : Int) (w : World) (h : CurP w q s) (h1 : -9223372036854775808 ≤ most) (h2 : most ≤ 9223372036854775807) :
   Calls Tryz.prog 106 #[.pointer q, .int .i64 most] w (Turned (.int .i64 (numA s most).1) q (numA s most).2 w) := by
 have hx : (bitsA s).1 < 18446744073709551616 := get_fst_lt h.byte
 have HB := Lib.hid (bits_any q s w h)
 have HF := Lib.hid (fun w1 (hc : CurP w1 q (bitsA s).2) => fail_any q (bitsA s).2 6 w1 hc (by omega))
 clear h
 unfold numA
 generalize (bitsA s).1 = x at *
 generalize (bitsA s).2 = s1 at *
 by_cases hm : most < 0
 · rw [if_pos (.inl hm)]
   go_enter Tryz.func106, Tryz.ntmps106
   go_wp2_with (first
     | (go_at_call 133; refine HB.out.mono ?_; rintro e w1 ⟨rfl, hc1, hg1⟩)
     | (go_at_call 134; refine (HF.out _ hc1).mono ?_; rintro e w2 ⟨rfl, hc2, hg2⟩))
   go_ret
   exact ⟨rfl, hc2, hg1.trans hg2⟩
 obtain ⟨k, rfl⟩ := Int.eq_ofNat_of_zero_le (Int.not_lt.1 hm)
 clear hm h1
 by_cases hk : k < x
 · rw [if_pos (.inr (by omega))]
   go_enter Tryz.func106, Tryz.ntmps106
   go_wp2_with (first
     | (go_at_call 133; refine HB.out.mono ?_; rintro e w1 ⟨rfl, hc1, hg1⟩)
     | (go_at_call 134; refine (HF.out _ hc1).mono ?_; rintro e w2 ⟨rfl, hc2, hg2⟩))
   go_ret
   exact ⟨rfl, hc2, hg1.trans hg2⟩
 · rw [if_neg (by omega)]
   have hk' : x ≤ k := by omega
   clear HF
   go_enter Tryz.func106, Tryz.ntmps106
   go_wp2_with (go_at_call 133; refine HB.out.mono ?_; rintro e w1 ⟨rfl, hc1, hg1⟩)
   go_ret
   exact ⟨rfl, hc1, hg1⟩
theorem Cur.nil {w : World} {g : Nat} {s : List Nat × Nat} (h : Cur w g s) : s.2 ≠ 0 → s.1 = [] := by
 obtain ⟨A, n, c, m, e0, _, _, _, _, _, h, _⟩ := h
 exact h
theorem fail_snd (s : List Nat × Nat) (er : Nat) : (failA s er).2 = if s.2 = 0 then er else s.2 := by
 unfold failA
 by_cases h : s.2 = 0
 · rw [if_pos h]
   by_cases he : er = 0
   · rw [if_pos (.inl he), he, h]
   · rw [if_neg (by omega)]
 · rw [if_neg h, if_pos (.inr h)]
end Go.Proofs.YtdopheoedpldiaaGreatDoor
namespace Go.Proofs.YtdopheoedpldiaaGreatDoor
open Go.RowKit
def T1C (g : Nat) (s' : List Nat × Nat) (W : World) (D : Nat → Bool) (w : World) : Prop := (D 4 = false → w = W) ∧ (D 4 = true → Cur w g s' ∧ W.grownBy w (some g))
theorem T1_up {g : Nat} {s' : List Nat × Nat} {W w : World} {D : Nat → Bool} {i : Nat} (h : T1C g s' W D w) (hi : ((4 : Nat) == i) = false) : T1C g s' W (add D i) w := by unfold T1C at *; rw [up_other hi]; exact h
theorem T1_before {g : Nat} {s' : List Nat × Nat} {W w : World} {D : Nat → Bool} (h : T1C g s' W D w) (h4 : D 4 = false) : w = W := h.1 h4
theorem T1_after {g : Nat} {s' : List Nat × Nat} {W w : World} {D : Nat → Bool} (h : Cur w g s' ∧ W.grownBy w (some g)) : T1C g s' W (add D 4) w := ⟨(fun h => by rw [up_self] at h; cases h), fun _ => h⟩
def T1G (g z : Nat) (t : ByteArray) (er : Nat) : Nat → Value → Prop
 | 0, v | 1, v | 2, v => v = .pointer (some ⟨g, 0, none⟩)
 | 3, v => v = .int .i64 (z : Int)
 | 4, v => v = .tuple #[.string t, .int .i64 (er : Int)]
 | 5, v | 7, v => v = .string t
 | _, v => v = .int .i64 (er : Int)
set_option maxHeartbeats 1000000 in
theorem text1_any (g z p p' : Nat) (s' : List Nat × Nat) (t : ByteArray) (er : Nat) (w : World) (h1 : w.cell? ⟨p, 0, none⟩ = some (.pointer (some ⟨g, 0, none⟩))) (h2 : w.cell? ⟨p', 0, none⟩ = some (.int .i64 (z : Int)))
   (hc : Calls Tryz.prog 189 #[.pointer (some ⟨g, 0, none⟩), .int .i64 (z : Int)] w.drew (SrcPost (.string t) er g s' w.drew)) :
   Calls Tryz.prog 188 #[.pointer (some ⟨p, 0, none⟩), .pointer (some ⟨p', 0, none⟩)] w (SrcPost (.string t) er g s' w) := by
 have HC := Lib.hid hc
 clear hc
 go_enter Tryz.func188, Tryz.ntmps188
 go_wp2
 refine region_d 11 [(0, .pointer (some ⟨p, 0, none⟩)), (1, .pointer (some ⟨p', 0, none⟩))] (T1C g s' w.drew) (T1G g z t er) (by kernel_rfl) (by kernel_rfl) (by kernel_rfl) rfl rfl (by intro p hp; simp only [List.mem_cons, List.not_mem_nil, or_false] at hp; rcases hp with rfl | rfl <;> rfl) ⟨fun _ => rfl, fun h => by cases h⟩ ?_ ?_
-- text1
 · refine ⟨?_, ?_, ?_, ?_, ?_, ?_, ?_, ?_, ?_, trivial⟩
   · intro D a w hI hdep hD0 K hK
     have e0 : a.eval (.tmp 0) = .pointer (some ⟨p, 0, none⟩) := hI.fast (0, .pointer (some ⟨p, 0, none⟩)) (by simp)
     have h4 : D 4 = false := hI.not_up (hI.not_up (hI.not_up hD0 1 rfl) 2 rfl) 4 rfl
     obtain rfl := T1_before hI.world h4
     refine ok_value (wanted_none rfl) (v := .pointer (some ⟨g, 0, none⟩)) ?_ (hK _ _ (T1_up hI.world rfl) rfl)
     obtain ⟨ec, ef⟩ := ecs a; clear hI hdep hK; generalize a.eval = ρ at e0 ec ef ⊢; go_simp
   · intro D a w hI hdep hD0 K hK
     have e4 : a.eval (.tmp 4) = .pointer (some ⟨g, 0, none⟩) := hI.good 0 4 (dep_of hdep 0 rfl) rfl
     refine ok_value (wanted_none rfl) (v := .pointer (some ⟨g, 0, none⟩)) ?_ (hK _ _ (T1_up hI.world rfl) rfl)
     obtain ⟨ec, ef⟩ := ecs a; clear hI hdep hK; generalize a.eval = ρ at e4 ec ef ⊢; go_simp
   · intro D a w hI hdep hD0 K hK
     have e5 : a.eval (.tmp 5) = .pointer (some ⟨g, 0, none⟩) := hI.good 1 5 (dep_of hdep 1 rfl) rfl
     refine ok_value (wanted_none rfl) (v := .pointer (some ⟨g, 0, none⟩)) ?_ (hK _ _ (T1_up hI.world rfl) rfl)
     obtain ⟨ec, ef⟩ := ecs a; clear hI hdep hK; generalize a.eval = ρ at e5 ec ef ⊢; go_simp
   · intro D a w hI hdep hD0 K hK
     have e1 : a.eval (.tmp 1) = .pointer (some ⟨p', 0, none⟩) := hI.fast (1, .pointer (some ⟨p', 0, none⟩)) (by simp)
     have h4 : D 4 = false := hI.not_up hD0 4 rfl
     obtain rfl := T1_before hI.world h4
     refine ok_value (wanted_none rfl) (v := .int .i64 (z : Int)) ?_ (hK _ _ (T1_up hI.world rfl) rfl)
     obtain ⟨ec, ef⟩ := ecs a; clear hI hdep hK; generalize a.eval = ρ at e1 ec ef ⊢; go_simp
   · intro D a w hI hdep hD0 K hK
     have e6 : a.eval (.tmp 6) = .pointer (some ⟨g, 0, none⟩) := hI.good 2 6 (dep_of hdep 2 rfl) rfl
     have e7 : a.eval (.tmp 7) = .int .i64 (z : Int) := hI.good 3 7 (dep_of hdep 3 rfl) rfl
     obtain rfl := T1_before hI.world hD0
     refine ok_call (wanted_none rfl) (f := 189) (args := #[.pointer (some ⟨g, 0, none⟩), .int .i64 (z : Int)]) ?_ HC.out ?_
     · obtain ⟨ec, ef⟩ := ecs a; clear hI hdep hK; generalize a.eval = ρ at e6 e7 ec ef ⊢; go_simp
     · rintro e w2 ⟨rfl, hc2, hg2⟩
       exact ⟨_, rfl, hK _ _ (T1_after ⟨hc2, hg2⟩) rfl⟩
   · intro D a w hI hdep hD0 K hK
     have e8 : a.eval (.tmp 8) = .tuple #[.string t, .int .i64 (er : Int)] := hI.good 4 8 (dep_of hdep 4 rfl) rfl
     refine ok_value (wanted_none rfl) (v := .string t) ?_ (hK _ _ (T1_up hI.world rfl) rfl)
     obtain ⟨ec, ef⟩ := ecs a; clear hI hdep hK; generalize a.eval = ρ at e8 ec ef ⊢; go_simp
   · intro D a w hI hdep hD0 K hK
     have e8 : a.eval (.tmp 8) = .tuple #[.string t, .int .i64 (er : Int)] := hI.good 4 8 (dep_of hdep 4 rfl) rfl
     refine ok_value (wanted_none rfl) (v := .int .i64 (er : Int)) ?_ (hK _ _ (T1_up hI.world rfl) rfl)
     obtain ⟨ec, ef⟩ := ecs a; clear hI hdep hK; generalize a.eval = ρ at e8 ec ef ⊢; go_simp
   · intro D a w hI hdep hD0 K hK
     have e9 : a.eval (.tmp 9) = .string t := hI.good 5 9 (dep_of hdep 5 rfl) rfl
     refine ok_value (wanted_none rfl) (v := .string t) ?_ (hK _ _ (T1_up hI.world rfl) rfl)
     obtain ⟨ec, ef⟩ := ecs a; clear hI hdep hK; generalize a.eval = ρ at e9 ec ef ⊢; go_simp
   · intro D a w hI hdep hD0 K hK
     have e10 : a.eval (.tmp 10) = .int .i64 (er : Int) := hI.good 6 10 (dep_of hdep 6 rfl) rfl
     refine ok_value (wanted_none rfl) (v := .int .i64 (er : Int)) ?_ (hK _ _ (T1_up hI.world rfl) rfl)
     obtain ⟨ec, ef⟩ := ecs a; clear hI hdep hK; generalize a.eval = ρ at e10 ec ef ⊢; go_simp
-- text1 end
 · intro D a w' hI hD
   have e2 : a.eval (.tmp 2) = .string t := hI.good 7 2 (hD 7 (by decide)) rfl
   have e3 : a.eval (.tmp 3) = .int .i64 (er : Int) := hI.good 8 3 (hD 8 (by decide)) rfl
   have hd := hI.defers
   have hW := hI.world.2 (hD 4 (by decide))
   obtain ⟨tmps, defers⟩ := a
   simp only at hd
   subst hd
   clear hI hD
   go_wp2
   go_ret2
   refine ⟨congrArg Ending.returned ?_, hW.1, hW.2.os, hW.2.tape, hW.2.output, hW.2.size, hW.2.block⟩
   show Value.tuple #[(⟨tmps, []⟩ : Act).eval (.tmp 2), (⟨tmps, []⟩ : Act).eval (.tmp 3)] = _
   rw [e2, e3]
set_option maxHeartbeats 400000 in
theorem take_str (g p p' : Nat) (t : ByteArray) (er : Nat) (s' : List Nat × Nat) (w : World) (hr : er ≤ 9223372036854775807)
   (hf : Calls Tryz.prog 188 #[.pointer (some ⟨p, 0, none⟩), .pointer (some ⟨p', 0, none⟩)] w (SrcPost (.string t) er g s' w)) :
   Calls Tryz.prog 187 #[.pointer (some ⟨g, 0, none⟩), .func (.func 188) #[] #[.pointer (some ⟨p, 0, none⟩), .pointer (some ⟨p', 0, none⟩)]] w (TakePost (.string t) g (failA s' er) w) := by
 have HF := Lib.hid hf
 clear hf
 go_enter Tryz.func187, Tryz.ntmps187
 go_wp2_with (first
   | (go_at_call 188; refine HF.out.mono ?_; rintro e w1 ⟨rfl, hc1, hg1⟩)
   | (go_at_call 134; refine (fail_cur g _ er _ hc1 hr).mono ?_; rintro e w2 ⟨rfl, hc2, hg2⟩))
 go_ret
 exact ⟨rfl, hc2, Lib.grownBy_trans hg1 hg2⟩
def textA (s : List Nat × Nat) (most : Int) : ByteArray × List Nat × Nat :=
 ((textB (numA s most).2.1 (numA s most).1).1, failA ((numA s most).2.1.drop (textB (numA s most).2.1 (numA s most).1).2.1, (numA s most).2.2) (textB (numA s most).2.1 (numA s most).1).2.2)
theorem textB_err (l : List Nat) (z : Nat) : (textB l z).2.2 ≤ 3 := by unfold textB; split <;> simp
theorem numA_le (s : List Nat × Nat) (most : Int) (h : most ≤ 9223372036854775807) : (numA s most).1 ≤ 9223372036854775807 := by
 unfold numA
 split
 · simp
 · simp only; omega
theorem Cur.kept' {w w' : World} {g : Nat} {s : List Nat × Nat} (h : Cur w g s) {row : Option Nat} (hg : w.grownBy w' row) (hr : ∀ k, row = some k → k ≠ g ∧ (s.1 = [] ∨ g < k)) : Cur w' g s := by
 obtain ⟨A, n, c, m, e0, h1, h2, h3⟩ := h
 refine ⟨A, n, c, m, e0, h1.kept hg (fun e => (hr g e).1 rfl), ⟨h2.1, h2.2.1, fun hp => ?_⟩, h3⟩
 obtain ⟨b, off, e, hlt, hc⟩ := h2.2.2 hp
 refine ⟨b, off, e, hlt, fun i hi => hg.cell (hc i hi) (fun e => ?_)⟩
 rcases (hr b e.symm).2 with h0 | h0
 · have := h2.1; rw [h0] at this; simp at this; omega
 · omega
theorem grown_set {a w : World} {row : Option Nat} (h : a.grownBy w row) {p : Nat} (hp : a.heap.size ≤ p) (i : Nat) (v : Value) : a.grownBy (w.setCell ⟨p, i, none⟩ v) row :=
 ⟨h.os, h.tape, h.output, by simpa [World.setCell] using h.size, fun k hk hne => by
   rw [Below.heap_setCell w ⟨p, i, none⟩ v k (by show k ≠ p; omega)]
   exact h.block k hk hne⟩
theorem Only.of_row {q : Option Addr} {g : Nat} {w w2 : World} (h : q = some ⟨g, 0, none⟩ ∨ (q = none ∧ w.heap.size ≤ g)) (hg : w.grownBy w2 (some g)) : Only q w w2 := by
 rcases h with rfl | ⟨rfl, h⟩
 · exact hg
 · exact ⟨hg.os, hg.tape, hg.output, hg.size, fun k hk _ => hg.block k hk (by intro e; injection e with e; omega)⟩
theorem CurP.cur {w : World} {g : Nat} {s : List Nat × Nat} (h : CurP w (some ⟨g, 0, none⟩) s) : Cur w g s := by
 rcases h with ⟨h, _⟩ | ⟨g', he, hc⟩
 · cases h
 · injection he with he
   injection he with he
   subst he
   exact hc
theorem CurP.kept {w w' : World} {q : Option Addr} {s : List Nat × Nat} (h : CurP w q s) {row : Option Nat} (hg : w.grownBy w' row) (hr : ∀ k, row = some k → w.heap.size ≤ k) : CurP w' q s := by
 rcases h with h | ⟨g, e, h⟩
 · exact .inl h
 · exact .inr ⟨g, e, h.kept hg (fun k hk => by have := hr k hk; have := h.lt; omega)⟩
def Holds (w : World) (p : Nat) (v : Value) (t : TypeId) : Prop := w.heap[p]? = some (.cells #[v] t (0, 0))
theorem Holds.cell {w : World} {p : Nat} {v : Value} {t : TypeId} (h : Holds w p v t) : w.cell? ⟨p, 0, none⟩ = some v := by unfold Holds at h; simp [World.cell?, h]
theorem Holds.free {w : World} {p : Nat} {v : Value} {t : TypeId} (h : Holds w p v t) : w.frozen? ⟨p, 0, none⟩ = false := by unfold Holds at h; simp [World.frozen?, h]
theorem Holds.set {w : World} {p : Nat} {v : Value} {t : TypeId} (h : Holds w p v t) (u : Value) : Holds (w.setCell ⟨p, 0, none⟩ u) p u t := (heap_set h _).trans rfl
theorem Holds.kept {w w' : World} {p : Nat} {v : Value} {t : TypeId} (h : Holds w p v t) {row : Option Nat} (hg : w.grownBy w' row) (hne : row ≠ some p) : Holds w' p v t := (hg.block p (heap_lt h) (Ne.symm hne)).trans h
theorem numA_nil (most : Int) : numA ([], 1) most = (0, [], 1) := by
 unfold numA
 split <;> rfl
set_option maxHeartbeats 1000000 in
theorem ctext_any (q : Option Addr) (s : List Nat × Nat) (most : Int) (w : World) (h : CurP w q s) (h1 : -9223372036854775808 ≤ most) (h2 : most ≤ 9223372036854775807) :
   Calls Tryz.prog 162 #[.pointer q, .int .i64 most] w (Turned (.string (textA s most).1) q (textA s most).2 w) := by
 have hz := numA_le s most h2
 have hn := h.nil
 have HN := Lib.hid hn
 have HM0 := Lib.hid (fun g W (hc : Cur W g s) => num_any (some ⟨g, 0, none⟩) s most W (.inr ⟨g, rfl, hc⟩) h1 h2)
 have hnil : q = none → failA ((numA s most).2.1.drop (textB (numA s most).2.1 (numA s most).1).2.1, (numA s most).2.2) (textB (numA s most).2.1 (numA s most).1).2.2 = ([], 1) := by
   intro hq
   rw [hn hq, numA_nil]
   rfl
 have HZ := Lib.hid hnil
 unfold textA
 clear hnil
 generalize (numA s most).1 = z at *
 generalize (numA s most).2 = d at *
 have hp0 : CurP (w.alloc (.cells #[.pointer q] 93)) q s := h.kept (World.grownBy_alloc _ _ none) (by simp)
 have hlt : ∀ g, q = some ⟨g, 0, none⟩ → g < w.heap.size := by
   rintro g rfl
   exact h.cur.lt
 have HL := Lib.hid hlt
 have HS := Lib.hid (some_any q s _ hp0)
 have hh0 : Holds (w.alloc (.cells #[.pointer q] 93)) w.heap.size (.pointer q) 93 := heap_alloc_new _ _
 have HH := Lib.hid hh0
 clear h hn hp0 hlt hh0
 go_enter Tryz.func162, Tryz.ntmps162
 go_wp2_with fail
 refine HS.out.mono ?_
 rintro e w2 ⟨g, rfl, hc2, hq⟩
 have hA : (w.alloc (.cells #[.pointer q] 93)).heap.size ≤ w2.heap.size ∧ Holds w2 w.heap.size (.pointer q) 93 ∧ w.grownBy w2 (some g) ∧ (q = some ⟨g, 0, none⟩ ∨ (q = none ∧ w.heap.size ≤ g)) ∧ w.heap.size ≠ g ∧ (s.1 = [] ∨ g < w.heap.size) := by
   rcases hq with ⟨hq, rfl⟩ | ⟨hq, hge, hb⟩
   · have := HL.out g hq
     exact ⟨Nat.le_refl _, HH.out, World.grownBy_alloc _ _ _, .inl hq, by omega, .inr this⟩
   · simp at hge
     refine ⟨hb.size, HH.out.kept (row := none) ⟨hb.os, hb.tape, hb.output, hb.size, fun k hk _ => hb.block k hk⟩ (by simp), Lib.grownBy_below (World.grownBy_alloc _ _ _) hb, .inr ⟨hq, by omega⟩, by omega, .inl ?_⟩
     rw [HN.out hq]
 obtain ⟨hz2, hh2, hg2, hq2, hne, hl2⟩ := hA
 have x0 := hh2.cell
 have x1 := hh2.free
 have HH2 := Lib.hid (hh2.set (.pointer (some ⟨g, 0, none⟩)))
 have hc3 : Cur (w2.setCell ⟨w.heap.size, 0, none⟩ (.pointer (some ⟨g, 0, none⟩))) g s := hc2.kept' (row := some w.heap.size) (Lib.grownBy_setB (World.grownBy.refl _ _) _ _) (fun k hk => by injection hk with hk; subst hk; exact ⟨hne, hl2⟩)
 have hg3 := grown_set hg2 (Nat.le_refl _) 0 (.pointer (some ⟨g, 0, none⟩))
 have HM := Lib.hid (HM0.out g _ hc3)
 have HQ := Lib.hid hq2
 clear HS hq hc2 hh2 hc3 HH HL hg2 hl2 HM0
 go_wp2_with fail
 refine HM.out.mono ?_
 rintro e w4 ⟨rfl, hc4, hg4⟩
 have hh4 : Holds w4 w.heap.size (.pointer (some ⟨g, 0, none⟩)) 93 := HH2.out.kept hg4 (by intro e; injection e with e; exact hne e.symm)
 have hs4 : w.heap.size < w4.heap.size := heap_lt hh4
 have hgb : w4.grownBy (w4.alloc (.cells #[.int .i64 (z : Int)] 3)) none := World.grownBy_alloc _ _ _
 have hh5 := hh4.kept hgb (by simp)
 have hc5 := hc4.cur.kept hgb (by simp)
 have hi5 : Holds (w4.alloc (.cells #[.int .i64 (z : Int)] 3)) w4.heap.size (.int .i64 (z : Int)) 3 := heap_alloc_new _ _
 have hg5 : w.grownBy (w4.alloc (.cells #[.int .i64 (z : Int)] 3)) (some g) := Lib.grownBy_allocR (Lib.grownBy_trans hg3 hg4) _
 have x5 := hh5.cell
 have HT := Lib.hid (take_str g w.heap.size w4.heap.size _ _ _ _ (by have := textB_err d.1 z; omega) (text1_any g z w.heap.size w4.heap.size _ _ _ _ x5 hi5.cell (text_any g z d _ hc5 hz)))
 have HG := Lib.hid hg5
 have HH4 := Lib.hid hh4
 clear hh4 hgb hh5 hc5 hi5 hg5 hc4 hg4 hg3 HM HH2
 go_wp2_with (go_at_call 187; refine HT.out.mono ?_; rintro e w6 ⟨rfl, hc6, hg6⟩)
 go_ret
 refine ⟨rfl, ?_, Only.of_row HQ.out (Lib.grownBy_trans HG.out hg6)⟩
 rcases HQ.out with hq | ⟨hq, _⟩
 · exact .inr ⟨g, hq, hc6⟩
 · exact .inl ⟨hq, HZ.out hq⟩
end Go.Proofs.YtdopheoedpldiaaGreatDoor
