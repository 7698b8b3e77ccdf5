/-
 Whether two slices of instructions, of numbers, of nodes, of sets are the same; the document's answer of each. Conditions: the slices can be read.
-/
import Derived.BigRegion
import Derived.Laws.StructEq
import Derived.Test.YtmhmlhlplfkpaaaGreatDoorMpX
import Derived.Test.YtmhmlhlplfkpaaaGreatDoorSiOp
set_option maxRecDepth 100000
namespace Go.Proofs.YtmhmlhlplfkpaaaGreatDoor
open Go.RowKit
def EqP (p : Prop) (w : World) (e : Ending) (w' : World) : Prop := ∃ b : Bool, e = .returned (.bool b) ∧ (b = true ↔ p) ∧ Below w.heap.size w w'
theorem EqP.yes {p : Prop} {w w' : World} (h : p) (hb : Below w.heap.size w w') : EqP p w (.returned (.bool true)) w' := ⟨true, rfl, ⟨fun _ => h, fun _ => rfl⟩, hb⟩
theorem EqP.no {p : Prop} {w w' : World} (h : ¬ p) (hb : Below w.heap.size w w') : EqP p w (.returned (.bool false)) w' := ⟨false, rfl, ⟨fun e => (by cases e), fun e => absurd e h⟩, hb⟩
theorem take_same_succ {α : Type} (d : α) {l m : List α} {k : Nat} (h : l.take k = m.take k) (h1 : k < l.length) (h2 : k < m.length) (e : l.getD k d = m.getD k d) : l.take (k + 1) = m.take (k + 1) := by
 rw [Ru.taken h1 d, Ru.taken h2 d, h, e]
theorem eq_pair (a b c d : Int) (w : World) : (Op.equalIn 10000 48 (.agg #[.int .i64 a, .int .i64 b]) (.agg #[.int .i64 c, .int .i64 d])).run Tryz.prog w = .ok (a == c && b == d) w := by
 rw [run_equalIn_struct w 9999 48 _ _ (by kernel_rfl) (by kernel_rfl)]
 cases h1 : a == c <;> cases h2 : b == d <;> simp [go_sem, Program.fieldsOf, Tryz.underlying48, Op.eqFields, part, h1, h2]
theorem eq_pair_same (x : Int × Int) (w : World) : (Op.equalIn 10000 48 (.agg #[.int .i64 x.1, .int .i64 x.2]) (.agg #[.int .i64 x.1, .int .i64 x.2])).run Tryz.prog w = .ok true w := by
 rw [eq_pair]
 simp
theorem eq_pair_not {x y : Int × Int} (h : ¬ x = y) (w : World) : (Op.equalIn 10000 48 (.agg #[.int .i64 x.1, .int .i64 x.2]) (.agg #[.int .i64 y.1, .int .i64 y.2])).run Tryz.prog w = .ok false w := by
 rw [eq_pair]
 congr 1
 rw [Bool.and_eq_false_iff]
 obtain ⟨a, b⟩ := x
 obtain ⟨c, d⟩ := y
 by_cases h1 : a = c
 · subst h1
   right
   exact beq_eq_false_iff_ne.2 fun e => h (by simp only at e; rw [e])
 · left
   exact beq_eq_false_iff_ne.2 h1
theorem eq_nodes (a b c d e f g a' b' c' d' e' f' g' : Int) (w : World) : (Op.equalIn 10000 93 (.agg #[.int .i64 a, .int .i64 b, .int .i64 c, .int .i64 d, .int .i64 e, .int .i64 f, .int .i64 g]) (.agg #[.int .i64 a', .int .i64 b', .int .i64 c', .int .i64 d', .int .i64 e', .int .i64 f', .int .i64 g'])).run Tryz.prog w
   = .ok (a == a' && (b == b' && (c == c' && (d == d' && (e == e' && (f == f' && g == g')))))) w := by
 rw [run_equalIn_struct w 9999 93 _ _ (by kernel_rfl) (by kernel_rfl)]
 have step : ∀ p q : Bool, ∀ w : World, (if (!p) = true then (pure false : Sem Bool).run Tryz.prog w else .ok q w) = .ok (p && q) w := fun p q w => by cases p <;> rfl
 cases h1 : a == a'
 · simp [go_sem, Program.fieldsOf, Tryz.underlying93, Op.eqFields, part, h1]
 cases h2 : b == b'
 · simp [go_sem, Program.fieldsOf, Tryz.underlying93, Op.eqFields, part, h1, h2]
 cases h3 : c == c'
 · simp [go_sem, Program.fieldsOf, Tryz.underlying93, Op.eqFields, part, h1, h2, h3]
 cases h4 : d == d'
 · simp [go_sem, Program.fieldsOf, Tryz.underlying93, Op.eqFields, part, h1, h2, h3, h4]
 cases h5 : e == e'
 · simp [go_sem, Program.fieldsOf, Tryz.underlying93, Op.eqFields, part, h1, h2, h3, h4, h5]
 cases h6 : f == f'
 · simp [go_sem, Program.fieldsOf, Tryz.underlying93, Op.eqFields, part, h1, h2, h3, h4, h5, h6]
 cases h7 : g == g' <;> simp [go_sem, Program.fieldsOf, Tryz.underlying93, Op.eqFields, part, h1, h2, h3, h4, h5, h6, h7]
theorem eq_node_same (x : Tr.Nd) (w : World) : (Op.equalIn 10000 93 (.agg #[.int .i64 x.p, .int .i64 x.f, .int .i64 x.l, .int .i64 x.a, .int .i64 x.g, .int .i64 x.t, .int .i64 x.r]) (.agg #[.int .i64 x.p, .int .i64 x.f, .int .i64 x.l, .int .i64 x.a, .int .i64 x.g, .int .i64 x.t, .int .i64 x.r])).run Tryz.prog w = .ok true w := by
 rw [eq_nodes]
 simp
theorem eq_node_not {x y : Tr.Nd} (h : ¬ x = y) (w : World) : (Op.equalIn 10000 93 (.agg #[.int .i64 x.p, .int .i64 x.f, .int .i64 x.l, .int .i64 x.a, .int .i64 x.g, .int .i64 x.t, .int .i64 x.r]) (.agg #[.int .i64 y.p, .int .i64 y.f, .int .i64 y.l, .int .i64 y.a, .int .i64 y.g, .int .i64 y.t, .int .i64 y.r])).run Tryz.prog w = .ok false w := by
 rw [eq_nodes]
 congr 1
 rw [← Bool.not_eq_true]
 intro e
 simp only [Bool.and_eq_true, beq_iff_eq] at e
 obtain ⟨e1, e2, e3, e4, e5, e6, e7⟩ := e
 obtain ⟨a, b, c, d, e, f, g⟩ := x
 obtain ⟨a', b', c', d', e', f', g'⟩ := y
 simp only at e1 e2 e3 e4 e5 e6 e7
 exact h (by rw [e1, e2, e3, e4, e5, e6, e7])
theorem eq_set_same (x : Sl.Four) (w : World) : (Op.equalIn 10000 70 (.agg #[.int .u64 (x.a : Int), .int .u64 (x.b : Int), .int .u64 (x.c : Int), .int .u64 (x.d : Int)]) (.agg #[.int .u64 (x.a : Int), .int .u64 (x.b : Int), .int .u64 (x.c : Int), .int .u64 (x.d : Int)])).run Tryz.prog w = .ok true w := by
 rw [eq_sets, Mp.same_self]
theorem eq_set_not {x y : Sl.Four} (h : ¬ x = y) (w : World) : (Op.equalIn 10000 70 (.agg #[.int .u64 (x.a : Int), .int .u64 (x.b : Int), .int .u64 (x.c : Int), .int .u64 (x.d : Int)]) (.agg #[.int .u64 (y.a : Int), .int .u64 (y.b : Int), .int .u64 (y.c : Int), .int .u64 (y.d : Int)])).run Tryz.prog w = .ok false w := by
 rw [eq_sets, Mp.same_not h]
set_option maxHeartbeats 4000000 in
theorem rintsequal_any (a a2 : Option Addr) (n n2 c c2 : Nat) (l m : List Int) (w : World) (h : IntsAt w w.heap.size a n l) (h2 : IntsAt w w.heap.size a2 n2 m) (hn : n ≤ 9223372036854775807) :
   Calls Tryz.prog 80 #[.slice a n c, .slice a2 n2 c2] w (EqP (l = m) w) := by
 have H := Lib.hid h
 have H2 := Lib.hid h2
 clear h h2
 by_cases hnm : n = n2
 · subst hnm
   go_enter Tryz.func80, Tryz.ntmps80
   go_wp2
   go_loopw [5] (fun  i wr => ∃ k : Nat, k ≤ n ∧ i = .int .i64 (k : Int) ∧ Below w.heap.size w wr ∧ l.take k = m.take k) (fun  i _ => n - (intOf i).toNat)
   case atStart => exact ⟨0, Nat.zero_le _, rfl, Below.refl _ _, by simp⟩
   case round =>
     obtain ⟨k, hk, rfl, hB, hW⟩ := hrel
     have HB := Lib.hid hB
     have HW := Lib.hid hW
     clear hB hW
     by_cases hlt : k < n
     · obtain ⟨b1, off1, x, rfl, _, q10, e1, hk1⟩ := ints_cell (H.out.below HB.out) hlt
       obtain ⟨b2, off2, y, rfl, _, q20, e2, hk2⟩ := ints_cell (H2.out.below HB.out) hlt
       have hki : (k : Int) < (n : Int) := by omega
       by_cases hxy : x = y
       · have HS := Lib.hid (take_same_succ 0 HW.out hk1 hk2 (by rw [e1, e2, hxy]))
         subst hxy
         clear e1 e2 hk1 hk2
          
         go_wp2
         go_quiet (fail)
         go_wp2
         go_roundw
         case rel => exact ⟨k + 1, hlt, by go_num, below_drewN HB.out _, HS.out⟩
         case measure => simp [intOf]; omega
       · have HN : Hid (¬ l = m) := Lib.hid (fun e => hxy (by rw [← e1, ← e2, e]))
         have hd : (x != y) = true := bne_iff_ne.2 hxy
         have hd2 : (x == y) = false := beq_eq_false_iff_ne.2 hxy
         clear e1 e2 hk1 hk2 hxy
         go_wp2
         go_quiet (fail)
         go_wp2
         go_ret
         exact EqP.no HN.out (below_drewN HB.out _)
     · have HN : Hid (l = m) := Lib.hid (by
         have h1 := HW.out
         rwa [List.take_of_length_le (by rw [H.out.1]; omega), List.take_of_length_le (by rw [H2.out.1]; omega)] at h1)
       have hki : decide ((k : Int) < (n : Int)) = false := decide_eq_false (by omega)
       go_wp2
       go_ret
       exact EqP.yes HN.out HB.out
 · have HN : Hid (¬ l = m) := Lib.hid (fun e => hnm (by rw [← H.out.1, ← H2.out.1, e]))
   have hd : ((n : Int) != (n2 : Int)) = true := bne_iff_ne.2 (by omega)
   clear hnm
   go_enter Tryz.func80, Tryz.ntmps80
   go_wp2
   go_ret
   exact EqP.no HN.out (Below.refl _ _)
set_option maxHeartbeats 4000000 in
theorem rcodeequal_any (a a2 : Option Addr) (n n2 c c2 : Nat) (l m : List (Int × Int)) (w : World) (h : PairsAt w w.heap.size a n l) (h2 : PairsAt w w.heap.size a2 n2 m) (hn : n ≤ 9223372036854775807) :
   Calls Tryz.prog 79 #[.slice a n c, .slice a2 n2 c2] w (EqP (l = m) w) := by
 have H := Lib.hid h
 have H2 := Lib.hid h2
 clear h h2
 by_cases hnm : n = n2
 · subst hnm
   go_enter Tryz.func79, Tryz.ntmps79
   go_wp2
   go_loopw [5] (fun  i wr => ∃ k : Nat, k ≤ n ∧ i = .int .i64 (k : Int) ∧ Below w.heap.size w wr ∧ l.take k = m.take k) (fun  i _ => n - (intOf i).toNat)
   case atStart => exact ⟨0, Nat.zero_le _, rfl, Below.refl _ _, by simp⟩
   case round =>
     obtain ⟨k, hk, rfl, hB, hW⟩ := hrel
     have HB := Lib.hid hB
     have HW := Lib.hid hW
     clear hB hW
     by_cases hlt : k < n
     · obtain ⟨b1, off1, x, rfl, _, e1, hk1, q10, q11⟩ := pairs_cell (H.out.below HB.out) hlt
       obtain ⟨b2, off2, y, rfl, _, e2, hk2, q20, q21⟩ := pairs_cell (H2.out.below HB.out) hlt
       have hki : (k : Int) < (n : Int) := by omega
       by_cases hxy : x = y
       · have HS := Lib.hid (take_same_succ (0, 0) HW.out hk1 hk2 (by rw [e1, e2, hxy]))
         subst hxy
         clear e1 e2 hk1 hk2
         have eqs := eq_pair_same x
         go_wp2
         go_quiet (fail)
         go_wp2
         go_roundw
         case rel => exact ⟨k + 1, hlt, by go_num, below_drewN HB.out _, HS.out⟩
         case measure => simp [intOf]; omega
       · have HN : Hid (¬ l = m) := Lib.hid (fun e => hxy (by rw [← e1, ← e2, e]))
         have eqs := eq_pair_not hxy
         clear e1 e2 hk1 hk2 hxy
         go_wp2
         go_quiet (fail)
         go_wp2
         go_ret
         exact EqP.no HN.out (below_drewN HB.out _)
     · have HN : Hid (l = m) := Lib.hid (by
         have h1 := HW.out
         rwa [List.take_of_length_le (by rw [H.out.1]; omega), List.take_of_length_le (by rw [H2.out.1]; omega)] at h1)
       have hki : decide ((k : Int) < (n : Int)) = false := decide_eq_false (by omega)
       go_wp2
       go_ret
       exact EqP.yes HN.out HB.out
 · have HN : Hid (¬ l = m) := Lib.hid (fun e => hnm (by rw [← H.out.1, ← H2.out.1, e]))
   have hd : ((n : Int) != (n2 : Int)) = true := bne_iff_ne.2 (by omega)
   clear hnm
   go_enter Tryz.func79, Tryz.ntmps79
   go_wp2
   go_ret
   exact EqP.no HN.out (Below.refl _ _)
set_option maxHeartbeats 4000000 in
theorem rnodesequal_any (a a2 : Option Addr) (n n2 c c2 : Nat) (l m : List Tr.Nd) (w : World) (h : NodesAt w w.heap.size a n l) (h2 : NodesAt w w.heap.size a2 n2 m) (hn : n ≤ 9223372036854775807) :
   Calls Tryz.prog 81 #[.slice a n c, .slice a2 n2 c2] w (EqP (l = m) w) := by
 have H := Lib.hid h
 have H2 := Lib.hid h2
 clear h h2
 by_cases hnm : n = n2
 · subst hnm
   go_enter Tryz.func81, Tryz.ntmps81
   go_wp2
   go_loopw [5] (fun  i wr => ∃ k : Nat, k ≤ n ∧ i = .int .i64 (k : Int) ∧ Below w.heap.size w wr ∧ l.take k = m.take k) (fun  i _ => n - (intOf i).toNat)
   case atStart => exact ⟨0, Nat.zero_le _, rfl, Below.refl _ _, by simp⟩
   case round =>
     obtain ⟨k, hk, rfl, hB, hW⟩ := hrel
     have HB := Lib.hid hB
     have HW := Lib.hid hW
     clear hB hW
     by_cases hlt : k < n
     · obtain ⟨b1, off1, x, rfl, _, e1, hk1, q10, q11, q12, q13, q14, q15, q16⟩ := nodes_cell (H.out.below HB.out) hlt
       obtain ⟨b2, off2, y, rfl, _, e2, hk2, q20, q21, q22, q23, q24, q25, q26⟩ := nodes_cell (H2.out.below HB.out) hlt
       have hki : (k : Int) < (n : Int) := by omega
       by_cases hxy : x = y
       · have HS := Lib.hid (take_same_succ Tr.Nd.nil HW.out hk1 hk2 (by rw [e1, e2, hxy]))
         subst hxy
         clear e1 e2 hk1 hk2
         have eqs := eq_node_same x
         go_wp2
         go_quiet (fail)
         go_wp2
         go_roundw
         case rel => exact ⟨k + 1, hlt, by go_num, below_drewN HB.out _, HS.out⟩
         case measure => simp [intOf]; omega
       · have HN : Hid (¬ l = m) := Lib.hid (fun e => hxy (by rw [← e1, ← e2, e]))
         have eqs := eq_node_not hxy
         clear e1 e2 hk1 hk2 hxy
         go_wp2
         go_quiet (fail)
         go_wp2
         go_ret
         exact EqP.no HN.out (below_drewN HB.out _)
     · have HN : Hid (l = m) := Lib.hid (by
         have h1 := HW.out
         rwa [List.take_of_length_le (by rw [H.out.1]; omega), List.take_of_length_le (by rw [H2.out.1]; omega)] at h1)
       have hki : decide ((k : Int) < (n : Int)) = false := decide_eq_false (by omega)
       go_wp2
       go_ret
       exact EqP.yes HN.out HB.out
 · have HN : Hid (¬ l = m) := Lib.hid (fun e => hnm (by rw [← H.out.1, ← H2.out.1, e]))
   have hd : ((n : Int) != (n2 : Int)) = true := bne_iff_ne.2 (by omega)
   clear hnm
   go_enter Tryz.func81, Tryz.ntmps81
   go_wp2
   go_ret
   exact EqP.no HN.out (Below.refl _ _)
set_option maxHeartbeats 4000000 in
theorem rsetsequal_any (a a2 : Option Addr) (n n2 c c2 : Nat) (l m : List Sl.Four) (w : World) (h : SetsAt w w.heap.size a n l) (h2 : SetsAt w w.heap.size a2 n2 m) (hn : n ≤ 9223372036854775807) :
   Calls Tryz.prog 82 #[.slice a n c, .slice a2 n2 c2] w (EqP (l = m) w) := by
 have H := Lib.hid h
 have H2 := Lib.hid h2
 clear h h2
 by_cases hnm : n = n2
 · subst hnm
   go_enter Tryz.func82, Tryz.ntmps82
   go_wp2
   go_loopw [5] (fun  i wr => ∃ k : Nat, k ≤ n ∧ i = .int .i64 (k : Int) ∧ Below w.heap.size w wr ∧ l.take k = m.take k) (fun  i _ => n - (intOf i).toNat)
   case atStart => exact ⟨0, Nat.zero_le _, rfl, Below.refl _ _, by simp⟩
   case round =>
     obtain ⟨k, hk, rfl, hB, hW⟩ := hrel
     have HB := Lib.hid hB
     have HW := Lib.hid hW
     clear hB hW
     by_cases hlt : k < n
     · obtain ⟨b1, off1, x, rfl, _, e1, hk1, q10, q11, q12, q13⟩ := sets_cell (H.out.below HB.out) hlt
       obtain ⟨b2, off2, y, rfl, _, e2, hk2, q20, q21, q22, q23⟩ := sets_cell (H2.out.below HB.out) hlt
       have hki : (k : Int) < (n : Int) := by omega
       by_cases hxy : x = y
       · have HS := Lib.hid (take_same_succ Sl.no HW.out hk1 hk2 (by rw [e1, e2, hxy]))
         subst hxy
         clear e1 e2 hk1 hk2
         have eqs := eq_set_same x
         go_wp2
         go_quiet (fail)
         go_wp2
         go_roundw
         case rel => exact ⟨k + 1, hlt, by go_num, below_drewN HB.out _, HS.out⟩
         case measure => simp [intOf]; omega
       · have HN : Hid (¬ l = m) := Lib.hid (fun e => hxy (by rw [← e1, ← e2, e]))
         have eqs := eq_set_not hxy
         clear e1 e2 hk1 hk2 hxy
         go_wp2
         go_quiet (fail)
         go_wp2
         go_ret
         exact EqP.no HN.out (below_drewN HB.out _)
     · have HN : Hid (l = m) := Lib.hid (by
         have h1 := HW.out
         rwa [List.take_of_length_le (by rw [H.out.1]; omega), List.take_of_length_le (by rw [H2.out.1]; omega)] at h1)
       have hki : decide ((k : Int) < (n : Int)) = false := decide_eq_false (by omega)
       go_wp2
       go_ret
       exact EqP.yes HN.out HB.out
 · have HN : Hid (¬ l = m) := Lib.hid (fun e => hnm (by rw [← H.out.1, ← H2.out.1, e]))
   have hd : ((n : Int) != (n2 : Int)) = true := bne_iff_ne.2 (by omega)
   clear hnm
   go_enter Tryz.func82, Tryz.ntmps82
   go_wp2
   go_ret
   exact EqP.no HN.out (Below.refl _ _)
end Go.Proofs.YtmhmlhlplfkpaaaGreatDoor
namespace Go.Proofs.YtmhmlhlplfkpaaaGreatDoor
open Go.RowKit
set_option maxHeartbeats 8000000 in
theorem rfnsame_any (u v : FnV) (f g : Fn.F) (w : World) (hf : FnOk w w.heap.size u f) (hg : FnOk w w.heap.size v g) (hl : u.Len) : Calls Tryz.prog 48 #[.agg u.cells, .agg v.cells] w (EqP (f = g) w) := by
 have b0 := (Below.refl w.heap.size w).alloc (Nat.le_refl _) (.cells u.cells 28)
 have hsz : (w.alloc (.cells u.cells 28)).heap.size = w.heap.size + 1 := by simp
 have b1 : Below w.heap.size w ((w.alloc (.cells u.cells 28)).alloc (.cells v.cells 28)) := b0.alloc (by rw [hsz]; omega) _
 have hU : FnAt ((w.alloc (.cells u.cells 28)).alloc (.cells v.cells 28)) w.heap.size u := (Below.heap_alloc _ _ _ (by rw [hsz]; omega)).trans (FnAt.new w u)
 have hV : FnAt ((w.alloc (.cells u.cells 28)).alloc (.cells v.cells 28)) (w.heap.size + 1) v := by
   have := FnAt.new (w.alloc (.cells u.cells 28)) v
   rwa [hsz] at this
 have HF := Lib.hid (hf.on b1)
 have HG := Lib.hid (hg.on b1)
 have HU := Lib.hid hU
 have HV := Lib.hid hV
 have HB := Lib.hid b1
 have HL := Lib.hid hl
 have HC0 := Lib.hid (rsisame_any _ _ _ _ u.outer.c v.outer.c _ _ _ HF.out.outer.1 HG.out.outer.1 HL.out.outer)
 have a0 := hU.c0
 have a1 := hU.c1
 have a2 := hU.c2
 have d0 := hV.c0
 have d1 := hV.c1
 have d2 := hV.c2
 have HNm := Lib.hid (And.intro hf.name hg.name)
 have HIn := Lib.hid (And.intro hf.inner hg.inner)
 clear b0 b1 hsz hU hV hf hg hl
 obtain ⟨nm, inn, ⟨oa, on, oc⟩, ⟨pa, pn, pc⟩, ⟨ra, rn, rc⟩, ⟨la, ln, lc⟩, ⟨ca, cn, cc⟩, ⟨ia, i_n, ic⟩, ⟨na, nn, nc⟩, ⟨ta, tn, tc⟩, ⟨va, vn, vc⟩⟩ := u
 obtain ⟨nm2, inn2, ⟨oa2, on2, oc2⟩, ⟨pa2, pn2, pc2⟩, ⟨ra2, rn2, rc2⟩, ⟨la2, ln2, lc2⟩, ⟨ca2, cn2, cc2⟩, ⟨ia2, in2, ic2⟩, ⟨na2, nn2, nc2⟩, ⟨ta2, tn2, tc2⟩, ⟨va2, vn2, vc2⟩⟩ := v
 simp only at HNm HIn HC0
 by_cases hnm : nm = nm2
 rotate_left
 · have hd : (nm.toList == nm2.toList) = false := (Lib.bytes_beq_false_iff _ _).2 hnm
   have HN : Hid (¬ f = g) := Lib.hid (fun e => hnm (by rw [HNm.out.1, HNm.out.2, e]))
   go_enter Tryz.func48, Tryz.ntmps48
   go_wp2
   go_ret
   exact EqP.no HN.out HB.out
 subst hnm
 by_cases hin : inn = inn2
 rotate_left
 · have hd : (inn == inn2) = false := beq_eq_false_iff_ne.2 hin
   have HN : Hid (¬ f = g) := Lib.hid (fun e => hin (by rw [HIn.out.1, HIn.out.2, e]))
   clear hin
   go_enter Tryz.func48, Tryz.ntmps48
   go_wp2
   go_ret
   exact EqP.no HN.out HB.out
 subst hin
 go_enter Tryz.func48, Tryz.ntmps48
 go_wp2_with (go_at_call 78; go_must (refine HC0.out.mono ?_; rintro _ w1 ⟨rfl, hbl⟩; refine Hid.out ?_))
 obtain ⟨b, hb⟩ : ∃ b : Bool, decide (f.outer = g.outer) = b := ⟨_, rfl⟩
 have hb' : b = true ↔ f.outer = g.outer := by rw [← hb]; exact decide_eq_true_iff
 rw [hb]
 clear hb
 have hb := hb'
 clear hb'
 have HB1 := Lib.hid (HB.out.trans (hbl.mono HB.out.size))
 have HF1 := Lib.hid (HF.out.on hbl)
 have HG1 := Lib.hid (HG.out.on hbl)
 have HU1 := Lib.hid (HU.out.on hbl)
 have HV1 := Lib.hid (HV.out.on hbl)
 clear hbl
 cases b with
 | false =>
   have HN : Hid (¬ f = g) := Lib.hid (fun e => (by have := hb.2 (by rw [e]); cases this))
   clear hb
   refine Lib.hid ?_
   go_wp2
   go_ret
   exact EqP.no HN.out HB1.out
 | true =>
 have E0 := Lib.hid (hb.1 rfl)
 clear hb
 have HC1 := Lib.hid (rsisame_any _ _ _ _ pc pc2 _ _ _ HF1.out.params.1 HG1.out.params.1 HL.out.params)
 simp only at HC1
 have a3 := HU1.out.c3
 have d3 := HV1.out.c3
 clear HC0
 refine Lib.hid ?_
 go_wp2_with (go_at_call 78; go_must (refine HC1.out.mono ?_; rintro _ w2 ⟨rfl, hbl⟩; refine Hid.out ?_))
 obtain ⟨b, hb⟩ : ∃ b : Bool, decide (f.params = g.params) = b := ⟨_, rfl⟩
 have hb' : b = true ↔ f.params = g.params := by rw [← hb]; exact decide_eq_true_iff
 rw [hb]
 clear hb
 have hb := hb'
 clear hb'
 have HB2 := Lib.hid (HB1.out.trans (hbl.mono HB1.out.size))
 have HF2 := Lib.hid (HF1.out.on hbl)
 have HG2 := Lib.hid (HG1.out.on hbl)
 have HU2 := Lib.hid (HU1.out.on hbl)
 have HV2 := Lib.hid (HV1.out.on hbl)
 clear hbl
 cases b with
 | false =>
   have HN : Hid (¬ f = g) := Lib.hid (fun e => (by have := hb.2 (by rw [e]); cases this))
   clear hb
   refine Lib.hid ?_
   go_wp2
   go_ret
   exact EqP.no HN.out HB2.out
 | true =>
 have E1 := Lib.hid (hb.1 rfl)
 clear hb
 have HC2 := Lib.hid (rsisame_any _ _ _ _ rc rc2 _ _ _ HF2.out.results.1 HG2.out.results.1 HL.out.results)
 simp only at HC2
 have a4 := HU2.out.c4
 have d4 := HV2.out.c4
 clear HC1
 refine Lib.hid ?_
 go_wp2_with (go_at_call 78; go_must (refine HC2.out.mono ?_; rintro _ w3 ⟨rfl, hbl⟩; refine Hid.out ?_))
 obtain ⟨b, hb⟩ : ∃ b : Bool, decide (f.results = g.results) = b := ⟨_, rfl⟩
 have hb' : b = true ↔ f.results = g.results := by rw [← hb]; exact decide_eq_true_iff
 rw [hb]
 clear hb
 have hb := hb'
 clear hb'
 have HB3 := Lib.hid (HB2.out.trans (hbl.mono HB2.out.size))
 have HF3 := Lib.hid (HF2.out.on hbl)
 have HG3 := Lib.hid (HG2.out.on hbl)
 have HU3 := Lib.hid (HU2.out.on hbl)
 have HV3 := Lib.hid (HV2.out.on hbl)
 clear hbl
 cases b with
 | false =>
   have HN : Hid (¬ f = g) := Lib.hid (fun e => (by have := hb.2 (by rw [e]); cases this))
   clear hb
   refine Lib.hid ?_
   go_wp2
   go_ret
   exact EqP.no HN.out HB3.out
 | true =>
 have E2 := Lib.hid (hb.1 rfl)
 clear hb
 have HC3 := Lib.hid (rsisame_any _ _ _ _ lc lc2 _ _ _ HF3.out.locals.1 HG3.out.locals.1 HL.out.locals)
 simp only at HC3
 have a5 := HU3.out.c5
 have d5 := HV3.out.c5
 clear HC2
 refine Lib.hid ?_
 go_wp2_with (go_at_call 78; go_must (refine HC3.out.mono ?_; rintro _ w4 ⟨rfl, hbl⟩; refine Hid.out ?_))
 obtain ⟨b, hb⟩ : ∃ b : Bool, decide (f.locals = g.locals) = b := ⟨_, rfl⟩
 have hb' : b = true ↔ f.locals = g.locals := by rw [← hb]; exact decide_eq_true_iff
 rw [hb]
 clear hb
 have hb := hb'
 clear hb'
 have HB4 := Lib.hid (HB3.out.trans (hbl.mono HB3.out.size))
 have HF4 := Lib.hid (HF3.out.on hbl)
 have HG4 := Lib.hid (HG3.out.on hbl)
 have HU4 := Lib.hid (HU3.out.on hbl)
 have HV4 := Lib.hid (HV3.out.on hbl)
 clear hbl
 cases b with
 | false =>
   have HN : Hid (¬ f = g) := Lib.hid (fun e => (by have := hb.2 (by rw [e]); cases this))
   clear hb
   refine Lib.hid ?_
   go_wp2
   go_ret
   exact EqP.no HN.out HB4.out
 | true =>
 have E3 := Lib.hid (hb.1 rfl)
 clear hb
 have HC4 := Lib.hid (rcodeequal_any _ _ _ _ cc cc2 _ _ _ HF4.out.code.1 HG4.out.code.1 HL.out.code)
 simp only at HC4
 have a6 := HU4.out.c6
 have d6 := HV4.out.c6
 clear HC3
 refine Lib.hid ?_
 go_wp2_with (go_at_call 79; go_must (refine HC4.out.mono ?_; rintro _ w5 ⟨b, rfl, hb, hbl⟩; refine Hid.out ?_))
 have HB5 := Lib.hid (HB4.out.trans (hbl.mono HB4.out.size))
 have HF5 := Lib.hid (HF4.out.on hbl)
 have HG5 := Lib.hid (HG4.out.on hbl)
 have HU5 := Lib.hid (HU4.out.on hbl)
 have HV5 := Lib.hid (HV4.out.on hbl)
 clear hbl
 cases b with
 | false =>
   have HN : Hid (¬ f = g) := Lib.hid (fun e => (by have := hb.2 (by rw [e]); cases this))
   clear hb
   refine Lib.hid ?_
   go_wp2
   go_ret
   exact EqP.no HN.out HB5.out
 | true =>
 have E4 := Lib.hid (hb.1 rfl)
 clear hb
 have HC5 := Lib.hid (rintsequal_any _ _ _ _ ic ic2 _ _ _ HF5.out.lines.1 HG5.out.lines.1 HL.out.lines)
 simp only at HC5
 have a7 := HU5.out.c7
 have d7 := HV5.out.c7
 clear HC4
 refine Lib.hid ?_
 go_wp2_with (go_at_call 80; go_must (refine HC5.out.mono ?_; rintro _ w6 ⟨b, rfl, hb, hbl⟩; refine Hid.out ?_))
 have HB6 := Lib.hid (HB5.out.trans (hbl.mono HB5.out.size))
 have HF6 := Lib.hid (HF5.out.on hbl)
 have HG6 := Lib.hid (HG5.out.on hbl)
 have HU6 := Lib.hid (HU5.out.on hbl)
 have HV6 := Lib.hid (HV5.out.on hbl)
 clear hbl
 cases b with
 | false =>
   have HN : Hid (¬ f = g) := Lib.hid (fun e => (by have := hb.2 (by rw [e]); cases this))
   clear hb
   refine Lib.hid ?_
   go_wp2
   go_ret
   exact EqP.no HN.out HB6.out
 | true =>
 have E5 := Lib.hid (hb.1 rfl)
 clear hb
 have HC6 := Lib.hid (rnodesequal_any _ _ _ _ nc nc2 _ _ _ HF6.out.nodes.1 HG6.out.nodes.1 HL.out.nodes)
 simp only at HC6
 have a8 := HU6.out.c8
 have d8 := HV6.out.c8
 clear HC5
 refine Lib.hid ?_
 go_wp2_with (go_at_call 81; go_must (refine HC6.out.mono ?_; rintro _ w7 ⟨b, rfl, hb, hbl⟩; refine Hid.out ?_))
 have HB7 := Lib.hid (HB6.out.trans (hbl.mono HB6.out.size))
 have HF7 := Lib.hid (HF6.out.on hbl)
 have HG7 := Lib.hid (HG6.out.on hbl)
 have HU7 := Lib.hid (HU6.out.on hbl)
 have HV7 := Lib.hid (HV6.out.on hbl)
 clear hbl
 cases b with
 | false =>
   have HN : Hid (¬ f = g) := Lib.hid (fun e => (by have := hb.2 (by rw [e]); cases this))
   clear hb
   refine Lib.hid ?_
   go_wp2
   go_ret
   exact EqP.no HN.out HB7.out
 | true =>
 have E6 := Lib.hid (hb.1 rfl)
 clear hb
 have HC7 := Lib.hid (rintsequal_any _ _ _ _ tc tc2 _ _ _ HF7.out.at_.1 HG7.out.at_.1 HL.out.at_)
 simp only at HC7
 have a9 := HU7.out.c9
 have d9 := HV7.out.c9
 clear HC6
 refine Lib.hid ?_
 go_wp2_with (go_at_call 80; go_must (refine HC7.out.mono ?_; rintro _ w8 ⟨b, rfl, hb, hbl⟩; refine Hid.out ?_))
 have HB8 := Lib.hid (HB7.out.trans (hbl.mono HB7.out.size))
 have HF8 := Lib.hid (HF7.out.on hbl)
 have HG8 := Lib.hid (HG7.out.on hbl)
 have HU8 := Lib.hid (HU7.out.on hbl)
 have HV8 := Lib.hid (HV7.out.on hbl)
 clear hbl
 cases b with
 | false =>
   have HN : Hid (¬ f = g) := Lib.hid (fun e => (by have := hb.2 (by rw [e]); cases this))
   clear hb
   refine Lib.hid ?_
   go_wp2
   go_ret
   exact EqP.no HN.out HB8.out
 | true =>
 have E7 := Lib.hid (hb.1 rfl)
 clear hb
 have HC8 := Lib.hid (rsetsequal_any _ _ _ _ vc vc2 _ _ _ HF8.out.live.1 HG8.out.live.1 HL.out.live)
 simp only at HC8
 have a10 := HU8.out.c10
 have d10 := HV8.out.c10
 clear HC7
 refine Lib.hid ?_
 go_wp2_with (go_at_call 82; go_must (refine HC8.out.mono ?_; rintro _ w9 ⟨b, rfl, hb, hbl⟩; refine Hid.out ?_))
 have HB9 := Lib.hid (HB8.out.trans (hbl.mono HB8.out.size))
 have HF9 := Lib.hid (HF8.out.on hbl)
 have HG9 := Lib.hid (HG8.out.on hbl)
 have HU9 := Lib.hid (HU8.out.on hbl)
 have HV9 := Lib.hid (HV8.out.on hbl)
 clear hbl
 cases b with
 | false =>
   have HN : Hid (¬ f = g) := Lib.hid (fun e => (by have := hb.2 (by rw [e]); cases this))
   clear hb
   refine Lib.hid ?_
   go_wp2
   go_ret
   exact EqP.no HN.out HB9.out
 | true =>
 have E8 := Lib.hid (hb.1 rfl)
 clear hb
 have HE : Hid (f = g) := Lib.hid (by
   have e0 := HNm.out.1.symm.trans HNm.out.2
   have e1 := HIn.out.1.symm.trans HIn.out.2
   cases f
   cases g
   simp only at e0 e1
   have z0 := E0.out; have z1 := E1.out; have z2 := E2.out; have z3 := E3.out; have z4 := E4.out; have z5 := E5.out; have z6 := E6.out; have z7 := E7.out; have z8 := E8.out
   simp only at z0 z1 z2 z3 z4 z5 z6 z7 z8
   subst e0 e1 z0 z1 z2 z3 z4 z5 z6 z7 z8
   rfl)
 refine Lib.hid ?_
 go_wp2
 go_ret
 exact EqP.yes HE.out HB9.out
end Go.Proofs.YtmhmlhlplfkpaaaGreatDoor
