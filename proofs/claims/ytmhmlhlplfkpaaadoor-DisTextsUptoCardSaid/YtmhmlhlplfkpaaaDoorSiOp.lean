/-
 What sig.May, other, letter, typed and the document's May tell. Conditions: none.
-/
import Derived.WalkSmall
import Derived.Deep.WholeRow
import Derived.Test.YtmhmlhlplfkpaaaDoorAtA
set_option maxRecDepth 100000
namespace Go.Proofs.YtmhmlhlplfkpaaaDoor
open Go.RowKit
theorem ty_kinds (t : Int) : t = 1 ∨ t = 2 ∨ ((t == 1) = false ∧ (t == 2) = false ∧ Si.may t = false ∧ Si.letter t = 63) := by
 by_cases h1 : t = 1
 · exact .inl h1
 by_cases h2 : t = 2
 · exact .inr (.inl h2)
 have e1 : (t == 1) = false := beq_eq_false_iff_ne.2 h1
 have e2 : (t == 2) = false := beq_eq_false_iff_ne.2 h2
 exact .inr (.inr ⟨e1, e2, by simp [Si.may, h1, h2], by simp [Si.letter, h1, h2]⟩)
theorem siletter_any (t : Int) (w : World) : Calls Tryd.prog 26 #[.int .i64 t] w (SameP (.int .i32 (Si.letter t)) w) := by
 rcases ty_kinds t with rfl | rfl | ⟨e1, e2, _, el⟩
 · go_enter Tryd.func26, Tryd.ntmps26
   go_wp2
   go_ret
   exact ⟨rfl, rfl⟩
 · go_enter Tryd.func26, Tryd.ntmps26
   go_wp2
   go_ret
   exact ⟨rfl, rfl⟩
 · rw [el]
   go_enter Tryd.func26, Tryd.ntmps26
   go_wp2
   go_ret
   exact ⟨rfl, rfl⟩
end Go.Proofs.YtmhmlhlplfkpaaaDoor
namespace Go.Proofs.YtmhmlhlplfkpaaaDoor
open Go.RowKit
end Go.Proofs.YtmhmlhlplfkpaaaDoor
namespace Go.Proofs.YtmhmlhlplfkpaaaDoor
open Go.RowKit
theorem wpList_build_is {P : Program} {ops : Array Oper} {rest : List Oper} {o : Oper} {a : Act} {w : World} {Q : Exit → Act → World → Prop} (hg : o.guard = none) (t : TypeId) (parts : Array (Nat × Operand)) (ho : o.op = .build t parts)
   (cells : Array Value) (hc : P.built t (parts.map fun (i, x) => (i, a.eval x)).toList = some cells)
   (h : wpList P ops Q rest (a.put o.dst (.agg cells)) w) : wpList P ops Q (o :: rest) a w :=
 wpList_build hg t parts ho (by rw [hc]; rfl) (by rw [hc]; exact h)
theorem wpList_store_last {P : Program} {ops : Array Oper} {rest : List Oper} {o : Oper} {a : Act} {w : World} {Q : Exit → Act → World → Prop} (hg : o.guard = none) (t : TypeId) (x y : Operand) (ho : o.op = .store t x y)
   (c c' : Array Value) (hx : a.eval x = .pointer (some ⟨w.heap.size, 0, none⟩)) (hy : a.eval y = .agg c') (hi : (P.info? t).map (·.size) = some c'.size) (hs : c.size = c'.size) (h1 : c'.all (·.oneCell') = true)
   (h : wpList P ops Q rest (a.put o.dst undef) (w.alloc (.cells c' t))) : wpList P ops Q (o :: rest) a (w.alloc (.cells c t)) :=
 wpList_plain hg fun _ hK => wp_store_row t x y ho w.heap.size c' hx hy t c (heap_alloc_last w _) hi hs h1 (hK _ _ (by rw [World.setRow_alloc_new]; exact h))
theorem info_rows : (Tryd.prog.info? 96).map (fun i => (i.zero, i.size)) = some (some (.agg Op.zeros), 210) := by kernel_rfl
def rowZ : Obj := .cells #[.int .i64 0, .bool false, .string ⟨#[]⟩, .string ⟨#[]⟩, .bool false, .bool false] 83
theorem table_cell (k j : Nat) (hk : k < 35) (hj : j < 6) (w : World) (v : Value) (hv : (Op.cells (Op.row (k : Int)))[j]? = some v) :
   ((w.alloc rowZ).alloc (.cells Op.table 96)).cell? ⟨w.heap.size + 1, k * 6 + j, none⟩ = some v := by
 have h := heap_alloc_last (w.alloc rowZ) (.cells Op.table 96)
 rw [World.size_alloc] at h
 rw [cell_of_row _ _ _ _ _ _ h, Op.table_at k j hk hj, hv]
set_option maxHeartbeats 4000000 in
theorem look_in (k : Nat) (hk : k < 35) (w : World) : Calls Tryd.prog 57 #[.int .i64 (k : Int)] w fun e w' => e = .returned (.agg (Op.cells (Op.row (k : Int))).toArray) ∧ Below w.heap.size w w' := by
 have h1 : (k : Int) < 35 := by omega
 have d0 : decide ((k : Int) < 0) = false := decide_eq_false (by omega)
 have d1 : decide (35 ≤ (k : Int)) = false := decide_eq_false (by omega)
 have hz := (zero_of_info info_rows).1
 have hi : Hid ((Tryd.prog.info? 96).map (·.size) = some Op.table.size) := Lib.hid (by rw [Op.table_size]; exact (zero_of_info info_rows).2)
 have H := table_cell k
 generalize Op.row (k : Int) = r at H ⊢
 obtain ⟨o, f, t, g, e, s⟩ := r
 have c0 : (((w.alloc rowZ).alloc (.cells Op.table 96)).cell? ⟨w.heap.size + 1, k * 6, none⟩ = some (.int .i64 o)) := H 0 hk (by omega) w _ rfl
 have c1 := H 1 hk (by omega) w _ rfl
 have c2 := H 2 hk (by omega) w _ rfl
 have c3 := H 3 hk (by omega) w _ rfl
 have c4 := H 4 hk (by omega) w _ rfl
 have c5 := H 5 hk (by omega) w _ rfl
 simp only [rowZ] at c0 c1 c2 c3 c4 c5
 clear H
 go_enter Tryd.func57, Tryd.ntmps57
 go_wp2_with (first | refine wpList_build_is rfl 96 _ rfl Op.table (by kernel_rfl) ?_ | refine wpList_store_last rfl 96 _ _ rfl Op.zeros Op.table (by rw [World.size_alloc]; rfl) rfl hi.out (by kernel_rfl) (by kernel_rfl) ?_)
 exact bodyPost_ret (v := .agg #[.int .i64 o, .bool f, .string t, .string g, .bool e, .bool s]) (by simp [results, Tryd.results57, go_sem]) rfl ⟨rfl, ((Below.refl _ w).alloc (Nat.le_refl _) _).alloc (by simp) _⟩
theorem look_low (op : Int) (h : op < 0) (w : World) : Calls Tryd.prog 57 #[.int .i64 op] w fun e w' => e = .returned (.agg (Op.cells Op.none_).toArray) ∧ Below w.heap.size w w' := by
 have d0 : decide (op < 0) = true := decide_eq_true h
 go_enter Tryd.func57, Tryd.ntmps57
 go_wp2
 exact bodyPost_ret (v := .agg #[.int .i64 0, .bool false, .string ⟨#[]⟩, .string ⟨#[]⟩, .bool false, .bool false]) (by simp [results, Tryd.results57, go_sem]) rfl ⟨rfl, (Below.refl _ w).alloc (Nat.le_refl _) _⟩
theorem look_high (op : Int) (h : 35 ≤ op) (w : World) : Calls Tryd.prog 57 #[.int .i64 op] w fun e w' => e = .returned (.agg (Op.cells Op.none_).toArray) ∧ Below w.heap.size w w' := by
 have d0 : decide (op < 0) = false := decide_eq_false (by omega)
 have d1 : decide (35 ≤ op) = true := decide_eq_true h
 go_enter Tryd.func57, Tryd.ntmps57
 go_wp2
 exact bodyPost_ret (v := .agg #[.int .i64 0, .bool false, .string ⟨#[]⟩, .string ⟨#[]⟩, .bool false, .bool false]) (by simp [results, Tryd.results57, go_sem]) rfl ⟨rfl, (Below.refl _ w).alloc (Nat.le_refl _) _⟩
theorem look_any (op : Int) (w : World) : Calls Tryd.prog 57 #[.int .i64 op] w fun e w' => e = .returned (.agg (Op.cells (Op.row op)).toArray) ∧ Below w.heap.size w w' := by
 by_cases h0 : op < 0
 · rw [Op.row_out (by omega)]; exact look_low op h0 w
 by_cases h1 : 35 ≤ op
 · rw [Op.row_out (by omega)]; exact look_high op h1 w
 obtain ⟨k, rfl⟩ : ∃ k : Nat, op = (k : Int) := ⟨op.toNat, by omega⟩
 exact look_in k (by omega) w
end Go.Proofs.YtmhmlhlplfkpaaaDoor
namespace Go.Proofs.YtmhmlhlplfkpaaaDoor
open Go.RowKit
theorem field_operand (o : Int) (f : Bool) (t g : ByteArray) (e s : Bool) (w : World) : (Instr.field 83 (.agg #[.int .i64 o, .bool f, .string t, .string g, .bool e, .bool s]) 0).run Tryd.prog w = .ok (.int .i64 o) w := by kernel_rfl
theorem operand_any (op : Int) (w : World) : Calls Tryd.prog 43 #[.int .i64 op] w fun e w' => e = .returned (.int .i64 (Op.row op).operand) ∧ Below w.heap.size w w' := by
 have H := look_any op w
 generalize Op.row op = r at H ⊢
 obtain ⟨o, f, t, g, e, s⟩ := r
 simp only [Op.cells] at H
 have hf := field_operand o f t g e s
 go_enter Tryd.func43, Tryd.ntmps43
 go_wp2_with (go_at_call 57; refine H.mono ?_; rintro _ w1 ⟨rfl, hB⟩)
 go_ret
 exact ⟨rfl, hB⟩
end Go.Proofs.YtmhmlhlplfkpaaaDoor
namespace Go.Proofs.YtmhmlhlplfkpaaaDoor
open Go.RowKit
theorem retBool {a b : Bool} (h : a = b) : Ending.returned (.bool a) = .returned (.bool b) := by rw [h]
theorem bare_any (op a : Int) (w : World) : Calls Tryd.prog 56 #[.agg #[.int .i64 op, .int .i64 a]] w (BoolP (decide (a = 0)) w) := by
 have he : (op == op) = true := beq_self_eq_true op
 by_cases h : a = 0
 · subst h
   go_enter Tryd.func56, Tryd.ntmps56
   go_wp2
   go_ret
   exact ⟨rfl, (Below.refl _ _).alloc (Nat.le_refl _) _⟩
 · have hb : (a == 0) = false := beq_eq_false_iff_ne.2 h
   go_enter Tryd.func56, Tryd.ntmps56
   go_wp2
   go_ret
   exact ⟨retBool (decide_eq_false h).symm, (Below.refl _ _).alloc (Nat.le_refl _) _⟩
theorem inbelow_any (op a n : Int) (w : World) : Calls Tryd.prog 63 #[.agg #[.int .i64 op, .int .i64 a], .int .i64 n] w (BoolP (decide (0 ≤ a) && decide (a < n)) w) := by
 by_cases h : 0 ≤ a
 · have h1 : decide (0 ≤ a) = true := decide_eq_true h
   go_enter Tryd.func63, Tryd.ntmps63
   go_wp2
   all_goals
     go_ret
     exact ⟨retBool (by simp [*]), (Below.refl _ _).alloc (Nat.le_refl _) _⟩
 · have h1 : decide (0 ≤ a) = false := decide_eq_false h
   go_enter Tryd.func63, Tryd.ntmps63
   go_wp2
   all_goals
     go_ret
     exact ⟨retBool (by simp [*]), (Below.refl _ _).alloc (Nat.le_refl _) _⟩
theorem number_s (op a : Int) (w : World) : Calls Tryd.prog 50 #[.agg #[.int .i64 op, .int .i64 a]] w (BoolP true w) := by
 go_enter Tryd.func50, Tryd.ntmps50
 go_wp2
 go_ret
 exact ⟨rfl, (Below.refl _ _).alloc (Nat.le_refl _) _⟩
theorem slot_s (op a : Int) (w : World) : Calls Tryd.prog 51 #[.agg #[.int .i64 op, .int .i64 a]] w (BoolP (decide (0 ≤ a) && decide (a < 256)) w) := by
 go_enter Tryd.func51, Tryd.ntmps51
 go_wp2_with (go_at_call 63; refine (inbelow_any op a 256 _).mono ?_; rintro _ w1 ⟨rfl, b1⟩)
 go_ret
 exact ⟨rfl, below_self ((Below.refl _ _).alloc (Nat.le_refl _) _) b1⟩
theorem place_s (op a : Int) (w : World) : Calls Tryd.prog 52 #[.agg #[.int .i64 op, .int .i64 a]] w (BoolP (decide (0 ≤ a) && decide (a < 2000)) w) := by
 go_enter Tryd.func52, Tryd.ntmps52
 go_wp2_with (go_at_call 63; refine (inbelow_any op a 2000 _).mono ?_; rintro _ w1 ⟨rfl, b1⟩)
 go_ret
 exact ⟨rfl, below_self ((Below.refl _ _).alloc (Nat.le_refl _) _) b1⟩
theorem function_s (op a : Int) (w : World) : Calls Tryd.prog 53 #[.agg #[.int .i64 op, .int .i64 a]] w (BoolP (decide (0 ≤ a) && decide (a < 40)) w) := by
 go_enter Tryd.func53, Tryd.ntmps53
 go_wp2_with (go_at_call 63; refine (inbelow_any op a 40 _).mono ?_; rintro _ w1 ⟨rfl, b1⟩)
 go_ret
 exact ⟨rfl, below_self ((Below.refl _ _).alloc (Nat.le_refl _) _) b1⟩
theorem result_s (op a : Int) (w : World) : Calls Tryd.prog 54 #[.agg #[.int .i64 op, .int .i64 a]] w (BoolP (decide (0 ≤ a) && decide (a < 4)) w) := by
 go_enter Tryd.func54, Tryd.ntmps54
 go_wp2_with (go_at_call 63; refine (inbelow_any op a 4 _).mono ?_; rintro _ w1 ⟨rfl, b1⟩)
 go_ret
 exact ⟨rfl, below_self ((Below.refl _ _).alloc (Nat.le_refl _) _) b1⟩
theorem node_s (op a : Int) (w : World) : Calls Tryd.prog 55 #[.agg #[.int .i64 op, .int .i64 a]] w (BoolP (decide (0 ≤ a) && decide (a < 120)) w) := by
 go_enter Tryd.func55, Tryd.ntmps55
 go_wp2_with (go_at_call 63; refine (inbelow_any op a 120 _).mono ?_; rintro _ w1 ⟨rfl, b1⟩)
 go_ret
 exact ⟨rfl, below_self ((Below.refl _ _).alloc (Nat.le_refl _) _) b1⟩
def mayF (k : Int) : Nat := if k = 1 then 50 else if k = 2 then 51 else if k = 3 then 52 else if k = 4 then 53 else if k = 5 then 54 else if k = 6 then 55 else 56
def MayP (f : Nat) (w : World) (e : Ending) (w' : World) : Prop := e = .returned (.func (.func f) #[] #[]) ∧ w' = w
theorem inmay_any (k : Int) (h : 0 ≤ k ∧ k ≤ 6) (w : World) : Calls Tryd.prog 42 #[.int .i64 k] w (MayP (mayF k) w) := by
 obtain rfl | rfl | rfl | rfl | rfl | rfl | rfl : k = 0 ∨ k = 1 ∨ k = 2 ∨ k = 3 ∨ k = 4 ∨ k = 5 ∨ k = 6 := by omega
 all_goals
   go_enter Tryd.func42, Tryd.ntmps42
   go_wp2
   go_ret
   exact ⟨rfl, rfl⟩
theorem known_any (op : Int) (w : World) : Calls Tryd.prog 41 #[.int .i64 op] w fun e w' => e = .returned (.bool (In.known op)) ∧ w' = w := by
 by_cases h : 0 ≤ op
 · have h1 : decide (0 ≤ op) = true := decide_eq_true h
   go_enter Tryd.func41, Tryd.ntmps41
   go_wp2
   all_goals
     go_ret
     exact ⟨retBool (by simp [In.known, *]), rfl⟩
 · have h1 : decide (0 ≤ op) = false := decide_eq_false h
   go_enter Tryd.func41, Tryd.ntmps41
   go_wp2
   all_goals
     go_ret
     exact ⟨retBool (by simp [In.known, *]), rfl⟩
theorem numbered_any (op : Int) (w : World) : Calls Tryd.prog 30 #[.int .i64 op] w (BoolP (In.numbered op) w) := by
 have HO := operand_any op
 have hn : In.numbered op = ((Op.row op).operand != 0) := by
   unfold In.numbered In.kind
   rw [Bool.eq_iff_iff]
   simp
 rw [hn]
 clear hn
 generalize (Op.row op).operand = k at *
 go_enter Tryd.func30, Tryd.ntmps30
 go_wp2_with (go_at_call 43; refine (HO _).mono ?_; rintro _ w1 ⟨rfl, b1⟩)
 go_ret
 exact ⟨rfl, b1⟩
theorem asked_any (k : Int) (h : 0 ≤ k ∧ k ≤ 6) (op a : Int) (w : World) : Calls Tryd.prog (mayF k) #[.agg #[.int .i64 op, .int .i64 a]] w (BoolP (In.fits k a) w) := by
 obtain rfl | rfl | rfl | rfl | rfl | rfl | rfl : k = 0 ∨ k = 1 ∨ k = 2 ∨ k = 3 ∨ k = 4 ∨ k = 5 ∨ k = 6 := by omega
 · rw [show In.fits 0 a = decide (a = 0) by unfold In.fits In.bound; rw [Bool.eq_iff_iff]; simp; omega]
   exact bare_any op a w
 · exact number_s op a w
 · exact slot_s op a w
 · exact place_s op a w
 · exact function_s op a w
 · exact result_s op a w
 · exact node_s op a w
end Go.Proofs.YtmhmlhlplfkpaaaDoor
