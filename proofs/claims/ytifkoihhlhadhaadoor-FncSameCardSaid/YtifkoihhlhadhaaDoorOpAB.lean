/-
  What ops.look tells: the row of an instruction. Conditions: none.
  What ops.Operand, Fixed, Takes, Gives, Ends, Raises tell. Conditions: none.
-/
import Derived.Test.YtifkoihhlhadhaaDoorOpMath
import Derived.Deep.WholeRow
import Derived.Test.YtifkoihhlhadhaaDoorOpT
namespace Go.Proofs.YtifkoihhlhadhaaDoor
open Go.RowKit

theorem wpList_build_is {P : Program} {ops : Array Oper} {rest : List Oper} {o : Oper} {a : Act} {w : World} {Q : Exit → Act → World → Prop} (hg : o.guard = none) (t : TypeId) (parts : Array (Nat × Operand)) (ho : o.op = .build t parts)
    (cells : Array Value) (hc : P.built t (parts.map fun (i, x) => (i, a.eval x)).toList = some cells)
    (h : wpList P ops Q rest (a.put o.dst (.agg cells)) w) : wpList P ops Q (o :: rest) a w :=
  wpList_build hg t parts ho (by rw [hc]; rfl) (by rw [hc]; exact h)

theorem wpList_store_last {P : Program} {ops : Array Oper} {rest : List Oper} {o : Oper} {a : Act} {w : World} {Q : Exit → Act → World → Prop} (hg : o.guard = none) (t : TypeId) (x y : Operand) (ho : o.op = .store t x y)
    (c c' : Array Value) (hx : a.eval x = .pointer (some ⟨w.heap.size, 0, none⟩)) (hy : a.eval y = .agg c') (hi : (P.info? t).map (·.size) = some c'.size) (hs : c.size = c'.size) (h1 : c'.all (·.oneCell') = true)
    (h : wpList P ops Q rest (a.put o.dst undef) (w.alloc (.cells c' t))) : wpList P ops Q (o :: rest) a (w.alloc (.cells c t)) :=
  wpList_plain hg fun _ hK => wp_store_row t x y ho w.heap.size c' hx hy t c (heap_alloc_last w _) hi hs h1 (hK _ _ (by rw [World.setRow_alloc_new]; exact h))

set_option maxRecDepth 100000 in
theorem info_rows : (Tryd.prog.info? 82).map (fun i => (i.zero, i.size)) = some (some (.agg Op.zeros), 210) := by kernel_rfl

/-- A struct's zero, as it lies in a result's block. -/
def rowZ : Obj := .cells #[.int .i64 0, .bool false, .string ⟨#[]⟩, .string ⟨#[]⟩, .bool false, .bool false] 77

set_option maxRecDepth 100000 in
theorem table_cell (k j : Nat) (hk : k < 35) (hj : j < 6) (w : World) (v : Value) (hv : (Op.cells (Op.row (k : Int)))[j]? = some v) :
    ((w.alloc rowZ).alloc (.cells Op.table 82)).cell? ⟨w.heap.size + 1, k * 6 + j, none⟩ = some v := by
  have h := heap_alloc_last (w.alloc rowZ) (.cells Op.table 82)
  rw [World.size_alloc] at h
  rw [cell_of_row _ _ _ _ _ _ h, Op.table_at k j hk hj, hv]

set_option maxRecDepth 100000 in
set_option maxHeartbeats 4000000 in
theorem look_in (k : Nat) (hk : k < 35) (w : World) : Calls Tryd.prog 63 #[.int .i64 (k : Int)] w fun e w' => e = .returned (.agg (Op.cells (Op.row (k : Int))).toArray) ∧ Below w.heap.size w w' := by
  have h1 : (k : Int) < 35 := by omega
  have d0 : decide ((k : Int) < 0) = false := decide_eq_false (by omega)
  have d1 : decide (35 ≤ (k : Int)) = false := decide_eq_false (by omega)
  have hz := (zero_of_info info_rows).1
  have hi : Hid ((Tryd.prog.info? 82).map (·.size) = some Op.table.size) := Lib.hid (by rw [Op.table_size]; exact (zero_of_info info_rows).2)
  have H := table_cell k
  generalize Op.row (k : Int) = r at H ⊢
  obtain ⟨o, f, t, g, e, s⟩ := r
  have c0 : (((w.alloc rowZ).alloc (.cells Op.table 82)).cell? ⟨w.heap.size + 1, k * 6, none⟩ = some (.int .i64 o)) := H 0 hk (by omega) w _ rfl
  have c1 := H 1 hk (by omega) w _ rfl
  have c2 := H 2 hk (by omega) w _ rfl
  have c3 := H 3 hk (by omega) w _ rfl
  have c4 := H 4 hk (by omega) w _ rfl
  have c5 := H 5 hk (by omega) w _ rfl
  simp only [rowZ] at c0 c1 c2 c3 c4 c5
  clear H
  go_enter Tryd.func63, Tryd.ntmps63
  go_wp2_with (first | refine wpList_build_is rfl 82 _ rfl Op.table (by kernel_rfl) ?_ | refine wpList_store_last rfl 82 _ _ rfl Op.zeros Op.table (by rw [World.size_alloc]; rfl) rfl hi.out (by kernel_rfl) (by kernel_rfl) ?_)
  exact bodyPost_ret (v := .agg #[.int .i64 o, .bool f, .string t, .string g, .bool e, .bool s]) (by simp [results, Tryd.results63, go_sem]) rfl ⟨rfl, ((Below.refl _ w).alloc (Nat.le_refl _) _).alloc (by simp) _⟩

set_option maxRecDepth 100000 in
theorem look_low (op : Int) (h : op < 0) (w : World) : Calls Tryd.prog 63 #[.int .i64 op] w fun e w' => e = .returned (.agg (Op.cells Op.none_).toArray) ∧ Below w.heap.size w w' := by
  have d0 : decide (op < 0) = true := decide_eq_true h
  go_enter Tryd.func63, Tryd.ntmps63
  go_wp2
  exact bodyPost_ret (v := .agg #[.int .i64 0, .bool false, .string ⟨#[]⟩, .string ⟨#[]⟩, .bool false, .bool false]) (by simp [results, Tryd.results63, go_sem]) rfl ⟨rfl, (Below.refl _ w).alloc (Nat.le_refl _) _⟩
set_option maxRecDepth 100000 in
theorem look_high (op : Int) (h : 35 ≤ op) (w : World) : Calls Tryd.prog 63 #[.int .i64 op] w fun e w' => e = .returned (.agg (Op.cells Op.none_).toArray) ∧ Below w.heap.size w w' := by
  have d0 : decide (op < 0) = false := decide_eq_false (by omega)
  have d1 : decide (35 ≤ op) = true := decide_eq_true h
  go_enter Tryd.func63, Tryd.ntmps63
  go_wp2
  exact bodyPost_ret (v := .agg #[.int .i64 0, .bool false, .string ⟨#[]⟩, .string ⟨#[]⟩, .bool false, .bool false]) (by simp [results, Tryd.results63, go_sem]) rfl ⟨rfl, (Below.refl _ w).alloc (Nat.le_refl _) _⟩

set_option maxRecDepth 100000 in
/-- The row of an instruction; of what is none a row of zeros. -/
theorem look_any (op : Int) (w : World) : Calls Tryd.prog 63 #[.int .i64 op] w fun e w' => e = .returned (.agg (Op.cells (Op.row op)).toArray) ∧ Below w.heap.size w w' := by
  by_cases h0 : op < 0
  · rw [Op.row_out (by omega)]; exact look_low op h0 w
  by_cases h1 : 35 ≤ op
  · rw [Op.row_out (by omega)]; exact look_high op h1 w
  obtain ⟨k, rfl⟩ : ∃ k : Nat, op = (k : Int) := ⟨op.toNat, by omega⟩
  exact look_in k (by omega) w
end Go.Proofs.YtifkoihhlhadhaaDoor

namespace Go.Proofs.YtifkoihhlhadhaaDoor
open Go.RowKit

set_option maxRecDepth 100000 in
theorem field_operand (o : Int) (f : Bool) (t g : ByteArray) (e s : Bool) (w : World) : (Instr.field 77 (.agg #[.int .i64 o, .bool f, .string t, .string g, .bool e, .bool s]) 0).run Tryd.prog w = .ok (.int .i64 o) w := by kernel_rfl
set_option maxRecDepth 100000 in
theorem field_fixed (o : Int) (f : Bool) (t g : ByteArray) (e s : Bool) (w : World) : (Instr.field 77 (.agg #[.int .i64 o, .bool f, .string t, .string g, .bool e, .bool s]) 1).run Tryd.prog w = .ok (.bool f) w := by kernel_rfl
set_option maxRecDepth 100000 in
theorem field_takes (o : Int) (f : Bool) (t g : ByteArray) (e s : Bool) (w : World) : (Instr.field 77 (.agg #[.int .i64 o, .bool f, .string t, .string g, .bool e, .bool s]) 2).run Tryd.prog w = .ok (.string t) w := by kernel_rfl
set_option maxRecDepth 100000 in
theorem field_gives (o : Int) (f : Bool) (t g : ByteArray) (e s : Bool) (w : World) : (Instr.field 77 (.agg #[.int .i64 o, .bool f, .string t, .string g, .bool e, .bool s]) 3).run Tryd.prog w = .ok (.string g) w := by kernel_rfl
set_option maxRecDepth 100000 in
theorem field_ends (o : Int) (f : Bool) (t g : ByteArray) (e s : Bool) (w : World) : (Instr.field 77 (.agg #[.int .i64 o, .bool f, .string t, .string g, .bool e, .bool s]) 4).run Tryd.prog w = .ok (.bool e) w := by kernel_rfl
set_option maxRecDepth 100000 in
theorem field_raises (o : Int) (f : Bool) (t g : ByteArray) (e s : Bool) (w : World) : (Instr.field 77 (.agg #[.int .i64 o, .bool f, .string t, .string g, .bool e, .bool s]) 5).run Tryd.prog w = .ok (.bool s) w := by kernel_rfl

set_option maxRecDepth 100000 in
theorem operand_any (op : Int) (w : World) : Calls Tryd.prog 45 #[.int .i64 op] w fun e w' => e = .returned (.int .i64 (Op.row op).operand) ∧ Below w.heap.size w w' := by
  have H := look_any op w
  generalize Op.row op = r at H ⊢
  obtain ⟨o, f, t, g, e, s⟩ := r
  simp only [Op.cells] at H
  have hf := field_operand o f t g e s
  go_enter Tryd.func45, Tryd.ntmps45
  go_wp2_with (go_at_call 63; refine H.mono ?_; rintro _ w1 ⟨rfl, hB⟩)
  go_ret
  exact ⟨rfl, hB⟩
/-- The letters of a row are few, and of ASCII. -/
theorem letters_ok : Op.rows.all (fun r => decide (r.takes.size ≤ 2) && r.takes.data.toList.all (fun c => decide (c.toNat < 128)) && decide (r.gives.size ≤ 2) && r.gives.data.toList.all (fun c => decide (c.toNat < 128))) = true := by kernel_rfl
theorem ascii_of {t : ByteArray} (h : t.data.toList.all (fun c => decide (c.toNat < 128)) = true) (i : Nat) (hi : i < t.size) : (t[i]'hi).toNat < 128 := by
  have hi' : i < t.data.size := hi
  have hm : t.data[i] ∈ t.data.toList := Array.getElem_mem_toList hi'
  exact of_decide_eq_true (List.all_eq_true.1 h _ hm)
theorem row_letters (op : Int) : ((Op.row op).takes.size ≤ 2 ∧ (Op.row op).takes.data.toList.all (fun c => decide (c.toNat < 128)) = true) ∧ ((Op.row op).gives.size ≤ 2 ∧ (Op.row op).gives.data.toList.all (fun c => decide (c.toNat < 128)) = true) := by
  by_cases h : 0 ≤ op ∧ op < 35
  · have e : Op.row op = Op.rows.getD op.toNat Op.none_ := if_pos h
    have hlt : op.toNat < Op.rows.length := by show op.toNat < 35; omega
    have hm : Op.row op ∈ Op.rows := by
      rw [e, List.getD, List.getElem?_eq_getElem hlt, Option.getD_some]
      exact List.getElem_mem hlt
    have := List.all_eq_true.1 letters_ok _ hm
    simp only [Bool.and_eq_true, decide_eq_true_eq] at this
    exact ⟨⟨this.1.1.1, this.1.1.2⟩, this.1.2, this.2⟩
  · rw [Op.row_out h]
    exact ⟨⟨by decide, by decide⟩, by decide, by decide⟩

end Go.Proofs.YtifkoihhlhadhaaDoor
