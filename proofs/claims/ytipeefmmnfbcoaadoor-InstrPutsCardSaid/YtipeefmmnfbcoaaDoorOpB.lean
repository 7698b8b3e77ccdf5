/-
  What ops.Operand, Fixed, Takes, Gives, Ends, Raises tell. Conditions: none.
-/
import Derived.Test.YtipeefmmnfbcoaaDoorOpA
import Derived.Test.YtipeefmmnfbcoaaDoorOpT
namespace Go.Proofs.YtipeefmmnfbcoaaDoor
open Go.RowKit

theorem field_operand (o : Int) (f : Bool) (t g : ByteArray) (e s : Bool) (w : World) : (Instr.field 84 (.agg #[.int .i64 o, .bool f, .string t, .string g, .bool e, .bool s]) 0).run Tryd.prog w = .ok (.int .i64 o) w := by kernel_rfl
theorem field_fixed (o : Int) (f : Bool) (t g : ByteArray) (e s : Bool) (w : World) : (Instr.field 84 (.agg #[.int .i64 o, .bool f, .string t, .string g, .bool e, .bool s]) 1).run Tryd.prog w = .ok (.bool f) w := by kernel_rfl
theorem field_takes (o : Int) (f : Bool) (t g : ByteArray) (e s : Bool) (w : World) : (Instr.field 84 (.agg #[.int .i64 o, .bool f, .string t, .string g, .bool e, .bool s]) 2).run Tryd.prog w = .ok (.string t) w := by kernel_rfl
theorem field_gives (o : Int) (f : Bool) (t g : ByteArray) (e s : Bool) (w : World) : (Instr.field 84 (.agg #[.int .i64 o, .bool f, .string t, .string g, .bool e, .bool s]) 3).run Tryd.prog w = .ok (.string g) w := by kernel_rfl
theorem field_ends (o : Int) (f : Bool) (t g : ByteArray) (e s : Bool) (w : World) : (Instr.field 84 (.agg #[.int .i64 o, .bool f, .string t, .string g, .bool e, .bool s]) 4).run Tryd.prog w = .ok (.bool e) w := by kernel_rfl
theorem field_raises (o : Int) (f : Bool) (t g : ByteArray) (e s : Bool) (w : World) : (Instr.field 84 (.agg #[.int .i64 o, .bool f, .string t, .string g, .bool e, .bool s]) 5).run Tryd.prog w = .ok (.bool s) w := by kernel_rfl

theorem operand_any (op : Int) (w : World) : Calls Tryd.prog 33 #[.int .i64 op] w fun e w' => e = .returned (.int .i64 (Op.row op).operand) ∧ Below w.heap.size w w' := by
  have H := look_any op w
  generalize Op.row op = r at H ⊢
  obtain ⟨o, f, t, g, e, s⟩ := r
  simp only [Op.cells] at H
  have hf := field_operand o f t g e s
  go_enter Tryd.func33, Tryd.ntmps33
  go_wp2_with (go_at_call 60; refine H.mono ?_; rintro _ w1 ⟨rfl, hB⟩)
  go_ret
  exact ⟨rfl, hB⟩
theorem below_self {w w1 w' : World} (h : Below w.heap.size w w1) (h1 : Below w1.heap.size w1 w') : Below w.heap.size w w' := h.trans (h1.mono h.size)

/-- The letters of a row are few, and of ASCII. -/
theorem letters_ok : Op.rows.all (fun r => decide (r.takes.size ≤ 2) && r.takes.data.toList.all (fun c => decide (c.toNat < 128)) && decide (r.gives.size ≤ 2) && r.gives.data.toList.all (fun c => decide (c.toNat < 128))) = true := by kernel_rfl
theorem ascii_of {t : ByteArray} (h : t.data.toList.all (fun c => decide (c.toNat < 128)) = true) (i : Nat) (hi : i < t.size) : (t[i]'hi).toNat < 128 := by
  have hi' : i < t.data.size := hi
  have hm : t.data[i] ∈ t.data.toList := Array.getElem_mem_toList hi'
  exact of_decide_eq_true (List.all_eq_true.1 h _ hm)
theorem row_letters (op : Int) : ((Op.row op).takes.size ≤ 2 ∧ (Op.row op).takes.data.toList.all (fun c => decide (c.toNat < 128)) = true) ∧ ((Op.row op).gives.size ≤ 2 ∧ (Op.row op).gives.data.toList.all (fun c => decide (c.toNat < 128)) = true) := by
  by_cases h : 0 ≤ op ∧ op < 35
  · have e : Op.row op = Op.rows.getD op.toNat Op.none_ := if_pos h
    have hlt : op.toNat < Op.rows.length := by show op.toNat < 35; omega
    have hm : Op.row op ∈ Op.rows := by
      rw [e, List.getD, List.getElem?_eq_getElem hlt, Option.getD_some]
      exact List.getElem_mem hlt
    have := List.all_eq_true.1 letters_ok _ hm
    simp only [Bool.and_eq_true, decide_eq_true_eq] at this
    exact ⟨⟨this.1.1.1, this.1.1.2⟩, this.1.2, this.2⟩
  · rw [Op.row_out h]
    exact ⟨⟨by decide, by decide⟩, by decide, by decide⟩

end Go.Proofs.YtipeefmmnfbcoaaDoor
