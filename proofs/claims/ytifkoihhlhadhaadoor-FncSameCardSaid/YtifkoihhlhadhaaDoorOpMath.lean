/-
  The table of instructions: what each is called, takes and gives. Conditions: none.
-/
import Derived.Test.YtifkoihhlhadhaaDoorBase
namespace Go.Proofs.YtifkoihhlhadhaaDoor
open Go.RowKit

namespace Op
/-- What the table has of an instruction. -/
structure Row where
  operand : Int
  fixed : Bool
  takes : ByteArray
  gives : ByteArray
  ends : Bool
  raises : Bool
def R (o : Int) (f : Bool) (t g : List UInt8) (e r : Bool) : Row := ⟨o, f, ⟨t.toArray⟩, ⟨g.toArray⟩, e, r⟩
/-- What is no instruction. -/
def none_ : Row := R 0 false [] [] false false
def rows : List Row := [
  R 0 true [] [] false false,
  R 1 true [] [105] false false,
  R 2 false [] [] false false,
  R 2 false [] [] false false,
  R 0 false [] [] false false,
  R 0 false [] [] false false,
  R 0 true [105, 105] [105] false false,
  R 0 true [105, 105] [105] false false,
  R 0 true [105, 105] [105] false false,
  R 0 true [105, 105] [105] false true,
  R 0 true [105, 105] [105] false true,
  R 0 true [105] [105] false false,
  R 0 true [105, 105] [105] false false,
  R 0 true [105, 105] [105] false false,
  R 0 true [105] [105] false false,
  R 0 true [105, 105] [99] false false,
  R 0 true [99, 99] [99] false false,
  R 0 true [99, 99] [99] false false,
  R 0 true [99, 99] [99] false false,
  R 0 true [99] [105] false false,
  R 0 true [99] [105] false false,
  R 3 true [] [] true false,
  R 3 true [105] [] false false,
  R 4 false [] [] false true,
  R 4 false [] [] false false,
  R 0 true [] [] true true,
  R 0 true [105] [] true true,
  R 0 true [] [105, 105] false false,
  R 5 false [] [] false false,
  R 5 false [] [] false false,
  R 0 true [105] [] false false,
  R 0 true [] [] false false,
  R 0 true [] [105] false false,
  R 6 true [] [] false true,
  R 6 true [] [] true true]
/-- The row of an instruction. -/
def row (op : Int) : Row := if 0 ≤ op ∧ op < 35 then rows.getD op.toNat none_ else none_
/-- A row's cells. -/
def cells (r : Row) : List Value := [.int .i64 r.operand, .bool r.fixed, .string r.takes, .string r.gives, .bool r.ends, .bool r.raises]
def table : Array Value := (rows.flatMap cells).toArray
def zeros : Array Value := ((List.replicate 35 none_).flatMap cells).toArray

theorem flat_at (j : Nat) (hj : j < 6) : ∀ (l : List Row) (k : Nat), k < l.length → (l.flatMap cells)[k * 6 + j]? = (cells (l.getD k none_))[j]?
  | [], k, h => absurd h (by simp)
  | r :: l, 0, _ => by
    have h6 : (cells r).length = 6 := rfl
    simp only [List.flatMap_cons, Nat.zero_mul, Nat.zero_add, List.getD_cons_zero]
    rw [List.getElem?_append_left (by omega)]
  | r :: l, k + 1, h => by
    have h6 : (cells r).length = 6 := rfl
    simp only [List.flatMap_cons, List.getD_cons_succ]
    rw [List.getElem?_append_right (by omega), ← flat_at j hj l k (by simpa using h)]
    congr 1
    omega
theorem table_at (k j : Nat) (hk : k < 35) (hj : j < 6) : table[k * 6 + j]? = (cells (row (k : Int)))[j]? := by
  have h : row (k : Int) = rows.getD k none_ := by
    unfold row
    rw [if_pos (by omega)]
    simp
  rw [h, ← flat_at j hj rows k hk]
  simp [table]
theorem table_size : table.size = 210 := by kernel_rfl
theorem row_out {op : Int} (h : ¬ (0 ≤ op ∧ op < 35)) : row op = none_ := if_neg h
end Op
end Go.Proofs.YtifkoihhlhadhaaDoor
