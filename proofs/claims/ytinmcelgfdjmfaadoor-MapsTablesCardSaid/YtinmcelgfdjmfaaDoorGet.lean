/-
  What uvar.Get, GetInt and the document's Get, GetInt answer for any bytes; the world is as it was. Conditions: none but that the slice's bytes can be read.
-/
import Derived.Test.YtinmcelgfdjmfaaDoorPut
import Derived.OwnWalk
namespace Go.Proofs.YtinmcelgfdjmfaaDoor
open Go.RowKit

/-- The slice 'A, n' reads as the bytes l, below block B. -/
def BytesAt (w : World) (B : Nat) (A : Option Addr) (n : Nat) (l : List Nat) : Prop :=
  l.length = n ∧ (∀ c ∈ l, c < 256) ∧ (0 < n → ∃ b off, A = some ⟨b, off, none⟩ ∧ b < B ∧ ∀ i, i < n → w.cell? ⟨b, off + i, none⟩ = some (.int .u8 ((l.getD i 0 : Nat) : Int)))

theorem getF_drop {l : List Nat} {i : Nat} (h : i < l.length) (a : Nat) : Uv.getF (l.drop i) i a = 
    if i = 9 ∧ 1 < l.getD i 0 then (0, 0, 5)
    else if 128 ≤ l.getD i 0 then Uv.getF (l.drop (i + 1)) (i + 1) (a + (l.getD i 0 - 128) * 128 ^ i)
    else if l.getD i 0 = 0 ∧ 0 < i then (0, 0, 4)
    else (a + l.getD i 0 * 128 ^ i, i + 1, 0) := by
  rw [List.drop_eq_getElem_cons h]
  have e : l.getD i 0 = l[i] := by simp [List.getD, h]
  rw [e]
  rfl

theorem pow_succ_le {i : Nat} (h : i < 9) : (128 : Nat) ^ (i + 1) ≤ 9223372036854775808 := by
  have h3 : (128 : Nat) ^ (i + 1) ≤ 128 ^ 9 := Nat.pow_le_pow_right (by omega) (by omega)
  rwa [Uv.pow_nine] at h3

theorem more_lt {a c i : Nat} (hc : c < 128) (ha : a < 128 ^ i) : a + c * 128 ^ i < 128 ^ (i + 1) := by
  have : (c + 1) * 128 ^ i ≤ 128 * 128 ^ i := Nat.mul_le_mul_right _ (by omega)
  rw [Nat.pow_succ, Nat.mul_comm (128 ^ i)]
  rw [Nat.add_mul, Nat.one_mul] at this
  omega

theorem last_lt {a c i : Nat} (hi : i ≤ 9) (hc : c < 128) (h9 : i = 9 → c ≤ 1) (ha : a < 128 ^ i) : a + c * 128 ^ i < 18446744073709551616 := by
  by_cases h : i = 9
  · have := h9 h
    subst h
    rw [Uv.pow_nine] at ha ⊢
    omega
  · have := more_lt hc ha
    have := pow_succ_le (i := i) (by omega)
    omega

theorem or_join {a c i : Nat} {x : Int} (hx : x = (c : Int)) (ha : a < 128 ^ i) (hs : a + c * 128 ^ i < 18446744073709551616) :
    bits .or .u64 (a : Int) (IntKind.u64.wrap (x * 2 ^ (7 * i))) = ((a + c * 128 ^ i : Nat) : Int) := by
  subst hx
  have e : (c : Int) * 2 ^ (7 * i) = ((c * 128 ^ i : Nat) : Int) := by rw [pow_128]; simp
  rw [e, IntKind.wrap_u64, ← u64_or_shift a c i ha hs]
  congr 1
  omega

/-- A round's head: i bytes are gone through, a is their number. -/
def GetRel (l : List Nat) (x y z k : Value) : Prop :=
  ∃ i a : Nat, x = .int .u64 (a : Int) ∧ y = .int .i64 0 ∧ z = .int .i64 3 ∧ k = .int .i64 (i : Int) ∧ i ≤ l.length ∧ i ≤ 9 ∧ a < 128 ^ i ∧ Uv.getF (l.drop i) i a = Uv.get l

def Triple (k : IntKind) (x y z : Int) : Value := .tuple #[.int k x, .int .i64 y, .int .i64 z]

theorem triple_eq {k : IntKind} {x x' y y' z z' : Int} (h1 : x = x') (h2 : y = y') (h3 : z = z') : Ending.returned (.tuple #[.int k x, .int .i64 y, .int .i64 z]) = .returned (Triple k x' y' z') := by
  subst h1 h2 h3
  rfl

theorem get_end {a c i : Nat} {l : List Nat} (ha : a < 128 ^ i) (hs : a + c * 128 ^ i < 18446744073709551616) (hr : (a + c * 128 ^ i, i + 1, 0) = Uv.get l) :
    Ending.returned (.tuple #[.int .u64 (bits .or .u64 (a : Int) (IntKind.u64.wrap ((c : Int) * 2 ^ (7 * i)))), .int .i64 ((i : Int) + 1), .int .i64 0]) = .returned (Triple .u64 (Uv.get l).1 (Uv.get l).2.1 (Uv.get l).2.2) := by
  rw [← hr]
  exact triple_eq (or_join rfl ha hs) (by simp) rfl

theorem get_end9 {a c i : Nat} {l : List Nat} (h : (i : Int) = 9) (ha : a < 128 ^ i) (hs : a + c * 128 ^ i < 18446744073709551616) (hr : (a + c * 128 ^ i, i + 1, 0) = Uv.get l) :
    Ending.returned (.tuple #[.int .u64 (bits .or .u64 (a : Int) ((c : Int) * 9223372036854775808)), .int .i64 10, .int .i64 0]) = .returned (Triple .u64 (Uv.get l).1 (Uv.get l).2.1 (Uv.get l).2.2) := by
  obtain rfl : i = 9 := by omega
  rw [← get_end ha hs hr]
  rw [Uv.pow_nine] at hs
  have e : IntKind.u64.wrap ((c : Int) * 2 ^ (7 * 9)) = (c : Int) * 9223372036854775808 := by
    rw [show (2 : Int) ^ (7 * 9) = 9223372036854775808 from rfl, IntKind.wrap_u64]
    omega
  rw [e]
  rfl

theorem get_end0 {a c i : Nat} {l : List Nat} (h : c = 0) (ha : a < 128 ^ i) (hs : a + c * 128 ^ i < 18446744073709551616) (hr : (a + c * 128 ^ i, i + 1, 0) = Uv.get l) :
    Ending.returned (.tuple #[.int .u64 (bits .or .u64 (a : Int) 0), .int .i64 ((i : Int) + 1), .int .i64 0]) = .returned (Triple .u64 (Uv.get l).1 (Uv.get l).2.1 (Uv.get l).2.2) := by
  subst h
  rw [← get_end ha hs hr]
  have e : IntKind.u64.wrap (((0 : Nat) : Int) * 2 ^ (7 * i)) = 0 := by
    rw [IntKind.wrap_u64, Int.natCast_zero, Int.zero_mul]
    rfl
  rw [e]

end Go.Proofs.YtinmcelgfdjmfaaDoor
