/-
  What uvar.Size, Fold, Unfold and the document's Fold, Unfold answer. Conditions: none (each number of its type).
-/
import Derived.Test.YtinmcelgfdjmfaaDoorShelf
import Derived.Test.YtinmcelgfdjmfaaDoorBase
import Derived.Test.YtinmcelgfdjmfaaDoorMath
import Derived.Test.YtinmcelgfdjmfaaDoorBits
import Derived.WalkKit
import Derived.WalkSpells
import Derived.WalkLawsBesides
import Derived.Lib.Hide
namespace Go.Proofs.YtinmcelgfdjmfaaDoor
open Go.RowKit

set_option maxRecDepth 100000 in
set_option maxHeartbeats 400000 in
theorem size_any (n : Nat) (w : World) (h : n < 18446744073709551616) :
    Calls Tryd.prog 37 #[.int .u64 (n : Int)] w fun e w' => e = .returned (.int .i64 ((Uv.put n).length : Int)) ∧ w = w' := by
  have hp := Uv.put_len_bits n h
  have hb : Lib.bitLen n ≤ 64 := Lib.bitLen_le n 64 (by omega) h
  have HP := Lib.hid hp
  clear hp
  go_enter Tryd.func37, Tryd.ntmps37
  go_wp2_with (go_at_call 42; refine (Any.bits_Len64 Tryd.lays129 _ _ (by omega) (by omega)).mono ?_; rintro e w' ⟨rfl, rfl⟩)
  go_ret
  refine ⟨ret_int ?_, rfl⟩
  have := HP.out
  omega

theorem fold_neg {n : Int} (h1 : -9223372036854775808 ≤ n) (h : n < 0) : bits .xor .u64 IntKind.u64.max (IntKind.u64.wrap (IntKind.u64.wrap n * 2)) = (Uv.fold n : Int) := by
  have e : IntKind.u64.wrap (IntKind.u64.wrap n * 2) = ((18446744073709551616 + 2 * n).toNat : Int) := by rw [IntKind.wrap_u64, IntKind.wrap_u64]; omega
  rw [e, not_u64 _ (by omega)]
  unfold Uv.fold
  rw [if_pos h]
  omega
theorem fold_pos {n : Int} (h2 : n ≤ 9223372036854775807) (h : 0 ≤ n) : IntKind.u64.wrap (IntKind.u64.wrap n * 2) = (Uv.fold n : Int) := by
  rw [IntKind.wrap_u64, IntKind.wrap_u64]
  unfold Uv.fold
  rw [if_neg (by omega)]
  omega

theorem unfold_odd {u : Nat} (h : u < 18446744073709551616) (hb : (bits .and .u64 (u : Int) 1 == 1) = true) : bits .xor .i64 (-1) ((u : Int) / 2) = Uv.unfold_ u := by
  rw [and_one_u64 _ (by omega) (by omega), beq_iff_eq] at hb
  have e : (u : Int) / 2 = ((u / 2 : Nat) : Int) := by omega
  rw [e, not_i64 _ (by omega)]
  unfold Uv.unfold_
  rw [if_pos (by omega)]
theorem unfold_even {u : Nat} (h : u < 18446744073709551616) (hb : (bits .and .u64 (u : Int) 1 == 1) = false) : (u : Int) / 2 = Uv.unfold_ u := by
  rw [and_one_u64 _ (by omega) (by omega), beq_eq_false_iff_ne] at hb
  unfold Uv.unfold_
  rw [if_neg (by omega)]
  omega

end Go.Proofs.YtinmcelgfdjmfaaDoor
