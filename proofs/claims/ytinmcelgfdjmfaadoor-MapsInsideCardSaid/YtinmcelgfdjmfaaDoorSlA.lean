/-
  What slots.place, Has, With, Without, the document's Has, and math/bits.OnesCount64, TrailingZeros64 answer. Conditions: the words have 64 bits; TrailingZeros64: its table is laid.
-/
import Derived.Test.YtinmcelgfdjmfaaDoorBase
import Derived.Test.YtinmcelgfdjmfaaDoorSlPop
import Derived.WalkKit
import Derived.WalkSpells
import Derived.WalkLawsBesides
import Derived.Laws.Bits64b
import Derived.Lib.Hide
import Derived.Below
namespace Go.Proofs.YtinmcelgfdjmfaaDoor
open Go.RowKit

abbrev setV (s : Sl.Four) : Value := .agg #[.int .u64 (s.a : Int), .int .u64 (s.b : Int), .int .u64 (s.c : Int), .int .u64 (s.d : Int)]

set_option maxRecDepth 100000 in
set_option maxHeartbeats 400000 in
theorem place_no (n : Int) (w : World) (h : n < 0 ∨ 256 ≤ n) :
    Calls Tryd.prog 39 #[.int .i64 n] w fun e w' => e = .returned (.tuple #[.int .i64 0, .int .u64 0]) ∧ w = w' := by
  rcases h with h | h
  · go_enter Tryd.func39, Tryd.ntmps39
    go_wp2
    go_ret2
    exact ⟨rfl, rfl⟩
  · have h' : ¬ n < 0 := by omega
    go_enter Tryd.func39, Tryd.ntmps39
    go_wp2
    go_ret2
    exact ⟨rfl, rfl⟩

theorem place_ret {q r : Nat} {n : Int} (hr : r < 64) (h : ((64 * q + r : Nat) : Int) = n) :
    Ending.returned (.tuple #[.int .i64 (n / 64), .int .u64 (IntKind.u64.wrap (2 ^ (n % 64).toNat))]) = .returned (.tuple #[.int .i64 (q : Int), .int .u64 ((2 ^ r : Nat) : Int)]) := by
  subst h
  have h1 : ((64 * q + r : Nat) : Int) / 64 = q := by omega
  have h2 : (((64 * q + r : Nat) : Int) % 64).toNat = r := by omega
  have h3 := Sl.bit_lt hr
  rw [h1, h2, IntKind.wrap_u64, show ((2 : Int) ^ r) = ((2 ^ r : Nat) : Int) by simp]
  congr 3
  generalize 2 ^ r = k at *
  simp
  omega

set_option maxRecDepth 100000 in
set_option maxHeartbeats 400000 in
theorem place_yes (q r : Nat) (w : World) (hq : q < 4) (hr : r < 64) :
    Calls Tryd.prog 39 #[.int .i64 ((64 * q + r : Nat) : Int)] w fun e w' => e = .returned (.tuple #[.int .i64 (q : Int), .int .u64 ((2 ^ r : Nat) : Int)]) ∧ w.drew = w' := by
  generalize hn : ((64 * q + r : Nat) : Int) = n
  have h0 : 0 ≤ n := by omega
  have h1 : n < 256 := by omega
  have hm : 0 ≤ n % 64 := by omega
  have HN := Lib.hid hn
  clear hn
  go_enter Tryd.func39, Tryd.ntmps39
  go_wp2
  go_region
  go_wp2
  go_ret2
  exact ⟨place_ret hr HN.out, rfl⟩

theorem pop1 (x : Nat) (h : x < 18446744073709551616) : IntKind.u64.wrap (bits .and .u64 ((x : Int) / 2) 6148914691236517205 + bits .and .u64 (x : Int) 6148914691236517205) = (Sl.one 8 x : Int) ∧ Sl.one 8 x < 18446744073709551616 := by
  have e1 : ((x : Int) / 2) = ((x / 2 : Nat) : Int) := by omega
  have b1 : x / 2 &&& 6148914691236517205 ≤ 6148914691236517205 := Nat.and_le_right
  have b2 : x &&& 6148914691236517205 ≤ 6148914691236517205 := Nat.and_le_right
  have a1 := u64_and_nat (x / 2) 6148914691236517205 (by omega) (by omega)
  have a2 := u64_and_nat x 6148914691236517205 h (by omega)
  unfold Sl.one
  rw [Sl.msk85]
  constructor
  · rw [e1]
    refine (congrArg IntKind.u64.wrap (congr (congrArg HAdd.hAdd a1) a2)).trans ?_
    rw [IntKind.wrap_u64]
    omega
  · omega
theorem pop2 (x : Nat) (h : x < 18446744073709551616) : IntKind.u64.wrap (bits .and .u64 ((x : Int) / 4) 3689348814741910323 + bits .and .u64 (x : Int) 3689348814741910323) = (Sl.two 8 x : Int) ∧ Sl.two 8 x ≤ 7378697629483820646 := by
  have e1 : ((x : Int) / 4) = ((x / 4 : Nat) : Int) := by omega
  have b1 : x / 4 &&& 3689348814741910323 ≤ 3689348814741910323 := Nat.and_le_right
  have b2 : x &&& 3689348814741910323 ≤ 3689348814741910323 := Nat.and_le_right
  have a1 := u64_and_nat (x / 4) 3689348814741910323 (by omega) (by omega)
  have a2 := u64_and_nat x 3689348814741910323 h (by omega)
  unfold Sl.two
  rw [Sl.msk51]
  constructor
  · rw [e1]
    refine (congrArg IntKind.u64.wrap (congr (congrArg HAdd.hAdd a1) a2)).trans ?_
    rw [IntKind.wrap_u64]
    omega
  · omega
theorem pop3 (x : Nat) (h : x ≤ 7378697629483820646) : bits .and .u64 (IntKind.u64.wrap ((x : Int) / 16 + (x : Int))) 1085102592571150095 = (Sl.thr 8 x : Int) ∧ Sl.thr 8 x ≤ 1085102592571150095 := by
  have e1 : IntKind.u64.wrap ((x : Int) / 16 + (x : Int)) = ((x / 16 + x : Nat) : Int) := by rw [IntKind.wrap_u64]; omega
  have a1 := u64_and_nat (x / 16 + x) 1085102592571150095 (by omega) (by omega)
  unfold Sl.thr
  rw [Sl.msk15, e1]
  exact ⟨a1, Nat.and_le_right⟩
theorem pop4 (x y : Nat) (e : y = x + x / 256) (h : y < 18446744073709551616) : IntKind.u64.wrap ((x : Int) + (x : Int) / 256) = (y : Int) := by rw [IntKind.wrap_u64]; omega
theorem pop5 (x y : Nat) (e : y = x + x / 65536) (h : y < 18446744073709551616) : IntKind.u64.wrap ((x : Int) + (x : Int) / 65536) = (y : Int) := by rw [IntKind.wrap_u64]; omega
theorem pop6 (x y : Nat) (e : y = x + x / 4294967296) (h : y < 18446744073709551616) : IntKind.u64.wrap ((x : Int) + (x : Int) / 4294967296) = (y : Int) := by rw [IntKind.wrap_u64]; omega
theorem pop7 (x : Nat) (h : x < 9223372036854775808) : bits .and .i64 (wrap64 (x : Int)) 127 = ((x % 128 : Nat) : Int) := by
  have e : wrap64 (x : Int) = (x : Int) := by unfold wrap64; omega
  rw [e]
  have := bits_mask .i64 63 (by decide) (fun n h0 h1 => by rw [IntKind.wrap_i64]; omega) 7 (by decide) (x : Int) (by omega) (by omega)
  refine (Eq.trans (by rfl) this).trans ?_
  omega

end Go.Proofs.YtinmcelgfdjmfaaDoor
