/-
  Small facts on bits: complements, the byte with its highest bit set, a number joined to a shifted one. Conditions: as each states.
-/
import Derived.Laws.BitsAllLaws
import Derived.Laws.BitsLemmas
import Derived.Laws.Bits64
namespace Go.Proofs.YtinmcelgfdjmfaaDoor

theorem allOnes_xor (y : BitVec 64) : (BitVec.allOnes 64 ^^^ y).toNat = 18446744073709551615 - y.toNat := by
  rw [BitVec.allOnes_xor, BitVec.toNat_not]

theorem not_u64 (x : Nat) (h : x < 18446744073709551616) : bits .xor .u64 IntKind.u64.max (x : Int) = 18446744073709551615 - (x : Int) := by
  have e : BitVec.ofInt 64 IntKind.u64.max = BitVec.allOnes 64 := by decide
  show IntKind.u64.wrap ((BitVec.ofInt 64 IntKind.u64.max ^^^ BitVec.ofInt 64 (x : Int)).toNat : Int) = _
  rw [e, allOnes_xor, BitVec.ofInt_natCast, BitVec.toNat_ofNat, IntKind.wrap_u64]
  omega

theorem not_i64 (x : Nat) (h : x < 9223372036854775808) : bits .xor .i64 (-1) (x : Int) = -(x : Int) - 1 := by
  have e : BitVec.ofInt 64 (-1) = BitVec.allOnes 64 := by decide
  show IntKind.i64.wrap ((BitVec.ofInt 64 (-1) ^^^ BitVec.ofInt 64 (x : Int)).toNat : Int) = _
  rw [e, allOnes_xor, BitVec.ofInt_natCast, BitVec.toNat_ofNat, IntKind.wrap_i64]
  omega

theorem or_128 : ∀ c : Fin 256, c.val ||| 128 = c.val % 128 + 128 := by decide +kernel

theorem u8_top (n : Nat) : bits .or .u8 ((n : Int) % 256) 128 = ((n % 128 + 128 : Nat) : Int) := by
  have h := u8_or_nat (n % 256) 128 (by omega) (by omega)
  have k := or_128 ⟨n % 256, by omega⟩
  simp only at k
  rw [k] at h
  have e : ((n : Int) % 256) = ((n % 256 : Nat) : Int) := by omega
  rw [e]
  refine h.trans ?_
  congr 1
  omega

theorem pow_128 (i : Nat) : (128 : Nat) ^ i = 2 ^ (7 * i) := by rw [Nat.pow_mul]

theorem or_shift (a c i : Nat) (h : a < 128 ^ i) : a ||| c * 128 ^ i = a + c * 128 ^ i := by
  rw [Nat.or_comm, pow_128] at *
  rw [nat_join (7 * i) (c * 2 ^ (7 * i)) a (by simp) h, Nat.add_comm]

theorem u64_or_shift (a c i : Nat) (h : a < 128 ^ i) (hs : a + c * 128 ^ i < 18446744073709551616) : bits .or .u64 (a : Int) ((c * 128 ^ i : Nat) : Int) = ((a + c * 128 ^ i : Nat) : Int) := by
  rw [u64_or_nat _ _ (by omega) (by omega), or_shift a c i h]

end Go.Proofs.YtinmcelgfdjmfaaDoor
