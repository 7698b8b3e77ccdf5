/-
 Sets of slots as four words, of no program: what is in them, one slot more, one less, either of two, the first alone, the slots one by one, rising. Conditions: as each states.
-/
import Derived.Lib.TrailingZeros
import Derived.Lib.BitFns
import Derived.Laws.BitsAllLaws
namespace Go.Proofs.YtmhmlhlplfkpaaaDoor.Sl
structure Four where
 a : Nat
 b : Nat
 c : Nat
 d : Nat
def Four.ok (s : Four) : Prop := s.a < 18446744073709551616 ∧ s.b < 18446744073709551616 ∧ s.c < 18446744073709551616 ∧ s.d < 18446744073709551616
def Four.word (s : Four) : Nat → Nat
 | 0 => s.a
 | 1 => s.b
 | 2 => s.c
 | _ => s.d
def Four.put (s : Four) (q x : Nat) : Four :=
 match q with
 | 0 => ⟨x, s.b, s.c, s.d⟩
 | 1 => ⟨s.a, x, s.c, s.d⟩
 | 2 => ⟨s.a, s.b, x, s.d⟩
 | _ => ⟨s.a, s.b, s.c, x⟩
def no : Four := ⟨0, 0, 0, 0⟩
def Four.has (s : Four) (n : Nat) : Bool := (s.word (n / 64)).testBit (n % 64)
def Four.or (s t : Four) : Four := ⟨s.a ||| t.a, s.b ||| t.b, s.c ||| t.c, s.d ||| t.d⟩
def cut (x y : Nat) : Nat := x &&& (18446744073709551615 - y)
def Four.sub (s t : Four) : Four := ⟨cut s.a t.a, cut s.b t.b, cut s.c t.c, cut s.d t.d⟩
def Four.with_ (s : Four) (n : Int) : Four := if 0 ≤ n ∧ n < 256 then s.put (n.toNat / 64) (s.word (n.toNat / 64) ||| 2 ^ (n.toNat % 64)) else s
def of (l : List Int) : Four := l.foldl Four.with_ no
def span (lo : Nat) : Nat → Four
 | 0 => no
 | k + 1 => (span lo k).with_ ((lo + k : Nat) : Int)
def range (f t : Int) : Four := span (max f 0).toNat (min t 256 - max f 0).toNat
def Four.inside (s t : Four) : Bool := decide ((s.sub t).a = 0 ∧ (s.sub t).b = 0 ∧ (s.sub t).c = 0 ∧ (s.sub t).d = 0)
end Go.Proofs.YtmhmlhlplfkpaaaDoor.Sl
namespace Go.Proofs.YtmhmlhlplfkpaaaDoor.Sl
def places (x : Nat) : List Nat := (List.range 64).filter x.testBit
def at_ (q x : Nat) : List Int := (places x).map fun j => ((64 * q + j : Nat) : Int)
def Four.list (s : Four) : List Int := at_ 0 s.a ++ at_ 1 s.b ++ at_ 2 s.c ++ at_ 3 s.d
def Four.below (s : Four) (n : Int) : Bool := s.list.all fun m => decide (m < n)
end Go.Proofs.YtmhmlhlplfkpaaaDoor.Sl
namespace Go.Proofs.YtmhmlhlplfkpaaaDoor.Sl
def msk (c : Nat) : Nat → Nat
 | 0 => 0
 | n + 1 => c + 256 * msk c n
def one (n x : Nat) : Nat := ((x / 2) &&& msk 85 n) + (x &&& msk 85 n)
def one8 (b : Nat) : Nat := ((b / 2) &&& 85) + (b &&& 85)
def two8 (b : Nat) : Nat := ((b / 4) &&& 51) + (b &&& 51)
theorem bytes : ∀ b : Fin 256, one8 b.val < 256 ∧ two8 (one8 b.val) ≤ 68 ∧ two8 (one8 b.val) % 16 ≤ 4 ∧ (two8 (one8 b.val) / 16 + two8 (one8 b.val)) % 16 = Lib.popAux 8 b.val ∧ Lib.popAux 8 b.val ≤ 8 := by decide +kernel
end Go.Proofs.YtmhmlhlplfkpaaaDoor.Sl
