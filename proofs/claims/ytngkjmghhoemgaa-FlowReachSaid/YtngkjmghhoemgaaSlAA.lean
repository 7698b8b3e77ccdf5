/-
  What slots.place, Has, With, Without, the document's Has, and math/bits.OnesCount64, TrailingZeros64 answer. Conditions: the words have 64 bits; TrailingZeros64: its table is laid.
  The contract of math/bits.TrailingZeros64 laid at this translation, in plain words. Conditions: none.
  What slots.Has, With, Without, the document's Has, and math/bits.TrailingZeros64 answer. Conditions: the words have 64 bits; TrailingZeros64: its table is laid.
  What slots.Or, Sub, Count, Inside and the document's Or, Sub, Inside answer. Conditions: the words have 64 bits.
  A set in memory; a row of whole numbers in memory. Conditions: none.
  What slots.Of, Range and the document's Of, Range answer. Conditions: the row can be read.
  What the document's List answers: the slots one by one, rising, as a row of its own. Conditions: none.
  What slots.All answers: a function that yields the slots one by one, rising, till it is told 'no more'. Conditions: the words have 64 bits; the table of math/bits is laid; each round keeps what lay below.
  What slots.All, Below answer. Conditions: the words have 64 bits; the table of math/bits is laid.
-/
import Derived.Test.YtngkjmghhoemgaaBM
import Derived.Test.YtngkjmghhoemgaaSlM
import Derived.WalkKit
import Derived.WalkSpells
import Derived.WalkLawsBesides
import Derived.Laws.Bits64b
import Derived.Lib.Hide
import Derived.Below
import Derived.Shelf.Spec.TrailingZeros
import Derived.Test.YtngkjmghhoemgaaProg
import Derived.Handy
import Derived.ChangeKeysEq
import Derived.Laws.OwnMore
import Derived.Deep.AppendLies
import Derived.LoopTactic
import Derived.RangeFuncNested
import Derived.RangeFuncBound
import Derived.RangeFuncCalls
import Derived.RangeFuncLeaves
import Derived.Shelf.Abstract
import Derived.Shelf.RegionOpen
import Derived.OwnWalkIn
import Derived.TacticsInMore
import Derived.LoopNIn
import Derived.LoopIn
namespace Go.Proofs.Ytngkjmghhoemgaa
open Go.RowKit

abbrev setV (s : Sl.Four) : Value := .agg #[.int .u64 (s.a : Int), .int .u64 (s.b : Int), .int .u64 (s.c : Int), .int .u64 (s.d : Int)]

theorem place_ret {q r : Nat} {n : Int} (hr : r < 64) (h : ((64 * q + r : Nat) : Int) = n) :
    Ending.returned (.tuple #[.int .i64 (n / 64), .int .u64 (IntKind.u64.wrap (2 ^ (n % 64).toNat))]) = .returned (.tuple #[.int .i64 (q : Int), .int .u64 ((2 ^ r : Nat) : Int)]) := by
  subst h
  have h1 : ((64 * q + r : Nat) : Int) / 64 = q := by omega
  have h2 : (((64 * q + r : Nat) : Int) % 64).toNat = r := by omega
  have h3 := Sl.bit_lt hr
  rw [h1, h2, IntKind.wrap_u64, show ((2 : Int) ^ r) = ((2 ^ r : Nat) : Int) by simp]
  congr 3
  generalize 2 ^ r = k at *
  simp
  omega

theorem pop1 (x : Nat) (h : x < 18446744073709551616) : IntKind.u64.wrap (bits .and .u64 ((x : Int) / 2) 6148914691236517205 + bits .and .u64 (x : Int) 6148914691236517205) = (Sl.one 8 x : Int) ∧ Sl.one 8 x < 18446744073709551616 := by
  have e1 : ((x : Int) / 2) = ((x / 2 : Nat) : Int) := by omega
  have b1 : x / 2 &&& 6148914691236517205 ≤ 6148914691236517205 := Nat.and_le_right
  have b2 : x &&& 6148914691236517205 ≤ 6148914691236517205 := Nat.and_le_right
  have a1 := u64_and_nat (x / 2) 6148914691236517205 (by omega) (by omega)
  have a2 := u64_and_nat x 6148914691236517205 h (by omega)
  unfold Sl.one
  rw [Sl.msk85]
  constructor
  · rw [e1]
    refine (congrArg IntKind.u64.wrap (congr (congrArg HAdd.hAdd a1) a2)).trans ?_
    rw [IntKind.wrap_u64]
    omega
  · omega
theorem pop2 (x : Nat) (h : x < 18446744073709551616) : IntKind.u64.wrap (bits .and .u64 ((x : Int) / 4) 3689348814741910323 + bits .and .u64 (x : Int) 3689348814741910323) = (Sl.two 8 x : Int) ∧ Sl.two 8 x ≤ 7378697629483820646 := by
  have e1 : ((x : Int) / 4) = ((x / 4 : Nat) : Int) := by omega
  have b1 : x / 4 &&& 3689348814741910323 ≤ 3689348814741910323 := Nat.and_le_right
  have b2 : x &&& 3689348814741910323 ≤ 3689348814741910323 := Nat.and_le_right
  have a1 := u64_and_nat (x / 4) 3689348814741910323 (by omega) (by omega)
  have a2 := u64_and_nat x 3689348814741910323 h (by omega)
  unfold Sl.two
  rw [Sl.msk51]
  constructor
  · rw [e1]
    refine (congrArg IntKind.u64.wrap (congr (congrArg HAdd.hAdd a1) a2)).trans ?_
    rw [IntKind.wrap_u64]
    omega
  · omega
theorem pop3 (x : Nat) (h : x ≤ 7378697629483820646) : bits .and .u64 (IntKind.u64.wrap ((x : Int) / 16 + (x : Int))) 1085102592571150095 = (Sl.thr 8 x : Int) ∧ Sl.thr 8 x ≤ 1085102592571150095 := by
  have e1 : IntKind.u64.wrap ((x : Int) / 16 + (x : Int)) = ((x / 16 + x : Nat) : Int) := by rw [IntKind.wrap_u64]; omega
  have a1 := u64_and_nat (x / 16 + x) 1085102592571150095 (by omega) (by omega)
  unfold Sl.thr
  rw [Sl.msk15, e1]
  exact ⟨a1, Nat.and_le_right⟩
theorem pop4 (x y : Nat) (e : y = x + x / 256) (h : y < 18446744073709551616) : IntKind.u64.wrap ((x : Int) + (x : Int) / 256) = (y : Int) := by rw [IntKind.wrap_u64]; omega
theorem pop5 (x y : Nat) (e : y = x + x / 65536) (h : y < 18446744073709551616) : IntKind.u64.wrap ((x : Int) + (x : Int) / 65536) = (y : Int) := by rw [IntKind.wrap_u64]; omega
theorem pop6 (x y : Nat) (e : y = x + x / 4294967296) (h : y < 18446744073709551616) : IntKind.u64.wrap ((x : Int) + (x : Int) / 4294967296) = (y : Int) := by rw [IntKind.wrap_u64]; omega
theorem pop7 (x : Nat) (h : x < 9223372036854775808) : bits .and .i64 (wrap64 (x : Int)) 127 = ((x % 128 : Nat) : Int) := by
  have e : wrap64 (x : Int) = (x : Int) := by unfold wrap64; omega
  rw [e]
  have := bits_mask .i64 63 (by decide) (fun n h0 h1 => by rw [IntKind.wrap_i64]; omega) 7 (by decide) (x : Int) (by omega) (by omega)
  refine (Eq.trans (by rfl) this).trans ?_
  omega

end Go.Proofs.Ytngkjmghhoemgaa

namespace Go.Proofs
open Go.Shelf
end Go.Proofs

namespace Go.Proofs.Ytngkjmghhoemgaa
open Go.RowKit


theorem has_bit {x k r : Nat} (hx : x < 18446744073709551616) (hr : r < 64) (hk : 2 ^ r = k) : (bits .and .u64 (x : Int) (k : Int) != 0) = x.testBit r := by
  subst hk
  rw [u64_and_nat _ _ hx (Sl.bit_lt hr), nat_bit, Nat.testBit_eq_decide_div_mod_eq, Bool.eq_iff_iff, bne_iff_ne, decide_eq_true_iff]
  have hp := Nat.two_pow_pos r
  rcases (show x / 2 ^ r % 2 = 0 ∨ x / 2 ^ r % 2 = 1 by omega) with e | e
  · rw [e]; simp
  · rw [e, Nat.one_mul]; omega

theorem hasI_at {s : Sl.Four} {n : Int} {q r : Nat} (hq : q < 4) (hr : r < 64) (hn : ((64 * q + r : Nat) : Int) = n) : s.hasI n = (s.word q).testBit r := by
  subst hn
  unfold Sl.Four.hasI Sl.Four.has
  rw [Int.toNat_natCast, show (64 * q + r) / 64 = q by omega, show (64 * q + r) % 64 = r by omega, decide_eq_true (by omega), Bool.true_and]
theorem with_at {s : Sl.Four} {n : Int} {q r : Nat} (hq : q < 4) (hr : r < 64) (hn : ((64 * q + r : Nat) : Int) = n) : s.with_ n = s.put q (s.word q ||| 2 ^ r) := by
  subst hn
  unfold Sl.Four.with_
  rw [Int.toNat_natCast, show (64 * q + r) / 64 = q by omega, show (64 * q + r) % 64 = r by omega, if_pos (by omega)]
theorem without_at {s : Sl.Four} {n : Int} {q r : Nat} (hq : q < 4) (hr : r < 64) (hn : ((64 * q + r : Nat) : Int) = n) : s.without n = s.put q (Sl.cut (s.word q) (2 ^ r)) := by
  subst hn
  unfold Sl.Four.without
  rw [Int.toNat_natCast, show (64 * q + r) / 64 = q by omega, show (64 * q + r) % 64 = r by omega, if_pos (by omega)]
theorem parts {n : Int} (h0 : 0 ≤ n) (h1 : n < 256) : ∃ q r k : Nat, q < 4 ∧ r < 64 ∧ ((64 * q + r : Nat) : Int) = n ∧ 2 ^ r = k :=
  ⟨n.toNat / 64, n.toNat % 64, _, by omega, by omega, by omega, rfl⟩
theorem hasI_out {s : Sl.Four} {n : Int} (h : n < 0 ∨ 256 ≤ n) : s.hasI n = false := by
  unfold Sl.Four.hasI
  rw [decide_eq_false (by omega), Bool.false_and]

theorem and_zero (x : Nat) (hx : x < 18446744073709551616) : (bits .and .u64 (x : Int) 0 != 0) = false := by
  have := u64_and_nat x 0 hx (by omega)
  rw [Nat.and_zero] at this
  rw [bne_eq_false_iff_eq]
  exact this

theorem or_any (x y : Nat) (hx : x < 18446744073709551616) (hy : y < 18446744073709551616) : bits .or .u64 (x : Int) (y : Int) = ((x ||| y : Nat) : Int) := u64_or_nat x y hx hy
theorem cut_any (x y : Nat) (hx : x < 18446744073709551616) (hy : y < 18446744073709551616) : bits .andNot .u64 (x : Int) (y : Int) = (Sl.cut x y : Int) := u64_andNot_nat x y hx hy
theorem or_zero (x : Nat) (hx : x < 18446744073709551616) : bits .or .u64 (x : Int) 0 = (x : Int) := by
  have := u64_or_nat x 0 hx (by omega)
  rw [Nat.or_zero] at this
  exact this
theorem cut_zero (x : Nat) (hx : x < 18446744073709551616) : bits .andNot .u64 (x : Int) 0 = (x : Int) := by
  have := u64_andNot_nat x 0 hx (by omega)
  refine (Eq.trans (by rfl) this).trans ?_
  congr 1
  have := Nat.and_two_pow_sub_one_eq_mod x 64
  refine (Eq.trans (by rfl) this).trans ?_
  exact Nat.mod_eq_of_lt (by rw [← Sl.lt_two64]; exact hx)

theorem set_ret {a b c d : Int} {s : Sl.Four} (ha : a = (s.a : Int)) (hb : b = (s.b : Int)) (hc : c = (s.c : Int)) (hd : d = (s.d : Int)) :
    Ending.returned (.agg #[.int .u64 a, .int .u64 b, .int .u64 c, .int .u64 d]) = .returned (setV s) := by rw [ha, hb, hc, hd]

/-- A set of four words of 64 bits is answered; nothing below has turned. -/
def SetP (s : Sl.Four) (w : World) (e : Ending) (w' : World) : Prop := e = .returned (setV s) ∧ Below w.heap.size w w'

theorem rhas_bit {x r : Nat} : (((x : Int) / 2 ^ r).tmod 2 == 1) = x.testBit r := by
  have e : (x : Int) / 2 ^ r = ((x / 2 ^ r : Nat) : Int) := by rw [Int.natCast_ediv]; simp
  rw [Nat.testBit_eq_decide_div_mod_eq, Bool.eq_iff_iff, beq_iff_eq, decide_eq_true_iff, e, Int.tmod_eq_emod_of_nonneg (Int.natCast_nonneg _)]
  generalize x / 2 ^ r = y
  omega

end Go.Proofs.Ytngkjmghhoemgaa

namespace Go.Proofs.Ytngkjmghhoemgaa
open Go.RowKit

set_option maxRecDepth 100000 in
set_option maxHeartbeats 1000000 in
theorem rsub_set (a b : Sl.Four) (ha : a.ok) (hb : b.ok) (w : World) :
    Calls Try.prog 53 #[setV a, setV b] w (SetP (a.sub b) w) := by
  have HA := Lib.hid ha
  have HB := Lib.hid hb
  clear ha hb
  go_enter Try.func53, Try.ntmps53
  go_wp2
  refine wp_loop_rounds 5 ?_
  rw [rounds_succ]
  go_wp2
  go_region
  go_wp2
  rw [rounds_succ]
  go_wp2
  go_region
  go_wp2
  rw [rounds_succ]
  go_wp2
  go_region
  go_wp2
  rw [rounds_succ]
  go_wp2
  go_region
  go_wp2
  rw [rounds_succ]
  go_wp2
  exact bodyPost_ret (v := .agg #[.int .u64 (bits .andNot .u64 (a.a : Int) (b.a : Int)), .int .u64 (bits .andNot .u64 (a.b : Int) (b.b : Int)), .int .u64 (bits .andNot .u64 (a.c : Int) (b.c : Int)), .int .u64 (bits .andNot .u64 (a.d : Int) (b.d : Int))]) (by simp [results, Try.results53, go_sem]) rfl
    ⟨set_ret (cut_any _ _ HA.out.1 HB.out.1) (cut_any _ _ HA.out.2.1 HB.out.2.1) (cut_any _ _ HA.out.2.2.1 HB.out.2.2.1) (cut_any _ _ HA.out.2.2.2 HB.out.2.2.2), ((((((((Below.refl _ _).alloc (Nat.le_refl _) _).alloc (by simp) _).alloc (by simp; omega) _).drew).drew).drew).drew)⟩

set_option maxRecDepth 100000 in
theorem idx0 (x0 x1 x2 x3 : Value) (w : World) : (Instr.index 75 (.agg #[x0, x1, x2, x3]) (.int .i64 0)).run Try.prog w = .ok x0 w := by kernel_rfl
set_option maxRecDepth 100000 in
theorem idx1 (x0 x1 x2 x3 : Value) (w : World) : (Instr.index 75 (.agg #[x0, x1, x2, x3]) (.int .i64 1)).run Try.prog w = .ok x1 w := by kernel_rfl
set_option maxRecDepth 100000 in
theorem idx2 (x0 x1 x2 x3 : Value) (w : World) : (Instr.index 75 (.agg #[x0, x1, x2, x3]) (.int .i64 2)).run Try.prog w = .ok x2 w := by kernel_rfl
set_option maxRecDepth 100000 in
theorem idx3 (x0 x1 x2 x3 : Value) (w : World) : (Instr.index 75 (.agg #[x0, x1, x2, x3]) (.int .i64 3)).run Try.prog w = .ok x3 w := by kernel_rfl

theorem ones_le (x : Nat) : Lib.onesCount x ≤ 64 := by
  rw [← Sl.places_len]
  unfold Sl.places
  exact Nat.le_trans (List.length_filter_le _ _) (by simp)

set_option maxRecDepth 100000 in
theorem plain_u64 : Try.prog.plainKey 73 = true := by kernel_rfl
set_option maxRecDepth 100000 in
theorem cells_u64 : Try.prog.cellsOf 73 = 1 := by kernel_rfl
theorem range4 : List.range 4 = [0, 1, 2, 3] := rfl
set_option maxRecDepth 100000 in
theorem eq_item {xs ys : Array Value} {i : Nat} {is : List Nat} {x y : Int} (w : World) (hx : xs[i]? = some (.int .u64 x)) (hy : ys[i]? = some (.int .u64 y)) :
    (Op.eqItems 9999 73 1 xs ys (i :: is)).run Try.prog w = if (x == y) = true then (Op.eqItems 9999 73 1 xs ys is).run Try.prog w else .ok false w := by
  have p : ∀ (zs : Array Value) (z : Value), zs[i]? = some z → (part 73 zs (i * 1)).run Try.prog w = .ok z w := fun zs z h => run_part_plain w plain_u64 (by rw [Nat.mul_one]; exact h)
  have E : (Op.equalIn 9999 73 (.int .u64 x) (.int .u64 y)).run Try.prog w = .ok (x == y) w := run_equalIn_int w 9998 _ _ _ x y Try.underlying73
  simp only [Op.eqItems, Sem.run_bind]
  rw [p _ _ hx, Result.andThen_ok, p _ _ hy, Result.andThen_ok, E, Result.andThen_ok]
  cases x == y <;> simp

set_option maxRecDepth 100000 in
/-- Two sets compared. -/
theorem eq_four (x0 x1 x2 x3 y0 y1 y2 y3 : Int) (w : World) :
    (Op.equalIn 10000 75 (.agg #[.int .u64 x0, .int .u64 x1, .int .u64 x2, .int .u64 x3]) (.agg #[.int .u64 y0, .int .u64 y1, .int .u64 y2, .int .u64 y3])).run Try.prog w
      = .ok (x0 == y0 && (x1 == y1 && (x2 == y2 && x3 == y3))) w := by
  obtain ⟨i, hi⟩ : ∃ i, Try.prog.info? 73 = some i := ⟨_, rfl⟩
  rw [run_equalIn_array w 9999 _ _ Try.underlying75 hi, cells_u64, range4, eq_item w (x := x0) (y := y0) rfl rfl, eq_item w (x := x1) (y := y1) rfl rfl, eq_item w (x := x2) (y := y2) rfl rfl, eq_item w (x := x3) (y := y3) rfl rfl]
  cases x0 == y0
  · rfl
  cases x1 == y1
  · rfl
  cases x2 == y2
  · rfl
  cases x3 == y3
  · rfl
  simp [Op.eqItems]
set_option maxRecDepth 100000 in
/-- A set is the same as itself. -/
theorem eq_same (s : Sl.Four) (w : World) : (Op.equalIn 10000 75 (setV s) (setV s)).run Try.prog w = .ok true w := by
  rw [eq_four]
  simp

set_option maxRecDepth 100000 in
set_option maxHeartbeats 1000000 in
theorem rinside_any (a b : Sl.Four) (ha : a.ok) (hb : b.ok) (w : World) :
    Calls Try.prog 50 #[setV a, setV b] w fun e w' => e = .returned (.bool (a.inside b)) ∧ Below w.heap.size w w' := by
  have HS := Lib.hid (fun w => rsub_set a b ha hb w)
  clear ha hb
  unfold Sl.Four.inside
  generalize a.sub b = s at *
  have e4 := eq_four
  go_enter Try.func50, Try.ntmps50
  go_wp2_with (go_at_call 53; refine (HS.out _).mono ?_; rintro e w1 ⟨rfl, hbl⟩; have HBL := Lib.hid hbl; clear hbl)
  go_ret
  refine ⟨ret_bool ?_, ?_⟩
  · rw [Bool.eq_iff_iff]
    simp
  · exact (((Below.refl _ _).alloc (Nat.le_refl _) _).alloc (by simp) _).trans (HBL.out.mono (by simp; omega))

end Go.Proofs.Ytngkjmghhoemgaa

namespace Go.Proofs.Ytngkjmghhoemgaa
open Go.RowKit

/-- Block g is just the set s. -/
def SetAt (w : World) (g : Nat) (s : Sl.Four) : Prop := w.heap[g]? = some (.cells #[.int .u64 (s.a : Int), .int .u64 (s.b : Int), .int .u64 (s.c : Int), .int .u64 (s.d : Int)] 75 (0, 0))

theorem SetAt.lt {w : World} {g : Nat} {s : Sl.Four} (h : SetAt w g s) : g < w.heap.size := by
  apply Nat.lt_of_not_le
  intro hle
  unfold SetAt at h
  rw [Array.getElem?_eq_none hle] at h
  cases h
set_option maxRecDepth 100000 in
theorem SetAt.new (w : World) (s : Sl.Four) : SetAt (w.alloc (.cells #[.int .u64 (s.a : Int), .int .u64 (s.b : Int), .int .u64 (s.c : Int), .int .u64 (s.d : Int)] 75)) w.heap.size s := heap_alloc_new w _
theorem SetAt.alloc {w : World} {g : Nat} {s : Sl.Four} (h : SetAt w g s) (o : Obj) : SetAt (w.alloc o) g s := (Below.heap_alloc w o g h.lt).trans h
theorem SetAt.below {w w' : World} {g B : Nat} {s : Sl.Four} (h : SetAt w g s) (hb : Below B w w') (hg : g < B) : SetAt w' g s := (hb.block g hg).trans h
theorem SetAt.far {w : World} {g : Nat} {s : Sl.Four} (h : SetAt w g s) {p : Addr} (hp : g ≠ p.block) (u : Value) : SetAt (w.setCell p u) g s := (Below.heap_setCell w p u g hp).trans h
/-- What the walk asks: the four cells, and that they may be written. -/
theorem SetAt.reads {w : World} {g : Nat} {s : Sl.Four} (h : SetAt w g s) :
    (w.cell? ⟨g, 0, none⟩ = some (.int .u64 (s.a : Int)) ∧ w.cell? ⟨g, 1, none⟩ = some (.int .u64 (s.b : Int)) ∧ w.cell? ⟨g, 2, none⟩ = some (.int .u64 (s.c : Int)) ∧ w.cell? ⟨g, 3, none⟩ = some (.int .u64 (s.d : Int))) ∧
    (w.frozen? ⟨g, 0, none⟩ = false ∧ w.frozen? ⟨g, 1, none⟩ = false ∧ w.frozen? ⟨g, 2, none⟩ = false ∧ w.frozen? ⟨g, 3, none⟩ = false) := by
  unfold SetAt at h
  refine ⟨⟨cell_of_row w g 0 _ _ _ h, cell_of_row w g 1 _ _ _ h, cell_of_row w g 2 _ _ _ h, cell_of_row w g 3 _ _ _ h⟩, ?_⟩
  simp [World.frozen?, h]
theorem SetAt.store {w : World} {g : Nat} {s : Sl.Four} (h : SetAt w g s) (t : Sl.Four) :
    SetAt ((((w.setCell ⟨g, 0, none⟩ (.int .u64 (t.a : Int))).setCell ⟨g, 1, none⟩ (.int .u64 (t.b : Int))).setCell ⟨g, 2, none⟩ (.int .u64 (t.c : Int))).setCell ⟨g, 3, none⟩ (.int .u64 (t.d : Int))) g t := by
  unfold SetAt at h ⊢
  simp [World.setCell, Array.getElem?_modify, h]

end Go.Proofs.Ytngkjmghhoemgaa

namespace Go.Proofs.Ytngkjmghhoemgaa
open Go.RowKit

theorem below_store {B : Nat} {w w1 : World} (hb : Below B w w1) {g : Nat} (hg : B ≤ g) (a b c d : Value) :
    Below B w ((((w1.setCell ⟨g, 0, none⟩ a).setCell ⟨g, 1, none⟩ b).setCell ⟨g, 2, none⟩ c).setCell ⟨g, 3, none⟩ d) :=
  (((hb.setCell (p := ⟨g, 0, none⟩) hg _).setCell (p := ⟨g, 1, none⟩) hg _).setCell (p := ⟨g, 2, none⟩) hg _).setCell (p := ⟨g, 3, none⟩) hg _
theorem SetAt.far4 {w : World} {g g' : Nat} {s : Sl.Four} (h : SetAt w g s) (hne : g ≠ g') (a b c d : Value) :
    SetAt ((((w.setCell ⟨g', 0, none⟩ a).setCell ⟨g', 1, none⟩ b).setCell ⟨g', 2, none⟩ c).setCell ⟨g', 3, none⟩ d) g s :=
  (((h.far (p := ⟨g', 0, none⟩) hne _).far (p := ⟨g', 1, none⟩) hne _).far (p := ⟨g', 2, none⟩) hne _).far (p := ⟨g', 3, none⟩) hne _

/-- What a loop that gathers a set at block g holds: s is gathered, the result's block is empty, nothing below has turned. -/
def Gath (w : World) (g : Nat) (s : Sl.Four) (wr : World) : Prop := SetAt wr (g + 1) s ∧ SetAt wr g Sl.no ∧ Below w.heap.size w wr
theorem Gath.step {w wr w1 : World} {g : Nat} {s : Sl.Four} (h : Gath w g s wr) (hg : w.heap.size ≤ g) (hbl : Below wr.heap.size wr w1) (t : Sl.Four) :
    Gath w g t ((((w1.setCell ⟨g + 1, 0, none⟩ (.int .u64 (t.a : Int))).setCell ⟨g + 1, 1, none⟩ (.int .u64 (t.b : Int))).setCell ⟨g + 1, 2, none⟩ (.int .u64 (t.c : Int))).setCell ⟨g + 1, 3, none⟩ (.int .u64 (t.d : Int))) := by
  obtain ⟨h1, h2, h3⟩ := h
  exact ⟨(h1.below hbl h1.lt).store t, (h2.below hbl h2.lt).far4 (by omega) _ _ _ _, below_store (h3.trans (hbl.mono h3.size)) (by omega) _ _ _ _⟩

set_option maxRecDepth 100000 in
theorem Gath.start (w : World) : Gath w w.heap.size Sl.no ((w.alloc (.cells #[.int .u64 0, .int .u64 0, .int .u64 0, .int .u64 0] 75)).alloc (.cells #[.int .u64 0, .int .u64 0, .int .u64 0, .int .u64 0] 75)) := by
  have h := SetAt.new (w.alloc (.cells #[.int .u64 0, .int .u64 0, .int .u64 0, .int .u64 0] 75)) Sl.no
  rw [World.size_alloc] at h
  exact ⟨h, (SetAt.new w Sl.no).alloc _, ((Below.refl _ _).alloc (Nat.le_refl _) _).alloc (by simp) _⟩
theorem SetAt.put {w : World} {g : Nat} {s : Sl.Four} (h : SetAt w g s) (q x : Nat) (hq : q < 4) : SetAt (w.setCell ⟨g, q, none⟩ (.int .u64 (x : Int))) g (s.put q x) := by
  unfold SetAt at h ⊢
  obtain rfl | rfl | rfl | rfl : q = 0 ∨ q = 1 ∨ q = 2 ∨ q = 3 := by omega
  all_goals simp [World.setCell, Array.getElem?_modify, h, Sl.Four.put]
theorem Gath.put {w wr w1 : World} {g : Nat} {s : Sl.Four} (h : Gath w g s wr) (hg : w.heap.size ≤ g) (hbl : Below wr.heap.size wr w1) (q x : Nat) (hq : q < 4) {i : Int} (hi : i = (x : Int)) :
    Gath w g (s.put q x) (w1.setCell ⟨g + 1, q, none⟩ (.int .u64 i)) := by
  subst hi
  obtain ⟨h1, h2, h3⟩ := h
  exact ⟨(h1.below hbl h1.lt).put q x hq, (h2.below hbl h2.lt).far (p := ⟨g + 1, q, none⟩) (by simp) _, (h3.trans (hbl.mono h3.size)).setCell (p := ⟨g + 1, q, none⟩) (by simp; omega) _⟩
theorem Gath.kept {w wr w1 : World} {g : Nat} {s : Sl.Four} (h : Gath w g s wr) (hbl : Below wr.heap.size wr w1) : Gath w g s w1 := by
  obtain ⟨h1, h2, h3⟩ := h
  exact ⟨h1.below hbl h1.lt, h2.below hbl h2.lt, h3.trans (hbl.mono h3.size)⟩

def OfRel (w : World) (n : Nat) (l : List Int) (i : Value) (wr : World) : Prop :=
  ∃ k : Nat, k ≤ n ∧ i = .int .i64 k ∧ Gath w w.heap.size (Sl.of (l.take k)) wr

/-- A word with a bit that it has not, added. -/
theorem add_word {x r : Nat} (hx : x < 18446744073709551616) (hr : r < 64) (h : x.testBit r = false) : IntKind.u64.wrap ((x : Int) + IntKind.u64.wrap (2 ^ r)) = ((x + 2 ^ r : Nat) : Int) := by
  have e := Sl.add_bit hr hx h
  have hb := Sl.bit_lt hr
  have hl := Sl.or_lt hx hb
  rw [← e] at hl
  rw [IntKind.wrap_u64, IntKind.wrap_u64, show ((2 : Int) ^ r) = ((2 ^ r : Nat) : Int) by simp]
  generalize 2 ^ r = k at *
  omega

end Go.Proofs.Ytngkjmghhoemgaa

namespace Go.Proofs.Ytngkjmghhoemgaa
open Go.RowKit

/-- What a loop that collects holds: l is collected in out; s lies in its box; nothing below has turned. -/
def Coll (w : World) (g : Nat) (s : Sl.Four) (out : Value) (l : List Int) (wr : World) : Prop :=
  wr.ownsRow (g + 1) 3 1 out l.length (vs l) ∧ SetAt wr g s ∧ Below w.heap.size w wr
theorem Coll.kept {w wr w1 : World} {g : Nat} {s : Sl.Four} {out : Value} {l : List Int} (h : Coll w g s out l wr) (hb : Below wr.heap.size wr w1) : Coll w g s out l w1 := by
  obtain ⟨h1, h2, h3⟩ := h
  exact ⟨ownsRow_below h1 hb, h2.below hb h2.lt, h3.trans (hb.mono h3.size)⟩
set_option maxRecDepth 100000 in
theorem Coll.step {w wr w2 : World} {g : Nat} {s : Sl.Four} {out : Value} {l : List Int} (h : Coll w g s out l wr) (hg : w.heap.size ≤ g) {x : Int} {o : Obj} {ga cap : Nat}
    (hown : w2.ownsRow (g + 1) 3 1 (.slice (some ⟨ga, 0, none⟩) (l.length + 1) cap) (l.length + 1) (vs l ++ vs [x])) (hgr : (wr.alloc o).grownBy w2 out.ownBlock) :
    Coll w g s (.slice (some ⟨ga, 0, none⟩) (l.length + 1) cap) (l ++ [x]) w2 := by
  obtain ⟨h1, h2, h3⟩ := h
  have hlt := h1.lt
  have hs := h2.lt
  have hne : some g ≠ out.ownBlock := fun e => by have := (hlt g e.symm).1; omega
  refine ⟨by rw [List.length_append, vs_append]; exact hown, ?_, ?_⟩
  · have := hgr.block g (by simp; omega) hne
    exact this.trans ((Below.heap_alloc wr o g hs).trans h2)
  · exact (h3.alloc h3.size o).grown hgr (by have := h3.size; simp; omega) (fun k hk => by have := (hlt k hk).1; omega)

def LsRel (w : World) (s : Sl.Four) (out i : Value) (wr : World) : Prop :=
  ∃ (k : Nat) (z : Int), k ≤ 256 ∧ i = .int .i64 z ∧ z = (k : Int) ∧ Coll w w.heap.size s out (((List.range k).filter s.has).map (fun n : Nat => (n : Int))) wr

theorem range_true (s : Sl.Four) (k : Nat) (h : s.has k = true) : ((List.range (k + 1)).filter s.has).map (fun n : Nat => (n : Int)) = ((List.range k).filter s.has).map (fun n : Nat => (n : Int)) ++ [(k : Int)] := by
  rw [List.range_succ, List.filter_append, List.map_append, List.filter_cons_of_pos h]
  rfl
theorem range_false (s : Sl.Four) (k : Nat) (h : s.has k = false) : ((List.range (k + 1)).filter s.has).map (fun n : Nat => (n : Int)) = ((List.range k).filter s.has).map (fun n : Nat => (n : Int)) := by
  rw [List.range_succ, List.filter_append, List.map_append, List.filter_cons_of_neg (by rw [h]; simp)]
  simp
theorem range_le (s : Sl.Four) (k : Nat) : (((List.range k).filter s.has).map (fun n : Nat => (n : Int))).length ≤ k := by
  rw [List.length_map]
  exact Nat.le_trans (List.length_filter_le _ _) (by simp)

/-- A row of the slots is answered. -/
def ListP (s : Sl.Four) (w : World) (e : Ending) (w' : World) : Prop :=
  ∃ A c, e = .returned (.slice A s.list.length c) ∧ IntsAt w' w'.heap.size A s.list.length s.list ∧ Below w.heap.size w w'

theorem list_end {s : Sl.Four} {w wr : World} {v : Value} (h : Coll w w.heap.size s v s.list wr) : ListP s w (.returned v) wr := by
  obtain ⟨h1, _, h3⟩ := h
  rcases h1.2 with ⟨rfl, hn⟩ | ⟨g, cap, cur, rfl, _⟩
  · have hi := ints_of_own h1
    rw [← hn] at hi
    exact ⟨none, 0, by rw [hn], hi.2.1, h3⟩
  · exact ⟨_, cap, rfl, (ints_of_own h1).2.1, h3⟩

end Go.Proofs.Ytngkjmghhoemgaa

namespace Go.Proofs.Ytngkjmghhoemgaa
open Go.RowKit Go.Shelf

attribute [local go_sem] Oper.semAt_some

/-- The slots of the first q words. -/
def Sl.Four.upto (s : Sl.Four) : Nat → List Int
  | 0 => []
  | q + 1 => s.upto q ++ Sl.at_ q (s.word q)
theorem upto_four (s : Sl.Four) : s.upto 4 = s.list := by
  simp [Sl.Four.upto, Sl.Four.list, Sl.Four.word]
theorem upto_prefix (s : Sl.Four) (q : Nat) (hq : q < 4) : s.upto (q + 1) <+: s.list := by
  rw [← upto_four]
  obtain rfl | rfl | rfl | rfl : q = 0 ∨ q = 1 ∨ q = 2 ∨ q = 3 := by omega
  · exact ⟨Sl.at_ 1 (s.word 1) ++ (Sl.at_ 2 (s.word 2) ++ Sl.at_ 3 (s.word 3)), by simp [Sl.Four.upto]⟩
  · exact ⟨Sl.at_ 2 (s.word 2) ++ Sl.at_ 3 (s.word 3), by simp [Sl.Four.upto]⟩
  · exact ⟨Sl.at_ 3 (s.word 3), by simp [Sl.Four.upto]⟩
  · exact ⟨[], by simp [Sl.Four.upto]⟩

/-- One slot more of word q: x is left, x' behind it. -/
theorem at_step {q x : Nat} (h0 : x ≠ 0) (hx : x < 18446744073709551616) : Sl.at_ q x = ((64 * q + Lib.ctz 64 x : Nat) : Int) :: Sl.at_ q (x &&& (x - 1)) := by
  unfold Sl.at_
  rw [(Sl.drop_low h0 hx).2]
  rfl
theorem at_zero (q : Nat) : Sl.at_ q 0 = [] := by
  unfold Sl.at_
  rw [Sl.places_zero]
  rfl
theorem low_lt {x : Nat} (h0 : x ≠ 0) (hx : x < 18446744073709551616) : Lib.ctz 64 x < 64 := by
  obtain ⟨_, _, h⟩ := Sl.low_bit h0 hx
  exact h
theorem low_any {x : Nat} (h0 : x ≠ 0) (hx : x < 18446744073709551616) : bits .and .u64 (x : Int) (IntKind.u64.wrap ((x : Int) - 1)) = ((x &&& (x - 1) : Nat) : Int) := by
  have e : IntKind.u64.wrap ((x : Int) - 1) = ((x - 1 : Nat) : Int) := by rw [IntKind.wrap_u64]; omega
  rw [e]
  exact u64_and_nat x (x - 1) hx (by omega)

def OutRel (s : Sl.Four) (n₀ : Nat) (W : World) (J : List Int → World → Prop) (i : Value) (wr : World) : Prop :=
  ∃ (q : Nat) (z : Int), q ≤ 4 ∧ i = .int .i64 z ∧ z = (q : Int) ∧ J (s.upto q) wr ∧ Below n₀ W wr
def SlInRel (s : Sl.Four) (q n₀ : Nat) (W : World) (J : List Int → World → Prop) (v : Value) (wr : World) : Prop :=
  ∃ (x : Nat) (pre : List Int), v = .int .u64 (x : Int) ∧ x < 18446744073709551616 ∧ J (s.upto q ++ pre) wr ∧ pre ++ Sl.at_ q x = Sl.at_ q (s.word q) ∧ Below n₀ W wr

end Go.Proofs.Ytngkjmghhoemgaa

namespace Go.Proofs.Ytngkjmghhoemgaa
open Go.RowKit Go.Shelf

attribute [local go_sem] Oper.semAt_some

theorem new_cell (W : World) (v : Value) (t : TypeId) : (W.alloc (.cells #[v] t)).cell? ⟨W.heap.size, 0, none⟩ = some v ∧ (W.alloc (.cells #[v] t)).frozen? ⟨W.heap.size, 0, none⟩ = false := by
  have h : (W.alloc (.cells #[v] t)).heap[W.heap.size]? = some (.cells #[v] t (0, 0)) := heap_alloc_new W _
  refine ⟨cell_of_row _ _ 0 _ _ _ h, ?_⟩
  simp only [World.frozen?, h]
  rfl
theorem more_cell {W : World} {a : Addr} {v : Value} (o : Obj) (h : W.cell? a = some v ∧ W.frozen? a = false) : (W.alloc o).cell? a = some v ∧ (W.alloc o).frozen? a = false :=
  ⟨cell_kept h.1 (World.grownBy_alloc W o none) (fun r e => by cases e), (frozen_kept h.1 (World.grownBy_alloc W o none) (fun r e => by cases e)).trans h.2⟩
theorem below_snoc {pre : List Int} {m x : Int} (h : ∀ y ∈ pre, y < m) (hx : x < m) : ∀ y ∈ pre ++ [x], y < m := by
  intro y hy
  rcases List.mem_append.1 hy with hy | hy
  · exact h y hy
  · rw [List.mem_singleton] at hy
    subst hy
    exact hx
theorem below_true {s : Sl.Four} {m : Int} (h : ∀ y ∈ s.list, y < m) : s.below m = true := by
  unfold Sl.Four.below
  rw [List.all_eq_true]
  exact fun y hy => decide_eq_true (h y hy)
theorem below_false {s : Sl.Four} {m : Int} {pre : List Int} (hp : pre <+: s.list) (h : ∃ y ∈ pre, m ≤ y) : s.below m = false := by
  obtain ⟨y, hy, hm⟩ := h
  unfold Sl.Four.below
  rw [List.all_eq_false]
  exact ⟨y, hp.subset hy, by simp; omega⟩

end Go.Proofs.Ytngkjmghhoemgaa
