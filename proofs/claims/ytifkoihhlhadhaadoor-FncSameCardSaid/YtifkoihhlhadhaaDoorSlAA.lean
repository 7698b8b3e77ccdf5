/-
  What slots.place, Has, With, Without, the document's Has, and math/bits.OnesCount64, TrailingZeros64 answer. Conditions: the words have 64 bits; TrailingZeros64: its table is laid.
  The contract of math/bits.TrailingZeros64 laid at this translation, in plain words. Conditions: none.
  What slots.Has, With, Without, the document's Has, and math/bits.TrailingZeros64 answer. Conditions: the words have 64 bits; TrailingZeros64: its table is laid.
  What slots.Or, Sub, Count, Inside and the document's Or, Sub, Inside answer. Conditions: the words have 64 bits.
  A set in memory; a row of whole numbers in memory. Conditions: none.
-/
import Derived.Test.YtifkoihhlhadhaaDoorBase
import Derived.Test.YtifkoihhlhadhaaDoorSlM
import Derived.WalkKit
import Derived.WalkSpells
import Derived.WalkLawsBesides
import Derived.Laws.Bits64b
import Derived.Lib.Hide
import Derived.Below
import Derived.Shelf.Spec.TrailingZeros
import Derived.Test.YtifkoihhlhadhaaDoorProg
import Derived.Handy
import Derived.ChangeKeysEq
namespace Go.Proofs.YtifkoihhlhadhaaDoor
open Go.RowKit

abbrev setV (s : Sl.Four) : Value := .agg #[.int .u64 (s.a : Int), .int .u64 (s.b : Int), .int .u64 (s.c : Int), .int .u64 (s.d : Int)]

theorem place_ret {q r : Nat} {n : Int} (hr : r < 64) (h : ((64 * q + r : Nat) : Int) = n) :
    Ending.returned (.tuple #[.int .i64 (n / 64), .int .u64 (IntKind.u64.wrap (2 ^ (n % 64).toNat))]) = .returned (.tuple #[.int .i64 (q : Int), .int .u64 ((2 ^ r : Nat) : Int)]) := by
  subst h
  have h1 : ((64 * q + r : Nat) : Int) / 64 = q := by omega
  have h2 : (((64 * q + r : Nat) : Int) % 64).toNat = r := by omega
  have h3 := Sl.bit_lt hr
  rw [h1, h2, IntKind.wrap_u64, show ((2 : Int) ^ r) = ((2 ^ r : Nat) : Int) by simp]
  congr 3
  generalize 2 ^ r = k at *
  simp
  omega

theorem pop1 (x : Nat) (h : x < 18446744073709551616) : IntKind.u64.wrap (bits .and .u64 ((x : Int) / 2) 6148914691236517205 + bits .and .u64 (x : Int) 6148914691236517205) = (Sl.one 8 x : Int) ∧ Sl.one 8 x < 18446744073709551616 := by
  have e1 : ((x : Int) / 2) = ((x / 2 : Nat) : Int) := by omega
  have b1 : x / 2 &&& 6148914691236517205 ≤ 6148914691236517205 := Nat.and_le_right
  have b2 : x &&& 6148914691236517205 ≤ 6148914691236517205 := Nat.and_le_right
  have a1 := u64_and_nat (x / 2) 6148914691236517205 (by omega) (by omega)
  have a2 := u64_and_nat x 6148914691236517205 h (by omega)
  unfold Sl.one
  rw [Sl.msk85]
  constructor
  · rw [e1]
    refine (congrArg IntKind.u64.wrap (congr (congrArg HAdd.hAdd a1) a2)).trans ?_
    rw [IntKind.wrap_u64]
    omega
  · omega
theorem pop2 (x : Nat) (h : x < 18446744073709551616) : IntKind.u64.wrap (bits .and .u64 ((x : Int) / 4) 3689348814741910323 + bits .and .u64 (x : Int) 3689348814741910323) = (Sl.two 8 x : Int) ∧ Sl.two 8 x ≤ 7378697629483820646 := by
  have e1 : ((x : Int) / 4) = ((x / 4 : Nat) : Int) := by omega
  have b1 : x / 4 &&& 3689348814741910323 ≤ 3689348814741910323 := Nat.and_le_right
  have b2 : x &&& 3689348814741910323 ≤ 3689348814741910323 := Nat.and_le_right
  have a1 := u64_and_nat (x / 4) 3689348814741910323 (by omega) (by omega)
  have a2 := u64_and_nat x 3689348814741910323 h (by omega)
  unfold Sl.two
  rw [Sl.msk51]
  constructor
  · rw [e1]
    refine (congrArg IntKind.u64.wrap (congr (congrArg HAdd.hAdd a1) a2)).trans ?_
    rw [IntKind.wrap_u64]
    omega
  · omega
theorem pop3 (x : Nat) (h : x ≤ 7378697629483820646) : bits .and .u64 (IntKind.u64.wrap ((x : Int) / 16 + (x : Int))) 1085102592571150095 = (Sl.thr 8 x : Int) ∧ Sl.thr 8 x ≤ 1085102592571150095 := by
  have e1 : IntKind.u64.wrap ((x : Int) / 16 + (x : Int)) = ((x / 16 + x : Nat) : Int) := by rw [IntKind.wrap_u64]; omega
  have a1 := u64_and_nat (x / 16 + x) 1085102592571150095 (by omega) (by omega)
  unfold Sl.thr
  rw [Sl.msk15, e1]
  exact ⟨a1, Nat.and_le_right⟩
theorem pop4 (x y : Nat) (e : y = x + x / 256) (h : y < 18446744073709551616) : IntKind.u64.wrap ((x : Int) + (x : Int) / 256) = (y : Int) := by rw [IntKind.wrap_u64]; omega
theorem pop5 (x y : Nat) (e : y = x + x / 65536) (h : y < 18446744073709551616) : IntKind.u64.wrap ((x : Int) + (x : Int) / 65536) = (y : Int) := by rw [IntKind.wrap_u64]; omega
theorem pop6 (x y : Nat) (e : y = x + x / 4294967296) (h : y < 18446744073709551616) : IntKind.u64.wrap ((x : Int) + (x : Int) / 4294967296) = (y : Int) := by rw [IntKind.wrap_u64]; omega
theorem pop7 (x : Nat) (h : x < 9223372036854775808) : bits .and .i64 (wrap64 (x : Int)) 127 = ((x % 128 : Nat) : Int) := by
  have e : wrap64 (x : Int) = (x : Int) := by unfold wrap64; omega
  rw [e]
  have := bits_mask .i64 63 (by decide) (fun n h0 h1 => by rw [IntKind.wrap_i64]; omega) 7 (by decide) (x : Int) (by omega) (by omega)
  refine (Eq.trans (by rfl) this).trans ?_
  omega

end Go.Proofs.YtifkoihhlhadhaaDoor

namespace Go.Proofs
open Go.Shelf
def Tryd.lays29_ren : Go.Shelf.Ren := ⟨fun | 29 => 70 | n => n, fun | 0 => 0 | 3 => 3 | 4 => 4 | 5 => 5 | 22 => 44 | 25 => 88 | 54 => 87 | n => n, fun | 1 => 0 | n => n⟩
set_option maxRecDepth 100000 in
theorem Tryd.lays29 : Go.Proofs.Lays7.n29 Tryd.prog Tryd.lays29_ren := {
  mixed := by kernel_rfl
  f29 := Tryd.func70.trans (congrArg some (by kernel_rfl))
  t0 := Tryd.underlying0
  a0 := Tryd.isAgg0
  z0 := Tryd.sizeOf0
  v0 := Tryd.zeroValue0
  i0 := by kernel_rfl
  t3 := Tryd.underlying3
  a3 := Tryd.isAgg3
  z3 := Tryd.sizeOf3
  v3 := Tryd.zeroValue3
  i3 := by kernel_rfl
  t4 := Tryd.underlying4
  a4 := Tryd.isAgg4
  z4 := Tryd.sizeOf4
  v4 := Tryd.zeroValue4
  i4 := by kernel_rfl
  t5 := Tryd.underlying5
  a5 := Tryd.isAgg5
  z5 := Tryd.sizeOf5
  v5 := Tryd.zeroValue5
  i5 := by kernel_rfl
  t22 := Tryd.underlying44
  a22 := Tryd.isAgg44
  z22 := Tryd.sizeOf44
  v22 := Tryd.zeroValue44
  i22 := by kernel_rfl
  t25 := Tryd.underlying88
  a25 := Tryd.isAgg88
  z25 := Tryd.sizeOf88
  v25 := Tryd.zeroValue88
  i25 := by kernel_rfl
  t54 := Tryd.underlying87
  a54 := Tryd.isAgg87
  z54 := Tryd.sizeOf87
  g1 := by kernel_rfl }
end Go.Proofs

namespace Go.Proofs.YtifkoihhlhadhaaDoor
open Go.RowKit


theorem has_bit {x k r : Nat} (hx : x < 18446744073709551616) (hr : r < 64) (hk : 2 ^ r = k) : (bits .and .u64 (x : Int) (k : Int) != 0) = x.testBit r := by
  subst hk
  rw [u64_and_nat _ _ hx (Sl.bit_lt hr), nat_bit, Nat.testBit_eq_decide_div_mod_eq, Bool.eq_iff_iff, bne_iff_ne, decide_eq_true_iff]
  have hp := Nat.two_pow_pos r
  rcases (show x / 2 ^ r % 2 = 0 ∨ x / 2 ^ r % 2 = 1 by omega) with e | e
  · rw [e]; simp
  · rw [e, Nat.one_mul]; omega

theorem hasI_at {s : Sl.Four} {n : Int} {q r : Nat} (hq : q < 4) (hr : r < 64) (hn : ((64 * q + r : Nat) : Int) = n) : s.hasI n = (s.word q).testBit r := by
  subst hn
  unfold Sl.Four.hasI Sl.Four.has
  rw [Int.toNat_natCast, show (64 * q + r) / 64 = q by omega, show (64 * q + r) % 64 = r by omega, decide_eq_true (by omega), Bool.true_and]
theorem with_at {s : Sl.Four} {n : Int} {q r : Nat} (hq : q < 4) (hr : r < 64) (hn : ((64 * q + r : Nat) : Int) = n) : s.with_ n = s.put q (s.word q ||| 2 ^ r) := by
  subst hn
  unfold Sl.Four.with_
  rw [Int.toNat_natCast, show (64 * q + r) / 64 = q by omega, show (64 * q + r) % 64 = r by omega, if_pos (by omega)]
theorem without_at {s : Sl.Four} {n : Int} {q r : Nat} (hq : q < 4) (hr : r < 64) (hn : ((64 * q + r : Nat) : Int) = n) : s.without n = s.put q (Sl.cut (s.word q) (2 ^ r)) := by
  subst hn
  unfold Sl.Four.without
  rw [Int.toNat_natCast, show (64 * q + r) / 64 = q by omega, show (64 * q + r) % 64 = r by omega, if_pos (by omega)]
theorem parts {n : Int} (h0 : 0 ≤ n) (h1 : n < 256) : ∃ q r k : Nat, q < 4 ∧ r < 64 ∧ ((64 * q + r : Nat) : Int) = n ∧ 2 ^ r = k :=
  ⟨n.toNat / 64, n.toNat % 64, _, by omega, by omega, by omega, rfl⟩
theorem hasI_out {s : Sl.Four} {n : Int} (h : n < 0 ∨ 256 ≤ n) : s.hasI n = false := by
  unfold Sl.Four.hasI
  rw [decide_eq_false (by omega), Bool.false_and]

theorem and_zero (x : Nat) (hx : x < 18446744073709551616) : (bits .and .u64 (x : Int) 0 != 0) = false := by
  have := u64_and_nat x 0 hx (by omega)
  rw [Nat.and_zero] at this
  rw [bne_eq_false_iff_eq]
  exact this

theorem or_any (x y : Nat) (hx : x < 18446744073709551616) (hy : y < 18446744073709551616) : bits .or .u64 (x : Int) (y : Int) = ((x ||| y : Nat) : Int) := u64_or_nat x y hx hy
theorem cut_any (x y : Nat) (hx : x < 18446744073709551616) (hy : y < 18446744073709551616) : bits .andNot .u64 (x : Int) (y : Int) = (Sl.cut x y : Int) := u64_andNot_nat x y hx hy
theorem or_zero (x : Nat) (hx : x < 18446744073709551616) : bits .or .u64 (x : Int) 0 = (x : Int) := by
  have := u64_or_nat x 0 hx (by omega)
  rw [Nat.or_zero] at this
  exact this
theorem cut_zero (x : Nat) (hx : x < 18446744073709551616) : bits .andNot .u64 (x : Int) 0 = (x : Int) := by
  have := u64_andNot_nat x 0 hx (by omega)
  refine (Eq.trans (by rfl) this).trans ?_
  congr 1
  have := Nat.and_two_pow_sub_one_eq_mod x 64
  refine (Eq.trans (by rfl) this).trans ?_
  exact Nat.mod_eq_of_lt (by rw [← Sl.lt_two64]; exact hx)

theorem set_ret {a b c d : Int} {s : Sl.Four} (ha : a = (s.a : Int)) (hb : b = (s.b : Int)) (hc : c = (s.c : Int)) (hd : d = (s.d : Int)) :
    Ending.returned (.agg #[.int .u64 a, .int .u64 b, .int .u64 c, .int .u64 d]) = .returned (setV s) := by rw [ha, hb, hc, hd]

/-- A set of four words of 64 bits is answered; nothing below has turned. -/
def SetP (s : Sl.Four) (w : World) (e : Ending) (w' : World) : Prop := e = .returned (setV s) ∧ Below w.heap.size w w'

theorem rhas_bit {x r : Nat} : (((x : Int) / 2 ^ r).tmod 2 == 1) = x.testBit r := by
  have e : (x : Int) / 2 ^ r = ((x / 2 ^ r : Nat) : Int) := by rw [Int.natCast_ediv]; simp
  rw [Nat.testBit_eq_decide_div_mod_eq, Bool.eq_iff_iff, beq_iff_eq, decide_eq_true_iff, e, Int.tmod_eq_emod_of_nonneg (Int.natCast_nonneg _)]
  generalize x / 2 ^ r = y
  omega

/-- The table of math/bits is laid. -/
def Tab (w : World) : Prop := ∀ j, j < 64 → w.cell? ⟨0, j, none⟩ = some (.int .u8 ((Lib.deBruijn64tab.getD j 0 : Nat) : Int))

set_option maxRecDepth 100000 in
/-- Where a word's lowest bit is. -/
theorem tz_any (x : Nat) (hx : x < 18446744073709551616) (w : World) (hT : Tab w) :
    Calls Tryd.prog 70 #[.int .u64 (x : Int)] w fun e w' => e = .returned (.int .i64 ((Lib.ctz 64 x : Nat) : Int)) ∧ w = w' :=
  (Any7.bits_TrailingZeros64 Tryd.lays29 x hx w (fun _ => hT)).mono fun _ _ ⟨h1, h2⟩ => ⟨h1, h2.symm⟩

end Go.Proofs.YtifkoihhlhadhaaDoor

namespace Go.Proofs.YtifkoihhlhadhaaDoor
open Go.RowKit

set_option maxRecDepth 100000 in
theorem idx0 (x0 x1 x2 x3 : Value) (w : World) : (Instr.index 46 (.agg #[x0, x1, x2, x3]) (.int .i64 0)).run Tryd.prog w = .ok x0 w := by kernel_rfl
set_option maxRecDepth 100000 in
theorem idx1 (x0 x1 x2 x3 : Value) (w : World) : (Instr.index 46 (.agg #[x0, x1, x2, x3]) (.int .i64 1)).run Tryd.prog w = .ok x1 w := by kernel_rfl
set_option maxRecDepth 100000 in
theorem idx2 (x0 x1 x2 x3 : Value) (w : World) : (Instr.index 46 (.agg #[x0, x1, x2, x3]) (.int .i64 2)).run Tryd.prog w = .ok x2 w := by kernel_rfl
set_option maxRecDepth 100000 in
theorem idx3 (x0 x1 x2 x3 : Value) (w : World) : (Instr.index 46 (.agg #[x0, x1, x2, x3]) (.int .i64 3)).run Tryd.prog w = .ok x3 w := by kernel_rfl

theorem ones_le (x : Nat) : Lib.onesCount x ≤ 64 := by
  rw [← Sl.places_len]
  unfold Sl.places
  exact Nat.le_trans (List.length_filter_le _ _) (by simp)

set_option maxRecDepth 100000 in
theorem plain_u64 : Tryd.prog.plainKey 44 = true := by kernel_rfl
set_option maxRecDepth 100000 in
theorem cells_u64 : Tryd.prog.cellsOf 44 = 1 := by kernel_rfl
theorem range4 : List.range 4 = [0, 1, 2, 3] := rfl
set_option maxRecDepth 100000 in
theorem eq_item {xs ys : Array Value} {i : Nat} {is : List Nat} {x y : Int} (w : World) (hx : xs[i]? = some (.int .u64 x)) (hy : ys[i]? = some (.int .u64 y)) :
    (Op.eqItems 9999 44 1 xs ys (i :: is)).run Tryd.prog w = if (x == y) = true then (Op.eqItems 9999 44 1 xs ys is).run Tryd.prog w else .ok false w := by
  have p : ∀ (zs : Array Value) (z : Value), zs[i]? = some z → (part 44 zs (i * 1)).run Tryd.prog w = .ok z w := fun zs z h => run_part_plain w plain_u64 (by rw [Nat.mul_one]; exact h)
  have E : (Op.equalIn 9999 44 (.int .u64 x) (.int .u64 y)).run Tryd.prog w = .ok (x == y) w := run_equalIn_int w 9998 _ _ _ x y Tryd.underlying44
  simp only [Op.eqItems, Sem.run_bind]
  rw [p _ _ hx, Result.andThen_ok, p _ _ hy, Result.andThen_ok, E, Result.andThen_ok]
  cases x == y <;> simp

set_option maxRecDepth 100000 in
/-- Two sets compared. -/
theorem eq_four (x0 x1 x2 x3 y0 y1 y2 y3 : Int) (w : World) :
    (Op.equalIn 10000 46 (.agg #[.int .u64 x0, .int .u64 x1, .int .u64 x2, .int .u64 x3]) (.agg #[.int .u64 y0, .int .u64 y1, .int .u64 y2, .int .u64 y3])).run Tryd.prog w
      = .ok (x0 == y0 && (x1 == y1 && (x2 == y2 && x3 == y3))) w := by
  obtain ⟨i, hi⟩ : ∃ i, Tryd.prog.info? 44 = some i := ⟨_, rfl⟩
  rw [run_equalIn_array w 9999 _ _ Tryd.underlying46 hi, cells_u64, range4, eq_item w (x := x0) (y := y0) rfl rfl, eq_item w (x := x1) (y := y1) rfl rfl, eq_item w (x := x2) (y := y2) rfl rfl, eq_item w (x := x3) (y := y3) rfl rfl]
  cases x0 == y0
  · rfl
  cases x1 == y1
  · rfl
  cases x2 == y2
  · rfl
  cases x3 == y3
  · rfl
  simp [Op.eqItems]
set_option maxRecDepth 100000 in
/-- A set is the same as itself. -/
theorem eq_same (s : Sl.Four) (w : World) : (Op.equalIn 10000 46 (setV s) (setV s)).run Tryd.prog w = .ok true w := by
  rw [eq_four]
  simp

end Go.Proofs.YtifkoihhlhadhaaDoor

namespace Go.Proofs.YtifkoihhlhadhaaDoor
open Go.RowKit

/-- Block g is just the set s. -/
def SetAt (w : World) (g : Nat) (s : Sl.Four) : Prop := w.heap[g]? = some (.cells #[.int .u64 (s.a : Int), .int .u64 (s.b : Int), .int .u64 (s.c : Int), .int .u64 (s.d : Int)] 46 (0, 0))

theorem SetAt.lt {w : World} {g : Nat} {s : Sl.Four} (h : SetAt w g s) : g < w.heap.size := by
  apply Nat.lt_of_not_le
  intro hle
  unfold SetAt at h
  rw [Array.getElem?_eq_none hle] at h
  cases h
set_option maxRecDepth 100000 in
theorem SetAt.new (w : World) (s : Sl.Four) : SetAt (w.alloc (.cells #[.int .u64 (s.a : Int), .int .u64 (s.b : Int), .int .u64 (s.c : Int), .int .u64 (s.d : Int)] 46)) w.heap.size s := heap_alloc_new w _
theorem SetAt.alloc {w : World} {g : Nat} {s : Sl.Four} (h : SetAt w g s) (o : Obj) : SetAt (w.alloc o) g s := (Below.heap_alloc w o g h.lt).trans h
theorem SetAt.below {w w' : World} {g B : Nat} {s : Sl.Four} (h : SetAt w g s) (hb : Below B w w') (hg : g < B) : SetAt w' g s := (hb.block g hg).trans h
theorem SetAt.far {w : World} {g : Nat} {s : Sl.Four} (h : SetAt w g s) {p : Addr} (hp : g ≠ p.block) (u : Value) : SetAt (w.setCell p u) g s := (Below.heap_setCell w p u g hp).trans h
/-- What the walk asks: the four cells, and that they may be written. -/
theorem SetAt.reads {w : World} {g : Nat} {s : Sl.Four} (h : SetAt w g s) :
    (w.cell? ⟨g, 0, none⟩ = some (.int .u64 (s.a : Int)) ∧ w.cell? ⟨g, 1, none⟩ = some (.int .u64 (s.b : Int)) ∧ w.cell? ⟨g, 2, none⟩ = some (.int .u64 (s.c : Int)) ∧ w.cell? ⟨g, 3, none⟩ = some (.int .u64 (s.d : Int))) ∧
    (w.frozen? ⟨g, 0, none⟩ = false ∧ w.frozen? ⟨g, 1, none⟩ = false ∧ w.frozen? ⟨g, 2, none⟩ = false ∧ w.frozen? ⟨g, 3, none⟩ = false) := by
  unfold SetAt at h
  refine ⟨⟨cell_of_row w g 0 _ _ _ h, cell_of_row w g 1 _ _ _ h, cell_of_row w g 2 _ _ _ h, cell_of_row w g 3 _ _ _ h⟩, ?_⟩
  simp [World.frozen?, h]
theorem SetAt.store {w : World} {g : Nat} {s : Sl.Four} (h : SetAt w g s) (t : Sl.Four) :
    SetAt ((((w.setCell ⟨g, 0, none⟩ (.int .u64 (t.a : Int))).setCell ⟨g, 1, none⟩ (.int .u64 (t.b : Int))).setCell ⟨g, 2, none⟩ (.int .u64 (t.c : Int))).setCell ⟨g, 3, none⟩ (.int .u64 (t.d : Int))) g t := by
  unfold SetAt at h ⊢
  simp [World.setCell, Array.getElem?_modify, h]

end Go.Proofs.YtifkoihhlhadhaaDoor
