/-
 What slots.place, Has, With, Without, the document's Has, and math/bits.OnesCount64, TrailingZeros64 answer. Conditions: the words have 64 bits; TrailingZeros64: its table is laid.
-/
import Derived.Test.YtmhmlhlplfkpaaaGreatDoorBM
import Derived.Test.YtmhmlhlplfkpaaaGreatDoorSlM
import Derived.Laws.Bits64b
import Derived.Shelf.Spec.TrailingZeros
import Derived.Handy
import Derived.ChangeKeysEq
import Derived.RangeFuncNested
import Derived.RangeFuncBound
import Derived.RangeFuncCalls
import Derived.RangeFuncLeaves
import Derived.Shelf.Abstract
import Derived.Shelf.RegionOpen
import Derived.OwnWalkIn
import Derived.TacticsInMore
import Derived.LoopNIn
import Derived.LoopIn
set_option maxRecDepth 100000
namespace Go.Proofs.YtmhmlhlplfkpaaaGreatDoor
open Go.RowKit
abbrev setV (s : Sl.Four) : Value := .agg #[.int .u64 (s.a : Int), .int .u64 (s.b : Int), .int .u64 (s.c : Int), .int .u64 (s.d : Int)]
end Go.Proofs.YtmhmlhlplfkpaaaGreatDoor
namespace Go.Proofs
open Go.Shelf
def Tryz.lays29_ren : Go.Shelf.Ren := ⟨fun | 29 => 93 | n => n, fun | 0 => 0 | 3 => 3 | 4 => 4 | 5 => 5 | 22 => 68 | 25 => 126 | 54 => 154 | n => n, fun | 1 => 0 | n => n⟩
theorem Tryz.lays29 : Go.Proofs.Lays7.n29 Tryz.prog Tryz.lays29_ren := {
 mixed := by kernel_rfl
 f29 := Tryz.func93.trans (congrArg some (by kernel_rfl))
 t0 := Tryz.underlying0
 a0 := Tryz.isAgg0
 z0 := Tryz.sizeOf0
 v0 := Tryz.zeroValue0
 i0 := by kernel_rfl
 t3 := Tryz.underlying3
 a3 := Tryz.isAgg3
 z3 := Tryz.sizeOf3
 v3 := Tryz.zeroValue3
 i3 := by kernel_rfl
 t4 := Tryz.underlying4
 a4 := Tryz.isAgg4
 z4 := Tryz.sizeOf4
 v4 := Tryz.zeroValue4
 i4 := by kernel_rfl
 t5 := Tryz.underlying5
 a5 := Tryz.isAgg5
 z5 := Tryz.sizeOf5
 v5 := Tryz.zeroValue5
 i5 := by kernel_rfl
 t22 := Tryz.underlying68
 a22 := Tryz.isAgg68
 z22 := Tryz.sizeOf68
 v22 := Tryz.zeroValue68
 i22 := by kernel_rfl
 t25 := Tryz.underlying126
 a25 := Tryz.isAgg126
 z25 := Tryz.sizeOf126
 v25 := Tryz.zeroValue126
 i25 := by kernel_rfl
 t54 := Tryz.underlying154
 a54 := Tryz.isAgg154
 z54 := Tryz.sizeOf154
 g1 := by kernel_rfl }
end Go.Proofs
namespace Go.Proofs.YtmhmlhlplfkpaaaGreatDoor
open Go.RowKit
theorem hasI_at {s : Sl.Four} {n : Int} {q r : Nat} (hq : q < 4) (hr : r < 64) (hn : ((64 * q + r : Nat) : Int) = n) : s.hasI n = (s.word q).testBit r := by
 subst hn
 unfold Sl.Four.hasI Sl.Four.has
 rw [Int.toNat_natCast, show (64 * q + r) / 64 = q by omega, show (64 * q + r) % 64 = r by omega, decide_eq_true (by omega), Bool.true_and]
theorem with_at {s : Sl.Four} {n : Int} {q r : Nat} (hq : q < 4) (hr : r < 64) (hn : ((64 * q + r : Nat) : Int) = n) : s.with_ n = s.put q (s.word q ||| 2 ^ r) := by
 subst hn
 unfold Sl.Four.with_
 rw [Int.toNat_natCast, show (64 * q + r) / 64 = q by omega, show (64 * q + r) % 64 = r by omega, if_pos (by omega)]
theorem parts {n : Int} (h0 : 0 ≤ n) (h1 : n < 256) : ∃ q r k : Nat, q < 4 ∧ r < 64 ∧ ((64 * q + r : Nat) : Int) = n ∧ 2 ^ r = k :=
 ⟨n.toNat / 64, n.toNat % 64, _, by omega, by omega, by omega, rfl⟩
theorem hasI_out {s : Sl.Four} {n : Int} (h : n < 0 ∨ 256 ≤ n) : s.hasI n = false := by
 unfold Sl.Four.hasI
 rw [decide_eq_false (by omega), Bool.false_and]
theorem cut_any (x y : Nat) (hx : x < 18446744073709551616) (hy : y < 18446744073709551616) : bits .andNot .u64 (x : Int) (y : Int) = (Sl.cut x y : Int) := u64_andNot_nat x y hx hy
theorem set_ret {a b c d : Int} {s : Sl.Four} (ha : a = (s.a : Int)) (hb : b = (s.b : Int)) (hc : c = (s.c : Int)) (hd : d = (s.d : Int)) :
   Ending.returned (.agg #[.int .u64 a, .int .u64 b, .int .u64 c, .int .u64 d]) = .returned (setV s) := by rw [ha, hb, hc, hd]
def SetP (s : Sl.Four) (w : World) (e : Ending) (w' : World) : Prop := e = .returned (setV s) ∧ Below w.heap.size w w'
theorem rhas_bit {x r : Nat} : (((x : Int) / 2 ^ r).tmod 2 == 1) = x.testBit r := by
 have e : (x : Int) / 2 ^ r = ((x / 2 ^ r : Nat) : Int) := by rw [Int.natCast_ediv]; simp
 rw [Nat.testBit_eq_decide_div_mod_eq, Bool.eq_iff_iff, beq_iff_eq, decide_eq_true_iff, e, Int.tmod_eq_emod_of_nonneg (Int.natCast_nonneg _)]
 generalize x / 2 ^ r = y
 omega
set_option maxHeartbeats 1000000 in
theorem rhas_any (s : Sl.Four) (n : Int) (w : World) :
   Calls Tryz.prog 63 #[setV s, .int .i64 n] w fun e w' => e = .returned (.bool (s.hasI n)) ∧ Below w.heap.size w w' := by
 by_cases hn : n < 0 ∨ 256 ≤ n
 · rw [hasI_out hn]
   rcases hn with hn | hn
   · have h0 : ¬ 0 ≤ n := by omega
     go_enter Tryz.func63, Tryz.ntmps63
     go_wp2
     go_ret
     exact ⟨rfl, (Below.refl _ _).alloc (Nat.le_refl _) _⟩
   · have h0 : 0 ≤ n := by omega
     have h1 : ¬ n ≤ 255 := by omega
     go_enter Tryz.func63, Tryz.ntmps63
     go_wp2
     go_ret
     exact ⟨rfl, (Below.refl _ _).alloc (Nat.le_refl _) _⟩
 · obtain ⟨q, r, k, hq, hr, e, hk⟩ := parts (n := n) (by omega) (by omega)
   rw [hasI_at hq hr e]
   have h0 : 0 ≤ n := by omega
   have h1 : n ≤ 255 := by omega
   have hd : n / 64 = (q : Int) := by omega
   have hm : n % 64 = (r : Int) := by omega
   clear hn e hk
   obtain rfl | rfl | rfl | rfl : q = 0 ∨ q = 1 ∨ q = 2 ∨ q = 3 := by omega
   all_goals
     go_enter Tryz.func63, Tryz.ntmps63
     go_wp2
     go_ret
     exact ⟨ret_bool rhas_bit, (Below.refl _ _).alloc (Nat.le_refl _) _⟩
def Tab (w : World) : Prop := ∀ j, j < 64 → w.cell? ⟨0, j, none⟩ = some (.int .u8 ((Lib.deBruijn64tab.getD j 0 : Nat) : Int))
theorem tz_any (x : Nat) (hx : x < 18446744073709551616) (w : World) (hT : Tab w) :
   Calls Tryz.prog 93 #[.int .u64 (x : Int)] w fun e w' => e = .returned (.int .i64 ((Lib.ctz 64 x : Nat) : Int)) ∧ w = w' :=
 (Any7.bits_TrailingZeros64 Tryz.lays29 x hx w (fun _ => hT)).mono fun _ _ ⟨h1, h2⟩ => ⟨h1, h2.symm⟩
end Go.Proofs.YtmhmlhlplfkpaaaGreatDoor
namespace Go.Proofs.YtmhmlhlplfkpaaaGreatDoor
open Go.RowKit
set_option maxHeartbeats 1000000 in
theorem rsub_set (a b : Sl.Four) (ha : a.ok) (hb : b.ok) (w : World) :
   Calls Tryz.prog 106 #[setV a, setV b] w (SetP (a.sub b) w) := by
 have HA := Lib.hid ha
 have HB := Lib.hid hb
 clear ha hb
 go_enter Tryz.func106, Tryz.ntmps106
 go_wp2
 refine wp_loop_rounds 5 ?_
 rw [rounds_succ]
 go_wp2
 go_region
 go_wp2
 rw [rounds_succ]
 go_wp2
 go_region
 go_wp2
 rw [rounds_succ]
 go_wp2
 go_region
 go_wp2
 rw [rounds_succ]
 go_wp2
 go_region
 go_wp2
 rw [rounds_succ]
 go_wp2
 exact bodyPost_ret (v := .agg #[.int .u64 (bits .andNot .u64 (a.a : Int) (b.a : Int)), .int .u64 (bits .andNot .u64 (a.b : Int) (b.b : Int)), .int .u64 (bits .andNot .u64 (a.c : Int) (b.c : Int)), .int .u64 (bits .andNot .u64 (a.d : Int) (b.d : Int))]) (by simp [results, Tryz.results106, go_sem]) rfl
   ⟨set_ret (cut_any _ _ HA.out.1 HB.out.1) (cut_any _ _ HA.out.2.1 HB.out.2.1) (cut_any _ _ HA.out.2.2.1 HB.out.2.2.1) (cut_any _ _ HA.out.2.2.2 HB.out.2.2.2), ((((((((Below.refl _ _).alloc (Nat.le_refl _) _).alloc (by simp) _).alloc (by simp; omega) _).drew).drew).drew).drew)⟩
theorem idx0 (x0 x1 x2 x3 : Value) (w : World) : (Instr.index 70 (.agg #[x0, x1, x2, x3]) (.int .i64 0)).run Tryz.prog w = .ok x0 w := by kernel_rfl
theorem idx1 (x0 x1 x2 x3 : Value) (w : World) : (Instr.index 70 (.agg #[x0, x1, x2, x3]) (.int .i64 1)).run Tryz.prog w = .ok x1 w := by kernel_rfl
theorem idx2 (x0 x1 x2 x3 : Value) (w : World) : (Instr.index 70 (.agg #[x0, x1, x2, x3]) (.int .i64 2)).run Tryz.prog w = .ok x2 w := by kernel_rfl
theorem idx3 (x0 x1 x2 x3 : Value) (w : World) : (Instr.index 70 (.agg #[x0, x1, x2, x3]) (.int .i64 3)).run Tryz.prog w = .ok x3 w := by kernel_rfl
theorem plain_u64 : Tryz.prog.plainKey 68 = true := by kernel_rfl
theorem cells_u64 : Tryz.prog.cellsOf 68 = 1 := by kernel_rfl
theorem range4 : List.range 4 = [0, 1, 2, 3] := rfl
theorem eq_item {xs ys : Array Value} {i : Nat} {is : List Nat} {x y : Int} (w : World) (hx : xs[i]? = some (.int .u64 x)) (hy : ys[i]? = some (.int .u64 y)) :
   (Op.eqItems 9999 68 1 xs ys (i :: is)).run Tryz.prog w = if (x == y) = true then (Op.eqItems 9999 68 1 xs ys is).run Tryz.prog w else .ok false w := by
 have p : ∀ (zs : Array Value) (z : Value), zs[i]? = some z → (part 68 zs (i * 1)).run Tryz.prog w = .ok z w := fun zs z h => run_part_plain w plain_u64 (by rw [Nat.mul_one]; exact h)
 have E : (Op.equalIn 9999 68 (.int .u64 x) (.int .u64 y)).run Tryz.prog w = .ok (x == y) w := run_equalIn_int w 9998 _ _ _ x y Tryz.underlying68
 simp only [Op.eqItems, Sem.run_bind]
 rw [p _ _ hx, Result.andThen_ok, p _ _ hy, Result.andThen_ok, E, Result.andThen_ok]
 cases x == y <;> simp
theorem eq_four (x0 x1 x2 x3 y0 y1 y2 y3 : Int) (w : World) :
   (Op.equalIn 10000 70 (.agg #[.int .u64 x0, .int .u64 x1, .int .u64 x2, .int .u64 x3]) (.agg #[.int .u64 y0, .int .u64 y1, .int .u64 y2, .int .u64 y3])).run Tryz.prog w
     = .ok (x0 == y0 && (x1 == y1 && (x2 == y2 && x3 == y3))) w := by
 obtain ⟨i, hi⟩ : ∃ i, Tryz.prog.info? 68 = some i := ⟨_, rfl⟩
 rw [run_equalIn_array w 9999 _ _ Tryz.underlying70 hi, cells_u64, range4, eq_item w (x := x0) (y := y0) rfl rfl, eq_item w (x := x1) (y := y1) rfl rfl, eq_item w (x := x2) (y := y2) rfl rfl, eq_item w (x := x3) (y := y3) rfl rfl]
 cases x0 == y0
 · rfl
 cases x1 == y1
 · rfl
 cases x2 == y2
 · rfl
 cases x3 == y3
 · rfl
 simp [Op.eqItems]
set_option maxHeartbeats 1000000 in
theorem rinside_any (a b : Sl.Four) (ha : a.ok) (hb : b.ok) (w : World) :
   Calls Tryz.prog 83 #[setV a, setV b] w fun e w' => e = .returned (.bool (a.inside b)) ∧ Below w.heap.size w w' := by
 have HS := Lib.hid (fun w => rsub_set a b ha hb w)
 clear ha hb
 unfold Sl.Four.inside
 generalize a.sub b = s at *
 have e4 := eq_four
 go_enter Tryz.func83, Tryz.ntmps83
 go_wp2_with (go_at_call 106; refine (HS.out _).mono ?_; rintro e w1 ⟨rfl, hbl⟩; have HBL := Lib.hid hbl; clear hbl)
 go_ret
 refine ⟨ret_bool ?_, ?_⟩
 · rw [Bool.eq_iff_iff]
   simp
 · exact (((Below.refl _ _).alloc (Nat.le_refl _) _).alloc (by simp) _).trans (HBL.out.mono (by simp; omega))
end Go.Proofs.YtmhmlhlplfkpaaaGreatDoor
namespace Go.Proofs.YtmhmlhlplfkpaaaGreatDoor
open Go.RowKit
def SetAt (w : World) (g : Nat) (s : Sl.Four) : Prop := w.heap[g]? = some (.cells #[.int .u64 (s.a : Int), .int .u64 (s.b : Int), .int .u64 (s.c : Int), .int .u64 (s.d : Int)] 70 (0, 0))
theorem SetAt.lt {w : World} {g : Nat} {s : Sl.Four} (h : SetAt w g s) : g < w.heap.size := by
 apply Nat.lt_of_not_le
 intro hle
 unfold SetAt at h
 rw [Array.getElem?_eq_none hle] at h
 cases h
theorem SetAt.new (w : World) (s : Sl.Four) : SetAt (w.alloc (.cells #[.int .u64 (s.a : Int), .int .u64 (s.b : Int), .int .u64 (s.c : Int), .int .u64 (s.d : Int)] 70)) w.heap.size s := heap_alloc_new w _
theorem SetAt.alloc {w : World} {g : Nat} {s : Sl.Four} (h : SetAt w g s) (o : Obj) : SetAt (w.alloc o) g s := (Below.heap_alloc w o g h.lt).trans h
theorem SetAt.below {w w' : World} {g B : Nat} {s : Sl.Four} (h : SetAt w g s) (hb : Below B w w') (hg : g < B) : SetAt w' g s := (hb.block g hg).trans h
theorem SetAt.far {w : World} {g : Nat} {s : Sl.Four} (h : SetAt w g s) {p : Addr} (hp : g ≠ p.block) (u : Value) : SetAt (w.setCell p u) g s := (Below.heap_setCell w p u g hp).trans h
theorem SetAt.reads {w : World} {g : Nat} {s : Sl.Four} (h : SetAt w g s) :
   (w.cell? ⟨g, 0, none⟩ = some (.int .u64 (s.a : Int)) ∧ w.cell? ⟨g, 1, none⟩ = some (.int .u64 (s.b : Int)) ∧ w.cell? ⟨g, 2, none⟩ = some (.int .u64 (s.c : Int)) ∧ w.cell? ⟨g, 3, none⟩ = some (.int .u64 (s.d : Int))) ∧
   (w.frozen? ⟨g, 0, none⟩ = false ∧ w.frozen? ⟨g, 1, none⟩ = false ∧ w.frozen? ⟨g, 2, none⟩ = false ∧ w.frozen? ⟨g, 3, none⟩ = false) := by
 unfold SetAt at h
 refine ⟨⟨cell_of_row w g 0 _ _ _ h, cell_of_row w g 1 _ _ _ h, cell_of_row w g 2 _ _ _ h, cell_of_row w g 3 _ _ _ h⟩, ?_⟩
 simp [World.frozen?, h]
theorem SetAt.store {w : World} {g : Nat} {s : Sl.Four} (h : SetAt w g s) (t : Sl.Four) :
   SetAt ((((w.setCell ⟨g, 0, none⟩ (.int .u64 (t.a : Int))).setCell ⟨g, 1, none⟩ (.int .u64 (t.b : Int))).setCell ⟨g, 2, none⟩ (.int .u64 (t.c : Int))).setCell ⟨g, 3, none⟩ (.int .u64 (t.d : Int))) g t := by
 unfold SetAt at h ⊢
 simp [World.setCell, Array.getElem?_modify, h]
end Go.Proofs.YtmhmlhlplfkpaaaGreatDoor
namespace Go.Proofs.YtmhmlhlplfkpaaaGreatDoor
open Go.RowKit
theorem below_store {B : Nat} {w w1 : World} (hb : Below B w w1) {g : Nat} (hg : B ≤ g) (a b c d : Value) :
   Below B w ((((w1.setCell ⟨g, 0, none⟩ a).setCell ⟨g, 1, none⟩ b).setCell ⟨g, 2, none⟩ c).setCell ⟨g, 3, none⟩ d) :=
 (((hb.setCell (p := ⟨g, 0, none⟩) hg _).setCell (p := ⟨g, 1, none⟩) hg _).setCell (p := ⟨g, 2, none⟩) hg _).setCell (p := ⟨g, 3, none⟩) hg _
theorem SetAt.far4 {w : World} {g g' : Nat} {s : Sl.Four} (h : SetAt w g s) (hne : g ≠ g') (a b c d : Value) :
   SetAt ((((w.setCell ⟨g', 0, none⟩ a).setCell ⟨g', 1, none⟩ b).setCell ⟨g', 2, none⟩ c).setCell ⟨g', 3, none⟩ d) g s :=
 (((h.far (p := ⟨g', 0, none⟩) hne _).far (p := ⟨g', 1, none⟩) hne _).far (p := ⟨g', 2, none⟩) hne _).far (p := ⟨g', 3, none⟩) hne _
def Gath (w : World) (g : Nat) (s : Sl.Four) (wr : World) : Prop := SetAt wr (g + 1) s ∧ SetAt wr g Sl.no ∧ Below w.heap.size w wr
theorem Gath.step {w wr w1 : World} {g : Nat} {s : Sl.Four} (h : Gath w g s wr) (hg : w.heap.size ≤ g) (hbl : Below wr.heap.size wr w1) (t : Sl.Four) :
   Gath w g t ((((w1.setCell ⟨g + 1, 0, none⟩ (.int .u64 (t.a : Int))).setCell ⟨g + 1, 1, none⟩ (.int .u64 (t.b : Int))).setCell ⟨g + 1, 2, none⟩ (.int .u64 (t.c : Int))).setCell ⟨g + 1, 3, none⟩ (.int .u64 (t.d : Int))) := by
 obtain ⟨h1, h2, h3⟩ := h
 exact ⟨(h1.below hbl h1.lt).store t, (h2.below hbl h2.lt).far4 (by omega) _ _ _ _, below_store (h3.trans (hbl.mono h3.size)) (by omega) _ _ _ _⟩
theorem Gath.start (w : World) : Gath w w.heap.size Sl.no ((w.alloc (.cells #[.int .u64 0, .int .u64 0, .int .u64 0, .int .u64 0] 70)).alloc (.cells #[.int .u64 0, .int .u64 0, .int .u64 0, .int .u64 0] 70)) := by
 have h := SetAt.new (w.alloc (.cells #[.int .u64 0, .int .u64 0, .int .u64 0, .int .u64 0] 70)) Sl.no
 rw [World.size_alloc] at h
 exact ⟨h, (SetAt.new w Sl.no).alloc _, ((Below.refl _ _).alloc (Nat.le_refl _) _).alloc (by simp) _⟩
theorem SetAt.put {w : World} {g : Nat} {s : Sl.Four} (h : SetAt w g s) (q x : Nat) (hq : q < 4) : SetAt (w.setCell ⟨g, q, none⟩ (.int .u64 (x : Int))) g (s.put q x) := by
 unfold SetAt at h ⊢
 obtain rfl | rfl | rfl | rfl : q = 0 ∨ q = 1 ∨ q = 2 ∨ q = 3 := by omega
 all_goals simp [World.setCell, Array.getElem?_modify, h, Sl.Four.put]
theorem Gath.put {w wr w1 : World} {g : Nat} {s : Sl.Four} (h : Gath w g s wr) (hg : w.heap.size ≤ g) (hbl : Below wr.heap.size wr w1) (q x : Nat) (hq : q < 4) {i : Int} (hi : i = (x : Int)) :
   Gath w g (s.put q x) (w1.setCell ⟨g + 1, q, none⟩ (.int .u64 i)) := by
 subst hi
 obtain ⟨h1, h2, h3⟩ := h
 exact ⟨(h1.below hbl h1.lt).put q x hq, (h2.below hbl h2.lt).far (p := ⟨g + 1, q, none⟩) (by simp) _, (h3.trans (hbl.mono h3.size)).setCell (p := ⟨g + 1, q, none⟩) (by simp; omega) _⟩
theorem Gath.kept {w wr w1 : World} {g : Nat} {s : Sl.Four} (h : Gath w g s wr) (hbl : Below wr.heap.size wr w1) : Gath w g s w1 := by
 obtain ⟨h1, h2, h3⟩ := h
 exact ⟨h1.below hbl h1.lt, h2.below hbl h2.lt, h3.trans (hbl.mono h3.size)⟩
theorem add_word {x r : Nat} (hx : x < 18446744073709551616) (hr : r < 64) (h : x.testBit r = false) : IntKind.u64.wrap ((x : Int) + IntKind.u64.wrap (2 ^ r)) = ((x + 2 ^ r : Nat) : Int) := by
 have e := Sl.add_bit hr hx h
 have hb := Sl.bit_lt hr
 have hl := Sl.or_lt hx hb
 rw [← e] at hl
 rw [IntKind.wrap_u64, IntKind.wrap_u64, show ((2 : Int) ^ r) = ((2 ^ r : Nat) : Int) by simp]
 generalize 2 ^ r = k at *
 omega
end Go.Proofs.YtmhmlhlplfkpaaaGreatDoor
namespace Go.Proofs.YtmhmlhlplfkpaaaGreatDoor
open Go.RowKit
def Coll (w : World) (g : Nat) (s : Sl.Four) (out : Value) (l : List Int) (wr : World) : Prop :=
 wr.ownsRow (g + 1) 3 1 out l.length (vs l) ∧ SetAt wr g s ∧ Below w.heap.size w wr
theorem Coll.kept {w wr w1 : World} {g : Nat} {s : Sl.Four} {out : Value} {l : List Int} (h : Coll w g s out l wr) (hb : Below wr.heap.size wr w1) : Coll w g s out l w1 := by
 obtain ⟨h1, h2, h3⟩ := h
 exact ⟨ownsRow_below h1 hb, h2.below hb h2.lt, h3.trans (hb.mono h3.size)⟩
theorem Coll.step {w wr w2 : World} {g : Nat} {s : Sl.Four} {out : Value} {l : List Int} (h : Coll w g s out l wr) (hg : w.heap.size ≤ g) {x : Int} {o : Obj} {ga cap : Nat}
   (hown : w2.ownsRow (g + 1) 3 1 (.slice (some ⟨ga, 0, none⟩) (l.length + 1) cap) (l.length + 1) (vs l ++ vs [x])) (hgr : (wr.alloc o).grownBy w2 out.ownBlock) :
   Coll w g s (.slice (some ⟨ga, 0, none⟩) (l.length + 1) cap) (l ++ [x]) w2 := by
 obtain ⟨h1, h2, h3⟩ := h
 have hlt := h1.lt
 have hs := h2.lt
 have hne : some g ≠ out.ownBlock := fun e => by have := (hlt g e.symm).1; omega
 refine ⟨by rw [List.length_append, vs_append]; exact hown, ?_, ?_⟩
 · have := hgr.block g (by simp; omega) hne
   exact this.trans ((Below.heap_alloc wr o g hs).trans h2)
 · exact (h3.alloc h3.size o).grown hgr (by have := h3.size; simp; omega) (fun k hk => by have := (hlt k hk).1; omega)
def LsRel (w : World) (s : Sl.Four) (out i : Value) (wr : World) : Prop :=
 ∃ (k : Nat) (z : Int), k ≤ 256 ∧ i = .int .i64 z ∧ z = (k : Int) ∧ Coll w w.heap.size s out (((List.range k).filter s.has).map (fun n : Nat => (n : Int))) wr
theorem range_true (s : Sl.Four) (k : Nat) (h : s.has k = true) : ((List.range (k + 1)).filter s.has).map (fun n : Nat => (n : Int)) = ((List.range k).filter s.has).map (fun n : Nat => (n : Int)) ++ [(k : Int)] := by
 rw [List.range_succ, List.filter_append, List.map_append, List.filter_cons_of_pos h]
 rfl
theorem range_false (s : Sl.Four) (k : Nat) (h : s.has k = false) : ((List.range (k + 1)).filter s.has).map (fun n : Nat => (n : Int)) = ((List.range k).filter s.has).map (fun n : Nat => (n : Int)) := by
 rw [List.range_succ, List.filter_append, List.map_append, List.filter_cons_of_neg (by rw [h]; simp)]
 simp
theorem range_le (s : Sl.Four) (k : Nat) : (((List.range k).filter s.has).map (fun n : Nat => (n : Int))).length ≤ k := by
 rw [List.length_map]
 exact Nat.le_trans (List.length_filter_le _ _) (by simp)
def ListP (s : Sl.Four) (w : World) (e : Ending) (w' : World) : Prop :=
 ∃ A c, e = .returned (.slice A s.list.length c) ∧ IntsAt w' w'.heap.size A s.list.length s.list ∧ Below w.heap.size w w'
theorem list_end {s : Sl.Four} {w wr : World} {v : Value} (h : Coll w w.heap.size s v s.list wr) : ListP s w (.returned v) wr := by
 obtain ⟨h1, _, h3⟩ := h
 rcases h1.2 with ⟨rfl, hn⟩ | ⟨g, cap, cur, rfl, _⟩
 · have hi := ints_of_own h1
   rw [← hn] at hi
   exact ⟨none, 0, by rw [hn], hi.2.1, h3⟩
 · exact ⟨_, cap, rfl, (ints_of_own h1).2.1, h3⟩
set_option maxHeartbeats 1000000 in
theorem list_any (s : Sl.Four) (w : World) :
   Calls Tryz.prog 34 #[setV s] w (ListP s w) := by
 obtain ⟨i0, hi, hz0, hz1, hz2⟩ := info_parts info_int
 go_enter Tryz.func34, Tryz.ntmps34
 go_wp2
 go_loopw [3, 4] (LsRel w s) (fun _ i _ => (256 - intOf i).toNat)
 case atStart => exact ⟨0, 0, by omega, rfl, rfl, ⟨rfl, .inl ⟨rfl, rfl⟩⟩, SetAt.new w s, (Below.refl _ _).alloc (Nat.le_refl _) _⟩
 case round =>
   obtain ⟨k, z, hk, rfl, hz, hC⟩ := hrel
   have HK := Lib.hid hk
   by_cases hlt : k < 256
   · have hy1 : z < 256 := by omega
     have hy0 : 0 ≤ z := by omega
     have HZ := Lib.hid hz
     have HL := Lib.hid hlt
     have HH : Hid (s.hasI z = s.has k) := Lib.hid (by rw [hz]; unfold Sl.Four.hasI; rw [Int.toNat_natCast, decide_eq_true (by omega), Bool.true_and])
     have HR := Lib.hid (fun w => rhas_any s z w)
     rw [HH.out] at HR
     clear HH
     have HT := Lib.hid (range_true s k)
     have HF := Lib.hid (range_false s k)
     have HE := Lib.hid (range_le s k)
     obtain ⟨⟨c0, c1, c2, c3⟩, _⟩ := hC.2.1.reads
     have HC := Lib.hid hC
     clear hC hz hlt hk
     generalize ((List.range k).filter s.has).map (fun n : Nat => (n : Int)) = l at *
     cases hv : s.has k
     · rw [hv] at HR
       have HN := Lib.hid (HF.out hv)
       clear hv HT HF
       go_wp2_with (go_at_call 63; refine (HR.out _).mono ?_; rintro e w1 ⟨rfl, hbl⟩; have HBL := Lib.hid hbl; clear hbl)
       go_roundw
       case rel => exact ⟨k + 1, _, by have := HL.out; omega, rfl, by rw [HZ.out]; omega, by rw [HN.out]; exact HC.out.kept HBL.out⟩
       case measure => simp [intOf]; omega
     · rw [hv] at HR
       have HN := Lib.hid (HT.out hv)
       rw [← HZ.out] at HN
       clear hv HT HF
       go_wp2_with (first
         | (go_at_call 63; refine (HR.out _).mono ?_; rintro e w1 ⟨rfl, hbl⟩; have HBL := Lib.hid hbl; clear hbl; have HKp := Lib.hid (HC.out.kept HBL.out); clear HC HBL c0 c1 c2 c3)
         | (at_builtin; refine wpList_append_lies _ rfl (.tmp 12) (.tmp 14) 24 rfl (w.heap.size + 1) 3 i0 (.int .i64 0) 1 8 Tryz.underlying24 hi hz0 hz1 hz2 rfl (by decide) u3 l.length (vs l) rfl (HKp.out.1.alloc _) ⟨w1.heap.size, 0, none⟩ 1 1 (vs [z]) rfl rfl ?c1 (vs_one _) (by decide) ?c3 ?c4 ?c5 (w1.heap.size + 1) ?c6 ?_))
       case c1 => exact new_one w1 _ _
       case c3 => have := HE.out; have := HL.out; unfold maxLen; omega
       case c4 => have := HE.out; have := HL.out; omega
       case c5 => have := HKp.out.2.1.lt; simp; omega
       case c6 => simp
       intro g cap w2 hown2 hgrow2 hat2 _
       have HS := Lib.hid (HKp.out.step (Nat.le_refl _) hown2 hgrow2)
       clear hown2 hgrow2 hat2 HKp
       go_wp2
       go_roundw
       case rel => exact ⟨k + 1, _, by have := HL.out; omega, rfl, by rw [HZ.out]; omega, by rw [HN.out]; exact HS.out⟩
       case measure => simp [intOf]; omega
   · have hy1 : 256 ≤ z := by omega
     obtain rfl : k = 256 := by omega
     have HC := Lib.hid hC
     rw [← Sl.list_eq] at HC
     clear hC hz hk hlt HK
     go_wp2
     go_ret
     exact list_end HC.out
end Go.Proofs.YtmhmlhlplfkpaaaGreatDoor
namespace Go.Proofs.YtmhmlhlplfkpaaaGreatDoor
open Go.RowKit Go.Shelf
attribute [local go_sem] Oper.semAt_some
def Sl.Four.upto (s : Sl.Four) : Nat → List Int
 | 0 => []
 | q + 1 => s.upto q ++ Sl.at_ q (s.word q)
theorem upto_four (s : Sl.Four) : s.upto 4 = s.list := by
 simp [Sl.Four.upto, Sl.Four.list, Sl.Four.word]
theorem upto_prefix (s : Sl.Four) (q : Nat) (hq : q < 4) : s.upto (q + 1) <+: s.list := by
 rw [← upto_four]
 obtain rfl | rfl | rfl | rfl : q = 0 ∨ q = 1 ∨ q = 2 ∨ q = 3 := by omega
 · exact ⟨Sl.at_ 1 (s.word 1) ++ (Sl.at_ 2 (s.word 2) ++ Sl.at_ 3 (s.word 3)), by simp [Sl.Four.upto]⟩
 · exact ⟨Sl.at_ 2 (s.word 2) ++ Sl.at_ 3 (s.word 3), by simp [Sl.Four.upto]⟩
 · exact ⟨Sl.at_ 3 (s.word 3), by simp [Sl.Four.upto]⟩
 · exact ⟨[], by simp [Sl.Four.upto]⟩
theorem at_step {q x : Nat} (h0 : x ≠ 0) (hx : x < 18446744073709551616) : Sl.at_ q x = ((64 * q + Lib.ctz 64 x : Nat) : Int) :: Sl.at_ q (x &&& (x - 1)) := by
 unfold Sl.at_
 rw [(Sl.drop_low h0 hx).2]
 rfl
theorem at_zero (q : Nat) : Sl.at_ q 0 = [] := by
 unfold Sl.at_
 rw [Sl.places_zero]
 rfl
theorem low_lt {x : Nat} (h0 : x ≠ 0) (hx : x < 18446744073709551616) : Lib.ctz 64 x < 64 := by
 obtain ⟨_, _, h⟩ := Sl.low_bit h0 hx
 exact h
theorem low_any {x : Nat} (h0 : x ≠ 0) (hx : x < 18446744073709551616) : bits .and .u64 (x : Int) (IntKind.u64.wrap ((x : Int) - 1)) = ((x &&& (x - 1) : Nat) : Int) := by
 have e : IntKind.u64.wrap ((x : Int) - 1) = ((x - 1 : Nat) : Int) := by rw [IntKind.wrap_u64]; omega
 rw [e]
 exact u64_and_nat x (x - 1) hx (by omega)
def OutRel (s : Sl.Four) (n₀ : Nat) (W : World) (J : List Int → World → Prop) (i : Value) (wr : World) : Prop :=
 ∃ (q : Nat) (z : Int), q ≤ 4 ∧ i = .int .i64 z ∧ z = (q : Int) ∧ J (s.upto q) wr ∧ Below n₀ W wr
def SlInRel (s : Sl.Four) (q n₀ : Nat) (W : World) (J : List Int → World → Prop) (v : Value) (wr : World) : Prop :=
 ∃ (x : Nat) (pre : List Int), v = .int .u64 (x : Int) ∧ x < 18446744073709551616 ∧ J (s.upto q ++ pre) wr ∧ pre ++ Sl.at_ q x = Sl.at_ q (s.word q) ∧ Below n₀ W wr
theorem tab_below {w w' : World} {B : Nat} (h : Tab w) (hb : Below B w w') (hB : 0 < B) : Tab w' := fun j hj => (hb.cell (p := ⟨0, j, none⟩) hB).trans (h j hj)
set_option maxHeartbeats 4000000 in
theorem all1p_in (n : Nat) (hn : 1 ≤ n) (l Bs n₀ : Nat) (s : Sl.Four) (hs : s.ok) (h1n : 0 < n₀) (J Jx : List Int → World → Prop)
   (hY : ∀ pre x W, J pre W → pre ++ [x] <+: s.list → YieldAt Fence.wide (n - 1) Tryz.prog l #[.int .i64 x] W fun e W' =>
     (e = .returned (.bool true) ∧ J (pre ++ [x]) W' ∧ Below n₀ W W') ∨ (e = .returned (.bool false) ∧ Jx (pre ++ [x]) W'))
   (W : World) (hB : SetAt W Bs s) (hT : Tab W) (h0 : J [] W) :
   CallsIn Fence.wide n Tryz.prog 92 #[.func (.yield l) #[] #[], .pointer (some ⟨Bs, 0, none⟩)] W fun e W' => (∃ v, e = .returned v) ∧
     ((∃ ys, ys = s.list ∧ J ys W') ∨ (∃ pre, pre <+: s.list ∧ Jx pre W')) := by
 obtain ⟨⟨c0, c1, c2, c3⟩, _⟩ := hB.reads
 have HS := Lib.hid hs
 have HY := Lib.hid hY
 have HT := Lib.hid hT
 have i0 := idx0
 have i1 := idx1
 have i2 := idx2
 have i3 := idx3
 clear hB hs hY hT
 refine callsIn_of_wp Tryz.func92 rfl trivial ?_ rfl
 simp only [Tryz.ntmps92, List.size_toArray, List.length_cons, List.length_nil, Nat.reduceAdd, Nat.reduceSub, Array.replicate_succ, Array.replicate_zero, List.push_toArray, List.append_toArray, List.nil_append, List.cons_append]
 gi_wp2
 gi_loopw [6] (OutRel s n₀ W J) (fun i _ => 4 - (intOf i).toNat)
 case atStart => exact ⟨0, 0, by omega, rfl, rfl, h0, Below.refl _ _⟩
 case round =>
   obtain ⟨q, z, hq, rfl, hz, hJ, hb⟩ := hrel
   have HJ := Lib.hid hJ
   have HB := Lib.hid hb
   clear hJ hb
   by_cases hlt : q < 4
   · obtain ⟨rfl, rfl⟩ | ⟨rfl, rfl⟩ | ⟨rfl, rfl⟩ | ⟨rfl, rfl⟩ : (q = 0 ∧ z = 0) ∨ (q = 1 ∧ z = 1) ∨ (q = 2 ∧ z = 2) ∨ (q = 3 ∧ z = 3) := by omega
     · clear hz hq hlt
       gi_wp2
       gi_loopw [4] (SlInRel s 0 n₀ W J) (fun v _ => (intOf v).toNat)
       case atStart => exact ⟨s.a, [], rfl, HS.out.1, by simpa using HJ.out, rfl, HB.out⟩
       case round =>
         obtain ⟨x, pre, rfl, hx, hJ, hp, hb⟩ := hrel
         by_cases hx0 : x = 0
         · subst hx0
           rw [at_zero, List.append_nil] at hp
           have HN : Hid (J (s.upto (0 + 1)) wr) := Lib.hid (by show J (s.upto 0 ++ Sl.at_ 0 (s.word 0)) wr; rw [← hp]; exact hJ)
           have HB2 := Lib.hid hb
           clear hJ hp hb
           gi_wp2
           go_roundw
           case rel => exact ⟨0 + 1, _, by omega, rfl, rfl, HN.out, HB2.out⟩
           case measure => simp [intOf]
         · have hx1 : ((x : Int) != 0) = true := by rw [bne_iff_ne]; omega
           rw [at_step hx0 hx] at hp
           have hk := low_lt hx0 hx
           have hlow := Sl.drop_low hx0 hx
           have hlo := low_any hx0 hx
           have HP := Lib.hid hp
           have HPre : Hid (s.upto 0 ++ (pre ++ [((64 * 0 + Lib.ctz 64 x : Nat) : Int)]) <+: s.list) := Lib.hid (by
             refine List.IsPrefix.trans ?_ (upto_prefix s 0 (by omega))
             show _ <+: s.upto 0 ++ Sl.at_ 0 (s.word 0)
             rw [← hp]
             exact ⟨Sl.at_ 0 (x &&& (x - 1)), by simp⟩)
           have HTz := Lib.hid (tz_any x hx wr (tab_below HT.out hb h1n))
           have HJ2 := Lib.hid hJ
           have HB2 := Lib.hid hb
           have HX := Lib.hid hx0
           clear hp hb hJ hx0
           generalize Lib.ctz 64 x = t at *
           obtain ⟨y, hy'⟩ : ∃ y, x &&& (x - 1) = y := ⟨_, rfl⟩
           rw [hy'] at hlow hlo HP
           have HYx := Lib.hid hy'
           have HLow := Lib.hid hlow.1
           clear hy' hlow
           have ev : ((64 * 0 + t : Nat) : Int) = ((t : Nat) : Int) := by omega
           rw [ev] at HP HPre
           obtain ⟨fn, tmps, assign, body, hy, hR⟩ := HY.out _ ((t : Nat) : Int) wr HJ2.out (by
             have := HPre.out
             rwa [← List.append_assoc] at this)
           clear ev
           gi_wp2_with (refine ⟨trivial, ?_⟩; gi_at_call 93; refine (callsIn_wide.2 HTz.out).mono ?_; rintro e w' ⟨rfl, rfl⟩)
           refine hR.mono ?_
           rintro e W3 (⟨rfl, hJ3, hk3⟩ | ⟨rfl, hJx3⟩)
           · gi_wp2
             go_roundw
             case rel => exact ⟨y, pre ++ [((t : Nat) : Int)], rfl, by have := HLow.out; omega, by rw [← List.append_assoc]; exact hJ3, by rw [← HP.out]; simp, HB2.out.trans hk3⟩
             case measure => have := HLow.out; simp [intOf]; omega
           · gi_wp2
             refine bodyPost_ret (results_none rfl _ _ _) rfl ?_
             exact ⟨⟨_, rfl⟩, .inr ⟨_, HPre.out, by rw [← List.append_assoc]; exact hJx3⟩⟩
     · clear hz hq hlt
       gi_wp2
       gi_loopw [4] (SlInRel s 1 n₀ W J) (fun v _ => (intOf v).toNat)
       case atStart => exact ⟨s.b, [], rfl, HS.out.2.1, by simpa using HJ.out, rfl, HB.out⟩
       case round =>
         obtain ⟨x, pre, rfl, hx, hJ, hp, hb⟩ := hrel
         by_cases hx0 : x = 0
         · subst hx0
           rw [at_zero, List.append_nil] at hp
           have HN : Hid (J (s.upto (1 + 1)) wr) := Lib.hid (by show J (s.upto 1 ++ Sl.at_ 1 (s.word 1)) wr; rw [← hp]; exact hJ)
           have HB2 := Lib.hid hb
           clear hJ hp hb
           gi_wp2
           go_roundw
           case rel => exact ⟨1 + 1, _, by omega, rfl, rfl, HN.out, HB2.out⟩
           case measure => simp [intOf]
         · have hx1 : ((x : Int) != 0) = true := by rw [bne_iff_ne]; omega
           rw [at_step hx0 hx] at hp
           have hk := low_lt hx0 hx
           have hlow := Sl.drop_low hx0 hx
           have hlo := low_any hx0 hx
           have HP := Lib.hid hp
           have HPre : Hid (s.upto 1 ++ (pre ++ [((64 * 1 + Lib.ctz 64 x : Nat) : Int)]) <+: s.list) := Lib.hid (by
             refine List.IsPrefix.trans ?_ (upto_prefix s 1 (by omega))
             show _ <+: s.upto 1 ++ Sl.at_ 1 (s.word 1)
             rw [← hp]
             exact ⟨Sl.at_ 1 (x &&& (x - 1)), by simp⟩)
           have HTz := Lib.hid (tz_any x hx wr (tab_below HT.out hb h1n))
           have HJ2 := Lib.hid hJ
           have HB2 := Lib.hid hb
           have HX := Lib.hid hx0
           clear hp hb hJ hx0
           generalize Lib.ctz 64 x = t at *
           obtain ⟨y, hy'⟩ : ∃ y, x &&& (x - 1) = y := ⟨_, rfl⟩
           rw [hy'] at hlow hlo HP
           have HYx := Lib.hid hy'
           have HLow := Lib.hid hlow.1
           clear hy' hlow
           have ev : ((64 * 1 + t : Nat) : Int) = (64 + (t : Int)) := by omega
           rw [ev] at HP HPre
           obtain ⟨fn, tmps, assign, body, hy, hR⟩ := HY.out _ (64 + (t : Int)) wr HJ2.out (by
             have := HPre.out
             rwa [← List.append_assoc] at this)
           clear ev
           gi_wp2_with (refine ⟨trivial, ?_⟩; gi_at_call 93; refine (callsIn_wide.2 HTz.out).mono ?_; rintro e w' ⟨rfl, rfl⟩)
           refine hR.mono ?_
           rintro e W3 (⟨rfl, hJ3, hk3⟩ | ⟨rfl, hJx3⟩)
           · gi_wp2
             go_roundw
             case rel => exact ⟨y, pre ++ [(64 + (t : Int))], rfl, by have := HLow.out; omega, by rw [← List.append_assoc]; exact hJ3, by rw [← HP.out]; simp, HB2.out.trans hk3⟩
             case measure => have := HLow.out; simp [intOf]; omega
           · gi_wp2
             refine bodyPost_ret (results_none rfl _ _ _) rfl ?_
             exact ⟨⟨_, rfl⟩, .inr ⟨_, HPre.out, by rw [← List.append_assoc]; exact hJx3⟩⟩
     · clear hz hq hlt
       gi_wp2
       gi_loopw [4] (SlInRel s 2 n₀ W J) (fun v _ => (intOf v).toNat)
       case atStart => exact ⟨s.c, [], rfl, HS.out.2.2.1, by simpa using HJ.out, rfl, HB.out⟩
       case round =>
         obtain ⟨x, pre, rfl, hx, hJ, hp, hb⟩ := hrel
         by_cases hx0 : x = 0
         · subst hx0
           rw [at_zero, List.append_nil] at hp
           have HN : Hid (J (s.upto (2 + 1)) wr) := Lib.hid (by show J (s.upto 2 ++ Sl.at_ 2 (s.word 2)) wr; rw [← hp]; exact hJ)
           have HB2 := Lib.hid hb
           clear hJ hp hb
           gi_wp2
           go_roundw
           case rel => exact ⟨2 + 1, _, by omega, rfl, rfl, HN.out, HB2.out⟩
           case measure => simp [intOf]
         · have hx1 : ((x : Int) != 0) = true := by rw [bne_iff_ne]; omega
           rw [at_step hx0 hx] at hp
           have hk := low_lt hx0 hx
           have hlow := Sl.drop_low hx0 hx
           have hlo := low_any hx0 hx
           have HP := Lib.hid hp
           have HPre : Hid (s.upto 2 ++ (pre ++ [((64 * 2 + Lib.ctz 64 x : Nat) : Int)]) <+: s.list) := Lib.hid (by
             refine List.IsPrefix.trans ?_ (upto_prefix s 2 (by omega))
             show _ <+: s.upto 2 ++ Sl.at_ 2 (s.word 2)
             rw [← hp]
             exact ⟨Sl.at_ 2 (x &&& (x - 1)), by simp⟩)
           have HTz := Lib.hid (tz_any x hx wr (tab_below HT.out hb h1n))
           have HJ2 := Lib.hid hJ
           have HB2 := Lib.hid hb
           have HX := Lib.hid hx0
           clear hp hb hJ hx0
           generalize Lib.ctz 64 x = t at *
           obtain ⟨y, hy'⟩ : ∃ y, x &&& (x - 1) = y := ⟨_, rfl⟩
           rw [hy'] at hlow hlo HP
           have HYx := Lib.hid hy'
           have HLow := Lib.hid hlow.1
           clear hy' hlow
           have ev : ((64 * 2 + t : Nat) : Int) = (128 + (t : Int)) := by omega
           rw [ev] at HP HPre
           obtain ⟨fn, tmps, assign, body, hy, hR⟩ := HY.out _ (128 + (t : Int)) wr HJ2.out (by
             have := HPre.out
             rwa [← List.append_assoc] at this)
           clear ev
           gi_wp2_with (refine ⟨trivial, ?_⟩; gi_at_call 93; refine (callsIn_wide.2 HTz.out).mono ?_; rintro e w' ⟨rfl, rfl⟩)
           refine hR.mono ?_
           rintro e W3 (⟨rfl, hJ3, hk3⟩ | ⟨rfl, hJx3⟩)
           · gi_wp2
             go_roundw
             case rel => exact ⟨y, pre ++ [(128 + (t : Int))], rfl, by have := HLow.out; omega, by rw [← List.append_assoc]; exact hJ3, by rw [← HP.out]; simp, HB2.out.trans hk3⟩
             case measure => have := HLow.out; simp [intOf]; omega
           · gi_wp2
             refine bodyPost_ret (results_none rfl _ _ _) rfl ?_
             exact ⟨⟨_, rfl⟩, .inr ⟨_, HPre.out, by rw [← List.append_assoc]; exact hJx3⟩⟩
     · clear hz hq hlt
       gi_wp2
       gi_loopw [4] (SlInRel s 3 n₀ W J) (fun v _ => (intOf v).toNat)
       case atStart => exact ⟨s.d, [], rfl, HS.out.2.2.2, by simpa using HJ.out, rfl, HB.out⟩
       case round =>
         obtain ⟨x, pre, rfl, hx, hJ, hp, hb⟩ := hrel
         by_cases hx0 : x = 0
         · subst hx0
           rw [at_zero, List.append_nil] at hp
           have HN : Hid (J (s.upto (3 + 1)) wr) := Lib.hid (by show J (s.upto 3 ++ Sl.at_ 3 (s.word 3)) wr; rw [← hp]; exact hJ)
           have HB2 := Lib.hid hb
           clear hJ hp hb
           gi_wp2
           go_roundw
           case rel => exact ⟨3 + 1, _, by omega, rfl, rfl, HN.out, HB2.out⟩
           case measure => simp [intOf]
         · have hx1 : ((x : Int) != 0) = true := by rw [bne_iff_ne]; omega
           rw [at_step hx0 hx] at hp
           have hk := low_lt hx0 hx
           have hlow := Sl.drop_low hx0 hx
           have hlo := low_any hx0 hx
           have HP := Lib.hid hp
           have HPre : Hid (s.upto 3 ++ (pre ++ [((64 * 3 + Lib.ctz 64 x : Nat) : Int)]) <+: s.list) := Lib.hid (by
             refine List.IsPrefix.trans ?_ (upto_prefix s 3 (by omega))
             show _ <+: s.upto 3 ++ Sl.at_ 3 (s.word 3)
             rw [← hp]
             exact ⟨Sl.at_ 3 (x &&& (x - 1)), by simp⟩)
           have HTz := Lib.hid (tz_any x hx wr (tab_below HT.out hb h1n))
           have HJ2 := Lib.hid hJ
           have HB2 := Lib.hid hb
           have HX := Lib.hid hx0
           clear hp hb hJ hx0
           generalize Lib.ctz 64 x = t at *
           obtain ⟨y, hy'⟩ : ∃ y, x &&& (x - 1) = y := ⟨_, rfl⟩
           rw [hy'] at hlow hlo HP
           have HYx := Lib.hid hy'
           have HLow := Lib.hid hlow.1
           clear hy' hlow
           have ev : ((64 * 3 + t : Nat) : Int) = (192 + (t : Int)) := by omega
           rw [ev] at HP HPre
           obtain ⟨fn, tmps, assign, body, hy, hR⟩ := HY.out _ (192 + (t : Int)) wr HJ2.out (by
             have := HPre.out
             rwa [← List.append_assoc] at this)
           clear ev
           gi_wp2_with (refine ⟨trivial, ?_⟩; gi_at_call 93; refine (callsIn_wide.2 HTz.out).mono ?_; rintro e w' ⟨rfl, rfl⟩)
           refine hR.mono ?_
           rintro e W3 (⟨rfl, hJ3, hk3⟩ | ⟨rfl, hJx3⟩)
           · gi_wp2
             go_roundw
             case rel => exact ⟨y, pre ++ [(192 + (t : Int))], rfl, by have := HLow.out; omega, by rw [← List.append_assoc]; exact hJ3, by rw [← HP.out]; simp, HB2.out.trans hk3⟩
             case measure => have := HLow.out; simp [intOf]; omega
           · gi_wp2
             refine bodyPost_ret (results_none rfl _ _ _) rfl ?_
             exact ⟨⟨_, rfl⟩, .inr ⟨_, HPre.out, by rw [← List.append_assoc]; exact hJx3⟩⟩
   · obtain ⟨rfl, rfl⟩ : q = 4 ∧ z = 4 := by omega
     clear hz hq hlt
     gi_wp2
     go_end0
     have hJ := HJ.out
     rw [upto_four] at hJ
     exact ⟨⟨_, rfl⟩, .inl ⟨_, rfl, hJ⟩⟩
theorem all1_in (n : Nat) (hn : 1 ≤ n) (l Bs n₀ : Nat) (s : Sl.Four) (hs : s.ok) (h1n : 0 < n₀) (J Jx : List Int → World → Prop)
   (hY : ∀ pre x W, J pre W → pre.length < s.list.length → YieldAt Fence.wide (n - 1) Tryz.prog l #[.int .i64 x] W fun e W' =>
     (e = .returned (.bool true) ∧ J (pre ++ [x]) W' ∧ Below n₀ W W') ∨ (e = .returned (.bool false) ∧ Jx (pre ++ [x]) W'))
   (W : World) (hB : SetAt W Bs s) (hT : Tab W) (h0 : J [] W) :
   CallsIn Fence.wide n Tryz.prog 92 #[.func (.yield l) #[] #[], .pointer (some ⟨Bs, 0, none⟩)] W fun e W' => (∃ v, e = .returned v) ∧
     ((∃ ys, ys = s.list ∧ J ys W') ∨ (∃ pre, pre <+: s.list ∧ Jx pre W')) :=
 all1p_in n hn l Bs n₀ s hs h1n J Jx (fun pre x W hJ hp => hY pre x W hJ (by have := hp.length_le; rw [List.length_append, List.length_singleton] at this; omega)) W hB hT h0
end Go.Proofs.YtmhmlhlplfkpaaaGreatDoor
namespace Go.Proofs.YtmhmlhlplfkpaaaGreatDoor
open Go.RowKit Go.Shelf
attribute [local go_sem] Oper.semAt_some
set_option maxHeartbeats 1000000 in
theorem all_in (n : Nat) (s : Sl.Four) (w : World) :
   CallsIn Fence.wide n Tryz.prog 59 #[setV s] w fun e w' => e = .returned (.func (.func 92) #[] #[.pointer (some ⟨w.heap.size, 0, none⟩)]) ∧ w.alloc (.cells #[.int .u64 (s.a : Int), .int .u64 (s.b : Int), .int .u64 (s.c : Int), .int .u64 (s.d : Int)] 70) = w' := by
 refine callsIn_of_wp Tryz.func59 rfl trivial ?_ rfl
 simp only [Tryz.ntmps59, List.size_toArray, List.length_cons, List.length_nil, Nat.reduceAdd, Nat.reduceSub, Array.replicate_succ, Array.replicate_zero, List.push_toArray, List.append_toArray, List.nil_append, List.cons_append]
 gi_wp2
 go_ret
 exact ⟨rfl, rfl⟩
theorem all_stops (n : Nat) (hn : 1 ≤ n) (Bs n₀ : Nat) (s : Sl.Four) (hs : s.ok) (w : World) (hB : SetAt w Bs s) (hT : Tab w) (h1n : 0 < n₀) (hn₀ : n₀ ≤ w.heap.size) :
   SeqStopsK Fence.wide n Tryz.prog 92 #[.pointer (some ⟨Bs, 0, none⟩)] (fun x : Int => #[Value.int .i64 x]) (Below n₀) (fun ys => ys = s.list) (fun pre => pre <+: s.list) s.list.length w :=
 fun l J Jx W hW _ _ hY h0 => all1_in n hn l Bs n₀ s hs h1n J Jx hY W (hB.below hW hB.lt) (tab_below hT hW (Nat.lt_of_lt_of_le h1n hn₀)) h0
theorem new_cell (W : World) (v : Value) (t : TypeId) : (W.alloc (.cells #[v] t)).cell? ⟨W.heap.size, 0, none⟩ = some v ∧ (W.alloc (.cells #[v] t)).frozen? ⟨W.heap.size, 0, none⟩ = false := by
 have h : (W.alloc (.cells #[v] t)).heap[W.heap.size]? = some (.cells #[v] t (0, 0)) := heap_alloc_new W _
 refine ⟨cell_of_row _ _ 0 _ _ _ h, ?_⟩
 simp only [World.frozen?, h]
 rfl
theorem more_cell {W : World} {a : Addr} {v : Value} (o : Obj) (h : W.cell? a = some v ∧ W.frozen? a = false) : (W.alloc o).cell? a = some v ∧ (W.alloc o).frozen? a = false :=
 ⟨cell_kept h.1 (World.grownBy_alloc W o none) (fun r e => by cases e), (frozen_kept h.1 (World.grownBy_alloc W o none) (fun r e => by cases e)).trans h.2⟩
theorem below_snoc {pre : List Int} {m x : Int} (h : ∀ y ∈ pre, y < m) (hx : x < m) : ∀ y ∈ pre ++ [x], y < m := by
 intro y hy
 rcases List.mem_append.1 hy with hy | hy
 · exact h y hy
 · rw [List.mem_singleton] at hy
   subst hy
   exact hx
theorem below_true {s : Sl.Four} {m : Int} (h : ∀ y ∈ s.list, y < m) : s.below m = true := by
 unfold Sl.Four.below
 rw [List.all_eq_true]
 exact fun y hy => decide_eq_true (h y hy)
theorem below_false {s : Sl.Four} {m : Int} {pre : List Int} (hp : pre <+: s.list) (h : ∃ y ∈ pre, m ≤ y) : s.below m = false := by
 obtain ⟨y, hy, hm⟩ := h
 unfold Sl.Four.below
 rw [List.all_eq_false]
 exact ⟨y, hp.subset hy, by simp; omega⟩
set_option maxHeartbeats 4000000 in
theorem below_any (s : Sl.Four) (hs : s.ok) (m : Int) (w : World) (hT : Tab w) (hw : 0 < w.heap.size) :
   Calls Tryz.prog 199 #[setV s, .int .i64 m] w fun e w' => e = .returned (.bool (s.below m)) ∧ Below w.heap.size w w' := by
 have HS := Lib.hid hs
 have HT := Lib.hid hT
 clear hs hT
 refine (callsIn_wide (n := 5)).1 ?_
 refine callsIn_of_wp_marks Tryz.func199 rfl trivial ?_ rfl
 simp only [Tryz.ntmps199, List.size_toArray, List.length_cons, List.length_nil, Nat.reduceAdd, Nat.reduceSub, Array.replicate_succ, Array.replicate_zero, List.push_toArray, List.append_toArray, List.nil_append, List.cons_append]
 gi_wp2_with (refine ⟨trivial, ?_⟩; gi_at_call 59; refine (all_in _ _ _).mono ?_; rintro e w' ⟨rfl, rfl⟩)
 have hB0 : Below w.heap.size w ((((w.alloc (.cells #[.int .u64 (s.a : Int), .int .u64 (s.b : Int), .int .u64 (s.c : Int), .int .u64 (s.d : Int)] 70)).alloc (.cells #[.int .i64 m] 3)).alloc (.cells #[.bool false] 4)).alloc (.cells #[.int .u64 (s.a : Int), .int .u64 (s.b : Int), .int .u64 (s.c : Int), .int .u64 (s.d : Int)] 70)) :=
   ((((Below.refl _ w).alloc (Nat.le_refl _) _).alloc (by simp) _).alloc (by simp; omega) _).alloc (by simp; omega) _
 have hA := SetAt.new (((w.alloc (.cells #[.int .u64 (s.a : Int), .int .u64 (s.b : Int), .int .u64 (s.c : Int), .int .u64 (s.d : Int)] 70)).alloc (.cells #[.int .i64 m] 3)).alloc (.cells #[.bool false] 4)) s
 have hN := new_cell (w.alloc (.cells #[.int .u64 (s.a : Int), .int .u64 (s.b : Int), .int .u64 (s.c : Int), .int .u64 (s.d : Int)] 70)) (.int .i64 m) 3
 have hR := new_cell ((w.alloc (.cells #[.int .u64 (s.a : Int), .int .u64 (s.b : Int), .int .u64 (s.c : Int), .int .u64 (s.d : Int)] 70)).alloc (.cells #[.int .i64 m] 3)) (.bool false) 4
 simp only [World.size_alloc] at hA hN hR
 refine wpIn_rangeFunc_ownF rfl (by omega) (gf := 92) (lb := #[.pointer (some ⟨w.heap.size + 1 + 1 + 1, 0, none⟩)]) rfl trivial (enters_of Tryz.func92 (by kernel_rfl) rfl)
   (all_stops _ (by omega) (w.heap.size + 1 + 1 + 1) w.heap.size s HS.out _ hA (tab_below HT.out hB0 hw) hw (by simp; omega)) belowK_t (belowK_b (by simp; omega)) (Below.refl _ _) (fun _ => rfl)
   (fun pre W => ((∀ y ∈ pre, y < m) ∧ W.cell? ⟨w.heap.size + 1, 0, none⟩ = some (.int .i64 m) ∧ W.cell? ⟨w.heap.size + 1 + 1, 0, none⟩ = some (.bool false) ∧ W.frozen? ⟨w.heap.size + 1 + 1, 0, none⟩ = false) ∧ Below w.heap.size w W)
   (fun c pre W => (c = .ret ∧ (∃ y ∈ pre, m ≤ y) ∧ W.cell? ⟨w.heap.size + 1 + 1, 0, none⟩ = some (.bool false)) ∧ Below w.heap.size w W)
   (OwnFrom.and (Own.from (fun s A B row hs hg hr => ⟨hs.1, cell_kept hs.2.1 hg hr, cell_kept hs.2.2.1 hg hr, (frozen_kept hs.2.2.1 hg hr).trans hs.2.2.2⟩) _) (ownFrom_below (Nat.le_refl _) (by simp; omega)))
   (fun c => OwnFrom.and (Own.from (fun s A B row hs hg hr => ⟨hs.1, hs.2.1, cell_kept hs.2.2 hg hr⟩) _) (ownFrom_below (Nat.le_refl _) (by simp; omega)))
   ⟨⟨by simp, (more_cell _ (more_cell _ hN)).1, (more_cell _ hR).1, (more_cell _ hR).2⟩, hB0⟩
   (fun x => { tmps := #[setV s, .int .i64 m, .pointer (some ⟨w.heap.size, 0, none⟩), .pointer (some ⟨w.heap.size + 1, 0, none⟩), .pointer (some ⟨w.heap.size + 1 + 1, 0, none⟩), .int .i64 x, setV s, .func (.func 92) #[] #[.pointer (some ⟨w.heap.size + 1 + 1 + 1, 0, none⟩)], .int .i64 x, undef, undef, undef], defers := [] }) ?assign ?body ?done ?stop
 case assign =>
   intro l x W K hK
   gi_wp2
   exact hK
 case body =>
   rintro l pre x W ⟨⟨hp, hcw, hcr, hfr⟩, hB⟩ _
   gi_wp2
   · have hx : m ≤ x := by assumption
     exact ⟨KeepsOthers.setCell _ _ _, ⟨rfl, ⟨x, List.mem_append.2 (.inr (by simp)), hx⟩, World.cell?_setCell_same' _ _ _ (by rw [hcr]; rfl)⟩, hB.setCell (p := ⟨w.heap.size + 1 + 1, 0, none⟩) (by simp; omega) _⟩
   · have hx : x < m := by assumption
     exact ⟨KeepsOthers.refl _, Below.refl _ _, ⟨below_snoc hp hx, hcw, hcr, hfr⟩, hB⟩
 case done =>
   rintro D ys W hD rfl ⟨⟨hne, _, hcr, hfr⟩, hB⟩ hK
   gi_wp2
   have hK' := (KeepsOthers.setCell W ⟨w.heap.size + 1 + 1, 0, none⟩ (.bool true)).same D _ hK rfl
   refine ⟨by simp, .inl ⟨_, _, rfl, run_takeDeferred hK', ?_⟩⟩
   have hc5 := cell_kept (World.cell?_setCell_same' W ⟨w.heap.size + 1 + 1, 0, none⟩ (.bool true) (by rw [hcr]; rfl)) (grownBy_putObj' _ D (.deferred none)) (fun r e => by cases e; exact ⟨_, hK', rfl⟩)
   refine ⟨.bool true, ?_, by rw [below_true hne], (hB.setCell (p := ⟨w.heap.size + 1 + 1, 0, none⟩) (by simp; omega) _).trans (belowK_b (w := w) (Nat.le_refl _) _ D _ _ (by simp at hD; omega) hK' rfl rfl)⟩
   simp [results, Tryz.f199, go_sem, hc5]
 case stop =>
   rintro D c pre W hD hpre ⟨⟨rfl, hin, hcr⟩, hB⟩ hK
   gi_wp2
   refine ⟨by simp, .inl ⟨_, _, rfl, run_takeDeferred hK, ?_⟩⟩
   have hc5 := cell_kept hcr (grownBy_putObj' _ D (.deferred none)) (fun r e => by cases e; exact ⟨_, hK, rfl⟩)
   refine ⟨.bool false, ?_, by rw [below_false hpre hin], hB.trans (belowK_b (w := w) (Nat.le_refl _) W D _ _ (by simp at hD; omega) hK rfl rfl)⟩
   simp [results, Tryz.f199, go_sem, hc5]
end Go.Proofs.YtmhmlhlplfkpaaaGreatDoor
