/-
 What slots.place, Has, With, Without, the document's Has, and math/bits.OnesCount64, TrailingZeros64 answer. Conditions: the words have 64 bits; TrailingZeros64: its table is laid.
-/
import Derived.Test.YtfopelegobhegaaGreatDoorBM
import Derived.Test.YtfopelegobhegaaGreatDoorSlM
import Derived.Laws.Bits64b
import Derived.Shelf.Spec.TrailingZeros
import Derived.Handy
import Derived.ChangeKeysEq
import Derived.RangeFuncNested
import Derived.RangeFuncBound
import Derived.RangeFuncCalls
import Derived.RangeFuncLeaves
import Derived.Shelf.Abstract
import Derived.Shelf.RegionOpen
import Derived.OwnWalkIn
import Derived.TacticsInMore
import Derived.LoopNIn
import Derived.LoopIn
set_option maxRecDepth 100000
namespace Go.Proofs.YtfopelegobhegaaGreatDoor
open Go.RowKit
abbrev setV (s : Sl.Four) : Value := .agg #[.int .u64 (s.a : Int), .int .u64 (s.b : Int), .int .u64 (s.c : Int), .int .u64 (s.d : Int)]
end Go.Proofs.YtfopelegobhegaaGreatDoor
namespace Go.Proofs
open Go.Shelf
def Tryz.lays29_ren : Go.Shelf.Ren := ⟨fun | 29 => 143 | n => n, fun | 0 => 0 | 3 => 3 | 4 => 4 | 5 => 5 | 22 => 91 | 25 => 101 | 54 => 182 | n => n, fun | 1 => 5 | n => n⟩
theorem Tryz.lays29 : Go.Proofs.Lays7.n29 Tryz.prog Tryz.lays29_ren := {
 mixed := by kernel_rfl
 f29 := Tryz.func143.trans (congrArg some (by kernel_rfl))
 t0 := Tryz.underlying0
 a0 := Tryz.isAgg0
 z0 := Tryz.sizeOf0
 v0 := Tryz.zeroValue0
 i0 := by kernel_rfl
 t3 := Tryz.underlying3
 a3 := Tryz.isAgg3
 z3 := Tryz.sizeOf3
 v3 := Tryz.zeroValue3
 i3 := by kernel_rfl
 t4 := Tryz.underlying4
 a4 := Tryz.isAgg4
 z4 := Tryz.sizeOf4
 v4 := Tryz.zeroValue4
 i4 := by kernel_rfl
 t5 := Tryz.underlying5
 a5 := Tryz.isAgg5
 z5 := Tryz.sizeOf5
 v5 := Tryz.zeroValue5
 i5 := by kernel_rfl
 t22 := Tryz.underlying91
 a22 := Tryz.isAgg91
 z22 := Tryz.sizeOf91
 v22 := Tryz.zeroValue91
 i22 := by kernel_rfl
 t25 := Tryz.underlying101
 a25 := Tryz.isAgg101
 z25 := Tryz.sizeOf101
 v25 := Tryz.zeroValue101
 i25 := by kernel_rfl
 t54 := Tryz.underlying182
 a54 := Tryz.isAgg182
 z54 := Tryz.sizeOf182
 g1 := by kernel_rfl }
end Go.Proofs
namespace Go.Proofs.YtfopelegobhegaaGreatDoor
open Go.RowKit
theorem parts {n : Int} (h0 : 0 ≤ n) (h1 : n < 256) : ∃ q r k : Nat, q < 4 ∧ r < 64 ∧ ((64 * q + r : Nat) : Int) = n ∧ 2 ^ r = k :=
 ⟨n.toNat / 64, n.toNat % 64, _, by omega, by omega, by omega, rfl⟩
def Tab (w : World) : Prop := ∀ j, j < 64 → w.cell? ⟨5, j, none⟩ = some (.int .u8 ((Lib.deBruijn64tab.getD j 0 : Nat) : Int))
theorem tz_any (x : Nat) (hx : x < 18446744073709551616) (w : World) (hT : Tab w) :
   Calls Tryz.prog 143 #[.int .u64 (x : Int)] w fun e w' => e = .returned (.int .i64 ((Lib.ctz 64 x : Nat) : Int)) ∧ w = w' :=
 (Any7.bits_TrailingZeros64 Tryz.lays29 x hx w (fun _ => hT)).mono fun _ _ ⟨h1, h2⟩ => ⟨h1, h2.symm⟩
end Go.Proofs.YtfopelegobhegaaGreatDoor
namespace Go.Proofs.YtfopelegobhegaaGreatDoor
open Go.RowKit
theorem idx0 (x0 x1 x2 x3 : Value) (w : World) : (Instr.index 93 (.agg #[x0, x1, x2, x3]) (.int .i64 0)).run Tryz.prog w = .ok x0 w := by kernel_rfl
theorem idx1 (x0 x1 x2 x3 : Value) (w : World) : (Instr.index 93 (.agg #[x0, x1, x2, x3]) (.int .i64 1)).run Tryz.prog w = .ok x1 w := by kernel_rfl
theorem idx2 (x0 x1 x2 x3 : Value) (w : World) : (Instr.index 93 (.agg #[x0, x1, x2, x3]) (.int .i64 2)).run Tryz.prog w = .ok x2 w := by kernel_rfl
theorem idx3 (x0 x1 x2 x3 : Value) (w : World) : (Instr.index 93 (.agg #[x0, x1, x2, x3]) (.int .i64 3)).run Tryz.prog w = .ok x3 w := by kernel_rfl
theorem plain_u64 : Tryz.prog.plainKey 91 = true := by kernel_rfl
theorem cells_u64 : Tryz.prog.cellsOf 91 = 1 := by kernel_rfl
theorem range4 : List.range 4 = [0, 1, 2, 3] := rfl
theorem eq_item {xs ys : Array Value} {i : Nat} {is : List Nat} {x y : Int} (w : World) (hx : xs[i]? = some (.int .u64 x)) (hy : ys[i]? = some (.int .u64 y)) :
   (Op.eqItems 9999 91 1 xs ys (i :: is)).run Tryz.prog w = if (x == y) = true then (Op.eqItems 9999 91 1 xs ys is).run Tryz.prog w else .ok false w := by
 have p : ∀ (zs : Array Value) (z : Value), zs[i]? = some z → (part 91 zs (i * 1)).run Tryz.prog w = .ok z w := fun zs z h => run_part_plain w plain_u64 (by rw [Nat.mul_one]; exact h)
 have E : (Op.equalIn 9999 91 (.int .u64 x) (.int .u64 y)).run Tryz.prog w = .ok (x == y) w := run_equalIn_int w 9998 _ _ _ x y Tryz.underlying91
 simp only [Op.eqItems, Sem.run_bind]
 rw [p _ _ hx, Result.andThen_ok, p _ _ hy, Result.andThen_ok, E, Result.andThen_ok]
 cases x == y <;> simp
theorem eq_four (x0 x1 x2 x3 y0 y1 y2 y3 : Int) (w : World) :
   (Op.equalIn 10000 93 (.agg #[.int .u64 x0, .int .u64 x1, .int .u64 x2, .int .u64 x3]) (.agg #[.int .u64 y0, .int .u64 y1, .int .u64 y2, .int .u64 y3])).run Tryz.prog w
     = .ok (x0 == y0 && (x1 == y1 && (x2 == y2 && x3 == y3))) w := by
 obtain ⟨i, hi⟩ : ∃ i, Tryz.prog.info? 91 = some i := ⟨_, rfl⟩
 rw [run_equalIn_array w 9999 _ _ Tryz.underlying93 hi, cells_u64, range4, eq_item w (x := x0) (y := y0) rfl rfl, eq_item w (x := x1) (y := y1) rfl rfl, eq_item w (x := x2) (y := y2) rfl rfl, eq_item w (x := x3) (y := y3) rfl rfl]
 cases x0 == y0
 · rfl
 cases x1 == y1
 · rfl
 cases x2 == y2
 · rfl
 cases x3 == y3
 · rfl
 simp [Op.eqItems]
end Go.Proofs.YtfopelegobhegaaGreatDoor
namespace Go.Proofs.YtfopelegobhegaaGreatDoor
open Go.RowKit
def SetAt (w : World) (g : Nat) (s : Sl.Four) : Prop := w.heap[g]? = some (.cells #[.int .u64 (s.a : Int), .int .u64 (s.b : Int), .int .u64 (s.c : Int), .int .u64 (s.d : Int)] 93 (0, 0))
theorem SetAt.lt {w : World} {g : Nat} {s : Sl.Four} (h : SetAt w g s) : g < w.heap.size := by
 apply Nat.lt_of_not_le
 intro hle
 unfold SetAt at h
 rw [Array.getElem?_eq_none hle] at h
 cases h
theorem SetAt.new (w : World) (s : Sl.Four) : SetAt (w.alloc (.cells #[.int .u64 (s.a : Int), .int .u64 (s.b : Int), .int .u64 (s.c : Int), .int .u64 (s.d : Int)] 93)) w.heap.size s := heap_alloc_new w _
theorem SetAt.alloc {w : World} {g : Nat} {s : Sl.Four} (h : SetAt w g s) (o : Obj) : SetAt (w.alloc o) g s := (Below.heap_alloc w o g h.lt).trans h
theorem SetAt.below {w w' : World} {g B : Nat} {s : Sl.Four} (h : SetAt w g s) (hb : Below B w w') (hg : g < B) : SetAt w' g s := (hb.block g hg).trans h
theorem SetAt.far {w : World} {g : Nat} {s : Sl.Four} (h : SetAt w g s) {p : Addr} (hp : g ≠ p.block) (u : Value) : SetAt (w.setCell p u) g s := (Below.heap_setCell w p u g hp).trans h
theorem SetAt.reads {w : World} {g : Nat} {s : Sl.Four} (h : SetAt w g s) :
   (w.cell? ⟨g, 0, none⟩ = some (.int .u64 (s.a : Int)) ∧ w.cell? ⟨g, 1, none⟩ = some (.int .u64 (s.b : Int)) ∧ w.cell? ⟨g, 2, none⟩ = some (.int .u64 (s.c : Int)) ∧ w.cell? ⟨g, 3, none⟩ = some (.int .u64 (s.d : Int))) ∧
   (w.frozen? ⟨g, 0, none⟩ = false ∧ w.frozen? ⟨g, 1, none⟩ = false ∧ w.frozen? ⟨g, 2, none⟩ = false ∧ w.frozen? ⟨g, 3, none⟩ = false) := by
 unfold SetAt at h
 refine ⟨⟨cell_of_row w g 0 _ _ _ h, cell_of_row w g 1 _ _ _ h, cell_of_row w g 2 _ _ _ h, cell_of_row w g 3 _ _ _ h⟩, ?_⟩
 simp [World.frozen?, h]
theorem SetAt.store {w : World} {g : Nat} {s : Sl.Four} (h : SetAt w g s) (t : Sl.Four) :
   SetAt ((((w.setCell ⟨g, 0, none⟩ (.int .u64 (t.a : Int))).setCell ⟨g, 1, none⟩ (.int .u64 (t.b : Int))).setCell ⟨g, 2, none⟩ (.int .u64 (t.c : Int))).setCell ⟨g, 3, none⟩ (.int .u64 (t.d : Int))) g t := by
 unfold SetAt at h ⊢
 simp [World.setCell, Array.getElem?_modify, h]
end Go.Proofs.YtfopelegobhegaaGreatDoor
namespace Go.Proofs.YtfopelegobhegaaGreatDoor
open Go.RowKit
theorem below_store {B : Nat} {w w1 : World} (hb : Below B w w1) {g : Nat} (hg : B ≤ g) (a b c d : Value) :
   Below B w ((((w1.setCell ⟨g, 0, none⟩ a).setCell ⟨g, 1, none⟩ b).setCell ⟨g, 2, none⟩ c).setCell ⟨g, 3, none⟩ d) :=
 (((hb.setCell (p := ⟨g, 0, none⟩) hg _).setCell (p := ⟨g, 1, none⟩) hg _).setCell (p := ⟨g, 2, none⟩) hg _).setCell (p := ⟨g, 3, none⟩) hg _
theorem SetAt.far4 {w : World} {g g' : Nat} {s : Sl.Four} (h : SetAt w g s) (hne : g ≠ g') (a b c d : Value) :
   SetAt ((((w.setCell ⟨g', 0, none⟩ a).setCell ⟨g', 1, none⟩ b).setCell ⟨g', 2, none⟩ c).setCell ⟨g', 3, none⟩ d) g s :=
 (((h.far (p := ⟨g', 0, none⟩) hne _).far (p := ⟨g', 1, none⟩) hne _).far (p := ⟨g', 2, none⟩) hne _).far (p := ⟨g', 3, none⟩) hne _
def Gath (w : World) (g : Nat) (s : Sl.Four) (wr : World) : Prop := SetAt wr (g + 1) s ∧ SetAt wr g Sl.no ∧ Below w.heap.size w wr
theorem Gath.step {w wr w1 : World} {g : Nat} {s : Sl.Four} (h : Gath w g s wr) (hg : w.heap.size ≤ g) (hbl : Below wr.heap.size wr w1) (t : Sl.Four) :
   Gath w g t ((((w1.setCell ⟨g + 1, 0, none⟩ (.int .u64 (t.a : Int))).setCell ⟨g + 1, 1, none⟩ (.int .u64 (t.b : Int))).setCell ⟨g + 1, 2, none⟩ (.int .u64 (t.c : Int))).setCell ⟨g + 1, 3, none⟩ (.int .u64 (t.d : Int))) := by
 obtain ⟨h1, h2, h3⟩ := h
 exact ⟨(h1.below hbl h1.lt).store t, (h2.below hbl h2.lt).far4 (by omega) _ _ _ _, below_store (h3.trans (hbl.mono h3.size)) (by omega) _ _ _ _⟩
theorem Gath.start (w : World) : Gath w w.heap.size Sl.no ((w.alloc (.cells #[.int .u64 0, .int .u64 0, .int .u64 0, .int .u64 0] 93)).alloc (.cells #[.int .u64 0, .int .u64 0, .int .u64 0, .int .u64 0] 93)) := by
 have h := SetAt.new (w.alloc (.cells #[.int .u64 0, .int .u64 0, .int .u64 0, .int .u64 0] 93)) Sl.no
 rw [World.size_alloc] at h
 exact ⟨h, (SetAt.new w Sl.no).alloc _, ((Below.refl _ _).alloc (Nat.le_refl _) _).alloc (by simp) _⟩
theorem SetAt.put {w : World} {g : Nat} {s : Sl.Four} (h : SetAt w g s) (q x : Nat) (hq : q < 4) : SetAt (w.setCell ⟨g, q, none⟩ (.int .u64 (x : Int))) g (s.put q x) := by
 unfold SetAt at h ⊢
 obtain rfl | rfl | rfl | rfl : q = 0 ∨ q = 1 ∨ q = 2 ∨ q = 3 := by omega
 all_goals simp [World.setCell, Array.getElem?_modify, h, Sl.Four.put]
theorem Gath.put {w wr w1 : World} {g : Nat} {s : Sl.Four} (h : Gath w g s wr) (hg : w.heap.size ≤ g) (hbl : Below wr.heap.size wr w1) (q x : Nat) (hq : q < 4) {i : Int} (hi : i = (x : Int)) :
   Gath w g (s.put q x) (w1.setCell ⟨g + 1, q, none⟩ (.int .u64 i)) := by
 subst hi
 obtain ⟨h1, h2, h3⟩ := h
 exact ⟨(h1.below hbl h1.lt).put q x hq, (h2.below hbl h2.lt).far (p := ⟨g + 1, q, none⟩) (by simp) _, (h3.trans (hbl.mono h3.size)).setCell (p := ⟨g + 1, q, none⟩) (by simp; omega) _⟩
theorem Gath.kept {w wr w1 : World} {g : Nat} {s : Sl.Four} (h : Gath w g s wr) (hbl : Below wr.heap.size wr w1) : Gath w g s w1 := by
 obtain ⟨h1, h2, h3⟩ := h
 exact ⟨h1.below hbl h1.lt, h2.below hbl h2.lt, h3.trans (hbl.mono h3.size)⟩
end Go.Proofs.YtfopelegobhegaaGreatDoor
namespace Go.Proofs.YtfopelegobhegaaGreatDoor
open Go.RowKit
def Coll (w : World) (g : Nat) (s : Sl.Four) (out : Value) (l : List Int) (wr : World) : Prop :=
 wr.ownsRow (g + 1) 3 1 out l.length (vs l) ∧ SetAt wr g s ∧ Below w.heap.size w wr
theorem Coll.kept {w wr w1 : World} {g : Nat} {s : Sl.Four} {out : Value} {l : List Int} (h : Coll w g s out l wr) (hb : Below wr.heap.size wr w1) : Coll w g s out l w1 := by
 obtain ⟨h1, h2, h3⟩ := h
 exact ⟨ownsRow_below h1 hb, h2.below hb h2.lt, h3.trans (hb.mono h3.size)⟩
theorem Coll.step {w wr w2 : World} {g : Nat} {s : Sl.Four} {out : Value} {l : List Int} (h : Coll w g s out l wr) (hg : w.heap.size ≤ g) {x : Int} {o : Obj} {ga cap : Nat}
   (hown : w2.ownsRow (g + 1) 3 1 (.slice (some ⟨ga, 0, none⟩) (l.length + 1) cap) (l.length + 1) (vs l ++ vs [x])) (hgr : (wr.alloc o).grownBy w2 out.ownBlock) :
   Coll w g s (.slice (some ⟨ga, 0, none⟩) (l.length + 1) cap) (l ++ [x]) w2 := by
 obtain ⟨h1, h2, h3⟩ := h
 have hlt := h1.lt
 have hs := h2.lt
 have hne : some g ≠ out.ownBlock := fun e => by have := (hlt g e.symm).1; omega
 refine ⟨by rw [List.length_append, vs_append]; exact hown, ?_, ?_⟩
 · have := hgr.block g (by simp; omega) hne
   exact this.trans ((Below.heap_alloc wr o g hs).trans h2)
 · exact (h3.alloc h3.size o).grown hgr (by have := h3.size; simp; omega) (fun k hk => by have := (hlt k hk).1; omega)
end Go.Proofs.YtfopelegobhegaaGreatDoor
namespace Go.Proofs.YtfopelegobhegaaGreatDoor
open Go.RowKit Go.Shelf
attribute [local go_sem] Oper.semAt_some
def Sl.Four.upto (s : Sl.Four) : Nat → List Int
 | 0 => []
 | q + 1 => s.upto q ++ Sl.at_ q (s.word q)
theorem upto_four (s : Sl.Four) : s.upto 4 = s.list := by
 simp [Sl.Four.upto, Sl.Four.list, Sl.Four.word]
theorem upto_prefix (s : Sl.Four) (q : Nat) (hq : q < 4) : s.upto (q + 1) <+: s.list := by
 rw [← upto_four]
 obtain rfl | rfl | rfl | rfl : q = 0 ∨ q = 1 ∨ q = 2 ∨ q = 3 := by omega
 · exact ⟨Sl.at_ 1 (s.word 1) ++ (Sl.at_ 2 (s.word 2) ++ Sl.at_ 3 (s.word 3)), by simp [Sl.Four.upto]⟩
 · exact ⟨Sl.at_ 2 (s.word 2) ++ Sl.at_ 3 (s.word 3), by simp [Sl.Four.upto]⟩
 · exact ⟨Sl.at_ 3 (s.word 3), by simp [Sl.Four.upto]⟩
 · exact ⟨[], by simp [Sl.Four.upto]⟩
theorem at_step {q x : Nat} (h0 : x ≠ 0) (hx : x < 18446744073709551616) : Sl.at_ q x = ((64 * q + Lib.ctz 64 x : Nat) : Int) :: Sl.at_ q (x &&& (x - 1)) := by
 unfold Sl.at_
 rw [(Sl.drop_low h0 hx).2]
 rfl
theorem at_zero (q : Nat) : Sl.at_ q 0 = [] := by
 unfold Sl.at_
 rw [Sl.places_zero]
 rfl
theorem low_lt {x : Nat} (h0 : x ≠ 0) (hx : x < 18446744073709551616) : Lib.ctz 64 x < 64 := by
 obtain ⟨_, _, h⟩ := Sl.low_bit h0 hx
 exact h
theorem low_any {x : Nat} (h0 : x ≠ 0) (hx : x < 18446744073709551616) : bits .and .u64 (x : Int) (IntKind.u64.wrap ((x : Int) - 1)) = ((x &&& (x - 1) : Nat) : Int) := by
 have e : IntKind.u64.wrap ((x : Int) - 1) = ((x - 1 : Nat) : Int) := by rw [IntKind.wrap_u64]; omega
 rw [e]
 exact u64_and_nat x (x - 1) hx (by omega)
def OutRel (s : Sl.Four) (n₀ : Nat) (W : World) (J : List Int → World → Prop) (i : Value) (wr : World) : Prop :=
 ∃ (q : Nat) (z : Int), q ≤ 4 ∧ i = .int .i64 z ∧ z = (q : Int) ∧ J (s.upto q) wr ∧ Below n₀ W wr
def SlInRel (s : Sl.Four) (q n₀ : Nat) (W : World) (J : List Int → World → Prop) (v : Value) (wr : World) : Prop :=
 ∃ (x : Nat) (pre : List Int), v = .int .u64 (x : Int) ∧ x < 18446744073709551616 ∧ J (s.upto q ++ pre) wr ∧ pre ++ Sl.at_ q x = Sl.at_ q (s.word q) ∧ Below n₀ W wr
theorem tab_below {w w' : World} {B : Nat} (h : Tab w) (hb : Below B w w') (hB : 5 < B) : Tab w' := fun j hj => (hb.cell (p := ⟨5, j, none⟩) hB).trans (h j hj)
set_option maxHeartbeats 4000000 in
theorem all1_in (n : Nat) (hn : 1 ≤ n) (l Bs n₀ : Nat) (s : Sl.Four) (hs : s.ok) (h1n : 5 < n₀) (J Jx : List Int → World → Prop)
   (hY : ∀ pre x W, J pre W → pre.length < s.list.length → YieldAt Fence.wide (n - 1) Tryz.prog l #[.int .i64 x] W fun e W' =>
     (e = .returned (.bool true) ∧ J (pre ++ [x]) W' ∧ Below n₀ W W') ∨ (e = .returned (.bool false) ∧ Jx (pre ++ [x]) W'))
   (W : World) (hB : SetAt W Bs s) (hT : Tab W) (h0 : J [] W) :
   CallsIn Fence.wide n Tryz.prog 145 #[.func (.yield l) #[] #[], .pointer (some ⟨Bs, 0, none⟩)] W fun e W' => (∃ v, e = .returned v) ∧
     ((∃ ys, ys = s.list ∧ J ys W') ∨ (∃ pre, pre <+: s.list ∧ Jx pre W')) := by
 obtain ⟨⟨c0, c1, c2, c3⟩, _⟩ := hB.reads
 have HS := Lib.hid hs
 have HY := Lib.hid hY
 have HT := Lib.hid hT
 have i0 := idx0
 have i1 := idx1
 have i2 := idx2
 have i3 := idx3
 clear hB hs hY hT
 refine callsIn_of_wp Tryz.func145 rfl trivial ?_ rfl
 simp only [Tryz.ntmps145, List.size_toArray, List.length_cons, List.length_nil, Nat.reduceAdd, Nat.reduceSub, Array.replicate_succ, Array.replicate_zero, List.push_toArray, List.append_toArray, List.nil_append, List.cons_append]
 gi_wp2
 gi_loopw [6] (OutRel s n₀ W J) (fun i _ => 4 - (intOf i).toNat)
 case atStart => exact ⟨0, 0, by omega, rfl, rfl, h0, Below.refl _ _⟩
 case round =>
   obtain ⟨q, z, hq, rfl, hz, hJ, hb⟩ := hrel
   have HJ := Lib.hid hJ
   have HB := Lib.hid hb
   clear hJ hb
   by_cases hlt : q < 4
   · obtain ⟨rfl, rfl⟩ | ⟨rfl, rfl⟩ | ⟨rfl, rfl⟩ | ⟨rfl, rfl⟩ : (q = 0 ∧ z = 0) ∨ (q = 1 ∧ z = 1) ∨ (q = 2 ∧ z = 2) ∨ (q = 3 ∧ z = 3) := by omega
     · clear hz hq hlt
       gi_wp2
       gi_loopw [4] (SlInRel s 0 n₀ W J) (fun v _ => (intOf v).toNat)
       case atStart => exact ⟨s.a, [], rfl, HS.out.1, by simpa using HJ.out, rfl, HB.out⟩
       case round =>
         obtain ⟨x, pre, rfl, hx, hJ, hp, hb⟩ := hrel
         by_cases hx0 : x = 0
         · subst hx0
           rw [at_zero, List.append_nil] at hp
           have HN : Hid (J (s.upto (0 + 1)) wr) := Lib.hid (by show J (s.upto 0 ++ Sl.at_ 0 (s.word 0)) wr; rw [← hp]; exact hJ)
           have HB2 := Lib.hid hb
           clear hJ hp hb
           gi_wp2
           go_roundw
           case rel => exact ⟨0 + 1, _, by omega, rfl, rfl, HN.out, HB2.out⟩
           case measure => simp [intOf]
         · have hx1 : ((x : Int) != 0) = true := by rw [bne_iff_ne]; omega
           rw [at_step hx0 hx] at hp
           have hk := low_lt hx0 hx
           have hlow := Sl.drop_low hx0 hx
           have hlo := low_any hx0 hx
           have HP := Lib.hid hp
           have HPre : Hid (s.upto 0 ++ (pre ++ [((64 * 0 + Lib.ctz 64 x : Nat) : Int)]) <+: s.list) := Lib.hid (by
             refine List.IsPrefix.trans ?_ (upto_prefix s 0 (by omega))
             show _ <+: s.upto 0 ++ Sl.at_ 0 (s.word 0)
             rw [← hp]
             exact ⟨Sl.at_ 0 (x &&& (x - 1)), by simp⟩)
           have HTz := Lib.hid (tz_any x hx wr (tab_below HT.out hb h1n))
           have HJ2 := Lib.hid hJ
           have HB2 := Lib.hid hb
           have HX := Lib.hid hx0
           clear hp hb hJ hx0
           generalize Lib.ctz 64 x = t at *
           obtain ⟨y, hy'⟩ : ∃ y, x &&& (x - 1) = y := ⟨_, rfl⟩
           rw [hy'] at hlow hlo HP
           have HYx := Lib.hid hy'
           have HLow := Lib.hid hlow.1
           clear hy' hlow
           have ev : ((64 * 0 + t : Nat) : Int) = ((t : Nat) : Int) := by omega
           rw [ev] at HP HPre
           obtain ⟨fn, tmps, assign, body, hy, hR⟩ := HY.out _ ((t : Nat) : Int) wr HJ2.out (by
             have := HPre.out.length_le
             simp at this
             simp
             omega)
           clear ev
           gi_wp2_with (refine ⟨trivial, ?_⟩; gi_at_call 143; refine (callsIn_wide.2 HTz.out).mono ?_; rintro e w' ⟨rfl, rfl⟩)
           refine hR.mono ?_
           rintro e W3 (⟨rfl, hJ3, hk3⟩ | ⟨rfl, hJx3⟩)
           · gi_wp2
             go_roundw
             case rel => exact ⟨y, pre ++ [((t : Nat) : Int)], rfl, by have := HLow.out; omega, by rw [← List.append_assoc]; exact hJ3, by rw [← HP.out]; simp, HB2.out.trans hk3⟩
             case measure => have := HLow.out; simp [intOf]; omega
           · gi_wp2
             refine bodyPost_ret (results_none rfl _ _ _) rfl ?_
             exact ⟨⟨_, rfl⟩, .inr ⟨_, HPre.out, by rw [← List.append_assoc]; exact hJx3⟩⟩
     · clear hz hq hlt
       gi_wp2
       gi_loopw [4] (SlInRel s 1 n₀ W J) (fun v _ => (intOf v).toNat)
       case atStart => exact ⟨s.b, [], rfl, HS.out.2.1, by simpa using HJ.out, rfl, HB.out⟩
       case round =>
         obtain ⟨x, pre, rfl, hx, hJ, hp, hb⟩ := hrel
         by_cases hx0 : x = 0
         · subst hx0
           rw [at_zero, List.append_nil] at hp
           have HN : Hid (J (s.upto (1 + 1)) wr) := Lib.hid (by show J (s.upto 1 ++ Sl.at_ 1 (s.word 1)) wr; rw [← hp]; exact hJ)
           have HB2 := Lib.hid hb
           clear hJ hp hb
           gi_wp2
           go_roundw
           case rel => exact ⟨1 + 1, _, by omega, rfl, rfl, HN.out, HB2.out⟩
           case measure => simp [intOf]
         · have hx1 : ((x : Int) != 0) = true := by rw [bne_iff_ne]; omega
           rw [at_step hx0 hx] at hp
           have hk := low_lt hx0 hx
           have hlow := Sl.drop_low hx0 hx
           have hlo := low_any hx0 hx
           have HP := Lib.hid hp
           have HPre : Hid (s.upto 1 ++ (pre ++ [((64 * 1 + Lib.ctz 64 x : Nat) : Int)]) <+: s.list) := Lib.hid (by
             refine List.IsPrefix.trans ?_ (upto_prefix s 1 (by omega))
             show _ <+: s.upto 1 ++ Sl.at_ 1 (s.word 1)
             rw [← hp]
             exact ⟨Sl.at_ 1 (x &&& (x - 1)), by simp⟩)
           have HTz := Lib.hid (tz_any x hx wr (tab_below HT.out hb h1n))
           have HJ2 := Lib.hid hJ
           have HB2 := Lib.hid hb
           have HX := Lib.hid hx0
           clear hp hb hJ hx0
           generalize Lib.ctz 64 x = t at *
           obtain ⟨y, hy'⟩ : ∃ y, x &&& (x - 1) = y := ⟨_, rfl⟩
           rw [hy'] at hlow hlo HP
           have HYx := Lib.hid hy'
           have HLow := Lib.hid hlow.1
           clear hy' hlow
           have ev : ((64 * 1 + t : Nat) : Int) = (64 + (t : Int)) := by omega
           rw [ev] at HP HPre
           obtain ⟨fn, tmps, assign, body, hy, hR⟩ := HY.out _ (64 + (t : Int)) wr HJ2.out (by
             have := HPre.out.length_le
             simp at this
             simp
             omega)
           clear ev
           gi_wp2_with (refine ⟨trivial, ?_⟩; gi_at_call 143; refine (callsIn_wide.2 HTz.out).mono ?_; rintro e w' ⟨rfl, rfl⟩)
           refine hR.mono ?_
           rintro e W3 (⟨rfl, hJ3, hk3⟩ | ⟨rfl, hJx3⟩)
           · gi_wp2
             go_roundw
             case rel => exact ⟨y, pre ++ [(64 + (t : Int))], rfl, by have := HLow.out; omega, by rw [← List.append_assoc]; exact hJ3, by rw [← HP.out]; simp, HB2.out.trans hk3⟩
             case measure => have := HLow.out; simp [intOf]; omega
           · gi_wp2
             refine bodyPost_ret (results_none rfl _ _ _) rfl ?_
             exact ⟨⟨_, rfl⟩, .inr ⟨_, HPre.out, by rw [← List.append_assoc]; exact hJx3⟩⟩
     · clear hz hq hlt
       gi_wp2
       gi_loopw [4] (SlInRel s 2 n₀ W J) (fun v _ => (intOf v).toNat)
       case atStart => exact ⟨s.c, [], rfl, HS.out.2.2.1, by simpa using HJ.out, rfl, HB.out⟩
       case round =>
         obtain ⟨x, pre, rfl, hx, hJ, hp, hb⟩ := hrel
         by_cases hx0 : x = 0
         · subst hx0
           rw [at_zero, List.append_nil] at hp
           have HN : Hid (J (s.upto (2 + 1)) wr) := Lib.hid (by show J (s.upto 2 ++ Sl.at_ 2 (s.word 2)) wr; rw [← hp]; exact hJ)
           have HB2 := Lib.hid hb
           clear hJ hp hb
           gi_wp2
           go_roundw
           case rel => exact ⟨2 + 1, _, by omega, rfl, rfl, HN.out, HB2.out⟩
           case measure => simp [intOf]
         · have hx1 : ((x : Int) != 0) = true := by rw [bne_iff_ne]; omega
           rw [at_step hx0 hx] at hp
           have hk := low_lt hx0 hx
           have hlow := Sl.drop_low hx0 hx
           have hlo := low_any hx0 hx
           have HP := Lib.hid hp
           have HPre : Hid (s.upto 2 ++ (pre ++ [((64 * 2 + Lib.ctz 64 x : Nat) : Int)]) <+: s.list) := Lib.hid (by
             refine List.IsPrefix.trans ?_ (upto_prefix s 2 (by omega))
             show _ <+: s.upto 2 ++ Sl.at_ 2 (s.word 2)
             rw [← hp]
             exact ⟨Sl.at_ 2 (x &&& (x - 1)), by simp⟩)
           have HTz := Lib.hid (tz_any x hx wr (tab_below HT.out hb h1n))
           have HJ2 := Lib.hid hJ
           have HB2 := Lib.hid hb
           have HX := Lib.hid hx0
           clear hp hb hJ hx0
           generalize Lib.ctz 64 x = t at *
           obtain ⟨y, hy'⟩ : ∃ y, x &&& (x - 1) = y := ⟨_, rfl⟩
           rw [hy'] at hlow hlo HP
           have HYx := Lib.hid hy'
           have HLow := Lib.hid hlow.1
           clear hy' hlow
           have ev : ((64 * 2 + t : Nat) : Int) = (128 + (t : Int)) := by omega
           rw [ev] at HP HPre
           obtain ⟨fn, tmps, assign, body, hy, hR⟩ := HY.out _ (128 + (t : Int)) wr HJ2.out (by
             have := HPre.out.length_le
             simp at this
             simp
             omega)
           clear ev
           gi_wp2_with (refine ⟨trivial, ?_⟩; gi_at_call 143; refine (callsIn_wide.2 HTz.out).mono ?_; rintro e w' ⟨rfl, rfl⟩)
           refine hR.mono ?_
           rintro e W3 (⟨rfl, hJ3, hk3⟩ | ⟨rfl, hJx3⟩)
           · gi_wp2
             go_roundw
             case rel => exact ⟨y, pre ++ [(128 + (t : Int))], rfl, by have := HLow.out; omega, by rw [← List.append_assoc]; exact hJ3, by rw [← HP.out]; simp, HB2.out.trans hk3⟩
             case measure => have := HLow.out; simp [intOf]; omega
           · gi_wp2
             refine bodyPost_ret (results_none rfl _ _ _) rfl ?_
             exact ⟨⟨_, rfl⟩, .inr ⟨_, HPre.out, by rw [← List.append_assoc]; exact hJx3⟩⟩
     · clear hz hq hlt
       gi_wp2
       gi_loopw [4] (SlInRel s 3 n₀ W J) (fun v _ => (intOf v).toNat)
       case atStart => exact ⟨s.d, [], rfl, HS.out.2.2.2, by simpa using HJ.out, rfl, HB.out⟩
       case round =>
         obtain ⟨x, pre, rfl, hx, hJ, hp, hb⟩ := hrel
         by_cases hx0 : x = 0
         · subst hx0
           rw [at_zero, List.append_nil] at hp
           have HN : Hid (J (s.upto (3 + 1)) wr) := Lib.hid (by show J (s.upto 3 ++ Sl.at_ 3 (s.word 3)) wr; rw [← hp]; exact hJ)
           have HB2 := Lib.hid hb
           clear hJ hp hb
           gi_wp2
           go_roundw
           case rel => exact ⟨3 + 1, _, by omega, rfl, rfl, HN.out, HB2.out⟩
           case measure => simp [intOf]
         · have hx1 : ((x : Int) != 0) = true := by rw [bne_iff_ne]; omega
           rw [at_step hx0 hx] at hp
           have hk := low_lt hx0 hx
           have hlow := Sl.drop_low hx0 hx
           have hlo := low_any hx0 hx
           have HP := Lib.hid hp
           have HPre : Hid (s.upto 3 ++ (pre ++ [((64 * 3 + Lib.ctz 64 x : Nat) : Int)]) <+: s.list) := Lib.hid (by
             refine List.IsPrefix.trans ?_ (upto_prefix s 3 (by omega))
             show _ <+: s.upto 3 ++ Sl.at_ 3 (s.word 3)
             rw [← hp]
             exact ⟨Sl.at_ 3 (x &&& (x - 1)), by simp⟩)
           have HTz := Lib.hid (tz_any x hx wr (tab_below HT.out hb h1n))
           have HJ2 := Lib.hid hJ
           have HB2 := Lib.hid hb
           have HX := Lib.hid hx0
           clear hp hb hJ hx0
           generalize Lib.ctz 64 x = t at *
           obtain ⟨y, hy'⟩ : ∃ y, x &&& (x - 1) = y := ⟨_, rfl⟩
           rw [hy'] at hlow hlo HP
           have HYx := Lib.hid hy'
           have HLow := Lib.hid hlow.1
           clear hy' hlow
           have ev : ((64 * 3 + t : Nat) : Int) = (192 + (t : Int)) := by omega
           rw [ev] at HP HPre
           obtain ⟨fn, tmps, assign, body, hy, hR⟩ := HY.out _ (192 + (t : Int)) wr HJ2.out (by
             have := HPre.out.length_le
             simp at this
             simp
             omega)
           clear ev
           gi_wp2_with (refine ⟨trivial, ?_⟩; gi_at_call 143; refine (callsIn_wide.2 HTz.out).mono ?_; rintro e w' ⟨rfl, rfl⟩)
           refine hR.mono ?_
           rintro e W3 (⟨rfl, hJ3, hk3⟩ | ⟨rfl, hJx3⟩)
           · gi_wp2
             go_roundw
             case rel => exact ⟨y, pre ++ [(192 + (t : Int))], rfl, by have := HLow.out; omega, by rw [← List.append_assoc]; exact hJ3, by rw [← HP.out]; simp, HB2.out.trans hk3⟩
             case measure => have := HLow.out; simp [intOf]; omega
           · gi_wp2
             refine bodyPost_ret (results_none rfl _ _ _) rfl ?_
             exact ⟨⟨_, rfl⟩, .inr ⟨_, HPre.out, by rw [← List.append_assoc]; exact hJx3⟩⟩
   · obtain ⟨rfl, rfl⟩ : q = 4 ∧ z = 4 := by omega
     clear hz hq hlt
     gi_wp2
     go_end0
     have hJ := HJ.out
     rw [upto_four] at hJ
     exact ⟨⟨_, rfl⟩, .inl ⟨_, rfl, hJ⟩⟩
end Go.Proofs.YtfopelegobhegaaGreatDoor
namespace Go.Proofs.YtfopelegobhegaaGreatDoor
open Go.RowKit Go.Shelf
attribute [local go_sem] Oper.semAt_some
set_option maxHeartbeats 1000000 in
theorem all_in (n : Nat) (s : Sl.Four) (w : World) :
   CallsIn Fence.wide n Tryz.prog 144 #[setV s] w fun e w' => e = .returned (.func (.func 145) #[] #[.pointer (some ⟨w.heap.size, 0, none⟩)]) ∧ w.alloc (.cells #[.int .u64 (s.a : Int), .int .u64 (s.b : Int), .int .u64 (s.c : Int), .int .u64 (s.d : Int)] 93) = w' := by
 refine callsIn_of_wp Tryz.func144 rfl trivial ?_ rfl
 simp only [Tryz.ntmps144, List.size_toArray, List.length_cons, List.length_nil, Nat.reduceAdd, Nat.reduceSub, Array.replicate_succ, Array.replicate_zero, List.push_toArray, List.append_toArray, List.nil_append, List.cons_append]
 gi_wp2
 go_ret
 exact ⟨rfl, rfl⟩
theorem all_stops (n : Nat) (hn : 1 ≤ n) (Bs n₀ : Nat) (s : Sl.Four) (hs : s.ok) (w : World) (hB : SetAt w Bs s) (hT : Tab w) (h1n : 5 < n₀) (hn₀ : n₀ ≤ w.heap.size) :
   SeqStopsK Fence.wide n Tryz.prog 145 #[.pointer (some ⟨Bs, 0, none⟩)] (fun x : Int => #[Value.int .i64 x]) (Below n₀) (fun ys => ys = s.list) (fun pre => pre <+: s.list) s.list.length w :=
 fun l J Jx W hW _ _ hY h0 => all1_in n hn l Bs n₀ s hs h1n J Jx hY W (hB.below hW hB.lt) (tab_below hT hW (Nat.lt_of_lt_of_le h1n hn₀)) h0
theorem new_cell (W : World) (v : Value) (t : TypeId) : (W.alloc (.cells #[v] t)).cell? ⟨W.heap.size, 0, none⟩ = some v ∧ (W.alloc (.cells #[v] t)).frozen? ⟨W.heap.size, 0, none⟩ = false := by
 have h : (W.alloc (.cells #[v] t)).heap[W.heap.size]? = some (.cells #[v] t (0, 0)) := heap_alloc_new W _
 refine ⟨cell_of_row _ _ 0 _ _ _ h, ?_⟩
 simp only [World.frozen?, h]
 rfl
theorem more_cell {W : World} {a : Addr} {v : Value} (o : Obj) (h : W.cell? a = some v ∧ W.frozen? a = false) : (W.alloc o).cell? a = some v ∧ (W.alloc o).frozen? a = false :=
 ⟨cell_kept h.1 (World.grownBy_alloc W o none) (fun r e => by cases e), (frozen_kept h.1 (World.grownBy_alloc W o none) (fun r e => by cases e)).trans h.2⟩
theorem below_snoc {pre : List Int} {m x : Int} (h : ∀ y ∈ pre, y < m) (hx : x < m) : ∀ y ∈ pre ++ [x], y < m := by
 intro y hy
 rcases List.mem_append.1 hy with hy | hy
 · exact h y hy
 · rw [List.mem_singleton] at hy
   subst hy
   exact hx
theorem below_true {s : Sl.Four} {m : Int} (h : ∀ y ∈ s.list, y < m) : s.below m = true := by
 unfold Sl.Four.below
 rw [List.all_eq_true]
 exact fun y hy => decide_eq_true (h y hy)
theorem below_false {s : Sl.Four} {m : Int} {pre : List Int} (hp : pre <+: s.list) (h : ∃ y ∈ pre, m ≤ y) : s.below m = false := by
 obtain ⟨y, hy, hm⟩ := h
 unfold Sl.Four.below
 rw [List.all_eq_false]
 exact ⟨y, hp.subset hy, by simp; omega⟩
set_option maxHeartbeats 4000000 in
theorem below_any (s : Sl.Four) (hs : s.ok) (m : Int) (w : World) (hT : Tab w) (hw : 5 < w.heap.size) :
   Calls Tryz.prog 141 #[setV s, .int .i64 m] w fun e w' => e = .returned (.bool (s.below m)) ∧ Below w.heap.size w w' := by
 have HS := Lib.hid hs
 have HT := Lib.hid hT
 clear hs hT
 refine (callsIn_wide (n := 5)).1 ?_
 refine callsIn_of_wp_marks Tryz.func141 rfl trivial ?_ rfl
 simp only [Tryz.ntmps141, List.size_toArray, List.length_cons, List.length_nil, Nat.reduceAdd, Nat.reduceSub, Array.replicate_succ, Array.replicate_zero, List.push_toArray, List.append_toArray, List.nil_append, List.cons_append]
 gi_wp2_with (refine ⟨trivial, ?_⟩; gi_at_call 144; refine (all_in _ _ _).mono ?_; rintro e w' ⟨rfl, rfl⟩)
 have hB0 : Below w.heap.size w ((((w.alloc (.cells #[.int .u64 (s.a : Int), .int .u64 (s.b : Int), .int .u64 (s.c : Int), .int .u64 (s.d : Int)] 93)).alloc (.cells #[.int .i64 m] 3)).alloc (.cells #[.bool false] 4)).alloc (.cells #[.int .u64 (s.a : Int), .int .u64 (s.b : Int), .int .u64 (s.c : Int), .int .u64 (s.d : Int)] 93)) :=
   ((((Below.refl _ w).alloc (Nat.le_refl _) _).alloc (by simp) _).alloc (by simp; omega) _).alloc (by simp; omega) _
 have hA := SetAt.new (((w.alloc (.cells #[.int .u64 (s.a : Int), .int .u64 (s.b : Int), .int .u64 (s.c : Int), .int .u64 (s.d : Int)] 93)).alloc (.cells #[.int .i64 m] 3)).alloc (.cells #[.bool false] 4)) s
 have hN := new_cell (w.alloc (.cells #[.int .u64 (s.a : Int), .int .u64 (s.b : Int), .int .u64 (s.c : Int), .int .u64 (s.d : Int)] 93)) (.int .i64 m) 3
 have hR := new_cell ((w.alloc (.cells #[.int .u64 (s.a : Int), .int .u64 (s.b : Int), .int .u64 (s.c : Int), .int .u64 (s.d : Int)] 93)).alloc (.cells #[.int .i64 m] 3)) (.bool false) 4
 simp only [World.size_alloc] at hA hN hR
 refine wpIn_rangeFunc_ownF rfl (by omega) (gf := 145) (lb := #[.pointer (some ⟨w.heap.size + 1 + 1 + 1, 0, none⟩)]) rfl trivial (enters_of Tryz.func145 (by kernel_rfl) rfl)
   (all_stops _ (by omega) (w.heap.size + 1 + 1 + 1) w.heap.size s HS.out _ hA (tab_below HT.out hB0 hw) hw (by simp; omega)) belowK_t (belowK_b (by simp; omega)) (Below.refl _ _) (fun _ => rfl)
   (fun pre W => ((∀ y ∈ pre, y < m) ∧ W.cell? ⟨w.heap.size + 1, 0, none⟩ = some (.int .i64 m) ∧ W.cell? ⟨w.heap.size + 1 + 1, 0, none⟩ = some (.bool false) ∧ W.frozen? ⟨w.heap.size + 1 + 1, 0, none⟩ = false) ∧ Below w.heap.size w W)
   (fun c pre W => (c = .ret ∧ (∃ y ∈ pre, m ≤ y) ∧ W.cell? ⟨w.heap.size + 1 + 1, 0, none⟩ = some (.bool false)) ∧ Below w.heap.size w W)
   (OwnFrom.and (Own.from (fun s A B row hs hg hr => ⟨hs.1, cell_kept hs.2.1 hg hr, cell_kept hs.2.2.1 hg hr, (frozen_kept hs.2.2.1 hg hr).trans hs.2.2.2⟩) _) (ownFrom_below (Nat.le_refl _) (by simp; omega)))
   (fun c => OwnFrom.and (Own.from (fun s A B row hs hg hr => ⟨hs.1, hs.2.1, cell_kept hs.2.2 hg hr⟩) _) (ownFrom_below (Nat.le_refl _) (by simp; omega)))
   ⟨⟨by simp, (more_cell _ (more_cell _ hN)).1, (more_cell _ hR).1, (more_cell _ hR).2⟩, hB0⟩
   (fun x => { tmps := #[setV s, .int .i64 m, .pointer (some ⟨w.heap.size, 0, none⟩), .pointer (some ⟨w.heap.size + 1, 0, none⟩), .pointer (some ⟨w.heap.size + 1 + 1, 0, none⟩), .int .i64 x, setV s, .func (.func 145) #[] #[.pointer (some ⟨w.heap.size + 1 + 1 + 1, 0, none⟩)], .int .i64 x, undef, undef, undef], defers := [] }) ?assign ?body ?done ?stop
 case assign =>
   intro l x W K hK
   gi_wp2
   exact hK
 case body =>
   rintro l pre x W ⟨⟨hp, hcw, hcr, hfr⟩, hB⟩ _
   gi_wp2
   · have hx : m ≤ x := by assumption
     exact ⟨KeepsOthers.setCell _ _ _, ⟨rfl, ⟨x, List.mem_append.2 (.inr (by simp)), hx⟩, World.cell?_setCell_same' _ _ _ (by rw [hcr]; rfl)⟩, hB.setCell (p := ⟨w.heap.size + 1 + 1, 0, none⟩) (by simp; omega) _⟩
   · have hx : x < m := by assumption
     exact ⟨KeepsOthers.refl _, Below.refl _ _, ⟨below_snoc hp hx, hcw, hcr, hfr⟩, hB⟩
 case done =>
   rintro D ys W hD rfl ⟨⟨hne, _, hcr, hfr⟩, hB⟩ hK
   gi_wp2
   have hK' := (KeepsOthers.setCell W ⟨w.heap.size + 1 + 1, 0, none⟩ (.bool true)).same D _ hK rfl
   refine ⟨by simp, .inl ⟨_, _, rfl, run_takeDeferred hK', ?_⟩⟩
   have hc5 := cell_kept (World.cell?_setCell_same' W ⟨w.heap.size + 1 + 1, 0, none⟩ (.bool true) (by rw [hcr]; rfl)) (grownBy_putObj' _ D (.deferred none)) (fun r e => by cases e; exact ⟨_, hK', rfl⟩)
   refine ⟨.bool true, ?_, by rw [below_true hne], (hB.setCell (p := ⟨w.heap.size + 1 + 1, 0, none⟩) (by simp; omega) _).trans (belowK_b (w := w) (Nat.le_refl _) _ D _ _ (by simp at hD; omega) hK' rfl rfl)⟩
   simp [results, Tryz.f141, go_sem, hc5]
 case stop =>
   rintro D c pre W hD hpre ⟨⟨rfl, hin, hcr⟩, hB⟩ hK
   gi_wp2
   refine ⟨by simp, .inl ⟨_, _, rfl, run_takeDeferred hK, ?_⟩⟩
   have hc5 := cell_kept hcr (grownBy_putObj' _ D (.deferred none)) (fun r e => by cases e; exact ⟨_, hK, rfl⟩)
   refine ⟨.bool false, ?_, by rw [below_false hpre hin], hB.trans (belowK_b (w := w) (Nat.le_refl _) W D _ _ (by simp at hD; omega) hK rfl rfl)⟩
   simp [results, Tryz.f141, go_sem, hc5]
end Go.Proofs.YtfopelegobhegaaGreatDoor
