/-
 The contracts of bits.Len64 and slices.Grow (of bytes) laid at this translation, in plain words. Conditions: none.
-/
import Derived.Shelf.Strconv.Itoa0
import Derived.Shelf.Spec.SlicesGrow
import Derived.Laws.BitsAllLaws
import Derived.Laws.BitsLemmas
import Derived.Laws.Bits64
import Derived.Test.YtdopheoedpldiaaGreatDoorBM
import Derived.OwnWalk
import Derived.Laws.BytesArg
import Derived.Laws.Concat
import Derived.Lib.AppendZeros
set_option maxRecDepth 100000
namespace Go.Proofs
open Go.Shelf
def Tryz.lays129_ren : Go.Shelf.Ren := ⟨fun | 129 => 81 | n => n, fun | 53 => 48 | 3 => 3 | 4 => 4 | 46 => 71 | 5 => 5 | 9 => 9 | n => n, fun | n => n⟩
theorem Tryz.lays129 : Go.Proofs.Lays.n129 Tryz.prog Tryz.lays129_ren := {
 mixed := by kernel_rfl
 f129 := Tryz.func81.trans (congrArg some (by kernel_rfl))
 t3 := Tryz.underlying3
 a3 := Tryz.isAgg3
 z3 := Tryz.sizeOf3
 v3 := Tryz.zeroValue3
 t4 := Tryz.underlying4
 a4 := Tryz.isAgg4
 z4 := Tryz.sizeOf4
 v4 := Tryz.zeroValue4
 t5 := Tryz.underlying5
 a5 := Tryz.isAgg5
 z5 := Tryz.sizeOf5
 v5 := Tryz.zeroValue5
 t9 := Tryz.underlying9
 a9 := Tryz.isAgg9
 z9 := Tryz.sizeOf9
 v9 := Tryz.zeroValue9
 t46 := Tryz.underlying71
 a46 := Tryz.isAgg71
 z46 := Tryz.sizeOf71
 v46 := Tryz.zeroValue71
 t53 := Tryz.underlying48
 a53 := Tryz.isAgg48
 z53 := Tryz.sizeOf48
 v53 := Tryz.zeroValue48 }
def Tryz.growB_ren : Go.Shelf.Ren := ⟨fun | 4 => 40 | n => n, fun | 22 => 27 | 25 => 5 | 3 => 3 | 4 => 4 | 9 => 9 | 20 => 20 | 0 => 0 | n => n, fun | n => n⟩
theorem Tryz.growB : Go.Proofs.Lays8.n4 Tryz.prog Tryz.growB_ren := {
 mixed := by kernel_rfl
 f4 := ⟨Tryz.f40.name, by decide, Tryz.func40.trans (congrArg some (by kernel_rfl))⟩
 t0 := Tryz.underlying0
 a0 := Tryz.isAgg0
 z0 := Tryz.sizeOf0
 v0 := Tryz.zeroValue0
 t3 := Tryz.underlying3
 a3 := Tryz.isAgg3
 z3 := Tryz.sizeOf3
 v3 := Tryz.zeroValue3
 t4 := Tryz.underlying4
 a4 := Tryz.isAgg4
 z4 := Tryz.sizeOf4
 v4 := Tryz.zeroValue4
 t9 := Tryz.underlying9
 a9 := Tryz.isAgg9
 z9 := Tryz.sizeOf9
 v9 := Tryz.zeroValue9
 t20 := Tryz.underlying20
 a20 := Tryz.isAgg20
 z20 := Tryz.sizeOf20
 v20 := Tryz.zeroValue20
 t22 := Tryz.underlying27
 a22 := Tryz.isAgg27
 z22 := Tryz.sizeOf27
 v22 := Tryz.zeroValue27 }
end Go.Proofs
namespace Go.Proofs.YtdopheoedpldiaaGreatDoor
theorem allOnes_xor (y : BitVec 64) : (BitVec.allOnes 64 ^^^ y).toNat = 18446744073709551615 - y.toNat := by
 rw [BitVec.allOnes_xor, BitVec.toNat_not]
theorem not_u64 (x : Nat) (h : x < 18446744073709551616) : bits .xor .u64 IntKind.u64.max (x : Int) = 18446744073709551615 - (x : Int) := by
 have e : BitVec.ofInt 64 IntKind.u64.max = BitVec.allOnes 64 := by decide
 show IntKind.u64.wrap ((BitVec.ofInt 64 IntKind.u64.max ^^^ BitVec.ofInt 64 (x : Int)).toNat : Int) = _
 rw [e, allOnes_xor, BitVec.ofInt_natCast, BitVec.toNat_ofNat, IntKind.wrap_u64]
 omega
theorem not_i64 (x : Nat) (h : x < 9223372036854775808) : bits .xor .i64 (-1) (x : Int) = -(x : Int) - 1 := by
 have e : BitVec.ofInt 64 (-1) = BitVec.allOnes 64 := by decide
 show IntKind.i64.wrap ((BitVec.ofInt 64 (-1) ^^^ BitVec.ofInt 64 (x : Int)).toNat : Int) = _
 rw [e, allOnes_xor, BitVec.ofInt_natCast, BitVec.toNat_ofNat, IntKind.wrap_i64]
 omega
theorem or_128 : ∀ c : Fin 256, c.val ||| 128 = c.val % 128 + 128 := by decide +kernel
theorem u8_top (n : Nat) : bits .or .u8 ((n : Int) % 256) 128 = ((n % 128 + 128 : Nat) : Int) := by
 have h := u8_or_nat (n % 256) 128 (by omega) (by omega)
 have k := or_128 ⟨n % 256, by omega⟩
 simp only at k
 rw [k] at h
 have e : ((n : Int) % 256) = ((n % 256 : Nat) : Int) := by omega
 rw [e]
 refine h.trans ?_
 congr 1
 omega
theorem pow_128 (i : Nat) : (128 : Nat) ^ i = 2 ^ (7 * i) := by rw [Nat.pow_mul]
theorem or_shift (a c i : Nat) (h : a < 128 ^ i) : a ||| c * 128 ^ i = a + c * 128 ^ i := by
 rw [Nat.or_comm, pow_128] at *
 rw [nat_join (7 * i) (c * 2 ^ (7 * i)) a (by simp) h, Nat.add_comm]
theorem u64_or_shift (a c i : Nat) (h : a < 128 ^ i) (hs : a + c * 128 ^ i < 18446744073709551616) : bits .or .u64 (a : Int) ((c * 128 ^ i : Nat) : Int) = ((a + c * 128 ^ i : Nat) : Int) := by
 rw [u64_or_nat _ _ (by omega) (by omega), or_shift a c i h]
end Go.Proofs.YtdopheoedpldiaaGreatDoor
namespace Go.Proofs.YtdopheoedpldiaaGreatDoor
open Go.RowKit
set_option maxHeartbeats 400000 in
theorem size_any (n : Nat) (w : World) (h : n < 18446744073709551616) :
   Calls Tryz.prog 41 #[.int .u64 (n : Int)] w fun e w' => e = .returned (.int .i64 ((Uv.put n).length : Int)) ∧ w = w' := by
 have hp := Uv.put_len_bits n h
 have hb : Lib.bitLen n ≤ 64 := Lib.bitLen_le n 64 (by omega) h
 have HP := Lib.hid hp
 clear hp
 go_enter Tryz.func41, Tryz.ntmps41
 go_wp2_with (go_at_call 81; refine (Any.bits_Len64 Tryz.lays129 _ _ (by omega) (by omega)).mono ?_; rintro e w' ⟨rfl, rfl⟩)
 go_ret
 refine ⟨ret_int ?_, rfl⟩
 have := HP.out
 omega
theorem fold_neg {n : Int} (h1 : -9223372036854775808 ≤ n) (h : n < 0) : bits .xor .u64 IntKind.u64.max (IntKind.u64.wrap (IntKind.u64.wrap n * 2)) = (Uv.fold n : Int) := by
 have e : IntKind.u64.wrap (IntKind.u64.wrap n * 2) = ((18446744073709551616 + 2 * n).toNat : Int) := by rw [IntKind.wrap_u64, IntKind.wrap_u64]; omega
 rw [e, not_u64 _ (by omega)]
 unfold Uv.fold
 rw [if_pos h]
 omega
theorem fold_pos {n : Int} (h2 : n ≤ 9223372036854775807) (h : 0 ≤ n) : IntKind.u64.wrap (IntKind.u64.wrap n * 2) = (Uv.fold n : Int) := by
 rw [IntKind.wrap_u64, IntKind.wrap_u64]
 unfold Uv.fold
 rw [if_neg (by omega)]
 omega
set_option maxHeartbeats 400000 in
theorem fold_any (n : Int) (w : World) (h1 : -9223372036854775808 ≤ n) (h2 : n ≤ 9223372036854775807) :
   Calls Tryz.prog 126 #[.int .i64 n] w fun e w' => e = .returned (.int .u64 (Uv.fold n : Int)) ∧ w = w' := by
 go_enter Tryz.func126, Tryz.ntmps126
 go_wp2
 · go_ret
   exact ⟨ret_int (fold_neg h1 ‹_›), rfl⟩
 · go_ret
   exact ⟨ret_int (fold_pos h2 ‹_›), rfl⟩
theorem unfold_odd {u : Nat} (h : u < 18446744073709551616) (hb : (bits .and .u64 (u : Int) 1 == 1) = true) : bits .xor .i64 (-1) ((u : Int) / 2) = Uv.unfold_ u := by
 rw [and_one_u64 _ (by omega) (by omega), beq_iff_eq] at hb
 have e : (u : Int) / 2 = ((u / 2 : Nat) : Int) := by omega
 rw [e, not_i64 _ (by omega)]
 unfold Uv.unfold_
 rw [if_pos (by omega)]
theorem unfold_even {u : Nat} (h : u < 18446744073709551616) (hb : (bits .and .u64 (u : Int) 1 == 1) = false) : (u : Int) / 2 = Uv.unfold_ u := by
 rw [and_one_u64 _ (by omega) (by omega), beq_eq_false_iff_ne] at hb
 unfold Uv.unfold_
 rw [if_neg (by omega)]
 omega
set_option maxHeartbeats 400000 in
theorem unfold_any (u : Nat) (w : World) (h : u < 18446744073709551616) :
   Calls Tryz.prog 207 #[.int .u64 (u : Int)] w fun e w' => e = .returned (.int .i64 (Uv.unfold_ u)) ∧ w = w' := by
 have H := h
 go_enter Tryz.func207, Tryz.ntmps207
 go_wp2
 · go_ret
   exact ⟨ret_int (unfold_odd H ‹_›), rfl⟩
 · go_ret
   exact ⟨ret_int (unfold_even H ‹_›), rfl⟩
end Go.Proofs.YtdopheoedpldiaaGreatDoor
namespace Go.Proofs.YtdopheoedpldiaaGreatDoor
open Go.RowKit
theorem info_u8 : (Tryz.prog.info? 5).map (fun i => (i.zero, i.size, i.bytes)) = some (some (.int .u8 0), 1, 1) := by kernel_rfl
def OwnInv (base : Nat) (w : World) (v u : Value) (l : Nat) (xs : List Value) (w' : World) : Prop :=
 w'.ownsRow base 5 1 u l xs ∧ w.grownBy w' v.ownBlock ∧ (u.ownBlock = v.ownBlock ∨ ∃ g, u.ownBlock = some g ∧ w.heap.size ≤ g)
def OwnPost (base : Nat) (w : World) (v : Value) (l : Nat) (xs : List Value) (e : Ending) (w' : World) : Prop :=
 ∃ v', e = .returned v' ∧ OwnInv base w v v' l xs w'
theorem OwnInv.step {base : Nat} {w : World} {v u : Value} {l l' : Nat} {xs xs' : List Value} {wr w1 : World} (h : OwnInv base w v u l xs wr) (o : Obj) {g cap : Nat}
   (hown : w1.ownsRow base 5 1 (.slice (some ⟨g, 0, none⟩) l' cap) l' xs') (hg : (wr.alloc o).grownBy w1 u.ownBlock) (hat : u.ownBlock = some g ∨ g = wr.heap.size + 1) :
   OwnInv base w v (.slice (some ⟨g, 0, none⟩) l' cap) l' xs' w1 := by
 obtain ⟨h1, h2, h3⟩ := h
 refine ⟨hown, ⟨hg.os.trans h2.os, hg.tape.trans h2.tape, hg.output.trans h2.output, ?_, ?_⟩, ?_⟩
 · have := hg.size
   have := h2.size
   simp at *
   omega
 · intro k hk hne
   have hs := h2.size
   have e1 := hg.block k (by simp; omega) (by
     rcases h3 with h3 | ⟨g', h3, hg'⟩
     · rw [h3]; exact hne
     · rw [h3]; intro e; injection e with e; omega)
   rw [e1, Below.heap_alloc wr o k (by omega), h2.block k hk hne]
 · rcases hat with hat | hat
   · rcases h3 with h3 | ⟨g', h3, hg'⟩
     · left
       show some g = _
       rw [← h3, hat]
     · right
       refine ⟨g, rfl, ?_⟩
       rw [h3] at hat
       injection hat with hat
       omega
   · right
     have := h2.size
     exact ⟨g, rfl, by omega⟩
theorem OwnInv.refl {base : Nat} {w : World} {v : Value} {l : Nat} {xs : List Value} (h : w.ownsRow base 5 1 v l xs) : OwnInv base w v v l xs w := ⟨h, World.grownBy.refl _ _, .inl rfl⟩
theorem OwnInv.below {base : Nat} {w w' : World} {v u : Value} {l l' : Nat} {xs xs' : List Value} (h : OwnInv base w v u l xs w') (h0 : w.ownsRow base 5 1 v l' xs') (hb : base ≤ w.heap.size) : Below base w w' :=
 (Below.refl _ _).grown h.2.1 hb (fun k hk => (h0.lt k hk).1)
theorem grow_own (base : Nat) (v : Value) (l : Nat) (xs : List Value) (k : Nat) (w : World) (hown : w.ownsRow base 5 1 v l xs) (hbase : base ≤ w.heap.size) (hk : 1 ≤ k) (hb : l + k ≤ 140737488355328) :
   Calls Tryz.prog 40 #[v, .int .i64 (k : Int)] w (OwnPost base w v l xs) := by
 obtain ⟨i0, hi, hz0, hz1, hz2⟩ := info_parts info_u8
 have hx := hown.1
 rcases hown.2 with ⟨rfl, rfl⟩ | ⟨g, cap, cur, rfl, hbg, hg, hnc, hcm, hcs, htake⟩
 · have hx0 : xs = [] := List.eq_nil_of_length_eq_zero (by simpa using hx)
   subst hx0
   refine (Any8.slices_Grow_grow Tryz.growB i0 (.int .u8 0) hi hz0 (by omega) none 0 0 k [] w (by omega) (by omega) (by rw [hz2]; omega) (by omega) (by simp) (fun _ => rfl) (by simp)).mono ?_
   rintro e w' ⟨rfl, rfl⟩
   have hge := grownCap_ge w (0 + k) 0 (Tryz.growB_ren.t 25)
   refine ⟨_, rfl, ⟨by simp, .inr ⟨w.heap.size, _, _, rfl, hbase, heap_alloc_new w.drew _, by omega, ?_, ?_, by simp⟩⟩, ⟨rfl, rfl, rfl, by simp, fun j hj _ => Below.heap_alloc w.drew _ j hj⟩, .inr ⟨_, rfl, Nat.le_refl _⟩⟩
   · exact grownCap_le_maxLen w (0 + k) 0 (Tryz.growB_ren.t 25) (by unfold maxLen; omega)
   · simp only [Array.size_append, size_zeroCells, Value.cells]
     simp at hge ⊢
     omega
 · by_cases hroom : l + k ≤ cap
   · unfold maxLen at hcm
     refine (Any8.slices_Grow_room Tryz.growB (some ⟨g, 0, none⟩) l cap k w hnc (by omega) (by omega) hroom).mono ?_
     rintro e w' ⟨rfl, rfl⟩
     exact ⟨_, rfl, hown, World.grownBy.refl _ _, .inl rfl⟩
   · have hcell : ∀ a, (some ⟨g, 0, none⟩ : Option Addr) = some a → ∀ (j : Nat) u, cur.toList[j]? = some u → w.cell? (a.add j) = some u := by
       rintro a ha j u hu
       cases ha
       have := cell_of_row w g j cur 5 (0, 0) hg
       have e : (⟨g, 0, none⟩ : Addr).add j = ⟨g, j, none⟩ := by unfold Addr.add; split <;> simp_all
       rw [e, this]
       simpa using hu
     refine (Any8.slices_Grow_grow Tryz.growB i0 (.int .u8 0) hi hz0 (by omega) (some ⟨g, 0, none⟩) l cap k cur.toList w hnc (by omega) (by rw [hz2]; omega) (by omega) (by simpa [hz1] using hcs) (by simp) hcell).mono ?_
     rintro e w' ⟨rfl, rfl⟩
     have hge := grownCap_ge w (l + k) cap (Tryz.growB_ren.t 25)
     refine ⟨_, rfl, ⟨hx, .inr ⟨w.heap.size, _, _, rfl, hbase, heap_alloc_new w.drew _, by omega, ?_, ?_, ?_⟩⟩, ⟨rfl, rfl, rfl, by simp, fun j hj _ => Below.heap_alloc w.drew _ j hj⟩, .inr ⟨_, rfl, Nat.le_refl _⟩⟩
     · exact grownCap_le_maxLen w (l + k) cap (Tryz.growB_ren.t 25) (by unfold maxLen; omega)
     · simp only [Array.size_append, size_zeroCells, Value.cells, List.size_toArray, hcs]
       simp
       omega
     · simp only [Array.toList_append, List.append_assoc]
       rw [List.take_append_of_le_length (by simp [hcs]; omega)]
       simpa using htake
end Go.Proofs.YtdopheoedpldiaaGreatDoor
namespace Go.Proofs.YtdopheoedpldiaaGreatDoor
open Go.RowKit
def bs (l : List Nat) : List Value := l.map fun c : Nat => Value.int .u8 (c : Int)
theorem bs_append (a b : List Nat) : bs (a ++ b) = bs a ++ bs b := List.map_append
theorem bs_length (a : List Nat) : (bs a).length = a.length := List.length_map _
theorem bs_one (l : List Nat) : ∀ u ∈ bs l, u.oneCell' = true := by
 intro u hu
 obtain ⟨c, _, rfl⟩ := List.mem_map.1 hu
 rfl
theorem news_one (w : World) (t : TypeId) (c : Nat) (x : Int) (h : x = (c : Int)) : ∀ j u, (bs [c])[j]? = some u → (w.alloc (.cells #[.int .u8 x] t)).cell? ((⟨w.heap.size, 0, none⟩ : Addr).add j) = some u := by
 subst h
 exact World.news_of_block (heap_alloc_new w (.cells #[.int .u8 (c : Int)] t))
theorem OwnInv.cast {base : Nat} {w w' : World} {v u : Value} {l l' : Nat} {xs xs' : List Value} (h : OwnInv base w v u l xs w') (e1 : l = l') (e2 : xs = xs') : OwnInv base w v u l' xs' w' := by
 subst e1 e2
 exact h
def PutRel (base : Nat) (w : World) (v : Value) (l : Nat) (xs : List Value) (n : Nat) (u m : Value) (wr : World) : Prop :=
 ∃ (pre : List Nat) (q : Nat), m = .int .u64 (q : Int) ∧ q < 18446744073709551616 ∧ pre ++ Uv.put q = Uv.put n ∧ OwnInv base w v u (l + pre.length) (xs ++ bs pre) wr
set_option maxHeartbeats 1000000 in
theorem put_own (base : Nat) (v : Value) (l : Nat) (xs : List Value) (n : Nat) (w : World) (hn : n < 18446744073709551616) (hown : w.ownsRow base 5 1 v l xs) (hbase : base ≤ w.heap.size) (hl : l + 10 ≤ 140737488355328) :
   Calls Tryz.prog 20 #[v, .int .u64 (n : Int)] w (OwnPost base w v (l + (Uv.put n).length) (xs ++ bs (Uv.put n))) := by
 obtain ⟨i0, hi, hz0, hz1, hz2⟩ := info_parts info_u8
 have hlen := Uv.put_len_10 hn
 have hpos := Uv.put_len_pos n
 go_enter Tryz.func20, Tryz.ntmps20
 go_wp2_with (first
   | (go_at_call 41; refine (size_any n _ hn).mono ?_; rintro e w' ⟨rfl, rfl⟩)
   | (go_at_call 40; refine (grow_own base v l xs _ _ hown hbase hpos (by omega)).mono ?_; rintro e w1 ⟨v1, rfl, hinv⟩))
 go_loopw [0, 1] (fun u m wr => PutRel base w v l xs n u m wr) (fun _ m _ => (intOf m).toNat)
 case atStart => exact ⟨[], n, rfl, hn, rfl, by simpa [bs] using hinv⟩
 case round =>
   obtain ⟨pre, q, rfl, hq, hpre, hI⟩ := hrel
   have HP := Lib.hid hpre
   clear hpre hinv hown
   have hpl : pre.length + (Uv.put q).length = (Uv.put n).length := by rw [← HP.out, List.length_append]
   have hqp := Uv.put_len_pos q
   have HL : pre.length + 1 ≤ 10 := by omega
   have hws := hI.2.1.size
   clear hpl hqp
   by_cases h : q < 128
   · go_wp2_with (at_builtin; refine wpList_append_lies _ rfl (.tmp 19) (.tmp 22) 27 rfl base 5 i0 (.int .u8 0) 1 1 Tryz.underlying27 hi hz0 hz1 hz2 rfl (by decide) u0 (l + pre.length) (xs ++ bs pre) rfl (hI.1.alloc _) ⟨wr.heap.size, 0, none⟩ 1 1 (bs [q]) rfl rfl ?c1 (bs_one _) (by decide) ?c3 ?c4 ?c5 (wr.heap.size + 1) ?c6 ?_)
     case c1 => exact news_one wr _ q _ rfl
     case c3 => unfold maxLen; omega
     case c4 => omega
     case c5 => simp; omega
     case c6 => simp
     intro g cap w2 hown2 hgrow2 hat2 _
     have hR := hI.step _ hown2 hgrow2 hat2
     have HR := Lib.hid hR
     clear hown2 hgrow2 hI hR
     go_wp2
     go_ret
     exact ⟨_, rfl, HR.out.cast (by rw [← HP.out, List.length_append, Uv.put_small h]; simp; omega) (by rw [← HP.out, Uv.put_small h]; simp [bs_append])⟩
   · go_wp2_with (at_builtin; refine wpList_append_lies _ rfl (.tmp 11) (.tmp 15) 27 rfl base 5 i0 (.int .u8 0) 1 1 Tryz.underlying27 hi hz0 hz1 hz2 rfl (by decide) u0 (l + pre.length) (xs ++ bs pre) rfl (hI.1.alloc _) ⟨wr.heap.size, 0, none⟩ 1 1 (bs [q % 128 + 128]) rfl rfl ?d1 (bs_one _) (by decide) ?d3 ?d4 ?d5 (wr.heap.size + 1) ?d6 ?_)
     case d1 => exact news_one wr _ _ _ (u8_top q)
     case d3 => unfold maxLen; omega
     case d4 => omega
     case d5 => simp; omega
     case d6 => simp
     intro g cap w2 hown2 hgrow2 hat2 _
     have hR := hI.step _ hown2 hgrow2 hat2
     have HR := Lib.hid hR
     clear hown2 hgrow2 hI hR
     go_wp2
     go_roundw
     case rel =>
       refine ⟨pre ++ [q % 128 + 128], q / 128, by go_num, by omega, ?_, HR.out.cast (by simp; omega) (by simp [bs_append])⟩
       rw [← HP.out, Uv.put_large h]
       simp
     case measure => simp [intOf]; omega
end Go.Proofs.YtdopheoedpldiaaGreatDoor
namespace Go.Proofs.YtdopheoedpldiaaGreatDoor
open Go.RowKit
def BytesAt (w : World) (B : Nat) (A : Option Addr) (n : Nat) (l : List Nat) : Prop :=
 l.length = n ∧ (∀ c ∈ l, c < 256) ∧ (0 < n → ∃ b off, A = some ⟨b, off, none⟩ ∧ b < B ∧ ∀ i, i < n → w.cell? ⟨b, off + i, none⟩ = some (.int .u8 ((l.getD i 0 : Nat) : Int)))
theorem getF_drop {l : List Nat} {i : Nat} (h : i < l.length) (a : Nat) : Uv.getF (l.drop i) i a = 
   if i = 9 ∧ 1 < l.getD i 0 then (0, 0, 5)
   else if 128 ≤ l.getD i 0 then Uv.getF (l.drop (i + 1)) (i + 1) (a + (l.getD i 0 - 128) * 128 ^ i)
   else if l.getD i 0 = 0 ∧ 0 < i then (0, 0, 4)
   else (a + l.getD i 0 * 128 ^ i, i + 1, 0) := by
 rw [List.drop_eq_getElem_cons h]
 have e : l.getD i 0 = l[i] := by simp [List.getD, h]
 rw [e]
 rfl
theorem pow_succ_le {i : Nat} (h : i < 9) : (128 : Nat) ^ (i + 1) ≤ 9223372036854775808 := by
 have h3 : (128 : Nat) ^ (i + 1) ≤ 128 ^ 9 := Nat.pow_le_pow_right (by omega) (by omega)
 rwa [Uv.pow_nine] at h3
theorem more_lt {a c i : Nat} (hc : c < 128) (ha : a < 128 ^ i) : a + c * 128 ^ i < 128 ^ (i + 1) := by
 have : (c + 1) * 128 ^ i ≤ 128 * 128 ^ i := Nat.mul_le_mul_right _ (by omega)
 rw [Nat.pow_succ, Nat.mul_comm (128 ^ i)]
 rw [Nat.add_mul, Nat.one_mul] at this
 omega
theorem last_lt {a c i : Nat} (hi : i ≤ 9) (hc : c < 128) (h9 : i = 9 → c ≤ 1) (ha : a < 128 ^ i) : a + c * 128 ^ i < 18446744073709551616 := by
 by_cases h : i = 9
 · have := h9 h
   subst h
   rw [Uv.pow_nine] at ha ⊢
   omega
 · have := more_lt hc ha
   have := pow_succ_le (i := i) (by omega)
   omega
theorem or_join {a c i : Nat} {x : Int} (hx : x = (c : Int)) (ha : a < 128 ^ i) (hs : a + c * 128 ^ i < 18446744073709551616) :
   bits .or .u64 (a : Int) (IntKind.u64.wrap (x * 2 ^ (7 * i))) = ((a + c * 128 ^ i : Nat) : Int) := by
 subst hx
 have e : (c : Int) * 2 ^ (7 * i) = ((c * 128 ^ i : Nat) : Int) := by rw [pow_128]; simp
 rw [e, IntKind.wrap_u64, ← u64_or_shift a c i ha hs]
 congr 1
 omega
def GetRel (l : List Nat) (x y z k : Value) : Prop :=
 ∃ i a : Nat, x = .int .u64 (a : Int) ∧ y = .int .i64 0 ∧ z = .int .i64 3 ∧ k = .int .i64 (i : Int) ∧ i ≤ l.length ∧ i ≤ 9 ∧ a < 128 ^ i ∧ Uv.getF (l.drop i) i a = Uv.get l
def Triple (k : IntKind) (x y z : Int) : Value := .tuple #[.int k x, .int .i64 y, .int .i64 z]
theorem triple_eq {k : IntKind} {x x' y y' z z' : Int} (h1 : x = x') (h2 : y = y') (h3 : z = z') : Ending.returned (.tuple #[.int k x, .int .i64 y, .int .i64 z]) = .returned (Triple k x' y' z') := by
 subst h1 h2 h3
 rfl
theorem get_end {a c i : Nat} {l : List Nat} (ha : a < 128 ^ i) (hs : a + c * 128 ^ i < 18446744073709551616) (hr : (a + c * 128 ^ i, i + 1, 0) = Uv.get l) :
   Ending.returned (.tuple #[.int .u64 (bits .or .u64 (a : Int) (IntKind.u64.wrap ((c : Int) * 2 ^ (7 * i)))), .int .i64 ((i : Int) + 1), .int .i64 0]) = .returned (Triple .u64 (Uv.get l).1 (Uv.get l).2.1 (Uv.get l).2.2) := by
 rw [← hr]
 exact triple_eq (or_join rfl ha hs) (by simp) rfl
theorem get_end9 {a c i : Nat} {l : List Nat} (h : (i : Int) = 9) (ha : a < 128 ^ i) (hs : a + c * 128 ^ i < 18446744073709551616) (hr : (a + c * 128 ^ i, i + 1, 0) = Uv.get l) :
   Ending.returned (.tuple #[.int .u64 (bits .or .u64 (a : Int) ((c : Int) * 9223372036854775808)), .int .i64 10, .int .i64 0]) = .returned (Triple .u64 (Uv.get l).1 (Uv.get l).2.1 (Uv.get l).2.2) := by
 obtain rfl : i = 9 := by omega
 rw [← get_end ha hs hr]
 rw [Uv.pow_nine] at hs
 have e : IntKind.u64.wrap ((c : Int) * 2 ^ (7 * 9)) = (c : Int) * 9223372036854775808 := by
   rw [show (2 : Int) ^ (7 * 9) = 9223372036854775808 from rfl, IntKind.wrap_u64]
   omega
 rw [e]
 rfl
theorem get_end0 {a c i : Nat} {l : List Nat} (h : c = 0) (ha : a < 128 ^ i) (hs : a + c * 128 ^ i < 18446744073709551616) (hr : (a + c * 128 ^ i, i + 1, 0) = Uv.get l) :
   Ending.returned (.tuple #[.int .u64 (bits .or .u64 (a : Int) 0), .int .i64 ((i : Int) + 1), .int .i64 0]) = .returned (Triple .u64 (Uv.get l).1 (Uv.get l).2.1 (Uv.get l).2.2) := by
 subst h
 rw [← get_end ha hs hr]
 have e : IntKind.u64.wrap (((0 : Nat) : Int) * 2 ^ (7 * i)) = 0 := by
   rw [IntKind.wrap_u64, Int.natCast_zero, Int.zero_mul]
   rfl
 rw [e]
set_option maxHeartbeats 1000000 in
theorem get_any (A : Option Addr) (n c B : Nat) (l : List Nat) (w : World) (h : BytesAt w B A n l) (hn : n ≤ 9223372036854775807) :
   Calls Tryz.prog 186 #[.slice A n c] w fun e w' => e = .returned (Triple .u64 (Uv.get l).1 (Uv.get l).2.1 (Uv.get l).2.2) ∧ w = w' := by
 obtain ⟨rfl, hb, hc⟩ := h
 go_enter Tryz.func186, Tryz.ntmps186
 go_wp2
 go_step3
 go_wp2
 go_step3
 go_wp2
 go_loop [5, 6, 7, 12] (fun x y z k => GetRel l x y z k) (fun _ _ _ k => l.length - (intOf k).toNat)
 case atStart => exact ⟨0, 0, rfl, rfl, rfl, rfl, by omega, by omega, by simp, rfl⟩
 case round =>
   obtain ⟨i, a, rfl, rfl, rfl, rfl, hi, hi9, ha, hg⟩ := hrel
   have HG := Lib.hid hg
   have HA := Lib.hid ha
   clear hg ha
   by_cases hlt : i < l.length
   · obtain ⟨b, off, rfl, _, hcell⟩ := hc (by omega)
     have hci := hcell i hlt
     have hcb : l.getD i 0 < 256 := by
       have e : l.getD i 0 = l[i] := by simp [List.getD, hlt]
       rw [e]; exact hb _ (List.getElem_mem hlt)
     have HS := Lib.hid (getF_drop hlt a)
     have HGG := Lib.hid (HS.out.symm.trans HG.out)
     clear HS HG hcell hc hb
     generalize l.getD i 0 = c at *
     by_cases h1 : i = 9 ∧ 1 < c
     · have hr := HGG.out
       rw [if_pos h1] at hr
       have HR := Lib.hid hr
       obtain ⟨rfl, h1⟩ := h1
       clear hr HGG
       go_wp2
       try rw [Exit.noGoto_ret]
       go_ret3
       rw [← HR.out]
       exact ⟨rfl, rfl⟩
     by_cases h2 : 128 ≤ c
     · have h3 : i < 9 := by omega
       have hr := HGG.out
       rw [if_neg h1, if_pos h2] at hr
       have HR := Lib.hid hr
       clear h1 hr HGG
       go_wp2
       go_round
       case rel =>
         have hm := more_lt (c := c - 128) (by omega) HA.out
         have hp := pow_succ_le h3
         exact ⟨i + 1, _, congrArg (Value.int .u64) (or_join (by omega) HA.out (by omega)), rfl, rfl, by go_num, by omega, by omega, hm, HR.out⟩
       case measure => simp [intOf]; omega
     have hr := HGG.out
     rw [if_neg h1, if_neg h2] at hr
     by_cases h3 : c = 0 ∧ 0 < i
     · rw [if_pos h3] at hr
       have HR := Lib.hid hr
       obtain ⟨rfl, h3⟩ := h3
       clear hr HGG h1 h2
       go_wp2
       all_goals
         try rw [Exit.noGoto_ret]
         go_ret3
         rw [← HR.out]
         exact ⟨rfl, rfl⟩
     · rw [if_neg h3] at hr
       have HR := Lib.hid hr
       have HL := Lib.hid (last_lt (c := c) hi9 (by omega) (by omega) HA.out)
       have H1 := Lib.hid h1
       have H3 := Lib.hid h3
       clear hr HGG h1 h3
       go_wp2
       all_goals first
         | (exfalso; have := H1.out; have := H3.out; omega)
         | (have h9 : (i : Int) = 9 := by assumption
            (try rw [Exit.noGoto_ret]); go_ret3; exact ⟨get_end9 h9 HA.out HL.out HR.out, rfl⟩)
         | (have h0 : c = 0 := by assumption
            (try rw [Exit.noGoto_ret]); go_ret3; exact ⟨get_end0 h0 HA.out HL.out HR.out, rfl⟩)
         | ((try rw [Exit.noGoto_ret]); go_ret3; exact ⟨get_end HA.out HL.out HR.out, rfl⟩)
   · have he : l.drop i = [] := List.drop_eq_nil_of_le (by omega)
     have hr := HG.out
     rw [he] at hr
     have HR := Lib.hid hr
     clear hr HG he
     go_wp2
     try rw [Exit.noGoto_ret]
     go_ret3
     rw [← HR.out]
     exact ⟨rfl, rfl⟩
end Go.Proofs.YtdopheoedpldiaaGreatDoor
namespace Go.Proofs.YtdopheoedpldiaaGreatDoor
open Go.RowKit
def getInt (l : List Nat) : Int × Nat × Nat := (Uv.unfold_ (Uv.get l).1, (Uv.get l).2.1, (Uv.get l).2.2)
theorem get_fst_lt {l : List Nat} (hb : ∀ c ∈ l, c < 256) : (Uv.get l).1 < 18446744073709551616 := by
 rcases Uv.get_just hb with ⟨n, h, _, _, hn⟩ | ⟨e, h, _⟩
 · rw [h]; exact hn
 · rw [h]; show 0 < _; omega
set_option maxHeartbeats 400000 in
theorem getInt_any (A : Option Addr) (n c B : Nat) (l : List Nat) (w : World) (h : BytesAt w B A n l) (hn : n ≤ 9223372036854775807) :
   Calls Tryz.prog 206 #[.slice A n c] w fun e w' => e = .returned (Triple .i64 (getInt l).1 (getInt l).2.1 (getInt l).2.2) ∧ w = w' := by
 have hlt := get_fst_lt h.2.1
 have HC := Lib.hid (get_any A n c B l w h hn)
 clear h
 unfold getInt
 simp only
 generalize (Uv.get l).1 = x at *
 generalize (Uv.get l).2.1 = y at *
 generalize (Uv.get l).2.2 = z at *
 go_enter Tryz.func206, Tryz.ntmps206
 go_wp2_with (first
   | (go_at_call 186; refine HC.out.mono ?_; unfold Triple; rintro e w' ⟨rfl, rfl⟩)
   | (go_at_call 207; refine (unfold_any _ _ hlt).mono ?_; rintro e w' ⟨rfl, rfl⟩))
 go_ret3
 exact ⟨rfl, rfl⟩
set_option maxHeartbeats 400000 in
theorem putInt_own (base : Nat) (v : Value) (l : Nat) (xs : List Value) (n : Int) (w : World) (h1 : -9223372036854775808 ≤ n) (h2 : n ≤ 9223372036854775807) (hown : w.ownsRow base 5 1 v l xs) (hbase : base ≤ w.heap.size) (hl : l + 10 ≤ 140737488355328) :
   Calls Tryz.prog 92 #[v, .int .i64 n] w (OwnPost base w v (l + (Uv.put (Uv.fold n)).length) (xs ++ bs (Uv.put (Uv.fold n)))) := by
 have hlt := Uv.fold_lt h1 h2
 go_enter Tryz.func92, Tryz.ntmps92
 go_wp2_with (first
   | (go_at_call 126; refine (fold_any _ _ h1 h2).mono ?_; rintro e w' ⟨rfl, rfl⟩)
   | (go_at_call 20; refine (put_own base v l xs _ _ hlt hown hbase hl).mono ?_; rintro e w1 ⟨v1, rfl, hinv⟩))
 go_ret
 exact ⟨_, rfl, hinv⟩
end Go.Proofs.YtdopheoedpldiaaGreatDoor
namespace Go.Proofs.YtdopheoedpldiaaGreatDoor
open Go.RowKit
def Has (w : World) (g : Nat) (cur : Array Value) : Prop := w.heap[g]? = some (.cells cur 5 (0, 0))
theorem Has.new (w : World) (cur : Array Value) : Has (w.alloc (.cells cur 5)) w.heap.size cur := heap_alloc_new w _
theorem Has.alloc {w : World} {g : Nat} {cur : Array Value} (h : Has w g cur) (o : Obj) : Has (w.alloc o) g cur := by
 have hlt : g < w.heap.size := by
   rcases Nat.lt_or_ge g w.heap.size with h1 | h1
   · exact h1
   · unfold Has at h; rw [Array.getElem?_eq_none h1] at h; cases h
 exact (Below.heap_alloc w o g hlt).trans h
theorem Has.drew {w : World} {g : Nat} {cur : Array Value} (h : Has w g cur) : Has w.drew g cur := h
theorem Has.drewN {w : World} {g : Nat} {cur : Array Value} (h : Has w g cur) (k : Nat) : Has (w.drewN k) g cur := h
theorem Has.lt {w : World} {g : Nat} {cur : Array Value} (h : Has w g cur) : g < w.heap.size := by
 rcases Nat.lt_or_ge g w.heap.size with h1 | h1
 · exact h1
 · unfold Has at h; rw [Array.getElem?_eq_none h1] at h; cases h
theorem Has.below {w w' : World} {B g : Nat} {cur : Array Value} (h : Has w g cur) (hb : Below B w w') (hg : g < B) : Has w' g cur := (hb.block g hg).trans h
theorem Has.grown {w w' : World} {g : Nat} {cur : Array Value} (h : Has w g cur) (hg : w.grownBy w' (Value.ownBlock (.slice none 0 0))) : Has w' g cur := (hg.block g h.lt (by simp [Value.ownBlock])).trans h
def str (l : List Nat) : ByteArray := ⟨(l.map UInt8.ofNat).toArray⟩
theorem conv_of_cells {w : World} {b off n cap : Nat} {l : List Nat} (hl : l.length = n) (hc : ∀ i, i < n → w.cell? ⟨b, off + i, none⟩ = some (.int .u8 ((l.getD i 0 : Nat) : Int))) :
   (convert 27 9 (.slice (some ⟨b, off, none⟩) n cap)).run Tryz.prog w = .ok (.string (str l)) w := by
 have h := run_convert_bytes_arg (P := Tryz.prog) w 27 5 Tryz.underlying27 Tryz.underlying5 b off n cap (l.map fun c : Nat => (c : Int)) (by simpa using hl) (fun i hi => by
   rw [hc i hi]
   have : i < l.length := by omega
   simp [List.getD, this]) 9 Tryz.underlying9
 have e : strOfNums (l.map fun c : Nat => (c : Int)) = str l := by
   apply ByteArray.ext
   simp [strOfNums, str]
 exact h.trans (by rw [e])
theorem conv_nil (w : World) : (convert 27 9 (.slice none 0 0)).run Tryz.prog w = .ok (.string (str [])) w :=
 run_convert_bytes_nil (P := Tryz.prog) w 27 5 Tryz.underlying27 Tryz.underlying5 0 0 9 Tryz.underlying9
theorem cells_of_take {w : World} {g n : Nat} {cur : Array Value} {l : List Nat} (hg : Has w g cur) (hl : l.length = n) (ht : cur.toList.take n = bs l) :
   ∀ i, i < n → w.cell? ⟨g, 0 + i, none⟩ = some (.int .u8 ((l.getD i 0 : Nat) : Int)) := by
 intro i hi
 have h1 : (cur.toList.take n)[i]? = some (.int .u8 ((l.getD i 0 : Nat) : Int)) := by
   have : i < l.length := by omega
   rw [ht]
   simp [bs, List.getD, this]
 rw [List.getElem?_take, if_pos hi] at h1
 rw [Nat.zero_add, cell_of_row w g i cur 5 (0, 0) hg]
 simpa using h1
theorem own_str {w : World} {base n : Nat} {v : Value} {l : List Nat} (h : w.ownsRow base 5 1 v n (bs l)) (hn : 0 < n) :
   ∃ g cap cur, v = .slice (some ⟨g, 0, none⟩) n cap ∧ base ≤ g ∧ n ≤ cap ∧ Has w g cur ∧ l.length = n ∧ cur.toList.take n = bs l := by
 have hl : l.length = n := by have := h.1; rw [bs_length] at this; omega
 rcases h.2 with ⟨_, h0⟩ | ⟨g, cap, cur, rfl, hb, hg, hnc, _, _, ht⟩
 · omega
 · exact ⟨g, cap, cur, rfl, hb, hnc, hg, hl, by simpa using ht⟩
theorem conv_own {w : World} {g n cap : Nat} {cur : Array Value} {l : List Nat} (hg : Has w g cur) (hl : l.length = n) (ht : cur.toList.take n = bs l) :
   (convert 27 9 (.slice (some ⟨g, 0, none⟩) n cap)).run Tryz.prog w = .ok (.string (str l)) w :=
 conv_of_cells hl (cells_of_take hg hl ht)
theorem bytesAt_own {w : World} {g n : Nat} {cur : Array Value} {l : List Nat} (hg : Has w g cur) (hl : l.length = n) (ht : cur.toList.take n = bs l) (hb : ∀ c ∈ l, c < 256) :
   BytesAt w w.heap.size (some ⟨g, 0, none⟩) n l := ⟨hl, hb, fun _ => ⟨g, 0, rfl, hg.lt, cells_of_take hg hl ht⟩⟩
end Go.Proofs.YtdopheoedpldiaaGreatDoor
namespace Go.Proofs.YtdopheoedpldiaaGreatDoor
open Go.RowKit
theorem append_bytes {w : World} {base n : Nat} {v : Value} {xs : List Value} (hown : w.ownsRow base 5 1 v n xs) {B m c : Nat} {A : Option Addr} {l : List Nat} (hs : BytesAt w B A m l) (hnil : A = none → c = 0)
   (hb : base ≤ w.heap.size) (hl : n + m ≤ 140737488355328) :
   ∃ v' w', (∀ ty, ty = 27 → (Builtin.append_ #[27, 27] ty #[v, .slice A m c]).run Tryz.prog w = .ok v' w') ∧ w'.ownsRow base 5 1 v' (n + m) (xs ++ bs l) ∧ w.grownBy w' v.ownBlock := by
 obtain ⟨i0, hi, hz0, hz1, hz2⟩ := info_parts info_u8
 obtain ⟨h1, h2, h3⟩ := hs
 cases A with
 | none =>
   have hm : m = 0 := by
     rcases Nat.eq_zero_or_pos m with h | h
     · exact h
     · obtain ⟨b, off, h, _⟩ := h3 h
       cases h
   subst hm
   have hc := hnil rfl
   subst hc
   have hl0 : l = [] := List.eq_nil_of_length_eq_zero h1
   subst hl0
   refine ⟨v, w, ?_, by simpa [bs] using hown, World.grownBy.refl _ _⟩
   intro ty _
   exact run_append_owned_none (P := Tryz.prog) (w := w) base 27 ty 5 i0 1 Tryz.underlying27 hi v n xs hown
 | some ad =>
   have hcells : ∀ j u, (bs l)[j]? = some u → w.cell? (ad.add j) = some u := by
     intro j u hu
     have hj : j < l.length := by
       rcases Nat.lt_or_ge j l.length with h | h
       · exact h
       · rw [List.getElem?_eq_none (by rw [bs_length]; exact h)] at hu; cases hu
     obtain ⟨b, off, he, _, hc⟩ := h3 (by omega)
     injection he with he
     subst he
     have e : (⟨b, off, none⟩ : Addr).add j = ⟨b, off + j, none⟩ := by unfold Addr.add; split <;> simp_all
     rw [e, hc j (by omega)]
     simp [bs, hj] at hu
     subst hu
     simp [List.getD, hj]
   obtain ⟨v', w', hr, ho, hg, _⟩ := run_append_own (P := Tryz.prog) w base 27 27 5 i0 (.int .u8 0) 1 1 Tryz.underlying27 hi hz0 hz1 hz2 rfl (by decide) v n xs hown ad m c (bs l) (by rw [bs_length, h1, Nat.mul_one]) hcells (bs_one l) (by unfold maxLen; omega) (by omega) hb
   exact ⟨v', w', fun ty hty => by rw [hty]; exact hr, ho, hg⟩
theorem conv_bytes {w : World} {B n c : Nat} {A : Option Addr} {l : List Nat} (h : BytesAt w B A n l) : (convert 27 9 (.slice A n c)).run Tryz.prog w = .ok (.string (str l)) w := by
 obtain ⟨h1, _, h3⟩ := h
 rcases Nat.eq_zero_or_pos n with h0 | h0
 · subst h0
   have hl : l = [] := List.eq_nil_of_length_eq_zero h1
   subst hl
   cases A with
   | none => exact run_convert_bytes_nil (P := Tryz.prog) w 27 5 Tryz.underlying27 Tryz.underlying5 0 c 9 Tryz.underlying9
   | some ad =>
     rw [run_convert_bytes_string w 27 9 5 (some ad) 0 c Tryz.underlying27 Tryz.underlying5 Tryz.underlying9]
     exact run_bytesToString (P := Tryz.prog) w ad 0 c [] (by simp [loadCells, loadCellsFrom])
 · obtain ⟨b, off, rfl, _, hc⟩ := h3 h0
   exact conv_of_cells h1 hc
theorem BytesAt.below {w w' : World} {B n : Nat} {A : Option Addr} {l : List Nat} (h : BytesAt w B A n l) (hb : Below B w w') : BytesAt w' B A n l :=
 ⟨h.1, h.2.1, fun hp => by
   obtain ⟨b, off, e, hlt, hc⟩ := h.2.2 hp
   exact ⟨b, off, e, hlt, fun i hi => (hb.cell hlt).trans (hc i hi)⟩⟩
theorem BytesAt.more {w : World} {B B' n : Nat} {A : Option Addr} {l : List Nat} (h : BytesAt w B A n l) (hb : B ≤ B') : BytesAt w B' A n l :=
 ⟨h.1, h.2.1, fun hp => by
   obtain ⟨b, off, e, hlt, hc⟩ := h.2.2 hp
   exact ⟨b, off, e, by omega, hc⟩⟩
end Go.Proofs.YtdopheoedpldiaaGreatDoor
namespace Go.Proofs.YtdopheoedpldiaaGreatDoor
open Go.RowKit
theorem append_bytes_at {w : World} {base n : Nat} {v : Value} {xs : List Value} (hown : w.ownsRow base 5 1 v n xs) {B m c : Nat} {A : Option Addr} {l : List Nat} (hs : BytesAt w B A m l) (hnil : A = none → c = 0)
   (hb : base ≤ w.heap.size) (hl : n + m ≤ 140737488355328) :
   ∃ v' w', (∀ ty, ty = 27 → (Builtin.append_ #[27, 27] ty #[v, .slice A m c]).run Tryz.prog w = .ok v' w') ∧ OwnInv base w v v' (n + m) (xs ++ bs l) w' := by
 obtain ⟨i0, hi, hz0, hz1, hz2⟩ := info_parts info_u8
 obtain ⟨h1, h2, h3⟩ := hs
 cases A with
 | none =>
   have hm : m = 0 := by
     rcases Nat.eq_zero_or_pos m with h | h
     · exact h
     · obtain ⟨b, off, h, _⟩ := h3 h
       cases h
   subst hm
   have hc := hnil rfl
   subst hc
   have hl0 : l = [] := List.eq_nil_of_length_eq_zero h1
   subst hl0
   refine ⟨v, w, ?_, by simpa [bs] using OwnInv.refl hown⟩
   intro ty _
   exact run_append_owned_none (P := Tryz.prog) (w := w) base 27 ty 5 i0 1 Tryz.underlying27 hi v n xs hown
 | some ad =>
   have hcells : ∀ j u, (bs l)[j]? = some u → w.cell? (ad.add j) = some u := by
     intro j u hu
     have hj : j < l.length := by
       rcases Nat.lt_or_ge j l.length with h | h
       · exact h
       · rw [List.getElem?_eq_none (by rw [bs_length]; exact h)] at hu; cases hu
     obtain ⟨b, off, he, _, hc⟩ := h3 (by omega)
     injection he with he
     subst he
     have e : (⟨b, off, none⟩ : Addr).add j = ⟨b, off + j, none⟩ := by unfold Addr.add; split <;> simp_all
     rw [e, hc j (by omega)]
     simp [bs, hj] at hu
     subst hu
     simp [List.getD, hj]
   obtain ⟨v', w', hr, ho, hg, _, h5⟩ := run_append_own_at (P := Tryz.prog) w base 27 27 5 i0 (.int .u8 0) 1 1 Tryz.underlying27 hi hz0 hz1 hz2 rfl (by decide) v n xs hown ad m c (bs l) (by rw [bs_length, h1, Nat.mul_one]) hcells (bs_one l) (by unfold maxLen; omega) (by omega) hb
   refine ⟨v', w', fun ty hty => by rw [hty]; exact hr, ho, hg, ?_⟩
   rcases h5 with h5 | h5
   · exact .inl h5
   · exact .inr ⟨_, h5, Nat.le_refl _⟩
theorem own_later {base : Nat} {w w1 : World} {v : Value} {l : Nat} {xs : List Value} (h : w.ownsRow base 5 1 v l xs) (hb : Below w.heap.size w w1) : OwnInv base w v v l xs w1 :=
 ⟨ownsRow_below h hb, ⟨hb.os, hb.tape, hb.output, hb.size, fun k hk _ => hb.block k hk⟩, .inl rfl⟩
theorem own_then {base : Nat} {w w1 w2 : World} {v u : Value} {l : Nat} {xs : List Value} (hb : Below w.heap.size w w1) (h : OwnInv base w1 v u l xs w2) : OwnInv base w v u l xs w2 := by
 obtain ⟨h1, h2, h3⟩ := h
 refine ⟨h1, ⟨h2.os.trans hb.os, h2.tape.trans hb.tape, h2.output.trans hb.output, Nat.le_trans hb.size h2.size, fun k hk hne => ?_⟩, ?_⟩
 · rw [h2.block k (Nat.lt_of_lt_of_le hk hb.size) hne, hb.block k hk]
 · rcases h3 with h3 | ⟨g, h3, hg⟩
   · exact .inl h3
   · exact .inr ⟨g, h3, Nat.le_trans hb.size hg⟩
theorem own_at {w : World} {base n : Nat} {v : Value} {l : List Nat} (h : w.ownsRow base 5 1 v n (bs l)) (hb : ∀ c ∈ l, c < 256) : ∃ A c, v = .slice A n c ∧ BytesAt w w.heap.size A n l ∧ n ≤ c ∧ c ≤ 9223372036854775807 := by
 have hl : l.length = n := by have := h.1; rw [bs_length] at this; omega
 rcases h.2 with ⟨rfl, h0⟩ | ⟨g, cap, cur, rfl, _, hg, hnc, hcm, _, ht⟩
 · subst h0
   obtain rfl : l = [] := List.eq_nil_of_length_eq_zero hl
   exact ⟨none, 0, rfl, ⟨rfl, by simp, by simp⟩, Nat.le_refl _, by omega⟩
 · unfold maxLen at hcm
   exact ⟨_, cap, rfl, bytesAt_own hg hl (by simpa using ht) hb, hnc, by omega⟩
theorem own_conv {w : World} {base n : Nat} {v : Value} {l : List Nat} (h : w.ownsRow base 5 1 v n (bs l)) : (convert 27 9 v).run Tryz.prog w = .ok (.string (str l)) w := by
 have hl : l.length = n := by have := h.1; rw [bs_length] at this; omega
 rcases h.2 with ⟨rfl, h0⟩ | ⟨g, cap, cur, rfl, _, hg, hnc, hcm, _, ht⟩
 · subst h0
   obtain rfl : l = [] := List.eq_nil_of_length_eq_zero hl
   exact conv_nil w
 · exact conv_own hg hl (by simpa using ht)
end Go.Proofs.YtdopheoedpldiaaGreatDoor
namespace Go.Proofs.YtdopheoedpldiaaGreatDoor
open Go.RowKit
def NewPost (xs : List Nat) (w : World) (e : Ending) (w' : World) : Prop :=
 ∃ v, e = .returned v ∧ w'.ownsRow w.heap.size 5 1 v xs.length (bs xs) ∧ Below w.heap.size w w'
set_option maxHeartbeats 1000000 in
theorem rput_any (n : Nat) : ∀ (w : World), n < 18446744073709551616 → Calls Tryz.prog 22 #[.int .u64 (n : Int)] w (NewPost (Uv.put n) w) := by
 induction n using Nat.strongRecOn with
 | ind n ih =>
   intro w hn
   obtain ⟨i0, hi, hz0, hz1, hz2⟩ := info_parts info_u8
   by_cases h : n < 128
   · rw [Uv.put_small h]
     clear ih
     go_enter Tryz.func22, Tryz.ntmps22
     go_wp2
     go_ret
     exact ⟨_, rfl, World.ownsRow_lit w #[.int .u8 (n : Int)] 1 (Nat.le_refl _) (by decide) rfl, (Below.refl _ _).alloc (Nat.le_refl _) _⟩
   · rw [Uv.put_large h]
     have HI := Lib.hid (ih (n / 128) (by omega))
     clear ih
     have hlen := Uv.put_len_10 (n := n / 128) (by omega)
     have hpos := Uv.put_len_pos (n / 128)
     have hc : ((n : Int) / 128) = ((n / 128 : Nat) : Int) := by omega
     have HC := Lib.hid hc
     clear hc
     generalize Uv.put (n / 128) = r at *
     go_enter Tryz.func22, Tryz.ntmps22
     go_wp2_with fail
     rw [HC.out]
     refine (HI.out _ (by omega)).mono ?_
     rintro e w1 ⟨v, rfl, hown, hb⟩
     obtain ⟨g, cap, rfl, hg1, hg2⟩ := hown.form hpos
     have hs := hb.size
     have hb0 : Below w.heap.size w w1 := ((Below.refl _ _).alloc (Nat.le_refl _) _).trans (hb.mono (by simp))
     have hown0 := ownsRow_below (World.ownsRow_lit (base := w.heap.size) (e := 5) (size := 1) w #[.int .u8 ((n : Int) % 128 + 128)] 1 (Nat.le_refl _) (by decide) rfl) hb
     have hcells := hown.cells (g := g) rfl
     simp at hs
     clear hb hown
     go_wp2_with (at_builtin; refine wpList_append_lies _ rfl (.tmp 12) (.tmp 15) 27 rfl w.heap.size 5 i0 (.int .u8 0) 1 1 Tryz.underlying27 hi hz0 hz1 hz2 rfl (by decide) (.slice (some ⟨w.heap.size, 0, none⟩) 1 1) 1 _ rfl hown0 ⟨g, 0, none⟩ r.length cap (bs r) rfl (by simp [bs_length]) hcells (bs_one _) hpos ?c3 ?c4 ?c5 w1.heap.size rfl ?_)
     case c3 => unfold maxLen; omega
     case c4 => omega
     case c5 => omega
     intro g2 cap2 w2 hown2 hgrow2 hat2 _
     have hb2 : Below w.heap.size w w2 := hb0.grown hgrow2 (by omega) (fun k hk => by simp [Value.ownBlock] at hk; omega)
     have HO := Lib.hid hown2
     clear hown2 hgrow2 hown0 hcells hat2
     go_wp2
     go_ret
     have hv : (((n : Int) % 128 + 128)) = ((n % 128 + 128 : Nat) : Int) := by omega
     refine ⟨_, rfl, ?_, hb2⟩
     have h2 := HO.out
     rw [hv] at h2
     show w2.ownsRow w.heap.size 5 1 (.slice (some ⟨g2, 0, none⟩) (1 + r.length) cap2) _ _
     rw [List.length_cons, Nat.add_comm r.length 1]
     exact h2
end Go.Proofs.YtdopheoedpldiaaGreatDoor
namespace Go.Proofs.YtdopheoedpldiaaGreatDoor
open Go.RowKit
set_option maxHeartbeats 400000 in
theorem rfold_any (n : Int) (w : World) (h1 : -9223372036854775808 ≤ n) (h2 : n ≤ 9223372036854775807) :
   Calls Tryz.prog 97 #[.int .i64 n] w fun e w' => e = .returned (.int .u64 (Uv.fold n : Int)) ∧ w = w' := by
 go_enter Tryz.func97, Tryz.ntmps97
 go_wp2
 · go_ret
   have hn : n < 0 := by assumption
   exact ⟨ret_int (by unfold Uv.fold; rw [if_pos hn]; omega), rfl⟩
 · go_ret
   have hn : 0 ≤ n := by assumption
   exact ⟨ret_int (by unfold Uv.fold; rw [if_neg (by omega)]; omega), rfl⟩
end Go.Proofs.YtdopheoedpldiaaGreatDoor
