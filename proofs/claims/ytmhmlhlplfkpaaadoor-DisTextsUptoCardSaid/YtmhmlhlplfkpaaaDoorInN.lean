/-
 The contract of strconv.Itoa laid at this translation, in plain words, and what it answers of any number. Conditions: the library's table of powers of ten is laid.
-/
import Derived.Shelf.Strconv.Itoa3
import Derived.Shelf.Strconv.ErrVarAll
import Derived.Shelf.Strings.Cut
import Derived.Lib.ConvBytes
import Derived.Laws.BytesArg
import Derived.Laws.Concat
import Derived.Test.YtmhmlhlplfkpaaaDoorSiOp
set_option maxRecDepth 100000
namespace Go.Proofs
open Go.Shelf
def Tryd.laysM171_ren : Go.Shelf.Ren := ⟨fun | 171 => 28 | 243 => 40 | 246 => 49 | 283 => 59 | 284 => 60 | 285 => 61 | 286 => 62 | 129 => 65 | 317 => 64 | 318 => 66 | 319 => 67 | 320 => 68 | 337 => 69 | 338 => 70 | n => n, fun | 3 => 3 | 9 => 9 | 2 => 2 | 4 => 4 | 171 => 89 | 0 => 0 | 53 => 90 | 37 => 39 | 5 => 5 | 173 => 93 | 212 => 98 | 51 => 80 | 20 => 20 | 213 => 99 | 46 => 87 | 232 => 102 | 233 => 103 | n => n, fun | 17 => 1 | 18 => 2 | 19 => 3 | n => n⟩
theorem Tryd.laysM171 : Go.Proofs.LaysM.n171 Tryd.prog Tryd.laysM171_ren := {
 mixed := by kernel_rfl
 f129 := Tryd.func65.trans (congrArg some (by kernel_rfl))
 f171 := Tryd.func28.trans (congrArg some (by kernel_rfl))
 f243 := Tryd.func40.trans (congrArg some (by kernel_rfl))
 f246 := Tryd.func49.trans (congrArg some (by kernel_rfl))
 f283 := Tryd.func59.trans (congrArg some (by kernel_rfl))
 f284 := Tryd.func60.trans (congrArg some (by kernel_rfl))
 f285 := Tryd.func61.trans (congrArg some (by kernel_rfl))
 f286 := Tryd.func62.trans (congrArg some (by kernel_rfl))
 f317 := Tryd.func64.trans (congrArg some (by kernel_rfl))
 f318 := Tryd.func66.trans (congrArg some (by kernel_rfl))
 f319 := Tryd.func67.trans (congrArg some (by kernel_rfl))
 f320 := Tryd.func68.trans (congrArg some (by kernel_rfl))
 f337 := Tryd.func69.trans (congrArg some (by kernel_rfl))
 f338 := Tryd.func70.trans (congrArg some (by kernel_rfl))
 t0 := Tryd.underlying0
 a0 := Tryd.isAgg0
 z0 := Tryd.sizeOf0
 v0 := Tryd.zeroValue0
 t2 := Tryd.underlying2
 a2 := Tryd.isAgg2
 z2 := Tryd.sizeOf2
 v2 := Tryd.zeroValue2
 t3 := Tryd.underlying3
 a3 := Tryd.isAgg3
 z3 := Tryd.sizeOf3
 v3 := Tryd.zeroValue3
 t4 := Tryd.underlying4
 a4 := Tryd.isAgg4
 z4 := Tryd.sizeOf4
 v4 := Tryd.zeroValue4
 t5 := Tryd.underlying5
 a5 := Tryd.isAgg5
 z5 := Tryd.sizeOf5
 v5 := Tryd.zeroValue5
 t9 := Tryd.underlying9
 a9 := Tryd.isAgg9
 z9 := Tryd.sizeOf9
 v9 := Tryd.zeroValue9
 t20 := Tryd.underlying20
 a20 := Tryd.isAgg20
 z20 := Tryd.sizeOf20
 v20 := Tryd.zeroValue20
 t37 := Tryd.underlying39
 a37 := Tryd.isAgg39
 z37 := Tryd.sizeOf39
 v37 := Tryd.zeroValue39
 t46 := Tryd.underlying87
 a46 := Tryd.isAgg87
 z46 := Tryd.sizeOf87
 v46 := Tryd.zeroValue87
 t51 := Tryd.underlying80
 a51 := Tryd.isAgg80
 z51 := Tryd.sizeOf80
 v51 := Tryd.zeroValue80
 t53 := Tryd.underlying90
 a53 := Tryd.isAgg90
 z53 := Tryd.sizeOf90
 v53 := Tryd.zeroValue90
 t171 := Tryd.underlying89
 a171 := Tryd.isAgg89
 z171 := Tryd.sizeOf89
 v171 := Tryd.zeroValue89
 t173 := Tryd.underlying93
 a173 := Tryd.isAgg93
 z173 := Tryd.sizeOf93
 v173 := Tryd.zeroValue93
 t212 := Tryd.underlying98
 a212 := Tryd.isAgg98
 z212 := Tryd.sizeOf98
 v212 := Tryd.zeroValue98
 t213 := Tryd.underlying99
 a213 := Tryd.isAgg99
 z213 := Tryd.sizeOf99
 t232 := Tryd.underlying102
 a232 := Tryd.isAgg102
 z232 := Tryd.sizeOf102
 v232 := Tryd.zeroValue102
 t233 := Tryd.underlying103
 a233 := Tryd.isAgg103
 z233 := Tryd.sizeOf103
 v233 := Tryd.zeroValue103
 g17 := by kernel_rfl
 g18 := by kernel_rfl
 g19 := by kernel_rfl
 i0 := by kernel_rfl
 i2 := by kernel_rfl
 i3 := by kernel_rfl
 i4 := by kernel_rfl
 i5 := by kernel_rfl
 i9 := by kernel_rfl
 i20 := by kernel_rfl
 i37 := by kernel_rfl
 i46 := by kernel_rfl
 i51 := by kernel_rfl
 i53 := by kernel_rfl
 i171 := by kernel_rfl
 i173 := by kernel_rfl
 i212 := by kernel_rfl
 i232 := by kernel_rfl
 i233 := by kernel_rfl
 m17 := by kernel_rfl
 m18 := by kernel_rfl
 m19 := by kernel_rfl }
end Go.Proofs
namespace Go.Proofs.YtmhmlhlplfkpaaaDoor
open Go.RowKit
def Pow (w : World) : Prop := Lib.TabIs Tryd.prog w "internal/strconv.uint64pow10" .u64 Lib.pow10Tab
theorem Pow.below {w w' : World} (h : Pow w) (hb : Below w.heap.size w w') : Pow w' := by
 have hg : Tryd.prog.globalNamed "internal/strconv.uint64pow10" = some 1 := by kernel_rfl
 have h' : World.var? Tryd.prog w "internal/strconv.uint64pow10" = _ := h
 show World.var? Tryd.prog w' "internal/strconv.uint64pow10" = _
 unfold World.var? at h' ⊢
 rw [hg] at h' ⊢
 simp only [Option.bind_some] at h' ⊢
 have hlt : 1 < w.heap.size := by
   rcases Nat.lt_or_ge 1 w.heap.size with h1 | h1
   · exact h1
   · rw [Array.getElem?_eq_none h1] at h'
     cases h'
 rw [hb.block _ hlt]
 exact h'
def itoaB (n : Int) : ByteArray := ⟨(Lib.itoa n).toArray⟩
theorem below_grow (w : World) (k : Nat) (os : Array Obj) : Below w.heap.size w (Go.Sort.grow (w.drewN k) os) :=
 ⟨rfl, rfl, rfl, by simp [Go.Sort.grow, World.drewN], fun j hj => by simp [Go.Sort.grow, World.drewN, Array.getElem?_append, hj]⟩
theorem itoa_full (n : Int) (h0 : -9223372036854775808 ≤ n) (h1 : n ≤ 9223372036854775807) (w : World) (hp : Pow w) :
   Calls Tryd.prog 28 #[.int .i64 n] w fun e w' => e = .returned (.string (itoaB n)) ∧ Below w.heap.size w w' := by
 have H : Calls Tryd.prog 28 #[.int .i64 n] w fun e w' => e = .returned (.string ⟨(Lib.itoa n).toArray⟩) ∧ ∃ k os, w' = Go.Sort.grow (w.drewN k) os := Any.strconv_Itoa Tryd.laysM171 n h0 h1 w hp
 refine H.mono ?_
 rintro _ w' ⟨rfl, k, os, rfl⟩
 exact ⟨rfl, below_grow _ _ _⟩
end Go.Proofs.YtmhmlhlplfkpaaaDoor
namespace Go.Proofs
open Go.Shelf
end Go.Proofs
namespace Go.Proofs.YtmhmlhlplfkpaaaDoor
open Go.RowKit
end Go.Proofs.YtmhmlhlplfkpaaaDoor
namespace Go.Proofs.YtmhmlhlplfkpaaaDoor
open Go.RowKit
theorem txt_size (n : Int) (h0 : -9223372036854775808 ≤ n) (h1 : n ≤ 9223372036854775807) : (In.txt n).size ≤ 21 := by
 rw [Lib.size_eq]
 have := Lib.itoa_length_le n h0 h1
 simpa [In.txt] using this
theorem retStr {a b : ByteArray} (h : a = b) : Ending.returned (.string a) = .returned (.string b) := by rw [h]
def decB (u : Nat) : ByteArray := ⟨(Lib.decDigits u).toArray⟩
theorem decB_of (x : ByteArray) (u : Nat) (h : x.data.toList = Lib.decDigits u) : x = decB u := by
 unfold decB
 rw [← h]
theorem decB_big {u : Nat} (h : ¬ u < 10) : decB (u / 10) ++ decB (u % 10) = decB u := by
 apply decB_of
 rw [In.dec_big h]
 simp only [decB, Lib.decDigits_one (show u % 10 < 10 by omega)]
 simp
theorem decB_list (u : Nat) : (decB u).data.toList = Lib.decDigits u := by simp [decB]
theorem decB_size (u : Nat) (h : u < 18446744073709551616) : (decB u).size ≤ 21 := by
 rw [Lib.size_eq, decB_list]
 by_cases hs : u ≤ 9223372036854775807
 · have := Lib.itoa_length_le (u : Int) (by omega) (by omega)
   unfold Lib.itoa at this
   rw [if_neg (by omega)] at this
   simpa using this
 · have hb : ¬ u < 10 := by omega
   rw [In.dec_big hb, List.length_append]
   have := Lib.itoa_length_le ((u / 10 : Nat) : Int) (by omega) (by omega)
   unfold Lib.itoa at this
   rw [if_neg (by omega)] at this
   have e : (((u / 10 : Nat) : Int)).toNat = u / 10 := by omega
   rw [e] at this
   have : (Lib.decDigits (u / 10)).length ≤ 20 := by
     rw [Lib.decDigits_length]
     have h1 : 10 ^ 20 ≥ 18446744073709551616 := by decide
     rcases Nat.lt_or_ge 20 (Lib.nDigits (u / 10)) with h2 | h2
     · exfalso
       have h3 := Lib.lt_pow_nDigits (u / 10)
       have h4 : ∀ k v : Nat, v < 10 ^ (k + 1) → Lib.nDigits v ≤ k + 1 := by
         intro k
         induction k with
         | zero => intro v hv; rw [Lib.nDigits_small (by simpa using hv)]; omega
         | succ k ih =>
           intro v hv
           by_cases hv10 : v < 10
           · rw [Lib.nDigits_small hv10]; omega
           · rw [Lib.nDigits_big hv10]
             have := ih (v / 10) (by rw [Nat.pow_succ] at hv; omega)
             omega
       have := h4 19 (u / 10) (by omega)
       omega
     · omega
   simp
   omega
theorem conv_dig (i : Nat) (h : i < 10) (w : World) : (convert 39 9 (.slice (some ⟨w.heap.size, 0, none⟩) 1 1)).run Tryd.prog (w.alloc (.cells #[.int .u8 (48 + (i : Int))] 5)) = .ok (.string (decB i)) (w.alloc (.cells #[.int .u8 (48 + (i : Int))] 5)) := by
 have hb : (w.alloc (.cells #[.int .u8 (48 + (i : Int))] 5)).heap[w.heap.size]? = some (.cells #[.int .u8 (48 + (i : Int))] 5 (0, 0)) := heap_alloc_new w _
 have h0 := run_convert_bytes_arg (P := Tryd.prog) (w.alloc (.cells #[.int .u8 (48 + (i : Int))] 5)) 39 5 Tryd.underlying39 Tryd.underlying5 w.heap.size 0 1 1 [48 + (i : Int)] rfl (fun j hj => by
   obtain rfl : j = 0 := by omega
   exact cell_of_row _ _ 0 _ _ _ hb) 9 Tryd.underlying9
 have e0 : strOfNums [48 + (i : Int)] = decB i := by
   apply decB_of
   rw [Lib.decDigits_one h]
   have e : ((48 : Int) + (i : Int)).toNat = 48 + i := by omega
   simp [strOfNums, e]
 rw [e0] at h0
 exact h0
set_option maxHeartbeats 1000000 in
theorem dig_any (i : Nat) (h : i < 10) (w : World) :
   Calls Tryd.prog 34 #[.int .i64 (i : Int)] w fun e w' => e = .returned (.string (decB i)) ∧ Below w.heap.size w w' := by
 have hcv := conv_dig i h w
 go_enter Tryd.func34, Tryd.ntmps34
 go_wp2
 go_ret
 exact ⟨rfl, (Below.refl _ _).alloc (Nat.le_refl _) _⟩
set_option maxHeartbeats 1000000 in
theorem decs_any (u : Nat) : ∀ (w : World), u ≤ 9223372036854775807 →
   Calls Tryd.prog 34 #[.int .i64 (u : Int)] w fun e w' => e = .returned (.string (decB u)) ∧ Below w.heap.size w w' := by
 induction u using Nat.strongRecOn with
 | ind u ih =>
   intro w hu
   by_cases h10 : u < 10
   · exact dig_any u h10 w
   have HA := ih (u / 10) (by omega) w (by omega)
   have HB := Lib.hid (fun W => dig_any (u % 10) (by omega) W)
   rw [show ((u / 10 : Nat) : Int) = (u : Int) / 10 by omega] at HA
   rw [show ((u % 10 : Nat) : Int) = (u : Int) % 10 by omega] at HB
   have HD : Hid (decB (u / 10) ++ decB (u % 10) = decB u) := Lib.hid (decB_big h10)
   have hs1 : (decB (u / 10)).size ≤ 21 := decB_size _ (by omega)
   have hs2 : (decB (u % 10)).size ≤ 21 := decB_size _ (by omega)
   clear ih
   generalize decB (u / 10) = x at *
   generalize decB (u % 10) = y at *
   go_enter Tryd.func34, Tryd.ntmps34
   go_wp2_with (first
     | (go_at_call 34; with_reducible refine HA.mono ?_; rintro _ w1 ⟨rfl, b1⟩; clear HA)
     | (go_at_call 34; refine (HB.out w1).mono ?_; rintro _ w2 ⟨rfl, b2⟩))
   go_ret
   exact ⟨retStr HD.out, b1.trans (b2.mono b1.size)⟩
theorem txt_pos {n : Int} (h : 0 ≤ n) : In.txt n = decB n.toNat := by
 unfold In.txt Lib.itoa decB
 rw [if_neg (by omega)]
theorem txt_neg {n : Int} (h : n < 0) : In.txt n = ⟨#[45]⟩ ++ decB n.natAbs := by
 apply In.list_ext
 unfold In.txt Lib.itoa decB
 rw [if_pos h]
 simp
set_option maxHeartbeats 1000000 in
theorem rdigits_any (n : Int) (h0 : -9223372036854775808 ≤ n) (h1 : n ≤ 9223372036854775807) (w : World) :
   Calls Tryd.prog 22 #[.int .i64 n] w fun e w' => e = .returned (.string (In.txt n)) ∧ Below w.heap.size w w' := by
 by_cases hn : 0 ≤ n
 · obtain ⟨u, rfl⟩ := Int.eq_ofNat_of_zero_le hn
   rw [txt_pos hn]
   have H := decs_any u w (by omega)
   simp only [Int.toNat_natCast]
   have hge : decide (0 ≤ (u : Int)) = true := decide_eq_true hn
   go_enter Tryd.func22, Tryd.ntmps22
   go_wp2_with (go_at_call 34; refine H.mono ?_; rintro _ w1 ⟨rfl, b1⟩)
   go_ret
   exact ⟨rfl, b1⟩
 · obtain ⟨u, hu⟩ : ∃ u : Nat, n = -(u : Int) := ⟨n.natAbs, by omega⟩
   have hge : decide (0 ≤ n) = false := decide_eq_false hn
   have hq : n.tdiv 10 = -((u / 10 : Nat) : Int) := by subst hu; rw [Int.neg_tdiv]; rfl
   have hr : n.tmod 10 = -((u % 10 : Nat) : Int) := by subst hu; rw [Int.neg_tmod]; rfl
   rw [txt_neg (by omega), show n.natAbs = u by omega]
   by_cases h10 : u < 10
   · have H := decs_any u w (by omega)
     have hz : n.tdiv 10 = 0 := by rw [hq]; omega
     have hs1 : (decB u).size ≤ 21 := decB_size _ (by omega)
     have hneg : wrap64 (-n) = (u : Int) := by unfold wrap64; omega
     have HX := Lib.hid (And.intro hq (And.intro hr (And.intro h0 hu)))
     clear hq hr h0 hu
     generalize decB u = x at *
     go_enter Tryd.func22, Tryd.ntmps22
     go_wp2_with (go_at_call 34; refine H.mono ?_; rintro _ w1 ⟨rfl, b1⟩)
     go_ret
     exact ⟨rfl, b1⟩
   · have HA := decs_any (u / 10) w (by omega)
     have HB := Lib.hid (fun W => decs_any (u % 10) W (by omega))
     have HD : Hid (decB (u / 10) ++ decB (u % 10) = decB u) := Lib.hid (decB_big h10)
     have hs1 : (decB (u / 10)).size ≤ 21 := decB_size _ (by omega)
     have hs2 : (decB (u % 10)).size ≤ 21 := decB_size _ (by omega)
     generalize decB (u / 10) = x at *
     generalize decB (u % 10) = y at *
     have hz : (wrap64 (n.tdiv 10) == 0) = false := by rw [hq, beq_eq_false_iff_ne]; unfold wrap64; omega
     have hneg1 : wrap64 (-(wrap64 (n.tdiv 10))) = (u : Int) / 10 := by rw [hq]; unfold wrap64; omega
     have hneg2 : wrap64 (-(n.tmod 10)) = (u : Int) % 10 := by rw [hr]; unfold wrap64; omega
     rw [show ((u / 10 : Nat) : Int) = (u : Int) / 10 by omega] at HA
     rw [show ((u % 10 : Nat) : Int) = (u : Int) % 10 by omega] at HB
     have HX := Lib.hid (And.intro hq (And.intro hr (And.intro h0 hu)))
     clear hq hr h0 hu
     go_enter Tryd.func22, Tryd.ntmps22
     go_wp2_with (first
       | (go_at_call 34; with_reducible refine HA.mono ?_; rintro _ w1 ⟨rfl, b1⟩; clear HA)
       | (go_at_call 34; refine (HB.out w1).mono ?_; rintro _ w2 ⟨rfl, b2⟩))
     go_ret
     exact ⟨retStr (by rw [← HD.out]; apply In.list_ext; simp), b1.trans (b2.mono b1.size)⟩
theorem indigits_pow (n : Int) (h0 : -9223372036854775808 ≤ n) (h1 : n ≤ 9223372036854775807) (w : World) (h : Pow w) :
   Calls Tryd.prog 17 #[.int .i64 n] w fun e w' => e = .returned (.string (In.txt n)) ∧ Below w.heap.size w w' := by
 have H : Calls Tryd.prog 28 #[.int .i64 n] w fun e w' => e = .returned (.string (In.txt n)) ∧ Below w.heap.size w w' := itoa_full n h0 h1 w h
 clear h h0 h1
 go_enter Tryd.func17, Tryd.ntmps17
 go_wp2_with (go_at_call 28; refine H.mono ?_; rintro _ w1 ⟨rfl, b1⟩)
 go_ret
 exact ⟨rfl, b1⟩
end Go.Proofs.YtmhmlhlplfkpaaaDoor
namespace Go.Proofs.YtmhmlhlplfkpaaaDoor
open Go.RowKit
end Go.Proofs.YtmhmlhlplfkpaaaDoor
namespace Go.Proofs.YtmhmlhlplfkpaaaDoor
open Go.RowKit
end Go.Proofs.YtmhmlhlplfkpaaaDoor
