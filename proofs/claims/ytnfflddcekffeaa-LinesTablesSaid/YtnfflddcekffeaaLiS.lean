/-
  What lines.spans answers: a function that yields the spans of a line one by one. Conditions: each round keeps the iterator's own boxes and its row.
-/
import Derived.RangeFuncNested
import Derived.RangeFuncBound
import Derived.RangeFuncCalls
import Derived.RangeFuncLeaves
import Derived.RangeFuncBox
import Derived.Shelf.Abstract
import Derived.Shelf.RegionOpen
import Derived.OwnWalkIn
import Derived.TacticsInMore
import Derived.LoopNIn
import Derived.LoopIn
import Derived.Sort.QuietIn
import Derived.Test.YtnfflddcekffeaaRuOf
import Derived.Test.YtnfflddcekffeaaLiMath
namespace Go.Proofs.Ytnfflddcekffeaa
open Go.RowKit Go.Shelf

attribute [local go_sem] Oper.semAt_some

/-- What a round must keep: what lay below top, but for block O. -/
structure KpLi (O top : Nat) (W W' : World) : Prop where
  os : W'.os = W.os
  tape : W'.tape = W.tape
  output : W'.output = W.output
  size : W.heap.size ≤ W'.heap.size
  block : ∀ k, k < top → k ≠ O → W'.heap[k]? = W.heap[k]?
theorem KpLi.refl (O top : Nat) (W : World) : KpLi O top W W := ⟨rfl, rfl, rfl, Nat.le_refl _, fun _ _ _ => rfl⟩
theorem KpLi.trans {O top : Nat} {A B C : World} (h : KpLi O top A B) (k : KpLi O top B C) : KpLi O top A C :=
  ⟨k.os.trans h.os, k.tape.trans h.tape, k.output.trans h.output, Nat.le_trans h.size k.size, fun i hi hO => (k.block i hi hO).trans (h.block i hi hO)⟩
theorem KpLi.of_below {O top : Nat} {A B : World} (h : Below top A B) : KpLi O top A B := ⟨h.os, h.tape, h.output, h.size, fun k hk _ => h.block k hk⟩
theorem KpLi.below {O top : Nat} {A B : World} (h : KpLi O top A B) (hO : O ≤ top) : Below O A B := ⟨h.os, h.tape, h.output, h.size, fun k hk => h.block k (by omega) (by omega)⟩
theorem KpLi.boxed {O top B : Nat} {W W' : World} {t : TypeId} {v : Value} (h : KpLi O top W W') (hb : Boxed W B t v) (h1 : B < top) (h2 : B ≠ O) : Boxed W' B t v := (h.block B h1 h2).trans hb
theorem kpLi_b {O top : Nat} {w : World} (ht : top ≤ w.heap.size) (W : World) (l : Nat) (o o' : Obj) (hl : w.heap.size ≤ l) (h : W.heap[l]? = some o) (_ : o.isCells = false) (_ : o.isWalk = false) : KpLi O top W (W.putObj l o') := by
  have hg := grownBy_putObj' W l o'
  refine ⟨hg.os, hg.tape, hg.output, hg.size, fun k hk _ => hg.block k ?_ ?_⟩
  · have := (Array.getElem?_eq_some_iff.1 h).1
    omega
  · intro e
    injection e with e
    omega

/-- A row of runs in memory that block O is no part of. -/
def RowAt (W : World) (O top : Nat) (a : Option Addr) (r : Ru.Runs) : Prop :=
  0 < r.length → ∃ b off, a = some ⟨b, off, none⟩ ∧ O < b ∧ b < top ∧ ∀ i, i < r.length → W.cell? ⟨b, off + i * 2, none⟩ = some (.int .i64 (r.getD i (0, 0)).1) ∧ W.cell? ⟨b, off + i * 2 + 1, none⟩ = some (.int .i64 (r.getD i (0, 0)).2)
theorem RowAt.kept {W W' : World} {O top : Nat} {a : Option Addr} {r : Ru.Runs} (h : RowAt W O top a r) (hk : KpLi O top W W') : RowAt W' O top a r := fun hn => by
  obtain ⟨b, off, e, h1, h2, hc⟩ := h hn
  have hb := hk.block b h2 (by omega)
  exact ⟨b, off, e, h1, h2, fun i hi => ⟨(World.cell?_of_block (w := W) (w' := W') (a := ⟨b, off + i * 2, none⟩) hb).trans (hc i hi).1, (World.cell?_of_block (w := W) (w' := W') (a := ⟨b, off + i * 2 + 1, none⟩) hb).trans (hc i hi).2⟩⟩
set_option maxRecDepth 100000 in
theorem RowAt.of_own {W : World} {O top : Nat} {v : Value} {r : Ru.Runs} (h : W.ownsRow (O + 1) 71 2 v r.length (ps r)) (ht : W.heap.size ≤ top) : ∃ A c, v = .slice A r.length c ∧ RowAt W O top A r := by
  obtain ⟨A, c, rfl, hp, _⟩ := runs_slice h
  refine ⟨A, c, rfl, fun hn => ?_⟩
  obtain ⟨b, off, rfl, hb, hc⟩ := hp.2 hn
  rcases h.2 with ⟨hv, _⟩ | ⟨g, cap, cur, hv, hg, _⟩
  · cases hv
  · injection hv with h1
    injection h1 with h1
    injection h1 with h1
    subst h1
    exact ⟨b, off, rfl, by omega, by omega, hc⟩

abbrev SpanT := Int × Int
/-- Between two rounds. -/
def SpRel (line : Int) (r : Ru.Runs) (O top : Nat) (W : World) (J : List SpanT → World → Prop) (f i : Value) (wr : World) : Prop :=
  ∃ k : Nat, k ≤ r.length ∧ i = .int .i64 (k : Int) ∧ f = .int .i64 (Li.total (r.take k)) ∧ J (Li.spans line 0 (r.take k)) wr ∧ KpLi O top W wr

set_option maxRecDepth 100000 in
set_option maxHeartbeats 4000000 in
theorem spans1_in (n : Nat) (hn : 1 ≤ n) (l Bs Bl O top : Nat) (a : Option Addr) (cap : Nat) (line : Int) (r : Ru.Runs) (hp : ∀ p ∈ r, 1 ≤ p.1) (ht : Li.total r ≤ 8796093022208) (hlen : r.length ≤ 8796093022208) (hlO : Bl ≠ O) (hlt : Bl < top)
    (J Jx : List SpanT → World → Prop) (B : Nat) (hJ : AbidesFrom B J)
    (hY : ∀ pre x W, J pre W → pre.length < r.length → YieldAt Fence.wide (n - 1) Try.prog l #[.agg #[.int .i64 x.1, .int .i64 x.2]] W fun e W' =>
      (e = .returned (.bool true) ∧ J (pre ++ [x]) W' ∧ KpLi O top W W') ∨ (e = .returned (.bool false) ∧ Jx (pre ++ [x]) W'))
    (W : World) (hB : Boxed W Bs 68 (.slice a r.length cap)) (hL : Boxed W Bl 3 (.int .i64 line)) (hR : RowAt W O top a r) (htW : top ≤ W.heap.size) (h0 : J [] W) :
    CallsIn Fence.wide n Try.prog 31 #[.func (.yield l) #[] #[], .pointer (some ⟨Bs, 0, none⟩), .pointer (some ⟨Bl, 0, none⟩)] W fun e W' => (∃ v, e = .returned v) ∧
      ((∃ ys, ys = Li.spans line 0 r ∧ J ys W') ∨ (∃ pre, True ∧ Jx pre W')) := by
  have c0 := hB.cell
  have HB := Lib.hid hB
  have HL := Lib.hid hL
  have HR := Lib.hid hR
  have HY := Lib.hid hY
  have HJ := Lib.hid hJ
  have HP := Lib.hid hp
  clear hB hL hR hY hJ hp
  refine callsIn_of_wp Try.func31 rfl trivial ?_ rfl
  simp only [Try.ntmps31, List.size_toArray, List.length_cons, List.length_nil, Nat.reduceAdd, Nat.reduceSub, Array.replicate_succ, Array.replicate_zero, List.push_toArray, List.append_toArray, List.nil_append, List.cons_append]
  gi_wp2
  gi_loopw [4, 10] (SpRel line r O top W J) (fun _ i _ => r.length - (intOf i).toNat)
  case atStart => exact ⟨0, by omega, rfl, rfl, h0, KpLi.refl _ _ _⟩
  case round =>
    obtain ⟨k, hk, rfl, rfl, hJr, hK⟩ := hrel
    have hcl := hK.boxed HL.out hlt hlO
    have HCL := Lib.hid hcl
    have hsz : top ≤ wr.heap.size := Nat.le_trans htW hK.size
    have HK := Lib.hid hK
    have HJR := Lib.hid hJr
    obtain ⟨ht0, ht1⟩ := Li.total_part HP.out k
    clear hK hJr hcl
    by_cases hkr : k < r.length
    · obtain ⟨b, off, rfl, hOb, hbt, hc⟩ := (HR.out.kept HK.out) (by omega)
      obtain ⟨hc0, hc1⟩ := hc k hkr
      have HT := Lib.hid (Li.total_take hkr)
      have HS := Lib.hid (Li.spans_take (line := line) (a := 0) hkr)
      have HLN := Lib.hid (Nat.lt_of_le_of_lt (Nat.le_trans (Li.spans_len line (r.take k) 0) (by rw [List.length_take]; exact Nat.min_le_left _ _)) hkr)
      obtain ⟨hn0, hn1⟩ := Li.total_part HP.out (k + 1)
      rw [HT.out] at hn0 hn1
      clear hc
      generalize r.getD k (0, 0) = p at *
      obtain ⟨N, V⟩ := p
      generalize Li.total (r.take k) = T at *
      generalize Li.spans line 0 (r.take k) = pre at *
      simp only at hc0 hc1 HT HS hn0 hn1
      rw [Int.zero_add] at HS
      have cl := (HCL.out.alloc (.cells #[.int .i64 N, .int .i64 V] 71)).cell
      have hJ1 : J pre (wr.alloc (.cells #[.int .i64 N, .int .i64 V] 71)) := HJ.out pre wr _ none HJR.out (World.grownBy_alloc wr _ none) (fun r e => by cases e)
      have HJ1 := Lib.hid hJ1
      have HK1 : Hid (KpLi O top W (wr.alloc (.cells #[.int .i64 N, .int .i64 V] 71))) := Lib.hid (HK.out.trans (KpLi.of_below ((Below.refl top wr).alloc hsz _)))
      clear hJ1
      by_cases hV : V = line
      · subst hV
        rw [if_pos rfl] at HS
        obtain ⟨fn, tmps, assign, body, hy, hR⟩ := HY.out pre (T, T + N) (wr.alloc (.cells #[.int .i64 N, .int .i64 V] 71)) HJ1.out HLN.out
        dsimp only at hy
        gi_wp2
        refine hR.mono ?_
        rintro e W3 (⟨rfl, hJ3, hk3⟩ | ⟨rfl, hJx3⟩)
        · have HK3 := Lib.hid (HK1.out.trans hk3)
          have HJ3 := Lib.hid hJ3
          rw [← HS.out] at HJ3
          clear hk3 hJ3
          gi_wp2
          go_roundw
          case rel => exact ⟨k + 1, by omega, by go_num, by rw [HT.out], HJ3.out, HK3.out⟩
          case measure => simp [intOf]; omega
        · gi_wp2
          refine bodyPost_ret (results_none rfl _ _ _) rfl ?_
          exact ⟨⟨_, rfl⟩, .inr ⟨_, trivial, hJx3⟩⟩
      · have hd : (V == line) = false := by rw [beq_eq_false_iff_ne]; exact hV
        rw [if_neg hV, List.append_nil] at HS
        gi_wp2
        refine ⟨fun _ h => (by cases h), ?_⟩
        gi_wp2
        go_roundw
        case rel => exact ⟨k + 1, by omega, by go_num, by rw [HT.out], by rw [HS.out]; exact HJ1.out, HK1.out⟩
        case measure => simp [intOf]; omega
    · have HE : Hid (Li.spans line 0 (r.take k) = Li.spans line 0 r) := Lib.hid (by rw [List.take_of_length_le (by omega)])
      gi_wp2
      go_end0
      exact ⟨⟨_, rfl⟩, .inl ⟨_, HE.out, HJR.out⟩⟩

set_option maxRecDepth 100000 in
theorem spans_stops (n : Nat) (hn : 1 ≤ n) (Bs Bl O : Nat) (a : Option Addr) (cap : Nat) (line : Int) (r : Ru.Runs) (hp : ∀ p ∈ r, 1 ≤ p.1) (ht : Li.total r ≤ 8796093022208) (hlen : r.length ≤ 8796093022208) (hlO : Bl ≠ O)
    (w : World) (hB : Boxed w Bs 68 (.slice a r.length cap)) (hL : Boxed w Bl 3 (.int .i64 line)) (hR : RowAt w O w.heap.size a r) :
    SeqStopsK Fence.wide n Try.prog 31 #[.pointer (some ⟨Bs, 0, none⟩), .pointer (some ⟨Bl, 0, none⟩)] (fun x : SpanT => #[Value.agg #[.int .i64 x.1, .int .i64 x.2]]) (KpLi O w.heap.size) (fun ys => ys = Li.spans line 0 r) (fun _ => True) r.length w :=
  fun l J Jx W hW hJ _ hY h0 => spans1_in n hn l Bs Bl O w.heap.size a cap line r hp ht hlen hlO hL.lt J Jx W.heap.size hJ hY W ((hW.block Bs hB.lt).trans hB) ((hW.block Bl hL.lt).trans hL) (hR.kept (.of_below hW)) hW.size h0

set_option maxHeartbeats 1000000 in
set_option maxRecDepth 100000 in
theorem lispans_in (n O : Nat) (a : Option Addr) (len cap : Nat) (xs : List Int) (line : Int) (w : World) (h : IntsAt w w.heap.size a len xs) (hlen : len ≤ 8796093022208) (hz : ∀ z ∈ xs, -9223372036854775808 ≤ z ∧ z ≤ 9223372036854775807) (hO : O < w.heap.size) :
    CallsIn Fence.wide n Try.prog 19 #[.slice a len cap, .int .i64 line] w fun e w' => ∃ (Bs : Nat) (A : Option Addr) (c : Nat), e = .returned (.func (.func 31) #[] #[.pointer (some ⟨Bs, 0, none⟩), .pointer (some ⟨w.heap.size, 0, none⟩)]) ∧
      Below w.heap.size w w' ∧ Boxed w' Bs 68 (.slice A (Ru.of xs).length c) ∧ Boxed w' w.heap.size 3 (.int .i64 line) ∧ RowAt w' O w'.heap.size A (Ru.of xs) := by
  have hb0 := (Below.refl _ w).alloc (Nat.le_refl _) (.cells #[.int .i64 line] 3)
  have HOF := Lib.hid (of_any a len cap xs (w.alloc (.cells #[.int .i64 line] 3)) ((h.below hb0).more (by simp)) hlen hz)
  have HB0 := Lib.hid hb0
  have HL := Lib.hid (Boxed.new w 3 (.int .i64 line))
  clear hb0 h hz
  refine callsIn_of_wp Try.func19 rfl trivial ?_ rfl
  simp only [Try.ntmps19, List.size_toArray, List.length_cons, List.length_nil, Nat.reduceAdd, Nat.reduceSub, Array.replicate_succ, Array.replicate_zero, List.push_toArray, List.append_toArray, List.nil_append, List.cons_append]
  gi_wp2_with (refine ⟨trivial, fun h => (by cases h), ?_⟩; gi_at_call 30; refine (callsIn_wide.2 HOF.out).mono ?_; rintro e w2 ⟨v, rfl, hown, hb⟩; obtain ⟨A, c, rfl, hrow⟩ := RowAt.of_own (O := O) (ownsRow_base hown (by simp; omega)) (Nat.le_refl _); have HR := Lib.hid hrow; have HB := Lib.hid hb; clear hown hrow hb)
  go_ret
  have hbx : Below w.heap.size w w2 := HB0.out.trans (HB.out.mono (by simp))
  have ha : KpLi O w2.heap.size w2 (w2.alloc (.cells #[.slice A (Ru.of xs).length c] 68)) := KpLi.of_below ((Below.refl _ w2).alloc (Nat.le_refl _) _)
  refine ⟨_, A, c, rfl, hbx.alloc hbx.size _, Boxed.new w2 _ _, Boxed.alloc (show Boxed w2 w.heap.size 3 (.int .i64 line) from (HB.out.block _ (by simp)).trans HL.out) _, fun hn => ?_⟩
  obtain ⟨b, off, e, h1, h2, hc⟩ := (HR.out.kept ha) hn
  exact ⟨b, off, e, h1, by simp; omega, hc⟩

end Go.Proofs.Ytnfflddcekffeaa
