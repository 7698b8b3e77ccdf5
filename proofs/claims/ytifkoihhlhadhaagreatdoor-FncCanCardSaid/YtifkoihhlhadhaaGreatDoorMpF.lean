/-
  What maps.Put lays. Conditions: the table can be read, at most 4096 sets; words of 64 bits; the slice is the caller's own; lengths within the reach.
-/
import Derived.Test.YtifkoihhlhadhaaGreatDoorMpAE
import Derived.Test.YtifkoihhlhadhaaGreatDoorUv
import Derived.Deep.DeepMust
namespace Go.Proofs.YtifkoihhlhadhaaGreatDoor
open Go.RowKit

namespace Mp
open Sl (Four)
/-- The bytes of a set's first i words. -/
def wordsTo (s : Four) (i : Nat) : List Nat := (List.range i).flatMap fun j => Uv.put (s.word j)
theorem wordsTo_zero (s : Four) : wordsTo s 0 = [] := rfl
theorem wordsTo_succ (s : Four) (i : Nat) : wordsTo s (i + 1) = wordsTo s i ++ Uv.put (s.word i) := by
  unfold wordsTo
  rw [List.range_succ, List.flatMap_append]
  simp
theorem wordsTo_all (s : Four) : wordsTo s 4 = words s := by
  simp [wordsTo, words, List.range, List.range.loop, Four.word]
theorem wordsTo_len {s : Four} (h : s.ok) : ∀ i, (wordsTo s i).length ≤ 10 * i
  | 0 => Nat.le_refl _
  | i + 1 => by
    have h1 := wordsTo_len h i
    have h2 := Uv.put_len_10 (Sl.ok_word h i)
    rw [wordsTo_succ, List.length_append]
    omega
theorem laid_take {r : Runs} {k : Nat} (h : k < r.length) : laid (r.take (k + 1)) = laid (r.take k) ++ (Uv.put (r.getD k (0, Sl.no)).1 ++ words (r.getD k (0, Sl.no)).2) := by
  rw [List.take_succ_eq_append_getElem h, laid_append, laid_one]
  simp [List.getD, h, one]
theorem laid_at {r : Runs} {k N : Nat} {y : Four} (h : k < r.length) (hy : r.getD k (0, Sl.no) = (N, y)) : (N, y) ∈ r ∧ laid (r.take (k + 1)) = laid (r.take k) ++ (Uv.put N ++ words y) := by
  have e : r.getD k (0, Sl.no) = r[k] := by simp [List.getD, h]
  have e2 := laid_take h
  rw [hy] at e2
  exact ⟨by rw [← hy, e]; exact List.getElem_mem h, e2⟩
theorem laid_take_len {r : Runs} (h : ∀ p ∈ r, p.1 < 18446744073709551616 ∧ p.2.ok) (k : Nat) : (laid (r.take k)).length ≤ 50 * k := by
  have h1 := laid_len (r := r.take k) fun p hp => h p (List.mem_of_mem_take hp)
  have h2 : (r.take k).length ≤ k := by simp; omega
  omega
end Mp

set_option maxRecDepth 100000 in
theorem own_bytes {w : World} {base n : Nat} {v : Value} {l : List Nat} (h : w.ownsRow base 5 1 v n (bs l)) (hb : ∀ c ∈ l, c < 256) : ∃ A c, v = .slice A n c ∧ BytesAt w w.heap.size A n l ∧ (A = none → c = 0) := by
  have hl : l.length = n := by have := h.1; rw [bs_length] at this; omega
  rcases h.2 with ⟨rfl, h0⟩ | ⟨g, cap, cur, rfl, _, hg, hnc, hcm, _, ht⟩
  · subst h0
    obtain rfl : l = [] := List.eq_nil_of_length_eq_zero hl
    exact ⟨none, 0, rfl, ⟨rfl, by simp, by simp⟩, fun _ => rfl⟩
  · exact ⟨_, cap, rfl, bytesAt_own hg hl (by simpa using ht) hb, fun e => by cases e⟩

set_option maxRecDepth 100000 in
/-- A word of a set as a value, by its number. -/
theorem word_at (s : Sl.Four) : ∀ i : Nat, i < 4 → ∀ w : World, (Instr.index 93 (.agg #[.int .u64 (s.a : Int), .int .u64 (s.b : Int), .int .u64 (s.c : Int), .int .u64 (s.d : Int)]) (.int .i64 (i : Int))).run Tryz.prog w = .ok (.int .u64 (s.word i : Int)) w := by
  intro i hi w
  rcases (show i = 0 ∨ i = 1 ∨ i = 2 ∨ i = 3 by omega) with rfl | rfl | rfl | rfl
  · exact idx0 _ _ _ _ w
  · exact idx1 _ _ _ _ w
  · exact idx2 _ _ _ _ w
  · exact idx3 _ _ _ _ w

/-- Between two rounds: the bytes of k runs are laid. -/
def MptRel (r : Mp.Runs) (w : World) (u i : Value) (wr : World) : Prop :=
  ∃ (k : Nat) (pre : List Nat), k ≤ r.length ∧ i = .int .i64 (k : Int) ∧ pre = Mp.laid (r.take k) ∧ wr.ownsRow w.heap.size 5 1 u pre.length (bs pre) ∧ Below w.heap.size w wr
/-- Within a round: how many, and a set's first i words, are laid. -/
def MptIn (y : Sl.Four) (pre : List Nat) (w : World) (u j : Value) (wr : World) : Prop :=
  ∃ (i : Nat) (q : List Nat), i ≤ 4 ∧ j = .int .i64 (i : Int) ∧ q = pre ++ Mp.wordsTo y i ∧ wr.ownsRow w.heap.size 5 1 u q.length (bs q) ∧ Below w.heap.size w wr

set_option maxHeartbeats 8000000 in
set_option maxRecDepth 100000 in
theorem mpput_own (base : Nat) (v : Value) (m : Nat) (xs : List Value) (a : Option Addr) (n c : Nat) (l : List Sl.Four) (w : World) (h : SetsAt w w.heap.size a n l) (hn : n ≤ 4096) (ho : ∀ s ∈ l, s.ok) (hown : w.ownsRow base 5 1 v m xs) (hbase : base ≤ w.heap.size) (hm : m + 1000000 ≤ 140737488355328) :
    Calls Tryz.prog 39 #[v, .slice a n c] w (OwnPost base w v (m + (Mp.bytes l).length) (xs ++ bs (Mp.bytes l))) := by
  have HR := Lib.hid (mprunsof_any a n c l w h (by omega))
  have HF : Hid (∀ p ∈ Mp.of l, 1 ≤ p.1 ∧ p.1 ≤ n ∧ p.2.ok) := Lib.hid (by have := Mp.of_fits ho; rw [h.1] at this; exact this)
  have HF2 : Hid (∀ p ∈ Mp.of l, p.1 < 18446744073709551616 ∧ p.2.ok) := Lib.hid (fun p hp => ⟨by have := (HF.out p hp).2.1; omega, (HF.out p hp).2.2⟩)
  have HN : Hid ((Mp.of l).length ≤ n) := Lib.hid (by have := Mp.of_len l; rw [h.1] at this; exact this)
  have HBytes : Hid (Mp.bytes l = Mp.laid (Mp.of l)) := Lib.hid rfl
  have HByte := Lib.hid (Mp.bytes_byte l)
  have HO := Lib.hid hown
  have HMn := Lib.hid (And.intro hm hn)
  generalize Mp.of l = r at *
  clear h ho hown
  go_enter Tryz.func39, Tryz.ntmps39
  go_wp2_with (go_at_call 90; refine HR.out.mono ?_; rintro _ w1 ⟨A, c1, rfl, hA, _, hb1⟩; have HA := Lib.hid hA; have HB1 := Lib.hid hb1; clear hA hb1)
  have hrn : r.length ≤ 4096 := by have := HN.out; omega
  clear HR
  go_loopw [5, 13] (fun u i wr => MptRel r w1 u i wr) (fun _ i _ => r.length - (intOf i).toNat)
  case atStart => exact ⟨0, [], Nat.zero_le _, rfl, rfl, World.ownsRow_nil _ _ _ _, Below.refl _ _⟩
  case round =>
    obtain ⟨k, pre, hk, rfl, hpre, hO, hB⟩ := hrel
    have HW := Lib.hid hO
    have HB := Lib.hid hB
    have HPre := Lib.hid hpre
    have HPL : Hid (pre.length ≤ 50 * k) := Lib.hid (by rw [hpre]; exact Mp.laid_take_len HF2.out k)
    clear hO hB hpre
    by_cases hlt : k < r.length
    · obtain ⟨b, off, N, y, rfl, _, hy, hky, d0, d1, d2, d3, d4⟩ := set_runs_cell (HA.out.below HB.out) hlt
      have HY := Lib.hid (Mp.laid_at hky hy)
      have HF3 := Lib.hid (HF.out _ HY.out.1)
      dsimp only at HF3
      have hN1 : 1 ≤ N := HF3.out.1
      have hN2 : N ≤ 4096 := by have := HF3.out.2.1; have := HMn.out.2; omega
      have hnw : N < 18446744073709551616 := by omega
      have hoy : Hid y.ok := Lib.hid HF3.out.2.2
      have hsz := HB.out.size
      have HW1 := Lib.hid (HW.out.alloc (.cells #[.int .i64 (N : Int), .int .u64 (y.a : Int), .int .u64 (y.b : Int), .int .u64 (y.c : Int), .int .u64 (y.d : Int)] 118))
      have HB1' := Lib.hid (HB.out.alloc HB.out.size (.cells #[.int .i64 (N : Int), .int .u64 (y.a : Int), .int .u64 (y.b : Int), .int .u64 (y.c : Int), .int .u64 (y.d : Int)] 118))
      have HP1 := Lib.hid (put_own w1.heap.size u5 pre.length (bs pre) N _ hnw HW1.out HB1'.out.size (by have h1 := HPL.out; have h2 := HMn.out; omega))
      have HNe : Hid (u5.ownBlock ≠ some wr.heap.size) := Lib.hid (fun e => by have := (HW.out.lt _ e).2; omega)
      have HBx := Lib.hid (heap_alloc_new wr (.cells #[.int .i64 (N : Int), .int .u64 (y.a : Int), .int .u64 (y.b : Int), .int .u64 (y.c : Int), .int .u64 (y.d : Int)] 118))
      clear hy hky
      go_wp2_with (go_at_call 32; go_must (refine HP1.out.mono ?_; rintro _ w2 ⟨v2, rfl, hinv⟩; have HI := Lib.hid hinv; clear hinv; have hbx := (HI.out.2.1.block wr.heap.size (by simp) (Ne.symm HNe.out)).trans HBx.out; have x1 := cell_of_row _ _ 1 _ _ _ hbx; have x2 := cell_of_row _ _ 2 _ _ _ hbx; have x3 := cell_of_row _ _ 3 _ _ _ hbx; have x4 := cell_of_row _ _ 4 _ _ _ hbx; clear hbx))
      have HO0 := Lib.hid (show w2.ownsRow w1.heap.size 5 1 v2 (pre ++ Uv.put N).length (bs (pre ++ Uv.put N)) from by rw [List.length_append, bs_append]; exact HI.out.1)
      have HB0 := Lib.hid (HB1'.out.grown HI.out.2.1 HB1'.out.size (fun b e => (HW1.out.lt b e).1))
      have HPL0 : Hid ((pre ++ Uv.put N).length ≤ 50 * k + 10) := Lib.hid (by rw [List.length_append]; have h1 := HPL.out; have h2 := Uv.put_len_10 hnw; omega)
      obtain ⟨p2, hp2⟩ : ∃ p2, pre ++ Uv.put N = p2 := ⟨_, rfl⟩
      rw [hp2] at HO0 HPL0
      have HP2 := Lib.hid hp2
      clear hp2 d0 d1 d2 d3 d4 x1 x2 x3 x4
      have ix := word_at y
      go_loopw [5, 24] (fun u j W => MptIn y p2 w1 u j W) (fun _ j _ => 4 - (intOf j).toNat)
      case atStart => exact ⟨0, p2, by omega, rfl, by rw [Mp.wordsTo_zero, List.append_nil], HO0.out, HB0.out⟩
      case round =>
        obtain ⟨i, q, hi4, rfl, hq, hO3, hB3⟩ := hrel
        have HO3 := Lib.hid hO3
        have HB3 := Lib.hid hB3
        have HQ := Lib.hid hq
        have HQL : Hid (q.length ≤ 50 * k + 50) := Lib.hid (by rw [hq, List.length_append]; have h1 := HPL0.out; have h2 := Mp.wordsTo_len hoy.out i; omega)
        clear hO3 hB3 hq
        by_cases hi3 : i < 4
        · have HS := Lib.hid (Mp.wordsTo_succ y i)
          have hxw := Sl.ok_word hoy.out i
          have ixi := ix i hi3
          generalize y.word i = x at *
          have HC := Lib.hid (put_own w1.heap.size u5 q.length (bs q) x _ hxw HO3.out HB3.out.size (by have h1 := HQL.out; have h2 := HMn.out; omega))
          have hi64 : (i : Int) < 4 := by omega
          clear ix
          go_wp2_with (go_at_call 32; go_must (refine HC.out.mono ?_; rintro _ w3 ⟨v3, rfl, hinv⟩; have HI3 := Lib.hid hinv; clear hinv))
          go_roundw
          case rel => exact ⟨i + 1, q ++ Uv.put x, hi3, by go_num, by rw [HQ.out, HS.out, List.append_assoc], by rw [List.length_append, bs_append]; exact HI3.out.1, HB3.out.grown HI3.out.2.1 HB3.out.size (fun b e => (HO3.out.lt b e).1)⟩
          case measure => simp [intOf]; omega
        · obtain rfl : i = 4 := by omega
          have HE : Hid (q = Mp.laid (r.take (k + 1))) := Lib.hid (by rw [HQ.out, ← HP2.out, HPre.out, Mp.wordsTo_all, HY.out.2, List.append_assoc])
          clear ix
          go_wp2
          go_roundw
          case rel => exact ⟨k + 1, q, hlt, by go_num, HE.out, HO3.out, HB3.out⟩
          case measure => simp [intOf]; omega
    · obtain rfl : k = r.length := by omega
      have HE : Hid (pre = Mp.bytes l) := Lib.hid (by rw [HPre.out, HBytes.out, List.take_length])
      obtain ⟨A', c', rfl, hG, hnil⟩ := own_bytes HW.out (by rw [HE.out]; exact HByte.out)
      have hbw := HB1.out.trans (HB.out.mono HB1.out.size)
      obtain ⟨v', w', hr2, hinv⟩ := append_bytes_at (c := c') (ownsRow_below HO.out hbw) hG hnil (Nat.le_trans hbase hbw.size) (by have h1 := HPL.out; have h2 := HMn.out; have h3 := HN.out; omega)
      have HR := Lib.hid (hr2 33 rfl)
      have HFi := Lib.hid (own_then hbw hinv)
      have hki : decide ((r.length : Int) < (r.length : Int)) = false := decide_eq_false (by omega)
      clear hG hnil hr2 hinv hbw
      go_wp2_with (at_builtin; refine Lib.wpList_append_run _ rfl (.tmp 32) (.tmp 33) _ _ rfl _ _ rfl rfl _ _ HR.out ?_)
      go_ret
      exact ⟨_, rfl, HFi.out.cast (by rw [HE.out]) (by rw [HE.out])⟩
end Go.Proofs.YtifkoihhlhadhaaGreatDoor
