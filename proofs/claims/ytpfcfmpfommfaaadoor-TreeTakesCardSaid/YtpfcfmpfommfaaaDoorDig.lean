/-
  What the digits of any number are, told by instr.Digits and by the document's. Conditions: numbers of their type; the table of powers of ten is laid.
-/
import Derived.Test.YtpfcfmpfommfaaaDoorItoa
import Derived.Test.YtpfcfmpfommfaaaDoorInNum
import Derived.Laws.BytesArg
import Derived.Laws.Concat
namespace Go.Proofs.YtpfcfmpfommfaaaDoor
open Go.RowKit

theorem txt_size (n : Int) (h0 : -9223372036854775808 ≤ n) (h1 : n ≤ 9223372036854775807) : (In.txt n).size ≤ 21 := by
  rw [Lib.size_eq]
  have := Lib.itoa_length_le n h0 h1
  simpa [In.txt] using this
theorem retStr {a b : ByteArray} (h : a = b) : Ending.returned (.string a) = .returned (.string b) := by rw [h]

/-- Digits as a text. -/
def decB (u : Nat) : ByteArray := ⟨(Lib.decDigits u).toArray⟩
theorem decB_of (x : ByteArray) (u : Nat) (h : x.data.toList = Lib.decDigits u) : x = decB u := by
  unfold decB
  rw [← h]
theorem decB_big {u : Nat} (h : ¬ u < 10) : decB (u / 10) ++ decB (u % 10) = decB u := by
  apply decB_of
  rw [In.dec_big h]
  simp only [decB, Lib.decDigits_one (show u % 10 < 10 by omega)]
  simp
theorem decB_list (u : Nat) : (decB u).data.toList = Lib.decDigits u := by simp [decB]
theorem decB_size (u : Nat) (h : u < 18446744073709551616) : (decB u).size ≤ 21 := by
  rw [Lib.size_eq, decB_list]
  by_cases hs : u ≤ 9223372036854775807
  · have := Lib.itoa_length_le (u : Int) (by omega) (by omega)
    unfold Lib.itoa at this
    rw [if_neg (by omega)] at this
    simpa using this
  · have hb : ¬ u < 10 := by omega
    rw [In.dec_big hb, List.length_append]
    have := Lib.itoa_length_le ((u / 10 : Nat) : Int) (by omega) (by omega)
    unfold Lib.itoa at this
    rw [if_neg (by omega)] at this
    have e : (((u / 10 : Nat) : Int)).toNat = u / 10 := by omega
    rw [e] at this
    have : (Lib.decDigits (u / 10)).length ≤ 20 := by
      rw [Lib.decDigits_length]
      have h1 : 10 ^ 20 ≥ 18446744073709551616 := by decide
      rcases Nat.lt_or_ge 20 (Lib.nDigits (u / 10)) with h2 | h2
      · exfalso
        have h3 := Lib.lt_pow_nDigits (u / 10)
        have h4 : ∀ k v : Nat, v < 10 ^ (k + 1) → Lib.nDigits v ≤ k + 1 := by
          intro k
          induction k with
          | zero => intro v hv; rw [Lib.nDigits_small (by simpa using hv)]; omega
          | succ k ih =>
            intro v hv
            by_cases hv10 : v < 10
            · rw [Lib.nDigits_small hv10]; omega
            · rw [Lib.nDigits_big hv10]
              have := ih (v / 10) (by rw [Nat.pow_succ] at hv; omega)
              omega
        have := h4 19 (u / 10) (by omega)
        omega
      · omega
    simp
    omega

set_option maxRecDepth 100000 in
theorem conv_dig (i : Nat) (h : i < 10) (w : World) : (convert 25 9 (.slice (some ⟨w.heap.size, 0, none⟩) 1 1)).run Tryd.prog (w.alloc (.cells #[.int .u8 (48 + (i : Int))] 5)) = .ok (.string (decB i)) (w.alloc (.cells #[.int .u8 (48 + (i : Int))] 5)) := by
  have hb : (w.alloc (.cells #[.int .u8 (48 + (i : Int))] 5)).heap[w.heap.size]? = some (.cells #[.int .u8 (48 + (i : Int))] 5 (0, 0)) := heap_alloc_new w _
  have h0 := run_convert_bytes_arg (P := Tryd.prog) (w.alloc (.cells #[.int .u8 (48 + (i : Int))] 5)) 25 5 Tryd.underlying25 Tryd.underlying5 w.heap.size 0 1 1 [48 + (i : Int)] rfl (fun j hj => by
    obtain rfl : j = 0 := by omega
    exact cell_of_row _ _ 0 _ _ _ hb) 9 Tryd.underlying9
  have e0 : strOfNums [48 + (i : Int)] = decB i := by
    apply decB_of
    rw [Lib.decDigits_one h]
    have e : ((48 : Int) + (i : Int)).toNat = 48 + i := by omega
    simp [strOfNums, e]
  rw [e0] at h0
  exact h0

set_option maxHeartbeats 1000000 in
set_option maxRecDepth 100000 in
theorem dig_any (i : Nat) (h : i < 10) (w : World) :
    Calls Tryd.prog 70 #[.int .i64 (i : Int)] w fun e w' => e = .returned (.string (decB i)) ∧ Below w.heap.size w w' := by
  have hcv := conv_dig i h w
  go_enter Tryd.func70, Tryd.ntmps70
  go_wp2
  go_ret
  exact ⟨rfl, (Below.refl _ _).alloc (Nat.le_refl _) _⟩

set_option maxHeartbeats 1000000 in
set_option maxRecDepth 100000 in
theorem decs_any (u : Nat) : ∀ (w : World), u ≤ 9223372036854775807 →
    Calls Tryd.prog 70 #[.int .i64 (u : Int)] w fun e w' => e = .returned (.string (decB u)) ∧ Below w.heap.size w w' := by
  induction u using Nat.strongRecOn with
  | ind u ih =>
    intro w hu
    by_cases h10 : u < 10
    · exact dig_any u h10 w
    have HA := ih (u / 10) (by omega) w (by omega)
    have HB := Lib.hid (fun W => dig_any (u % 10) (by omega) W)
    rw [show ((u / 10 : Nat) : Int) = (u : Int) / 10 by omega] at HA
    rw [show ((u % 10 : Nat) : Int) = (u : Int) % 10 by omega] at HB
    have HD : Hid (decB (u / 10) ++ decB (u % 10) = decB u) := Lib.hid (decB_big h10)
    have hs1 : (decB (u / 10)).size ≤ 21 := decB_size _ (by omega)
    have hs2 : (decB (u % 10)).size ≤ 21 := decB_size _ (by omega)
    clear ih
    generalize decB (u / 10) = x at *
    generalize decB (u % 10) = y at *
    go_enter Tryd.func70, Tryd.ntmps70
    go_wp2_with (first
      | (go_at_call 70; with_reducible refine HA.mono ?_; rintro _ w1 ⟨rfl, b1⟩; clear HA)
      | (go_at_call 70; refine (HB.out w1).mono ?_; rintro _ w2 ⟨rfl, b2⟩))
    go_ret
    exact ⟨retStr HD.out, b1.trans (b2.mono b1.size)⟩

theorem txt_pos {n : Int} (h : 0 ≤ n) : In.txt n = decB n.toNat := by
  unfold In.txt Lib.itoa decB
  rw [if_neg (by omega)]
theorem txt_neg {n : Int} (h : n < 0) : In.txt n = ⟨#[45]⟩ ++ decB n.natAbs := by
  apply In.list_ext
  unfold In.txt Lib.itoa decB
  rw [if_pos h]
  simp

set_option maxHeartbeats 1000000 in
set_option maxRecDepth 100000 in
theorem rdigits_any (n : Int) (h0 : -9223372036854775808 ≤ n) (h1 : n ≤ 9223372036854775807) (w : World) :
    Calls Tryd.prog 49 #[.int .i64 n] w fun e w' => e = .returned (.string (In.txt n)) ∧ Below w.heap.size w w' := by
  by_cases hn : 0 ≤ n
  · obtain ⟨u, rfl⟩ := Int.eq_ofNat_of_zero_le hn
    rw [txt_pos hn]
    have H := decs_any u w (by omega)
    simp only [Int.toNat_natCast]
    have hge : decide (0 ≤ (u : Int)) = true := decide_eq_true hn
    go_enter Tryd.func49, Tryd.ntmps49
    go_wp2_with (go_at_call 70; refine H.mono ?_; rintro _ w1 ⟨rfl, b1⟩)
    go_ret
    exact ⟨rfl, b1⟩
  · obtain ⟨u, hu⟩ : ∃ u : Nat, n = -(u : Int) := ⟨n.natAbs, by omega⟩
    have hge : decide (0 ≤ n) = false := decide_eq_false hn
    have hq : n.tdiv 10 = -((u / 10 : Nat) : Int) := by subst hu; rw [Int.neg_tdiv]; rfl
    have hr : n.tmod 10 = -((u % 10 : Nat) : Int) := by subst hu; rw [Int.neg_tmod]; rfl
    rw [txt_neg (by omega), show n.natAbs = u by omega]
    by_cases h10 : u < 10
    · have H := decs_any u w (by omega)
      have hz : n.tdiv 10 = 0 := by rw [hq]; omega
      have hs1 : (decB u).size ≤ 21 := decB_size _ (by omega)
      have hneg : wrap64 (-n) = (u : Int) := by unfold wrap64; omega
      have HX := Lib.hid (And.intro hq (And.intro hr (And.intro h0 hu)))
      clear hq hr h0 hu
      generalize decB u = x at *
      go_enter Tryd.func49, Tryd.ntmps49
      go_wp2_with (go_at_call 70; refine H.mono ?_; rintro _ w1 ⟨rfl, b1⟩)
      go_ret
      exact ⟨rfl, b1⟩
    · have HA := decs_any (u / 10) w (by omega)
      have HB := Lib.hid (fun W => decs_any (u % 10) W (by omega))
      have HD : Hid (decB (u / 10) ++ decB (u % 10) = decB u) := Lib.hid (decB_big h10)
      have hs1 : (decB (u / 10)).size ≤ 21 := decB_size _ (by omega)
      have hs2 : (decB (u % 10)).size ≤ 21 := decB_size _ (by omega)
      generalize decB (u / 10) = x at *
      generalize decB (u % 10) = y at *
      have hz : (wrap64 (n.tdiv 10) == 0) = false := by rw [hq, beq_eq_false_iff_ne]; unfold wrap64; omega
      have hneg1 : wrap64 (-(wrap64 (n.tdiv 10))) = (u : Int) / 10 := by rw [hq]; unfold wrap64; omega
      have hneg2 : wrap64 (-(n.tmod 10)) = (u : Int) % 10 := by rw [hr]; unfold wrap64; omega
      rw [show ((u / 10 : Nat) : Int) = (u : Int) / 10 by omega] at HA
      rw [show ((u % 10 : Nat) : Int) = (u : Int) % 10 by omega] at HB
      have HX := Lib.hid (And.intro hq (And.intro hr (And.intro h0 hu)))
      clear hq hr h0 hu
      go_enter Tryd.func49, Tryd.ntmps49
      go_wp2_with (first
        | (go_at_call 70; with_reducible refine HA.mono ?_; rintro _ w1 ⟨rfl, b1⟩; clear HA)
        | (go_at_call 70; refine (HB.out w1).mono ?_; rintro _ w2 ⟨rfl, b2⟩))
      go_ret
      exact ⟨retStr (by rw [← HD.out]; apply In.list_ext; simp), b1.trans (b2.mono b1.size)⟩

set_option maxRecDepth 100000 in
theorem indigits_pow (n : Int) (h0 : -9223372036854775808 ≤ n) (h1 : n ≤ 9223372036854775807) (w : World) (h : Pow w) :
    Calls Tryd.prog 47 #[.int .i64 n] w fun e w' => e = .returned (.string (In.txt n)) ∧ Below w.heap.size w w' := by
  have H : Calls Tryd.prog 69 #[.int .i64 n] w fun e w' => e = .returned (.string (In.txt n)) ∧ Below w.heap.size w w' := itoa_full n h0 h1 w h
  clear h h0 h1
  go_enter Tryd.func47, Tryd.ntmps47
  go_wp2_with (go_at_call 69; refine H.mono ?_; rintro _ w1 ⟨rfl, b1⟩)
  go_ret
  exact ⟨rfl, b1⟩
end Go.Proofs.YtpfcfmpfommfaaaDoor
