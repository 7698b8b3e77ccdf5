/-
  The walk of RunsRows. Conditions: none but that the runs can be read.
-/
import Derived.Deep.RegionLaw
import Derived.BigRegion
import Derived.Test.YtkibbhkdeepnlaaRuLives
import Derived.Test.YtkibbhkdeepnlaaRuRef2
import Derived.Test.YtkibbhkdeepnlaaRuInts
namespace Go.Proofs.Ytkibbhkdeepnlaa
open Go.RowKit

def RoRel (w : World) (n : Nat) (r : Ru.Runs) (u i : Value) (wr : World) : Prop :=
  ∃ k : Nat, k ≤ n ∧ k ≤ 100 ∧ i = .int .i64 (k : Int) ∧ wr.ownsRow w.heap.size 34 2 u (r.take k).length (ps (r.take k)) ∧ Below w.heap.size w wr

set_option maxHeartbeats 4000000 in
theorem rows_walk (a : Option Addr) (n c : Nat) (r : Ru.Runs) (w : World) (h : PairsAt w w.heap.size a n r) (hnc : n ≤ c) (hcc : c ≤ 9223372036854775807) (hf : ∀ p ∈ r, p.1 ≤ 9223372036854775807) :
    Calls Try.prog 4 #[.slice a n c] w (BoolP true w) := by
  obtain ⟨i0, hi, hz0, hz1, hz2⟩ := info_parts info_rrun
  have H := Lib.hid h
  have HL := Lib.hid lives_any
  have HF := Lib.hid hf
  have hrl := h.1
  clear h hf
  by_cases h100 : 100 < n
  · have hi100 : (100 : Int) < (n : Int) := by omega
    go_enter Try.func4, Try.ntmps4
    go_wp2_with (go_at_call 7; refine (HL.out _).mono ?_; rintro e w1 ⟨rfl, hb1⟩)
    go_ret
    exact ⟨rfl, hb1⟩
  · have hi100 : ¬ (100 : Int) < (n : Int) := by omega
    go_enter Try.func4, Try.ntmps4
    go_wp2
    go_loopw [3, 4] (RoRel w n r) (fun _ i _ => n - (intOf i).toNat)
    case atStart => exact ⟨0, Nat.zero_le _, Nat.zero_le _, rfl, World.ownsRow_nil _ _ _ _, Below.refl _ _⟩
    case round =>
      obtain ⟨k, hk, hk100, rfl, hO, hB⟩ := hrel
      obtain ⟨A, cc, rfl, hPA, hcc2⟩ := runs_slice hO
      have HO := Lib.hid hO
      have HB := Lib.hid hB
      have hs := hB.size
      by_cases hlt : k < n
      · obtain ⟨b, off, rfl, hlb, hc⟩ := (H.out.below hB).2 (by omega)
        obtain ⟨hc0, hc1⟩ := hc k hlt
        have HT := Lib.hid (Ru.taken (l := r) (k := k) (by omega) ((0 : Int), (0 : Int)))
        have HQ : Hid ((r.take k).length = k) := Lib.hid (by rw [List.length_take]; omega)
        clear hc hO hB hPA
        generalize r.getD k (0, 0) = p at *
        obtain ⟨N, V⟩ := p
        generalize r.take k = q at *
        simp only at hc0 hc1
        go_wp2
        have HOd : Hid ((wr.drew).ownsRow w.heap.size 34 2 (.slice A q.length cc) q.length (ps q)) := Lib.hid HO.out
        have HOa : Hid (((wr.alloc (.cells #[.int .i64 N, .int .i64 V] 34)).drew).ownsRow w.heap.size 34 2 (.slice A q.length cc) q.length (ps q)) := Lib.hid (HO.out.alloc _)
        have HNa : Hid (∀ j u, (ps [(N, V)])[j]? = some u → ((wr.alloc (.cells #[.int .i64 N, .int .i64 V] 34)).drew).cell? ((⟨wr.heap.size, 0, none⟩ : Addr).add j) = some u) := Lib.hid (new_run wr _ _ _)
        have h63 : q.length + 1 ≤ maxLen := by have := HQ.out; unfold maxLen; omega
        have hbt : (q.length + 1) * 16 ≤ 140737488355328 := by have := HQ.out; omega
        have hbs : w.heap.size ≤ ((wr.alloc (.cells #[.int .i64 N, .int .i64 V] 34)).drew).heap.size := by simp; omega
        have hHs : ((wr.alloc (.cells #[.int .i64 N, .int .i64 V] 34)).drew).heap.size = wr.heap.size + 1 := by simp
        have H63 := Lib.hid h63
        have HBT := Lib.hid hbt
        have HBS := Lib.hid hbs
        have HHS := Lib.hid hHs
        clear h63 hbt hbs hHs
        go_region_law (refine step_append_lies _ rfl (.tmp 15) (.tmp 27) 27 rfl w.heap.size 34 i0 (.agg #[.int .i64 0, .int .i64 0]) 2 16 Try.underlying27 hi hz0 hz1 hz2 rfl (by decide) (.slice A q.length cc) q.length (ps q) rfl HOa.out ⟨wr.heap.size, 0, none⟩ 1 1 (ps [(N, V)]) rfl rfl HNa.out (ps_one _) (by decide) H63.out HBT.out HBS.out (wr.heap.size + 1) HHS.out ?_; intro g cap w2 hown2 hgrow2 hat2 _; have HB2 := Lib.hid (own_grown (wr := wr.drew) (o := .cells #[.int .i64 N, .int .i64 V] 34) (HB.out.drew) HOd.out hgrow2); have HO2 := Lib.hid hown2; clear hown2 hgrow2 hat2)
        all_goals
          go_wp2
          go_roundw
          case rel =>
            refine ⟨k + 1, by omega, by omega, by go_num, ?_, HB2.out⟩
            rw [HT.out, List.length_append, ps_append]
            exact HO2.out
          case measure => simp [intOf]; omega
      · have HE : Hid (r.take k = r) := Lib.hid (List.take_of_length_le (by omega))
        have HPQ : Hid (PairsAt wr wr.heap.size a n r) := Lib.hid ((H.out.below hB).more hs)
        rw [HE.out] at hPA hcc2
        have hkl : (r.take k).length = r.length := by rw [HE.out]
        rw [hrl] at hkl
        have HKL := Lib.hid hkl
        rw [hrl] at hPA hcc2
        have HPA := Lib.hid hPA
        rw [hkl]
        clear hO hB hPA hkl
        go_wp2_with (go_at_call 11; refine (row_any a n c r wr HPQ.out (by omega)).mono ?_; rintro e w1 ⟨v1, rfl, hown1, hb1⟩)
        obtain ⟨A1, c1, rfl, hi1⟩ := nums_slice hown1
        have HP1 := Lib.hid ((HPQ.out.below hb1).more hb1.size)
        have HA1 := Lib.hid ((HPA.out.below hb1).more hb1.size)
        have HI1 := Lib.hid hi1
        have HB1 := Lib.hid (HB.out.trans (hb1.mono hs))
        clear hown1 hb1 hi1
        go_wp2_with (go_at_call 15; refine (rrow_any A n cc r w1 HA1.out (by omega) HF.out).mono ?_; rintro e w2 ⟨v2, rfl, hown2, hb2⟩)
        obtain ⟨A2, c2, rfl, hi2⟩ := nums_slice hown2
        have HP2 := Lib.hid ((HP1.out.below hb2).more hb2.size)
        have HA2 := Lib.hid ((HA1.out.below hb2).more hb2.size)
        have HI2 := Lib.hid hi2
        have HI1' := Lib.hid ((HI1.out.below hb2).more hb2.size)
        have HB2 := Lib.hid (HB1.out.trans (hb2.mono HB1.out.size))
        clear hown2 hb2 hi2 HI1
        have HIN := Lib.hid (ints_any A1 _ c1 _ A2 _ c2 _ w2 HI1'.out HI2.out (by have := Ru.row_len r; omega))
        rw [decide_eq_true rfl] at HIN
        go_wp2_with (go_at_call 10; refine HIN.out.mono ?_; rintro e w3 ⟨rfl, hb3⟩)
        have HP3 := Lib.hid ((HP2.out.below hb3).more hb3.size)
        have HA3 := Lib.hid ((HA2.out.below hb3).more hb3.size)
        have HB3 := Lib.hid (HB2.out.trans (hb3.mono HB2.out.size))
        clear hb3
        go_wp2_with (go_at_call 12; refine (right_any a n c r w3 HP3.out hnc hcc).mono ?_; rintro e w4 ⟨rfl, hb4⟩)
        have HA4 := Lib.hid ((HA3.out.below hb4).more hb4.size)
        have HB4 := Lib.hid (HB3.out.trans (hb4.mono HB3.out.size))
        clear hb4
        go_wp2_with (go_at_call 16; refine (rright_any A n cc r w4 HA4.out (by omega)).mono ?_; rintro e w5 ⟨rfl, hb5⟩)
        have HB5 := Lib.hid (HB4.out.trans (hb5.mono HB4.out.size))
        clear hb5
        go_wp2_with (go_at_call 7; refine (HL.out _).mono ?_; rintro e w6 ⟨rfl, hb6⟩)
        go_ret
        exact ⟨rfl, HB5.out.trans (hb6.mono HB5.out.size)⟩
end Go.Proofs.Ytkibbhkdeepnlaa
