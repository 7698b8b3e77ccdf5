/-
  The walk of RunsBack. Conditions: the numbers and the bytes can be read; numbers of their type; the bytes within the reach.
-/
import Derived.Test.YtkibbhkdeepnlaaRuLives
import Derived.Test.YtkibbhkdeepnlaaRuPut
import Derived.Test.YtkibbhkdeepnlaaRuTake
import Derived.Test.YtkibbhkdeepnlaaRuInts
namespace Go.Proofs.Ytkibbhkdeepnlaa
open Go.RowKit

theorem run_small {p : Int × Int} (h1 : 1 ≤ p.1) (h2 : p.1 ≤ 9223372036854775807) (h3 : -1048576 ≤ p.2) (h4 : p.2 ≤ 1048576) : (Uv.put p.1.toNat ++ Uv.put (Uv.fold p.2)).length ≤ 5 * p.1.toNat := by
  have hf : Uv.fold p.2 < 128 ^ (3 + 1) := by
    unfold Uv.fold
    show _ < 268435456
    split <;> omega
  have h5 := Uv.put_len_le 3 _ hf
  rw [List.length_append]
  by_cases hs : p.1.toNat < 128
  · rw [Uv.put_small hs]
    simp only [List.length_singleton]
    omega
  · have := Uv.put_len_10 (n := p.1.toNat) (by omega)
    omega
theorem laid_small {r : Ru.Runs} (h : ∀ p ∈ r, 1 ≤ p.1 ∧ p.1 ≤ 9223372036854775807 ∧ -1048576 ≤ p.2 ∧ p.2 ≤ 1048576) : (Ru.laid r).length ≤ 5 * (Ru.flat r).length := by
  induction r with
  | nil => simp [Ru.laid]
  | cons p r ih =>
    obtain ⟨h1, h2, h3, h4⟩ := h p (by simp)
    have a := run_small h1 h2 h3 h4
    have b := ih (fun q hq => h q (by simp [hq]))
    have e1 : Ru.laid (p :: r) = Ru.laid [p] ++ Ru.laid r := Ru.laid_append [p] r
    have e2 : Ru.flat (p :: r) = Ru.flat [p] ++ Ru.flat r := Ru.flat_append [p] r
    rw [e1, e2, Ru.laid_one, Ru.flat_one]
    simp only [List.length_append, List.length_replicate] at a ⊢
    omega
theorem laid_of_small {l : List Int} (hl : l.length ≤ 300) (h : ∀ z ∈ l, -1048576 ≤ z ∧ z ≤ 1048576) : (Ru.laid (Ru.of l)).length ≤ 1500 := by
  have := laid_small (r := Ru.of l) (fun p hp => by
    have h1 := Ru.of_pos l p hp
    have hm : p.2 ∈ Ru.flat (Ru.of l) := List.mem_flatMap.2 ⟨p, hp, List.mem_replicate.2 ⟨by omega, rfl⟩⟩
    have hle : p.1.toNat ≤ (Ru.flat (Ru.of l)).length := by
      obtain ⟨a, b, hab⟩ := List.append_of_mem hp
      rw [hab, show a ++ p :: b = a ++ [p] ++ b by simp, Ru.flat_append, Ru.flat_append, Ru.flat_one]
      simp
      omega
    rw [Ru.flat_of] at hm hle
    have h2 := h _ hm
    exact ⟨h1, by omega, h2.1, h2.2⟩)
  rw [Ru.flat_of] at this
  omega

def BlRel (w : World) (n : Nat) (l : List Int) (i : Value) (wr : World) : Prop := ∃ k : Nat, k ≤ n ∧ i = .int .i64 (k : Int) ∧ (∀ z ∈ l.take k, -1048576 ≤ z ∧ z ≤ 1048576) ∧ w = wr

set_option maxHeartbeats 8000000 in
theorem back_walk (a : Option Addr) (n c : Nat) (l : List Int) (B : Option Addr) (nb cb : Nat) (lb : List Nat) (w : World) (h : IntsAt w w.heap.size a n l) (hn : n ≤ 9223372036854775807) (hz : ∀ z ∈ l, -9223372036854775808 ≤ z ∧ z ≤ 9223372036854775807) (hB : BytesAt w w.heap.size B nb lb) (hnb : nb ≤ 140737488351232) (hnil : B = none → cb = 0) :
    Calls Try.prog 6 #[.slice a n c, .slice B nb cb] w (BoolP true w) := by
  by_cases h300 : 300 < n
  · have hi : (300 : Int) < (n : Int) := by omega
    clear h hz hB hnil
    go_enter Try.func6, Try.ntmps6
    go_wp2_with (go_at_call 7; refine (lives_any _).mono ?_; rintro e w1 ⟨rfl, hb1⟩)
    go_ret
    exact ⟨rfl, hb1⟩
  have hi : ¬ (300 : Int) < (n : Int) := by omega
  have HLN := Lib.hid h.1
  have HI := Lib.hid h
  have HZ := Lib.hid hz
  have HBA := Lib.hid hB
  clear h hz hB
  go_enter Try.func6, Try.ntmps6
  go_wp2
  go_loopw [5] (BlRel w n l) (fun i _ => n - (intOf i).toNat)
  case atStart => exact ⟨0, Nat.zero_le _, rfl, by simp, rfl⟩
  case round =>
    obtain ⟨k, hk, rfl, hR, rfl⟩ := hrel
    have HR := Lib.hid hR
    clear hR
    by_cases hlt : k < n
    · obtain ⟨b, off, rfl, hlb, hc⟩ := HI.out.2 (by omega)
      have hck := hc k hlt
      have HS := Lib.hid (take_snoc l k (by rw [HLN.out]; omega))
      clear hc
      generalize l.getD k 0 = x at *
      by_cases h1 : x < -1048576
      · go_wp2_with (go_at_call 7; refine (lives_any _).mono ?_; rintro e w1 ⟨rfl, hb1⟩)
        go_ret
        exact ⟨rfl, hb1⟩
      by_cases h2 : 1048576 < x
      · go_wp2_with (go_at_call 7; refine (lives_any _).mono ?_; rintro e w1 ⟨rfl, hb1⟩)
        go_ret
        exact ⟨rfl, hb1⟩
      · go_wp2
        go_roundw
        case rel =>
          refine ⟨k + 1, by omega, by go_num, ?_, rfl⟩
          rw [HS.out]
          intro z hz
          rcases List.mem_append.1 hz with hz | hz
          · exact HR.out z hz
          · rw [List.mem_singleton] at hz
            subst hz
            omega
        case measure => simp [intOf]; omega
    · obtain rfl : k = n := by omega
      have hall : ∀ z ∈ l, -1048576 ≤ z ∧ z ≤ 1048576 := by
        have := HR.out
        rwa [List.take_of_length_le (by rw [HLN.out]; omega)] at this
      have hls := laid_of_small (l := l) (by rw [HLN.out]; omega) hall
      have HPUT := Lib.hid (runsPut_own w.heap.size (.slice none 0 0) 0 [] a k c l w (World.ownsRow_nil _ _ _ _) (Nat.le_refl _) HI.out (by omega) HZ.out (by omega))
      have HBK := Lib.hid (take_back (l := l) (low := -1048576) (high := 1048576) lb (by rw [HLN.out]; omega) (fun z hz => by have := hall z hz; have := HZ.out z hz; omega))
      rw [HLN.out] at HBK
      have HLB := Lib.hid (Ru.laid_byte (Ru.of l))
      have HLS := Lib.hid hls
      clear hall hls HR
      generalize Ru.laid (Ru.of l) = m at *
      go_wp2_with fail
      refine HPUT.out.mono ?_
      rintro e w1 ⟨v1, rfl, hinv⟩
      have hown1 := hinv.1
      rw [Nat.zero_add, List.nil_append] at hown1
      have hb1 : Below w.heap.size w w1 := hinv.below (World.ownsRow_nil _ _ _ _) (Nat.le_refl _)
      obtain ⟨v2, w2, hr2, hown2, hg2⟩ := append_bytes (c := cb) hown1 (HBA.out.below hb1) hnil hb1.size (by have := HLS.out; omega)
      have hb2 : Below w.heap.size w w2 := hb1.grown hg2 hb1.size (fun j hj => (hown1.lt j hj).1)
      rw [← bs_append] at hown2
      obtain ⟨A2, n2, c2, rfl, hn2, hB2⟩ : ∃ A n2 c, v2 = .slice A n2 c ∧ n2 = (m ++ lb).length ∧ BytesAt w2 w2.heap.size A n2 (m ++ lb) := by
        have hbb : ∀ c ∈ m ++ lb, c < 256 := fun c hc => (List.mem_append.1 hc).elim (HLB.out c) (HBA.out.2.1 c)
        have hlen : (m ++ lb).length = m.length + nb := by rw [List.length_append, HBA.out.1]
        rcases hown2.2 with ⟨rfl, h0⟩ | ⟨g, cap', cur, rfl, _, hg, _, _, _, ht⟩
        · have : m ++ lb = [] := List.eq_nil_of_length_eq_zero (by omega)
          rw [this]
          exact ⟨none, 0, 0, rfl, rfl, ⟨rfl, by simp, by simp⟩⟩
        · exact ⟨_, _, cap', rfl, hlen.symm, bytesAt_own (cur := cur) hg hlen (by simpa using ht) hbb⟩
      have hn2' : n2 ≤ 140737488355328 := by rw [hn2, List.length_append, HBA.out.1]; have := HLS.out; omega
      have HR2 := Lib.hid (hr2 23 rfl)
      have HNEW := Lib.hid (new_any A2 n2 c2 (m ++ lb) w2 hB2 hn2')
      have HB2 := Lib.hid hb2
      obtain ⟨A1, k1, c1, rfl⟩ : ∃ A n2 c, v1 = .slice A n2 c := by
        rcases hown1.2 with ⟨rfl, _⟩ | ⟨g, cap', cur, rfl, _⟩
        · exact ⟨_, _, _, rfl⟩
        · exact ⟨_, _, _, rfl⟩
      clear hinv hown1 hb1 hr2 hown2 hg2 hb2 hB2 HPUT hn2 hn2'
      go_wp2_with (at_builtin; refine Lib.wpList_append_run _ rfl (.tmp 31) (.tmp 32) _ _ rfl _ _ rfl rfl _ _ HR2.out ?_; clear HR2)
      refine HNEW.out.mono ?_
      rintro e w3 ⟨g, rfl, hg3, hc3, hb3⟩
      have hs3 := Nat.le_trans HB2.out.size hg3
      have HB3 := Lib.hid (HB2.out.trans (hb3.mono HB2.out.size))
      have HTAKE := Lib.hid (take_cur g (m ++ lb, 0) (k : Int) (-1048576) 1048576 w3 hc3 (by omega))
      rw [HBK.out] at HTAKE
      clear hc3 hb3 HNEW
      go_wp2_with fail
      refine HTAKE.out.mono ?_
      rintro e w4 ⟨v4, rfl, hown4, hc4, hg4⟩
      simp only at hown4 hc4
      obtain ⟨A4, c4, rfl, hi4⟩ := nums_slice hown4
      have hb4 : Below w.heap.size w w4 := HB3.out.grown hg4 HB3.out.size (fun j hj => by injection hj with hj; omega)
      have HB4 := Lib.hid hb4
      have HC4 := Lib.hid hc4
      have HIN := Lib.hid (ints_any A4 _ c4 l a k c l w4 hi4 ((HI.out.below hb4).more hb4.size) (by rw [HLN.out]; omega))
      rw [decide_eq_true rfl] at HIN
      clear hown4 hi4 hb4 hc4 hg4 HTAKE
      go_wp2_with fail
      refine HIN.out.mono ?_
      rintro e w5 ⟨rfl, hb5⟩
      have HC5 := Lib.hid (cur_below HC4.out hb5 HC4.out.lt)
      have HB5 := Lib.hid (HB4.out.trans (hb5.mono HB4.out.size))
      clear hb5 HIN
      have HER := Lib.hid (err_cur g _ w5 HC5.out)
      have HLE := Lib.hid (left_cur g _ w5 HC5.out)
      simp only at HER HLE
      rw [HBA.out.1] at HLE
      go_wp2_with fail
      refine HER.out.mono ?_
      rintro e w' ⟨rfl, rfl⟩
      go_wp2_with fail
      refine HLE.out.mono ?_
      rintro e w'' ⟨rfl, rfl⟩
      go_wp2_with (go_at_call 7; refine (lives_any _).mono ?_; rintro e w6 ⟨rfl, hb6⟩)
      go_ret
      exact ⟨rfl, HB5.out.trans (hb6.mono HB5.out.size)⟩
end Go.Proofs.Ytkibbhkdeepnlaa
