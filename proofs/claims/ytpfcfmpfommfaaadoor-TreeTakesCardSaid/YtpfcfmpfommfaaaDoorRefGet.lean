/-
  What the document's Get answers for any bytes: the same as uvar.Get. Conditions: none but that the slice's bytes can be read.
-/
import Derived.Test.YtpfcfmpfommfaaaDoorGet
namespace Go.Proofs.YtpfcfmpfommfaaaDoor
open Go.RowKit

def RefRel (l : List Nat) (x y k : Value) : Prop :=
  ∃ i a p : Nat, x = .int .u64 (a : Int) ∧ y = .int .u64 (p : Int) ∧ k = .int .i64 (i : Int) ∧ i ≤ l.length ∧ i ≤ 9 ∧ p = 128 ^ i ∧ a < 128 ^ i ∧ Uv.getF (l.drop i) i a = Uv.get l

theorem pow_le9 {i : Nat} (h : i ≤ 9) : (128 : Nat) ^ i ≤ 9223372036854775808 := by
  have h3 : (128 : Nat) ^ i ≤ 128 ^ 9 := Nat.pow_le_pow_right (by omega) h
  rwa [Uv.pow_nine] at h3

theorem ref_sum {a c p i : Nat} {x : Int} (hx : x = (c : Int) * (p : Int)) (hp : p = 128 ^ i) (hs : a + c * 128 ^ i < 18446744073709551616) :
    IntKind.u64.wrap ((a : Int) + IntKind.u64.wrap x) = ((a + c * 128 ^ i : Nat) : Int) := by
  subst hp
  have e : x = ((c * 128 ^ i : Nat) : Int) := by rw [hx]; simp
  rw [e, IntKind.wrap_u64, IntKind.wrap_u64]
  omega

theorem ref_end {a c i p : Nat} {l : List Nat} {x y : Int} (hx : x = (c : Int) * (p : Int)) (hy : y = (i : Int) + 1) (hp : p = 128 ^ i) (hs : a + c * 128 ^ i < 18446744073709551616) (hr : (a + c * 128 ^ i, i + 1, 0) = Uv.get l) :
    Ending.returned (.tuple #[.int .u64 (IntKind.u64.wrap ((a : Int) + IntKind.u64.wrap x)), .int .i64 y, .int .i64 0]) = .returned (Triple .u64 (Uv.get l).1 (Uv.get l).2.1 (Uv.get l).2.2) := by
  rw [← hr]
  exact triple_eq (ref_sum hx hp hs) (by simp [hy]) rfl

theorem ref_end9 {a p : Nat} {l : List Nat} (hp : p = 128 ^ 9) (hs : a + 1 * 128 ^ 9 < 18446744073709551616) (hr : (a + 1 * 128 ^ 9, 9 + 1, 0) = Uv.get l) :
    Ending.returned (.tuple #[.int .u64 (IntKind.u64.wrap ((a : Int) + (p : Int))), .int .i64 10, .int .i64 0]) = .returned (Triple .u64 (Uv.get l).1 (Uv.get l).2.1 (Uv.get l).2.2) := by
  rw [← hr]
  refine triple_eq ?_ (by simp) rfl
  subst hp
  rw [Uv.pow_nine] at *
  rw [IntKind.wrap_u64]
  simp only
  omega

set_option maxHeartbeats 1000000 in
set_option maxRecDepth 100000 in
theorem rget_any (A : Option Addr) (n c B : Nat) (l : List Nat) (w : World) (h : BytesAt w B A n l) (hn : n ≤ 9223372036854775807) :
    Calls Tryd.prog 85 #[.slice A n c] w fun e w' => e = .returned (Triple .u64 (Uv.get l).1 (Uv.get l).2.1 (Uv.get l).2.2) ∧ w = w' := by
  obtain ⟨rfl, hb, hc⟩ := h
  go_enter Tryd.func85, Tryd.ntmps85
  go_wp2
  go_loop [5, 6, 7] (fun x y k => RefRel l x y k) (fun _ _ k => l.length - (intOf k).toNat)
  case atStart => exact ⟨0, 0, 1, rfl, rfl, rfl, by omega, by omega, rfl, by simp, rfl⟩
  case round =>
    obtain ⟨i, a, p, rfl, rfl, rfl, hi, hi9, hp, ha, hg⟩ := hrel
    have hp9 : p ≤ 9223372036854775808 := by rw [hp]; exact pow_le9 hi9
    have HG := Lib.hid hg
    have HA := Lib.hid ha
    have HP := Lib.hid hp
    clear hg ha hp
    by_cases hlt : i < l.length
    · obtain ⟨b, off, rfl, _, hcell⟩ := hc (by omega)
      have hci := hcell i hlt
      have hcb : l.getD i 0 < 256 := by
        have e : l.getD i 0 = l[i] := by simp [List.getD, hlt]
        rw [e]; exact hb _ (List.getElem_mem hlt)
      have HS := Lib.hid (getF_drop hlt a)
      have HGG := Lib.hid (HS.out.symm.trans HG.out)
      clear HS HG hcell hc hb
      generalize l.getD i 0 = c at *
      by_cases h1 : i = 9 ∧ 1 < c
      · have hr := HGG.out
        rw [if_pos h1] at hr
        have HR := Lib.hid hr
        obtain ⟨rfl, h1⟩ := h1
        clear hr HGG
        go_wp2
        go_ret3
        rw [← HR.out]
        exact ⟨rfl, rfl⟩
      by_cases h2 : 128 ≤ c
      · have h3 : i < 9 := by omega
        have hr := HGG.out
        rw [if_neg h1, if_pos h2] at hr
        have HR := Lib.hid hr
        clear h1 hr HGG
        go_wp2
        go_round
        case rel =>
          have hm := more_lt (c := c - 128) (by omega) HA.out
          have hq := pow_succ_le h3
          have ep : IntKind.u64.wrap ((p : Int) * 128) = ((128 ^ (i + 1) : Nat) : Int) := by
            rw [HP.out, IntKind.wrap_u64, Nat.pow_succ] at *
            omega
          exact ⟨i + 1, _, 128 ^ (i + 1), congrArg (Value.int .u64) (ref_sum (c := c - 128) (by congr 1; omega) HP.out (by omega)), congrArg (Value.int .u64) ep, by go_num, by omega, by omega, rfl, hm, HR.out⟩
        case measure => simp [intOf]; omega
      have hr := HGG.out
      rw [if_neg h1, if_neg h2] at hr
      by_cases h3 : c = 0 ∧ 0 < i
      · rw [if_pos h3] at hr
        have HR := Lib.hid hr
        obtain ⟨rfl, h3⟩ := h3
        clear hr HGG h1 h2
        by_cases h9 : i = 9
        · subst h9
          go_wp2
          go_ret3
          rw [← HR.out]
          exact ⟨rfl, rfl⟩
        · go_wp2
          go_ret3
          rw [← HR.out]
          exact ⟨rfl, rfl⟩
      · rw [if_neg h3] at hr
        have HR := Lib.hid hr
        have HL := Lib.hid (last_lt (c := c) hi9 (by omega) (by omega) HA.out)
        have H1 := Lib.hid h1
        have H3 := Lib.hid h3
        clear hr HGG
        by_cases h9 : i = 9
        · subst h9
          obtain rfl : c = 1 := by omega
          clear h1 h3
          go_wp2
          go_ret3
          exact ⟨ref_end9 HP.out HL.out HR.out, rfl⟩
        by_cases h0 : c = 0
        · subst h0
          obtain rfl : i = 0 := by omega
          clear h1 h3
          rw [Nat.add_zero] at hci
          go_wp2
          go_ret3
          exact ⟨ref_end (x := 0) (y := 1) (c := 0) (by simp) (by simp) HP.out HL.out HR.out, rfl⟩
        · clear h1 h3
          go_wp2
          go_ret3
          exact ⟨ref_end (by congr 1; omega) rfl HP.out HL.out HR.out, rfl⟩
    · have he : l.drop i = [] := List.drop_eq_nil_of_le (by omega)
      have hr := HG.out
      rw [he] at hr
      have HR := Lib.hid hr
      clear hr HG he
      go_wp2
      go_ret3
      rw [← HR.out]
      exact ⟨rfl, rfl⟩
end Go.Proofs.YtpfcfmpfommfaaaDoor
