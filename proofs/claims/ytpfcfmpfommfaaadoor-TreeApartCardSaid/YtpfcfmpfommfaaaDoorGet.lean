/-
  What uvar.Get, GetInt and the document's Get, GetInt answer for any bytes; the world is as it was. Conditions: none but that the slice's bytes can be read.
-/
import Derived.Test.YtpfcfmpfommfaaaDoorPut
import Derived.OwnWalk
namespace Go.Proofs.YtpfcfmpfommfaaaDoor
open Go.RowKit

/-- The slice 'A, n' reads as the bytes l, below block B. -/
def BytesAt (w : World) (B : Nat) (A : Option Addr) (n : Nat) (l : List Nat) : Prop :=
  l.length = n ∧ (∀ c ∈ l, c < 256) ∧ (0 < n → ∃ b off, A = some ⟨b, off, none⟩ ∧ b < B ∧ ∀ i, i < n → w.cell? ⟨b, off + i, none⟩ = some (.int .u8 ((l.getD i 0 : Nat) : Int)))

theorem getF_drop {l : List Nat} {i : Nat} (h : i < l.length) (a : Nat) : Uv.getF (l.drop i) i a = 
    if i = 9 ∧ 1 < l.getD i 0 then (0, 0, 5)
    else if 128 ≤ l.getD i 0 then Uv.getF (l.drop (i + 1)) (i + 1) (a + (l.getD i 0 - 128) * 128 ^ i)
    else if l.getD i 0 = 0 ∧ 0 < i then (0, 0, 4)
    else (a + l.getD i 0 * 128 ^ i, i + 1, 0) := by
  rw [List.drop_eq_getElem_cons h]
  have e : l.getD i 0 = l[i] := by simp [List.getD, h]
  rw [e]
  rfl

theorem pow_succ_le {i : Nat} (h : i < 9) : (128 : Nat) ^ (i + 1) ≤ 9223372036854775808 := by
  have h3 : (128 : Nat) ^ (i + 1) ≤ 128 ^ 9 := Nat.pow_le_pow_right (by omega) (by omega)
  rwa [Uv.pow_nine] at h3

theorem more_lt {a c i : Nat} (hc : c < 128) (ha : a < 128 ^ i) : a + c * 128 ^ i < 128 ^ (i + 1) := by
  have : (c + 1) * 128 ^ i ≤ 128 * 128 ^ i := Nat.mul_le_mul_right _ (by omega)
  rw [Nat.pow_succ, Nat.mul_comm (128 ^ i)]
  rw [Nat.add_mul, Nat.one_mul] at this
  omega

theorem last_lt {a c i : Nat} (hi : i ≤ 9) (hc : c < 128) (h9 : i = 9 → c ≤ 1) (ha : a < 128 ^ i) : a + c * 128 ^ i < 18446744073709551616 := by
  by_cases h : i = 9
  · have := h9 h
    subst h
    rw [Uv.pow_nine] at ha ⊢
    omega
  · have := more_lt hc ha
    have := pow_succ_le (i := i) (by omega)
    omega

theorem or_join {a c i : Nat} {x : Int} (hx : x = (c : Int)) (ha : a < 128 ^ i) (hs : a + c * 128 ^ i < 18446744073709551616) :
    bits .or .u64 (a : Int) (IntKind.u64.wrap (x * 2 ^ (7 * i))) = ((a + c * 128 ^ i : Nat) : Int) := by
  subst hx
  have e : (c : Int) * 2 ^ (7 * i) = ((c * 128 ^ i : Nat) : Int) := by rw [pow_128]; simp
  rw [e, IntKind.wrap_u64, ← u64_or_shift a c i ha hs]
  congr 1
  omega

/-- A round's head: i bytes are gone through, a is their number. -/
def GetRel (l : List Nat) (x y z k : Value) : Prop :=
  ∃ i a : Nat, x = .int .u64 (a : Int) ∧ y = .int .i64 0 ∧ z = .int .i64 3 ∧ k = .int .i64 (i : Int) ∧ i ≤ l.length ∧ i ≤ 9 ∧ a < 128 ^ i ∧ Uv.getF (l.drop i) i a = Uv.get l

def Triple (k : IntKind) (x y z : Int) : Value := .tuple #[.int k x, .int .i64 y, .int .i64 z]

theorem triple_eq {k : IntKind} {x x' y y' z z' : Int} (h1 : x = x') (h2 : y = y') (h3 : z = z') : Ending.returned (.tuple #[.int k x, .int .i64 y, .int .i64 z]) = .returned (Triple k x' y' z') := by
  subst h1 h2 h3
  rfl

theorem get_end {a c i : Nat} {l : List Nat} (ha : a < 128 ^ i) (hs : a + c * 128 ^ i < 18446744073709551616) (hr : (a + c * 128 ^ i, i + 1, 0) = Uv.get l) :
    Ending.returned (.tuple #[.int .u64 (bits .or .u64 (a : Int) (IntKind.u64.wrap ((c : Int) * 2 ^ (7 * i)))), .int .i64 ((i : Int) + 1), .int .i64 0]) = .returned (Triple .u64 (Uv.get l).1 (Uv.get l).2.1 (Uv.get l).2.2) := by
  rw [← hr]
  exact triple_eq (or_join rfl ha hs) (by simp) rfl

theorem get_end9 {a c i : Nat} {l : List Nat} (h : (i : Int) = 9) (ha : a < 128 ^ i) (hs : a + c * 128 ^ i < 18446744073709551616) (hr : (a + c * 128 ^ i, i + 1, 0) = Uv.get l) :
    Ending.returned (.tuple #[.int .u64 (bits .or .u64 (a : Int) ((c : Int) * 9223372036854775808)), .int .i64 10, .int .i64 0]) = .returned (Triple .u64 (Uv.get l).1 (Uv.get l).2.1 (Uv.get l).2.2) := by
  obtain rfl : i = 9 := by omega
  rw [← get_end ha hs hr]
  rw [Uv.pow_nine] at hs
  have e : IntKind.u64.wrap ((c : Int) * 2 ^ (7 * 9)) = (c : Int) * 9223372036854775808 := by
    rw [show (2 : Int) ^ (7 * 9) = 9223372036854775808 from rfl, IntKind.wrap_u64]
    omega
  rw [e]
  rfl

theorem get_end0 {a c i : Nat} {l : List Nat} (h : c = 0) (ha : a < 128 ^ i) (hs : a + c * 128 ^ i < 18446744073709551616) (hr : (a + c * 128 ^ i, i + 1, 0) = Uv.get l) :
    Ending.returned (.tuple #[.int .u64 (bits .or .u64 (a : Int) 0), .int .i64 ((i : Int) + 1), .int .i64 0]) = .returned (Triple .u64 (Uv.get l).1 (Uv.get l).2.1 (Uv.get l).2.2) := by
  subst h
  rw [← get_end ha hs hr]
  have e : IntKind.u64.wrap (((0 : Nat) : Int) * 2 ^ (7 * i)) = 0 := by
    rw [IntKind.wrap_u64, Int.natCast_zero, Int.zero_mul]
    rfl
  rw [e]

set_option maxHeartbeats 1000000 in
set_option maxRecDepth 100000 in
theorem get_any (A : Option Addr) (n c B : Nat) (l : List Nat) (w : World) (h : BytesAt w B A n l) (hn : n ≤ 9223372036854775807) :
    Calls Tryd.prog 91 #[.slice A n c] w fun e w' => e = .returned (Triple .u64 (Uv.get l).1 (Uv.get l).2.1 (Uv.get l).2.2) ∧ w = w' := by
  obtain ⟨rfl, hb, hc⟩ := h
  go_enter Tryd.func91, Tryd.ntmps91
  go_wp2
  go_step3
  go_wp2
  go_step3
  go_wp2
  go_loop [5, 6, 7, 12] (fun x y z k => GetRel l x y z k) (fun _ _ _ k => l.length - (intOf k).toNat)
  case atStart => exact ⟨0, 0, rfl, rfl, rfl, rfl, by omega, by omega, by simp, rfl⟩
  case round =>
    obtain ⟨i, a, rfl, rfl, rfl, rfl, hi, hi9, ha, hg⟩ := hrel
    have HG := Lib.hid hg
    have HA := Lib.hid ha
    clear hg ha
    by_cases hlt : i < l.length
    · obtain ⟨b, off, rfl, _, hcell⟩ := hc (by omega)
      have hci := hcell i hlt
      have hcb : l.getD i 0 < 256 := by
        have e : l.getD i 0 = l[i] := by simp [List.getD, hlt]
        rw [e]; exact hb _ (List.getElem_mem hlt)
      have HS := Lib.hid (getF_drop hlt a)
      have HGG := Lib.hid (HS.out.symm.trans HG.out)
      clear HS HG hcell hc hb
      generalize l.getD i 0 = c at *
      by_cases h1 : i = 9 ∧ 1 < c
      · have hr := HGG.out
        rw [if_pos h1] at hr
        have HR := Lib.hid hr
        obtain ⟨rfl, h1⟩ := h1
        clear hr HGG
        go_wp2
        try rw [Exit.noGoto_ret]
        go_ret3
        rw [← HR.out]
        exact ⟨rfl, rfl⟩
      by_cases h2 : 128 ≤ c
      · have h3 : i < 9 := by omega
        have hr := HGG.out
        rw [if_neg h1, if_pos h2] at hr
        have HR := Lib.hid hr
        clear h1 hr HGG
        go_wp2
        go_round
        case rel =>
          have hm := more_lt (c := c - 128) (by omega) HA.out
          have hp := pow_succ_le h3
          exact ⟨i + 1, _, congrArg (Value.int .u64) (or_join (by omega) HA.out (by omega)), rfl, rfl, by go_num, by omega, by omega, hm, HR.out⟩
        case measure => simp [intOf]; omega
      have hr := HGG.out
      rw [if_neg h1, if_neg h2] at hr
      by_cases h3 : c = 0 ∧ 0 < i
      · rw [if_pos h3] at hr
        have HR := Lib.hid hr
        obtain ⟨rfl, h3⟩ := h3
        clear hr HGG h1 h2
        go_wp2
        all_goals
          try rw [Exit.noGoto_ret]
          go_ret3
          rw [← HR.out]
          exact ⟨rfl, rfl⟩
      · rw [if_neg h3] at hr
        have HR := Lib.hid hr
        have HL := Lib.hid (last_lt (c := c) hi9 (by omega) (by omega) HA.out)
        have H1 := Lib.hid h1
        have H3 := Lib.hid h3
        clear hr HGG h1 h3
        go_wp2
        all_goals first
          | (exfalso; have := H1.out; have := H3.out; omega)
          | (have h9 : (i : Int) = 9 := by assumption
             (try rw [Exit.noGoto_ret]); go_ret3; exact ⟨get_end9 h9 HA.out HL.out HR.out, rfl⟩)
          | (have h0 : c = 0 := by assumption
             (try rw [Exit.noGoto_ret]); go_ret3; exact ⟨get_end0 h0 HA.out HL.out HR.out, rfl⟩)
          | ((try rw [Exit.noGoto_ret]); go_ret3; exact ⟨get_end HA.out HL.out HR.out, rfl⟩)
    · have he : l.drop i = [] := List.drop_eq_nil_of_le (by omega)
      have hr := HG.out
      rw [he] at hr
      have HR := Lib.hid hr
      clear hr HG he
      go_wp2
      try rw [Exit.noGoto_ret]
      go_ret3
      rw [← HR.out]
      exact ⟨rfl, rfl⟩
end Go.Proofs.YtpfcfmpfommfaaaDoor
