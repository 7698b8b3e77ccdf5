/-
  What slots.Has, With, Without, the document's Has, and math/bits.TrailingZeros64 answer. Conditions: the words have 64 bits; TrailingZeros64: its table is laid.
-/
import Derived.Test.YtinmcelgfdjmfaaDoorSlA
import Derived.Test.YtinmcelgfdjmfaaDoorSlTz
namespace Go.Proofs.YtinmcelgfdjmfaaDoor
open Go.RowKit


set_option maxRecDepth 100000 in
theorem place_at {n : Int} {q r k : Nat} (hq : q < 4) (hr : r < 64) (hn : ((64 * q + r : Nat) : Int) = n) (hk : 2 ^ r = k) (w : World) :
    Calls Tryd.prog 39 #[.int .i64 n] w fun e w' => e = .returned (.tuple #[.int .i64 (q : Int), .int .u64 (k : Int)]) ∧ w.drew = w' := by
  subst hn hk
  exact place_yes q r w hq hr

theorem has_bit {x k r : Nat} (hx : x < 18446744073709551616) (hr : r < 64) (hk : 2 ^ r = k) : (bits .and .u64 (x : Int) (k : Int) != 0) = x.testBit r := by
  subst hk
  rw [u64_and_nat _ _ hx (Sl.bit_lt hr), nat_bit, Nat.testBit_eq_decide_div_mod_eq, Bool.eq_iff_iff, bne_iff_ne, decide_eq_true_iff]
  have hp := Nat.two_pow_pos r
  rcases (show x / 2 ^ r % 2 = 0 ∨ x / 2 ^ r % 2 = 1 by omega) with e | e
  · rw [e]; simp
  · rw [e, Nat.one_mul]; omega

theorem hasI_at {s : Sl.Four} {n : Int} {q r : Nat} (hq : q < 4) (hr : r < 64) (hn : ((64 * q + r : Nat) : Int) = n) : s.hasI n = (s.word q).testBit r := by
  subst hn
  unfold Sl.Four.hasI Sl.Four.has
  rw [Int.toNat_natCast, show (64 * q + r) / 64 = q by omega, show (64 * q + r) % 64 = r by omega, decide_eq_true (by omega), Bool.true_and]
theorem with_at {s : Sl.Four} {n : Int} {q r : Nat} (hq : q < 4) (hr : r < 64) (hn : ((64 * q + r : Nat) : Int) = n) : s.with_ n = s.put q (s.word q ||| 2 ^ r) := by
  subst hn
  unfold Sl.Four.with_
  rw [Int.toNat_natCast, show (64 * q + r) / 64 = q by omega, show (64 * q + r) % 64 = r by omega, if_pos (by omega)]
theorem without_at {s : Sl.Four} {n : Int} {q r : Nat} (hq : q < 4) (hr : r < 64) (hn : ((64 * q + r : Nat) : Int) = n) : s.without n = s.put q (Sl.cut (s.word q) (2 ^ r)) := by
  subst hn
  unfold Sl.Four.without
  rw [Int.toNat_natCast, show (64 * q + r) / 64 = q by omega, show (64 * q + r) % 64 = r by omega, if_pos (by omega)]
theorem parts {n : Int} (h0 : 0 ≤ n) (h1 : n < 256) : ∃ q r k : Nat, q < 4 ∧ r < 64 ∧ ((64 * q + r : Nat) : Int) = n ∧ 2 ^ r = k :=
  ⟨n.toNat / 64, n.toNat % 64, _, by omega, by omega, by omega, rfl⟩
theorem hasI_out {s : Sl.Four} {n : Int} (h : n < 0 ∨ 256 ≤ n) : s.hasI n = false := by
  unfold Sl.Four.hasI
  rw [decide_eq_false (by omega), Bool.false_and]

theorem and_zero (x : Nat) (hx : x < 18446744073709551616) : (bits .and .u64 (x : Int) 0 != 0) = false := by
  have := u64_and_nat x 0 hx (by omega)
  rw [Nat.and_zero] at this
  rw [bne_eq_false_iff_eq]
  exact this

theorem or_any (x y : Nat) (hx : x < 18446744073709551616) (hy : y < 18446744073709551616) : bits .or .u64 (x : Int) (y : Int) = ((x ||| y : Nat) : Int) := u64_or_nat x y hx hy
theorem cut_any (x y : Nat) (hx : x < 18446744073709551616) (hy : y < 18446744073709551616) : bits .andNot .u64 (x : Int) (y : Int) = (Sl.cut x y : Int) := u64_andNot_nat x y hx hy
theorem or_zero (x : Nat) (hx : x < 18446744073709551616) : bits .or .u64 (x : Int) 0 = (x : Int) := by
  have := u64_or_nat x 0 hx (by omega)
  rw [Nat.or_zero] at this
  exact this
theorem cut_zero (x : Nat) (hx : x < 18446744073709551616) : bits .andNot .u64 (x : Int) 0 = (x : Int) := by
  have := u64_andNot_nat x 0 hx (by omega)
  refine (Eq.trans (by rfl) this).trans ?_
  congr 1
  have := Nat.and_two_pow_sub_one_eq_mod x 64
  refine (Eq.trans (by rfl) this).trans ?_
  exact Nat.mod_eq_of_lt (by rw [← Sl.lt_two64]; exact hx)

theorem set_ret {a b c d : Int} {s : Sl.Four} (ha : a = (s.a : Int)) (hb : b = (s.b : Int)) (hc : c = (s.c : Int)) (hd : d = (s.d : Int)) :
    Ending.returned (.agg #[.int .u64 a, .int .u64 b, .int .u64 c, .int .u64 d]) = .returned (setV s) := by rw [ha, hb, hc, hd]

/-- A set of four words of 64 bits is answered; nothing below has turned. -/
def SetP (s : Sl.Four) (w : World) (e : Ending) (w' : World) : Prop := e = .returned (setV s) ∧ Below w.heap.size w w'

set_option maxRecDepth 100000 in
set_option maxHeartbeats 1000000 in
theorem with_any (s : Sl.Four) (hs : s.ok) (n : Int) (w : World) :
    Calls Tryd.prog 30 #[setV s, .int .i64 n] w (SetP (s.with_ n) w) := by
  by_cases hn : n < 0 ∨ 256 ≤ n
  · rw [Sl.with_out hn]
    have HN := Lib.hid hn
    have HS := Lib.hid (or_zero s.a hs.1)
    clear hn hs
    go_enter Tryd.func30, Tryd.ntmps30
    go_wp2_with (go_at_call 39; refine (place_no _ _ HN.out).mono ?_; rintro e w' ⟨rfl, rfl⟩)
    exact bodyPost_ret (v := .agg #[.int .u64 (bits .or .u64 (s.a : Int) 0), .int .u64 (s.b : Int), .int .u64 (s.c : Int), .int .u64 (s.d : Int)]) (by simp [results, Tryd.results30, go_sem]) rfl ⟨set_ret HS.out rfl rfl rfl, ((Below.refl _ _).alloc (Nat.le_refl _) _).alloc (by simp) _⟩
  · obtain ⟨q, r, k, hq, hr, e, hk⟩ := parts (n := n) (by omega) (by omega)
    have hv : s.with_ n = s.put q (s.word q ||| k) := by rw [with_at hq hr e, hk]
    rw [hv]
    have HP := Lib.hid (fun w => place_at hq hr e hk w)
    have HB := Lib.hid (fun (x : Nat) (hx : x < 18446744073709551616) => or_any x k hx (hk ▸ Sl.bit_lt hr))
    have HS := Lib.hid hs
    clear hn hs e hk hv
    obtain rfl | rfl | rfl | rfl : q = 0 ∨ q = 1 ∨ q = 2 ∨ q = 3 := by omega
    all_goals
      go_enter Tryd.func30, Tryd.ntmps30
      go_wp2_with (go_at_call 39; refine (HP.out _).mono ?_; rintro e w' ⟨rfl, rfl⟩)
    · exact bodyPost_ret (v := .agg #[.int .u64 (bits .or .u64 (s.a : Int) (k : Int)), .int .u64 (s.b : Int), .int .u64 (s.c : Int), .int .u64 (s.d : Int)]) (by simp [results, Tryd.results30, go_sem]) rfl ⟨set_ret (HB.out _ HS.out.1) rfl rfl rfl, (((Below.refl _ _).alloc (Nat.le_refl _) _).alloc (by simp) _).drew⟩
    · exact bodyPost_ret (v := .agg #[.int .u64 (s.a : Int), .int .u64 (bits .or .u64 (s.b : Int) (k : Int)), .int .u64 (s.c : Int), .int .u64 (s.d : Int)]) (by simp [results, Tryd.results30, go_sem]) rfl ⟨set_ret rfl (HB.out _ HS.out.2.1) rfl rfl, (((Below.refl _ _).alloc (Nat.le_refl _) _).alloc (by simp) _).drew⟩
    · exact bodyPost_ret (v := .agg #[.int .u64 (s.a : Int), .int .u64 (s.b : Int), .int .u64 (bits .or .u64 (s.c : Int) (k : Int)), .int .u64 (s.d : Int)]) (by simp [results, Tryd.results30, go_sem]) rfl ⟨set_ret rfl rfl (HB.out _ HS.out.2.2.1) rfl, (((Below.refl _ _).alloc (Nat.le_refl _) _).alloc (by simp) _).drew⟩
    · exact bodyPost_ret (v := .agg #[.int .u64 (s.a : Int), .int .u64 (s.b : Int), .int .u64 (s.c : Int), .int .u64 (bits .or .u64 (s.d : Int) (k : Int))]) (by simp [results, Tryd.results30, go_sem]) rfl ⟨set_ret rfl rfl rfl (HB.out _ HS.out.2.2.2), (((Below.refl _ _).alloc (Nat.le_refl _) _).alloc (by simp) _).drew⟩

theorem rhas_bit {x r : Nat} : (((x : Int) / 2 ^ r).tmod 2 == 1) = x.testBit r := by
  have e : (x : Int) / 2 ^ r = ((x / 2 ^ r : Nat) : Int) := by rw [Int.natCast_ediv]; simp
  rw [Nat.testBit_eq_decide_div_mod_eq, Bool.eq_iff_iff, beq_iff_eq, decide_eq_true_iff, e, Int.tmod_eq_emod_of_nonneg (Int.natCast_nonneg _)]
  generalize x / 2 ^ r = y
  omega

set_option maxRecDepth 100000 in
set_option maxHeartbeats 1000000 in
theorem rhas_any (s : Sl.Four) (n : Int) (w : World) :
    Calls Tryd.prog 32 #[setV s, .int .i64 n] w fun e w' => e = .returned (.bool (s.hasI n)) ∧ Below w.heap.size w w' := by
  by_cases hn : n < 0 ∨ 256 ≤ n
  · rw [hasI_out hn]
    rcases hn with hn | hn
    · have h0 : ¬ 0 ≤ n := by omega
      go_enter Tryd.func32, Tryd.ntmps32
      go_wp2
      go_ret
      exact ⟨rfl, (Below.refl _ _).alloc (Nat.le_refl _) _⟩
    · have h0 : 0 ≤ n := by omega
      have h1 : ¬ n ≤ 255 := by omega
      go_enter Tryd.func32, Tryd.ntmps32
      go_wp2
      go_ret
      exact ⟨rfl, (Below.refl _ _).alloc (Nat.le_refl _) _⟩
  · obtain ⟨q, r, k, hq, hr, e, hk⟩ := parts (n := n) (by omega) (by omega)
    rw [hasI_at hq hr e]
    have h0 : 0 ≤ n := by omega
    have h1 : n ≤ 255 := by omega
    have hd : n / 64 = (q : Int) := by omega
    have hm : n % 64 = (r : Int) := by omega
    clear hn e hk
    obtain rfl | rfl | rfl | rfl : q = 0 ∨ q = 1 ∨ q = 2 ∨ q = 3 := by omega
    all_goals
      go_enter Tryd.func32, Tryd.ntmps32
      go_wp2
      go_ret
      exact ⟨ret_bool rhas_bit, (Below.refl _ _).alloc (Nat.le_refl _) _⟩

/-- The table of math/bits is laid. -/
def Tab (w : World) : Prop := ∀ j, j < 64 → w.cell? ⟨0, j, none⟩ = some (.int .u8 ((Lib.deBruijn64tab.getD j 0 : Nat) : Int))

set_option maxRecDepth 100000 in
/-- Where a word's lowest bit is. -/
theorem tz_any (x : Nat) (hx : x < 18446744073709551616) (w : World) (hT : Tab w) :
    Calls Tryd.prog 41 #[.int .u64 (x : Int)] w fun e w' => e = .returned (.int .i64 ((Lib.ctz 64 x : Nat) : Int)) ∧ w = w' :=
  (Any7.bits_TrailingZeros64 Tryd.lays29 x hx w (fun _ => hT)).mono fun _ _ ⟨h1, h2⟩ => ⟨h1, h2.symm⟩

end Go.Proofs.YtinmcelgfdjmfaaDoor
