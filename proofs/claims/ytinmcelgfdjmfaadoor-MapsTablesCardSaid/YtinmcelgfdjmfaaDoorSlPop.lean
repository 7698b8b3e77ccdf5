/-
  The bits of a word counted in fields, as math/bits does it: of no program. Conditions: the word has 64 bits.
-/
import Derived.Test.YtinmcelgfdjmfaaDoorSlList
namespace Go.Proofs.YtinmcelgfdjmfaaDoor.Sl

/-- A byte n times. -/
def msk (c : Nat) : Nat → Nat
  | 0 => 0
  | n + 1 => c + 256 * msk c n

theorem and_byte (x y : Nat) : x &&& y = ((x % 256) &&& (y % 256)) + 256 * ((x / 256) &&& (y / 256)) := by
  have h1 := Nat.and_mod_two_pow (a := x) (b := y) (n := 8)
  have h2 := Nat.and_div_two_pow (a := x) (b := y) (n := 8)
  simp only [show (2 : Nat) ^ 8 = 256 from rfl] at h1 h2
  rw [← h1, ← h2]
  omega
theorem and_msk (x c n : Nat) (hc : c < 256) : x &&& msk c (n + 1) = ((x % 256) &&& c) + 256 * ((x / 256) &&& msk c n) := by
  rw [and_byte, show msk c (n + 1) = c + 256 * msk c n from rfl, show (c + 256 * msk c n) % 256 = c by omega, show (c + 256 * msk c n) / 256 = msk c n by omega]

def one (n x : Nat) : Nat := ((x / 2) &&& msk 85 n) + (x &&& msk 85 n)
def two (n x : Nat) : Nat := ((x / 4) &&& msk 51 n) + (x &&& msk 51 n)
def thr (n x : Nat) : Nat := (x / 16 + x) &&& msk 15 n
def one8 (b : Nat) : Nat := ((b / 2) &&& 85) + (b &&& 85)
def two8 (b : Nat) : Nat := ((b / 4) &&& 51) + (b &&& 51)

theorem one_at : ∀ (b : Fin 256) (t : Fin 2), (b.val / 2 + 128 * t.val) &&& 85 = (b.val / 2) &&& 85 := by decide +kernel
theorem two_at : ∀ (b : Fin 256) (t : Fin 4), (b.val / 4 + 64 * t.val) &&& 51 = (b.val / 4) &&& 51 := by decide +kernel
theorem bytes : ∀ b : Fin 256, one8 b.val < 256 ∧ two8 (one8 b.val) ≤ 68 ∧ two8 (one8 b.val) % 16 ≤ 4 ∧ (two8 (one8 b.val) / 16 + two8 (one8 b.val)) % 16 = Lib.popAux 8 b.val ∧ Lib.popAux 8 b.val ≤ 8 := by decide +kernel

theorem one_step (n x : Nat) : one (n + 1) x = one8 (x % 256) + 256 * one n (x / 256) := by
  unfold one one8
  have h := one_at ⟨x % 256, by omega⟩ ⟨x / 256 % 2, by omega⟩
  simp only at h
  rw [and_msk _ _ _ (by omega), and_msk _ _ _ (by omega), show x / 2 % 256 = x % 256 / 2 + 128 * (x / 256 % 2) by omega, h, show x / 2 / 256 = x / 256 / 2 by omega]
  omega
theorem two_step (n x : Nat) : two (n + 1) x = two8 (x % 256) + 256 * two n (x / 256) := by
  unfold two two8
  have h := two_at ⟨x % 256, by omega⟩ ⟨x / 256 % 4, by omega⟩
  simp only at h
  rw [and_msk _ _ _ (by omega), and_msk _ _ _ (by omega), show x / 4 % 256 = x % 256 / 4 + 64 * (x / 256 % 4) by omega, h, show x / 4 / 256 = x / 256 / 4 by omega]
  omega
theorem both_step (n x : Nat) : two (n + 1) (one (n + 1) x) = two8 (one8 (x % 256)) + 256 * two n (one n (x / 256)) := by
  obtain ⟨h, _⟩ := bytes ⟨x % 256, by omega⟩
  simp only at h
  rw [one_step, two_step, show (one8 (x % 256) + 256 * one n (x / 256)) % 256 = one8 (x % 256) by omega, show (one8 (x % 256) + 256 * one n (x / 256)) / 256 = one n (x / 256) by omega]
theorem both_low (n x : Nat) : two n (one n x) % 16 ≤ 4 := by
  cases n with
  | zero => unfold two; simp [msk]
  | succ n =>
    obtain ⟨_, _, h, _⟩ := bytes ⟨x % 256, by omega⟩
    simp only at h
    rw [both_step]
    omega
theorem thr_step (n e v : Nat) (he : e ≤ 68) (hv : v % 16 ≤ 4) : thr (n + 1) (e + 256 * v) = (e / 16 + e) % 16 + 256 * thr n v := by
  unfold thr
  rw [and_msk _ _ _ (by omega), nat_mask4, show ((e + 256 * v) / 16 + (e + 256 * v)) / 256 = v / 16 + v by omega]
  omega

/-- Each byte's bits, in that byte. -/
def cnt (n x : Nat) : Nat := thr n (two n (one n x))
theorem cnt_step (n x : Nat) : cnt (n + 1) x = Lib.popAux 8 (x % 256) + 256 * cnt n (x / 256) := by
  obtain ⟨_, h2, _, h4, _⟩ := bytes ⟨x % 256, by omega⟩
  simp only at h2 h4
  unfold cnt
  rw [both_step, thr_step _ _ _ h2 (both_low _ _), h4]
theorem cnt_zero (x : Nat) : cnt 0 x = 0 := by unfold cnt thr; simp [msk]

theorem pop_byte (f x : Nat) : Lib.popAux (f + 8) x = Lib.popAux 8 (x % 256) + Lib.popAux f (x / 256) := by
  simp only [Lib.popAux, Nat.div_div_eq_div_mul, Nat.reduceMul]
  omega

theorem div_of (lo R m : Nat) (h : lo < m) : (lo + m * R) / m = R := by
  rw [Nat.add_mul_div_left _ _ (by omega), Nat.div_eq_of_lt h, Nat.zero_add]
theorem mod_of (a b : Nat) (h : b < 128) : (128 * a + b) % 128 = b := by omega

theorem fold_y (c0 c1 c2 r3 : Nat) : c0 + 256 * (c1 + 256 * (c2 + 256 * r3)) + (c1 + 256 * (c2 + 256 * r3)) = (c0 + c1 + 256 * (c1 + c2)) + 65536 * (c2 + 256 * r3 + r3) := by omega
theorem fold_u (s0 s1 c2 c3 c4 c5 c6 r7 : Nat) :
    s0 + 256 * s1 + 65536 * (c2 + 256 * (c3 + 256 * (c4 + 256 * (c5 + 256 * (c6 + 256 * r7)))) + (c3 + 256 * (c4 + 256 * (c5 + 256 * (c6 + 256 * r7))))) + (c2 + 256 * (c3 + 256 * (c4 + 256 * (c5 + 256 * (c6 + 256 * r7)))) + (c3 + 256 * (c4 + 256 * (c5 + 256 * (c6 + 256 * r7)))))
      = (s0 + c2 + c3 + 256 * (s1 + c3 + c4) + 65536 * (c2 + c3 + c4 + c5) + 16777216 * (c3 + c4 + c5 + c6)) + 4294967296 * ((c4 + 256 * (c5 + 256 * (c6 + 256 * r7))) + (c5 + 256 * (c6 + 256 * r7)) + (c6 + 256 * r7) + r7) := by omega
theorem fold_t (s0 s1 s2 s3 c4 c5 c6 c7 : Nat) :
    s0 + 256 * s1 + 65536 * s2 + 16777216 * s3 + 4294967296 * ((c4 + 256 * (c5 + 256 * (c6 + 256 * c7))) + (c5 + 256 * (c6 + 256 * c7)) + (c6 + 256 * c7) + c7) + ((c4 + 256 * (c5 + 256 * (c6 + 256 * c7))) + (c5 + 256 * (c6 + 256 * c7)) + (c6 + 256 * c7) + c7)
      = 128 * (2 * s1 + 512 * s2 + 131072 * s3 + 33554432 * ((c4 + 256 * (c5 + 256 * (c6 + 256 * c7))) + (c5 + 256 * (c6 + 256 * c7)) + (c6 + 256 * c7) + c7) + 2 * ((c5 + 256 * (c6 + 256 * c7)) + (c6 + 256 * c7) + c7)) + (s0 + (c4 + c5 + c6 + c7)) := by omega

theorem fold_lo (c0 c1 c2 c3 c4 c5 c6 : Nat) (h0 : c0 ≤ 8) (h1 : c1 ≤ 8) (h2 : c2 ≤ 8) (h3 : c3 ≤ 8) (h4 : c4 ≤ 8) (h5 : c5 ≤ 8) (h6 : c6 ≤ 8) :
    c0 < 256 ∧ c0 + c1 + 256 * (c1 + c2) < 65536 ∧ (c0 + c1 + c2 + c3 + 256 * (c1 + c2 + c3 + c4) + 65536 * (c2 + c3 + c4 + c5) + 16777216 * (c3 + c4 + c5 + c6)) < 4294967296 := by
  refine ⟨by omega, by omega, by omega⟩
theorem fold_hi (c4 c5 c6 c7 : Nat) (h4 : c4 ≤ 8) (h5 : c5 ≤ 8) (h6 : c6 ≤ 8) (h7 : c7 ≤ 8) :
    (c4 + 256 * (c5 + 256 * (c6 + 256 * c7))) ≤ 134744072 ∧ ((c4 + 256 * (c5 + 256 * (c6 + 256 * c7))) + (c5 + 256 * (c6 + 256 * c7)) + (c6 + 256 * c7) + c7) ≤ 135272480 := by
  refine ⟨by omega, by omega⟩
theorem fold_mid (c2 c3 r4 : Nat) (h2 : c2 ≤ 8) (h3 : c3 ≤ 8) (h4 : r4 ≤ 134744072) : c2 + 256 * (c3 + 256 * r4) + (c3 + 256 * r4) ≤ 9000000000000 := by omega

theorem fold_bytes (c0 c1 c2 c3 c4 c5 c6 c7 : Nat) (h0 : c0 ≤ 8) (h1 : c1 ≤ 8) (h2 : c2 ≤ 8) (h3 : c3 ≤ 8) (h4 : c4 ≤ 8) (h5 : c5 ≤ 8) (h6 : c6 ≤ 8) (h7 : c7 ≤ 8) (z y u t : Nat)
    (hz : z = c0 + 256 * (c1 + 256 * (c2 + 256 * (c3 + 256 * (c4 + 256 * (c5 + 256 * (c6 + 256 * c7)))))))
    (hy : y = z + z / 256) (hu : u = y + y / 65536) (ht : t = u + u / 4294967296) :
    y < 18446744073709551616 ∧ u < 18446744073709551616 ∧ t < 9223372036854775808 ∧ t % 128 = c0 + c1 + c2 + c3 + c4 + c5 + c6 + c7 := by
  obtain ⟨b1, b2, b3⟩ := fold_lo c0 c1 c2 c3 c4 c5 c6 h0 h1 h2 h3 h4 h5 h6
  obtain ⟨b4, b5⟩ := fold_hi c4 c5 c6 c7 h4 h5 h6 h7
  have b6 := fold_mid c2 c3 _ h2 h3 b4
  have b7 : (c0 + c1 + c2 + c3) + (c4 + c5 + c6 + c7) < 128 := by clear hz hy hu ht b1 b2 b3 b4 b5 b6; omega
  clear h0 h1 h2 h3 h4 h5 h6 h7 b4
  have z1 : z / 256 = c1 + 256 * (c2 + 256 * (c3 + 256 * (c4 + 256 * (c5 + 256 * (c6 + 256 * c7))))) := by rw [hz]; exact div_of _ _ _ b1
  rw [z1, hz, fold_y] at hy
  have y2 : y / 65536 = _ := (congrArg (· / 65536) hy).trans (div_of _ _ _ b2)
  rw [y2, hy, fold_u] at hu
  have u2 : u / 4294967296 = _ := (congrArg (· / 4294967296) hu).trans (div_of _ _ _ b3)
  rw [u2, hu] at ht
  have t2 := ht
  rw [fold_t] at t2
  have hyb : y < 18446744073709551616 := by
    rw [hy]
    clear hz hy hu ht z1 y2 u2 t2 b7 b3 b5
    generalize c2 + 256 * (c3 + 256 * (c4 + 256 * (c5 + 256 * (c6 + 256 * c7)))) + (c3 + 256 * (c4 + 256 * (c5 + 256 * (c6 + 256 * c7)))) = R at *
    omega
  have hub : u < 4294967296 * 135272481 := by
    rw [hu]
    clear hz hy hu ht z1 y2 u2 t2 b7 b6 hyb
    generalize c4 + 256 * (c5 + 256 * (c6 + 256 * c7)) + (c5 + 256 * (c6 + 256 * c7)) + (c6 + 256 * c7) + c7 = R at *
    omega
  have htb : t < 9223372036854775808 := by
    have e := u2
    rw [← e] at b5
    have e2 : t = u + u / 4294967296 := by rw [e, hu]; exact ht
    clear hz hy hu ht z1 y2 u2 t2 b7 b6 hyb e b1 b2 b3
    omega
  refine ⟨hyb, ?_, htb, ?_⟩
  · clear hz hy hu ht z1 y2 u2 t2 b7 b6 b5 hyb b1 b2 b3 htb
    omega
  · rw [t2, mod_of _ _ b7]
    clear hz hy hu ht z1 y2 u2 t2 b7 b6 b5 hyb b1 b2 b3 htb hub
    omega

/-- What is reckoned is how many bits there are. -/
theorem count_fields (x : Nat) (hx : x < 18446744073709551616) (y u t : Nat) (hy : y = cnt 8 x + cnt 8 x / 256) (hu : u = y + y / 65536) (ht : t = u + u / 4294967296) :
    y < 18446744073709551616 ∧ u < 18446744073709551616 ∧ t < 9223372036854775808 ∧ t % 128 = Lib.onesCount x := by
  have hb : ∀ v, Lib.popAux 8 (v % 256) ≤ 8 := fun v => (bytes ⟨v % 256, by omega⟩).2.2.2.2
  obtain ⟨z, e⟩ : ∃ z, z = cnt 8 x := ⟨_, rfl⟩
  rw [← e] at hy
  rw [cnt_step, cnt_step, cnt_step, cnt_step, cnt_step, cnt_step, cnt_step, cnt_step, cnt_zero, Nat.mul_zero, Nat.add_zero] at e
  obtain ⟨g1, g2, g3, g4⟩ := fold_bytes _ _ _ _ _ _ _ _ (hb _) (hb _) (hb _) (hb _) (hb _) (hb _) (hb _) (hb _) _ y u t e hy hu ht
  refine ⟨g1, g2, g3, g4.trans ?_⟩
  unfold Lib.onesCount
  rw [pop_byte 56, pop_byte 48, pop_byte 40, pop_byte 32, pop_byte 24, pop_byte 16, pop_byte 8]
  have : Lib.popAux 8 (x / 256 / 256 / 256 / 256 / 256 / 256 / 256) = Lib.popAux 8 (x / 256 / 256 / 256 / 256 / 256 / 256 / 256 % 256) := by
    rw [Nat.mod_eq_of_lt (by clear e hy hu ht g1 g2 g3 g4; omega)]
  rw [this]
  clear e hy hu ht g1 g2 g3 g4
  simp only [Nat.add_assoc]

theorem msk85 : msk 85 8 = 6148914691236517205 := by decide +kernel
theorem msk51 : msk 51 8 = 3689348814741910323 := by decide +kernel
theorem msk15 : msk 15 8 = 1085102592571150095 := by decide +kernel

end Go.Proofs.YtinmcelgfdjmfaaDoor.Sl
