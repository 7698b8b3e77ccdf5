/-
  What a cursor's Bits, Int, Byte and Num answer, and what they leave. Conditions: none.
-/
import Derived.Test.YtpfcfmpfommfaaaDoorCurC
namespace Go.Proofs.YtpfcfmpfommfaaaDoor
open Go.RowKit

theorem get_err {l : List Nat} (hb : ∀ c ∈ l, c < 256) : (Uv.get l).2.2 ≤ 5 := by
  rcases Uv.get_just hb with ⟨n, h, _, hl, _⟩ | ⟨e, h, he⟩
  · rw [h]; exact Nat.zero_le _
  · rw [h]; show e ≤ 5; omega

theorem Cur.byte {w : World} {g : Nat} {s : List Nat × Nat} (h : Cur w g s) : ∀ c ∈ s.1, c < 256 := by
  obtain ⟨A, n, c, m, e0, h1, h2, _⟩ := h
  exact h2.2.1

set_option maxRecDepth 100000 in
theorem fail_cur (g : Nat) (s : List Nat × Nat) (er : Nat) (w : World) (h : Cur w g s) (hr : er ≤ 9223372036854775807) :
    Calls Tryd.prog 56 #[.pointer (some ⟨g, 0, none⟩), .int .i64 (er : Int)] w fun e w' => e = .returned (.tuple #[]) ∧ Cur w' g (failA s er) ∧ w.grownBy w' (some g) := by
  refine (fail_any (some ⟨g, 0, none⟩) s er w (.inr ⟨g, rfl, h⟩) hr).mono ?_
  rintro e w' ⟨rfl, hc, ho⟩
  refine ⟨rfl, ?_, ho⟩
  rcases hc with ⟨h, _⟩ | ⟨g', he, hc⟩
  · cases h
  · injection he with he
    injection he with he
    subst he
    exact hc

def TakePost (v : Value) (g : Nat) (s' : List Nat × Nat) (w : World) (e : Ending) (w' : World) : Prop := e = .returned v ∧ Cur w' g s' ∧ w.grownBy w' (some g)

set_option maxRecDepth 100000 in
set_option maxHeartbeats 400000 in
theorem take_u64 (g : Nat) (x : Int) (er : Nat) (s' : List Nat × Nat) (w : World) (hr : er ≤ 9223372036854775807)
    (hf : Calls Tryd.prog 87 #[.pointer (some ⟨g, 0, none⟩)] w (SrcPost (.int .u64 x) er g s' w)) :
    Calls Tryd.prog 86 #[.pointer (some ⟨g, 0, none⟩), .func (.func 87) #[.pointer (some ⟨g, 0, none⟩)] #[]] w (TakePost (.int .u64 x) g (failA s' er) w) := by
  have HF := Lib.hid hf
  clear hf
  go_enter Tryd.func86, Tryd.ntmps86
  go_wp2_with (first
    | (go_at_call 87; refine HF.out.mono ?_; rintro e w1 ⟨rfl, hc1, hg1⟩)
    | (go_at_call 56; refine (fail_cur g _ er _ hc1 hr).mono ?_; rintro e w2 ⟨rfl, hc2, hg2⟩))
  go_ret
  exact ⟨rfl, hc2, Lib.grownBy_trans hg1 hg2⟩

set_option maxRecDepth 100000 in
set_option maxHeartbeats 400000 in
theorem take_i64 (g : Nat) (x : Int) (er : Nat) (s' : List Nat × Nat) (w : World) (hr : er ≤ 9223372036854775807)
    (hf : Calls Tryd.prog 76 #[.pointer (some ⟨g, 0, none⟩)] w (SrcPost (.int .i64 x) er g s' w)) :
    Calls Tryd.prog 75 #[.pointer (some ⟨g, 0, none⟩), .func (.func 76) #[.pointer (some ⟨g, 0, none⟩)] #[]] w (TakePost (.int .i64 x) g (failA s' er) w) := by
  have HF := Lib.hid hf
  clear hf
  go_enter Tryd.func75, Tryd.ntmps75
  go_wp2_with (first
    | (go_at_call 76; refine HF.out.mono ?_; rintro e w1 ⟨rfl, hc1, hg1⟩)
    | (go_at_call 56; refine (fail_cur g _ er _ hc1 hr).mono ?_; rintro e w2 ⟨rfl, hc2, hg2⟩))
  go_ret
  exact ⟨rfl, hc2, Lib.grownBy_trans hg1 hg2⟩

theorem CurP.nil {w : World} {q : Option Addr} {s : List Nat × Nat} (h : CurP w q s) : q = none → s = ([], 1) := by
  rcases h with ⟨_, h⟩ | ⟨g, rfl, _⟩
  · exact fun _ => h
  · intro h; cases h

theorem octB_err (l : List Nat) : (octB l).2.2 ≤ 3 := by cases l <;> simp [octB]

/-- The next number; the next one with a sign; the next byte; what is left. -/
def bitsA (s : List Nat × Nat) : Nat × List Nat × Nat := ((Uv.get s.1).1, failA (s.1.drop (Uv.get s.1).2.1, s.2) (Uv.get s.1).2.2)
def intA (s : List Nat × Nat) : Int × List Nat × Nat := (Uv.unfold_ (Uv.get s.1).1, failA (s.1.drop (Uv.get s.1).2.1, s.2) (Uv.get s.1).2.2)
def byteA (s : List Nat × Nat) : Nat × List Nat × Nat := ((octB s.1).1, failA (s.1.drop (octB s.1).2.1, s.2) (octB s.1).2.2)

set_option maxRecDepth 100000 in
set_option maxHeartbeats 400000 in
theorem bits_any (q : Option Addr) (s : List Nat × Nat) (w : World) (h : CurP w q s) :
    Calls Tryd.prog 74 #[.pointer q] w (Turned (.int .u64 (bitsA s).1) q (bitsA s).2 w) := by
  have hn := h.nil
  have HS := Lib.hid (some_any q s w h)
  have HN := Lib.hid hn
  clear h hn
  go_enter Tryd.func74, Tryd.ntmps74
  go_wp2_with fail
  refine HS.out.mono ?_
  rintro e w1 ⟨g, rfl, hc, hq⟩
  have HT := Lib.hid (take_u64 g (Uv.get s.1).1 _ _ w1 (by have := get_err hc.byte; omega) (number_any g s w1 hc))
  have HQ := Lib.hid hq
  clear hc hq HS
  go_wp2_with (go_at_call 86; refine HT.out.mono ?_; rintro e w2 ⟨rfl, hc2, hg2⟩)
  go_ret
  refine ⟨rfl, CurP.of_some HQ.out hc2 (fun hq => ?_), Only.of_some HQ.out hg2⟩
  rw [HN.out hq]
  rfl

set_option maxRecDepth 100000 in
set_option maxHeartbeats 400000 in
theorem int_any (q : Option Addr) (s : List Nat × Nat) (w : World) (h : CurP w q s) :
    Calls Tryd.prog 55 #[.pointer q] w (Turned (.int .i64 (intA s).1) q (intA s).2 w) := by
  have hn := h.nil
  have HS := Lib.hid (some_any q s w h)
  have HN := Lib.hid hn
  clear h hn
  go_enter Tryd.func55, Tryd.ntmps55
  go_wp2_with fail
  refine HS.out.mono ?_
  rintro e w1 ⟨g, rfl, hc, hq⟩
  have HT := Lib.hid (take_i64 g (Uv.unfold_ (Uv.get s.1).1) _ _ w1 (by have := get_err hc.byte; omega) (signed_any g s w1 hc))
  have HQ := Lib.hid hq
  clear hc hq HS
  go_wp2_with (go_at_call 75; refine HT.out.mono ?_; rintro e w2 ⟨rfl, hc2, hg2⟩)
  go_ret
  refine ⟨rfl, CurP.of_some HQ.out hc2 (fun hq => ?_), Only.of_some HQ.out hg2⟩
  rw [HN.out hq]
  rfl

/-- The next number, if it is at most so great. -/
def numA (s : List Nat × Nat) (most : Int) : Nat × List Nat × Nat := if most < 0 ∨ most < ((bitsA s).1 : Int) then (0, failA (bitsA s).2 6) else ((bitsA s).1, (bitsA s).2)

theorem CurP.byte {w : World} {q : Option Addr} {s : List Nat × Nat} (h : CurP w q s) : ∀ c ∈ s.1, c < 256 := by
  rcases h with ⟨_, rfl⟩ | ⟨g, rfl, h⟩
  · simp
  · exact h.byte

theorem Only.trans {q : Option Addr} {w w1 w2 : World} (h : Only q w w1) (k : Only q w1 w2) : Only q w w2 := Lib.grownBy_trans h k

set_option maxRecDepth 100000 in
set_option maxHeartbeats 400000 in
theorem num_any (q : Option Addr) (s : List Nat × Nat) (most : Int) (w : World) (h : CurP w q s) (h1 : -9223372036854775808 ≤ most) (h2 : most ≤ 9223372036854775807) :
    Calls Tryd.prog 54 #[.pointer q, .int .i64 most] w (Turned (.int .i64 (numA s most).1) q (numA s most).2 w) := by
  have hx : (bitsA s).1 < 18446744073709551616 := get_fst_lt h.byte
  have HB := Lib.hid (bits_any q s w h)
  have HF := Lib.hid (fun w1 (hc : CurP w1 q (bitsA s).2) => fail_any q (bitsA s).2 6 w1 hc (by omega))
  clear h
  unfold numA
  generalize (bitsA s).1 = x at *
  generalize (bitsA s).2 = s1 at *
  by_cases hm : most < 0
  · rw [if_pos (.inl hm)]
    go_enter Tryd.func54, Tryd.ntmps54
    go_wp2_with (first
      | (go_at_call 74; refine HB.out.mono ?_; rintro e w1 ⟨rfl, hc1, hg1⟩)
      | (go_at_call 56; refine (HF.out _ hc1).mono ?_; rintro e w2 ⟨rfl, hc2, hg2⟩))
    go_ret
    exact ⟨rfl, hc2, hg1.trans hg2⟩
  obtain ⟨k, rfl⟩ := Int.eq_ofNat_of_zero_le (Int.not_lt.1 hm)
  clear hm h1
  by_cases hk : k < x
  · rw [if_pos (.inr (by omega))]
    go_enter Tryd.func54, Tryd.ntmps54
    go_wp2_with (first
      | (go_at_call 74; refine HB.out.mono ?_; rintro e w1 ⟨rfl, hc1, hg1⟩)
      | (go_at_call 56; refine (HF.out _ hc1).mono ?_; rintro e w2 ⟨rfl, hc2, hg2⟩))
    go_ret
    exact ⟨rfl, hc2, hg1.trans hg2⟩
  · rw [if_neg (by omega)]
    have hk' : x ≤ k := by omega
    clear HF
    go_enter Tryd.func54, Tryd.ntmps54
    go_wp2_with (go_at_call 74; refine HB.out.mono ?_; rintro e w1 ⟨rfl, hc1, hg1⟩)
    go_ret
    exact ⟨rfl, hc1, hg1⟩
end Go.Proofs.YtpfcfmpfommfaaaDoor
