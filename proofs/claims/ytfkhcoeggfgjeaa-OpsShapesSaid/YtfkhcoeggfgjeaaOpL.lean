/-
  The walks of the two statements on ops: each answers true. Conditions: none but that a name's length fits.
-/
import Derived.Test.YtfkhcoeggfgjeaaOpE
import Derived.Test.YtfkhcoeggfgjeaaOpS
import Derived.Test.YtfkhcoeggfgjeaaOpF
import Derived.Test.YtfkhcoeggfgjeaaOpG
namespace Go.Proofs.Ytfkhcoeggfgjeaa
open Go.RowKit

theorem opfind_ret (w : World) : Calls Try.prog 6 #[.string ⟨#[114, 101, 116]⟩] w fun e w' => e = .returned (.tuple #[.int .i64 25, .bool true]) ∧ Below w.heap.size w w' := by
  have h := opfind_any ⟨#[114, 101, 116]⟩ w
  rw [show Op.find ⟨#[114, 101, 116]⟩ = (25, true) by kernel_rfl] at h
  exact h
theorem name_ret (w : World) : Calls Try.prog 8 #[.int .i64 25] w fun e w' => e = .returned (.string ⟨#[114, 101, 116]⟩) ∧ Below w.heap.size w w' := by
  have h := name_any 25 w
  rw [show Op.name 25 = ⟨#[114, 101, 116]⟩ by kernel_rfl] at h
  exact h
theorem operand_if (w : World) : Calls Try.prog 14 #[.int .i64 22] w fun e w' => e = .returned (.int .i64 3) ∧ Below w.heap.size w w' := by
  have h := operand_any 22 w
  rw [show (Op.row 22).operand = 3 by kernel_rfl] at h
  exact h
theorem raises_div (w : World) : Calls Try.prog 20 #[.int .i64 9] w fun e w' => e = .returned (.bool true) ∧ Below w.heap.size w w' := by
  have h := raises_any 9 w
  rw [show (Op.row 9).raises = true by kernel_rfl] at h
  exact h

set_option maxRecDepth 100000 in
theorem lives9_any (w : World) : Calls Try.prog 5 #[] w (BoolP true w) := by
  have hd : ((⟨#[114, 101, 116]⟩ : ByteArray).toList == (⟨#[114, 101, 116]⟩ : ByteArray).toList) = true := beq_self_eq_true _
  go_enter Try.func5, Try.ntmps5
  go_wp2_with (first
    | (go_at_call 6; refine (opfind_ret _).mono ?_; rintro _ w1 ⟨rfl, b1⟩)
    | (go_at_call 8; refine (name_ret _).mono ?_; rintro _ w2 ⟨rfl, b2⟩)
    | (go_at_call 14; refine (operand_if _).mono ?_; rintro _ w3 ⟨rfl, b3⟩)
    | (go_at_call 20; refine (raises_div _).mono ?_; rintro _ w4 ⟨rfl, b4⟩))
  go_ret
  exact ⟨rfl, below_self (below_self (below_self b1 b2) b3) b4⟩

set_option maxRecDepth 100000 in
theorem opsNames_walk (op : Int) (s : ByteArray) (w : World) (hs : s.size ≤ 9223372036854775807) : Calls Try.prog 3 #[.int .i64 op, .string s] w (BoolP true w) := by
  by_cases hl : s.size ≤ 50
  · have hdl : decide (50 < (s.size : Int)) = false := decide_eq_false (by omega)
    have H1 := opfind_any s
    have H2 := ropfind_any s
    have H3 := name_any op
    have H4 := rname_any op
    generalize Op.find s = x at *
    obtain ⟨a, ok⟩ := x
    dsimp only at H1 H2
    generalize Op.name op = nm at *
    have ha : (a == a) = true := beq_self_eq_true a
    have hn : (nm.toList == nm.toList) = true := beq_self_eq_true _
    have hk : (ok == ok) = true := by cases ok <;> rfl
    go_enter Try.func3, Try.ntmps3
    go_wp2_with (first
      | (go_at_call 6; refine (H1 _).mono ?_; rintro _ w1 ⟨rfl, b1⟩)
      | (go_at_call 7; refine (H2 _).mono ?_; rintro _ w2 ⟨rfl, he⟩; obtain rfl := he.symm)
      | (go_at_call 8; refine (H3 _).mono ?_; rintro _ w3 ⟨rfl, b3⟩)
      | (go_at_call 9; refine (H4 _).mono ?_; rintro _ w4 ⟨rfl, he⟩; obtain rfl := he.symm)
      | (go_at_call 5; refine (lives9_any _).mono ?_; rintro _ w5 ⟨rfl, b5⟩))
    go_ret
    exact ⟨rfl, below_self (below_self b1 b3) b5⟩
  · have hdl : 50 < (s.size : Int) := by omega
    go_enter Try.func3, Try.ntmps3
    go_wp2_with (go_at_call 5; refine (lives9_any _).mono ?_; rintro _ w5 ⟨rfl, b5⟩)
    go_ret
    exact ⟨rfl, b5⟩

set_option maxRecDepth 100000 in
set_option maxHeartbeats 1000000 in
theorem opsShapes_walk (op : Int) (w : World) : Calls Try.prog 4 #[.int .i64 op] w (BoolP true w) := by
  have E1 := effect_any op
  have E2 := optakes_any op
  have E3 := opgives_any op
  have E4 := operand_any op
  have E5 := roperand_any op
  have E6 := fixed_any op
  have E7 := rfixed_any op
  have E8 := ends_any op
  have E9 := rends_any op
  have E10 := raises_any op
  have E11 := rraises_any op
  have hl := row_letters op
  have hlt : Hid ((Op.tys (Op.row op).takes).length ≤ 4096) := Lib.hid (by rw [Op.tys_length]; omega)
  have hlg : Hid ((Op.tys (Op.row op).gives).length ≤ 4096) := Lib.hid (by rw [Op.tys_length]; omega)
  clear hl
  generalize Op.row op = r at *
  obtain ⟨o, f, t, g, e, s⟩ := r
  dsimp only at *
  generalize Op.tys t = lt at *
  generalize Op.tys g = lg at *
  have ho : (o == o) = true := beq_self_eq_true o
  have hf : (f == f) = true := by cases f <;> rfl
  have he : (e == e) = true := by cases e <;> rfl
  have hs : (s == s) = true := by cases s <;> rfl
  go_enter Try.func4, Try.ntmps4
  go_wp2_with (first
    | (go_at_call 10; refine (E1 _).mono ?_; rintro _ w1 ⟨A1, c1, A2, c2, rfl, i1, i2, b1⟩; have I1 := Lib.hid i1; have I2 := Lib.hid i2; clear i1 i2)
    | (go_at_call 12; refine (E2 _).mono ?_; rintro _ w2 ⟨A3, c3, rfl, i3, b2⟩; have I3 := Lib.hid i3; clear i3)
    | (have ht := b4; clear ht; go_at_call 11; refine (opsame_any _ _ _ _ _ lg _ I4.out (ints_later I2.out (below_self (below_self b2 b3) b4)) hlg.out).mono ?_; rintro _ w5 ⟨rfl, b5⟩)
    | (go_at_call 11; refine (opsame_any _ _ _ _ _ lt _ I3.out (ints_later I1.out b2) hlt.out).mono ?_; rintro _ w3 ⟨rfl, b3⟩)
    | (go_at_call 13; refine (E3 _).mono ?_; rintro _ w4 ⟨A4, c4, rfl, i4, b4⟩; have I4 := Lib.hid i4; clear i4)
    | (go_at_call 14; refine (E4 _).mono ?_; rintro _ w6 ⟨rfl, b6⟩)
    | (go_at_call 15; refine (E5 _).mono ?_; rintro _ wa ⟨rfl, hw⟩; obtain rfl := hw.symm)
    | (go_at_call 16; refine (E6 _).mono ?_; rintro _ w7 ⟨rfl, b7⟩)
    | (go_at_call 17; refine (E7 _).mono ?_; rintro _ wa ⟨rfl, hw⟩; obtain rfl := hw.symm)
    | (go_at_call 18; refine (E8 _).mono ?_; rintro _ w8 ⟨rfl, b8⟩)
    | (go_at_call 19; refine (E9 _).mono ?_; rintro _ wa ⟨rfl, hw⟩; obtain rfl := hw.symm)
    | (go_at_call 20; refine (E10 _).mono ?_; rintro _ w9 ⟨rfl, b9⟩)
    | (go_at_call 21; refine (E11 _).mono ?_; rintro _ wa ⟨rfl, hw⟩; obtain rfl := hw.symm)
    | (go_at_call 5; refine (lives9_any _).mono ?_; rintro _ w10 ⟨rfl, b10⟩))
  go_ret
  exact ⟨rfl, below_self (below_self (below_self (below_self (below_self (below_self (below_self (below_self (below_self b1 b2) b3) b4) b5) b6) b7) b8) b9) b10⟩
end Go.Proofs.Ytfkhcoeggfgjeaa
