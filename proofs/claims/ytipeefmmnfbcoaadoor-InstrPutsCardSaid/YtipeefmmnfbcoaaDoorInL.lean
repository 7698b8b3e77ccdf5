/-
  The document's example of instr, and the walk of InstrReads. Conditions: the library's variables are laid.
-/
import Derived.Test.YtipeefmmnfbcoaaDoorInH
namespace Go.Proofs.YtipeefmmnfbcoaaDoor
open Go.RowKit

theorem txt_3 : In.txt (-3) = ⟨#[45, 51]⟩ := by
  rw [txt_neg (by decide)]
  apply In.list_ext
  have e : (decB 3).data.toList = [51] := by
    rw [decB_list, Lib.decDigits_one (by decide)]
    rfl
  rw [show Int.natAbs (-3) = 3 from rfl]
  simp [e]
theorem txt_2000 : In.txt 2000 = ⟨#[50, 48, 48, 48]⟩ := by
  rw [txt_pos (by decide)]
  apply In.list_ext
  rw [decB_list, show Int.toNat 2000 = 2000 from rfl, In.dec_big (by decide), In.dec_big (by decide), In.dec_big (by decide), Lib.decDigits_one (by decide)]
  rfl

theorem text_push : In.text 1 (-3) = ⟨#[112, 117, 115, 104, 32, 45, 51]⟩ := by
  unfold In.text
  rw [if_pos (by kernel_rfl), if_pos (by kernel_rfl), txt_3]
  kernel_rfl
theorem read_push : In.read ⟨#[112, 117, 115, 104, 32, 45, 51]⟩ = ((1, -3), 0) := by
  rw [← text_push]
  exact In.read_text (by kernel_rfl) (by decide) (by decide)
theorem read_jump : In.read ⟨#[106, 117, 109, 112, 32, 50, 48, 48, 48]⟩ = ((0, 0), 2) := by
  have h : (⟨#[106, 117, 109, 112, 32, 50, 48, 48, 48]⟩ : ByteArray) = Op.name 21 ++ ⟨#[32]⟩ ++ In.txt 2000 := by
    rw [txt_2000]
    kernel_rfl
  obtain ⟨h1, h2, h3⟩ := In.parts_both (x := Op.name 21) (d := In.txt 2000) In.name_blank
  rw [← h] at h1 h2 h3
  refine In.read_arg (op := 21) (n := 2000) ?_ h3 (by kernel_rfl) ?_ (by kernel_rfl)
  · rw [h1]
    exact In.find_name (by decide)
  · rw [h2]
    exact In.num_txt (by decide) (by decide) rfl

set_option maxHeartbeats 1000000 in
set_option maxRecDepth 100000 in
theorem lives10_any (w : World) (hg : Glob w) : Calls Tryd.prog 6 #[] w (BoolP true w) := by
  have HG := Lib.hid hg
  have H1 : ∀ W, Glob W → Calls Tryd.prog 14 #[.string ⟨#[106, 117, 109, 112, 32, 50, 48, 48, 48]⟩] W fun e w' => e = .returned (.tuple #[.agg #[.int .i64 0, .int .i64 0], .int .i64 2]) ∧ Below W.heap.size W w' := by
    intro W hW
    have h := inread_any ⟨#[106, 117, 109, 112, 32, 50, 48, 48, 48]⟩ (by decide) W hW
    unfold ReadP at h
    rw [read_jump] at h
    exact h
  have H2 : ∀ W, Glob W → Calls Tryd.prog 14 #[.string ⟨#[112, 117, 115, 104, 32, 45, 51]⟩] W fun e w' => e = .returned (.tuple #[.agg #[.int .i64 1, .int .i64 (-3)], .int .i64 0]) ∧ Below W.heap.size W w' := by
    intro W hW
    have h := inread_any ⟨#[112, 117, 115, 104, 32, 45, 51]⟩ (by decide) W hW
    unfold ReadP at h
    rw [read_push] at h
    exact h
  have H3 : ∀ W, Glob W → Calls Tryd.prog 11 #[.agg #[.int .i64 1, .int .i64 (-3)]] W fun e w' => e = .returned (.string ⟨#[112, 117, 115, 104, 32, 45, 51]⟩) ∧ Below W.heap.size W w' := by
    intro W hW
    have h := intext_any 1 (-3) (by decide) (by decide) W hW
    unfold StrP at h
    rw [text_push] at h
    exact h
  have H4 : ∀ W, Calls Tryd.prog 9 #[.agg #[.int .i64 1, .int .i64 (-3)]] W (BoolP true W) := by
    intro W
    have h := inright_any 1 (-3) W
    rw [show In.right 1 (-3) = true by kernel_rfl] at h
    exact h
  have hd : ((⟨#[112, 117, 115, 104, 32, 45, 51]⟩ : ByteArray).toList == (⟨#[112, 117, 115, 104, 32, 45, 51]⟩ : ByteArray).toList) = true := beq_self_eq_true _
  clear hg
  go_enter Tryd.func6, Tryd.ntmps6
  go_wp2_with fail
  refine (H1 _ HG.out).mono ?_
  rintro _ w1 ⟨rfl, b1⟩
  have B1 := Lib.hid (below_self b1 ((Below.refl w1.heap.size w1).alloc (Nat.le_refl _) (.cells #[.int .i64 0, .int .i64 0] 24)))
  clear b1
  go_wp2_with fail
  refine (H2 _ (HG.out.below B1.out)).mono ?_
  rintro _ w2 ⟨rfl, b2⟩
  have B2 := Lib.hid (below_self B1.out b2)
  have B3 := Lib.hid (below_self B2.out ((Below.refl w2.heap.size w2).alloc (Nat.le_refl _) (.cells #[.int .i64 1, .int .i64 (-3)] 24)))
  have I3 := Lib.hid (Ins.new w2 1 (-3))
  clear b2
  go_wp2_with fail
  refine (H3 _ (HG.out.below B3.out)).mono ?_
  rintro _ w4 ⟨rfl, b4⟩
  have i0 := (I3.out.on b4).c0
  have i1 := (I3.out.on b4).c1
  have B4 := Lib.hid (below_self B3.out b4)
  clear b4
  go_wp2_with (go_at_call 9; refine (H4 _).mono ?_; rintro _ w5 ⟨rfl, b5⟩)
  go_ret
  exact ⟨rfl, below_self B4.out b5⟩

set_option maxHeartbeats 2000000 in
set_option maxRecDepth 100000 in
theorem instrReads_walk (s : ByteArray) (n : Int) (h0 : -9223372036854775808 ≤ n) (h1 : n ≤ 9223372036854775807) (hs : s.size ≤ 9223372036854775807) (w : World) (hg : Glob w) : Calls Tryd.prog 5 #[.string s, .int .i64 n] w (BoolP true w) := by
  have HG := Lib.hid hg
  clear hg
  by_cases hl : s.size ≤ 100
  · have hdl : decide (100 < (s.size : Int)) = false := decide_eq_false (by omega)
    have H1 := fun W hW => inread_any s (by omega) W hW
    have H2 := fun W => rinread_any s (by omega) W
    have H3 := fun W hW => innumber_any s (by omega) W hW
    have H4 := fun W => rnumber_any s (by omega) W
    have H5 := fun W hW => indigits_any n h0 h1 W hW
    have H6 := fun W => rdigits_any n h0 h1 W
    unfold ReadP at H1 H2
    unfold NumP at H3 H4
    generalize In.read s = x at *
    obtain ⟨⟨a, b⟩, e⟩ := x
    generalize In.num s = y at *
    obtain ⟨k, f⟩ := y
    generalize In.txt n = d at *
    dsimp only at H1 H2 H3 H4
    have ha : (a == a) = true := beq_self_eq_true a
    have hb : (b == b) = true := beq_self_eq_true b
    have hk : (k == k) = true := beq_self_eq_true k
    have he : ((e : Int) == (e : Int)) = true := beq_self_eq_true _
    have hf : ((f : Int) == (f : Int)) = true := beq_self_eq_true _
    have hd : (d.toList == d.toList) = true := beq_self_eq_true _
    clear h0 h1 hs hl
    go_enter Tryd.func5, Tryd.ntmps5
    go_wp2_with fail
    refine (H1 _ HG.out).mono ?_
    rintro _ w1 ⟨rfl, b1⟩
    have B1 := Lib.hid (below_self b1 ((Below.refl w1.heap.size w1).alloc (Nat.le_refl _) (.cells #[.int .i64 a, .int .i64 b] 24)))
    have I1 := Lib.hid (Ins.new w1 a b)
    clear b1
    go_wp2_with fail
    refine (H2 _).mono ?_
    rintro _ w2 ⟨rfl, b2⟩
    have B2 := Lib.hid (below_self (below_self B1.out b2) ((Below.refl w2.heap.size w2).alloc (Nat.le_refl _) (.cells #[.int .i64 a, .int .i64 b] 24)))
    have I2 := Lib.hid ((I1.out.on b2).alloc (.cells #[.int .i64 a, .int .i64 b] 24))
    have J2 := Lib.hid (Ins.new w2 a b)
    clear b2 I1
    go_wp2_with fail
    refine (H3 _ (HG.out.below B2.out)).mono ?_
    rintro _ w3 ⟨rfl, b3⟩
    have B3 := Lib.hid (below_self B2.out b3)
    have I3 := Lib.hid (I2.out.on b3)
    have J3 := Lib.hid (J2.out.on b3)
    clear b3
    go_wp2_with fail
    refine (H4 _).mono ?_
    rintro _ w4 ⟨rfl, b4⟩
    have B4 := Lib.hid (below_self B3.out b4)
    have i0 := (I3.out.on b4).c0
    have i1 := (I3.out.on b4).c1
    have j0 := (J3.out.on b4).c0
    have j1 := (J3.out.on b4).c1
    clear b4
    go_wp2_with fail
    refine (H5 _ (HG.out.below B4.out)).mono ?_
    rintro _ w5 ⟨rfl, b5⟩
    have B5 := Lib.hid (below_self B4.out b5)
    clear b5
    go_wp2_with fail
    refine (H6 _).mono ?_
    rintro _ w6 ⟨rfl, b6⟩
    have B6 := Lib.hid (below_self B5.out b6)
    clear b6
    go_wp2_with fail
    refine (lives10_any _ (HG.out.below B6.out)).mono ?_
    rintro _ w7 ⟨rfl, b7⟩
    go_wp2
    go_ret
    exact ⟨rfl, below_self B6.out b7⟩
  · have hdl : 100 < (s.size : Int) := by omega
    go_enter Tryd.func5, Tryd.ntmps5
    go_wp2_with (go_at_call 6; refine (lives10_any _ HG.out).mono ?_; rintro _ w5 ⟨rfl, b5⟩)
    go_ret
    exact ⟨rfl, b5⟩
end Go.Proofs.YtipeefmmnfbcoaaDoor
