/-
  What slots.All answers: a function that yields the slots one by one, rising, till it is told 'no more'. Conditions: the words have 64 bits; the table of math/bits is laid; each round keeps what lay below.
-/
import Derived.RangeFuncNested
import Derived.RangeFuncBound
import Derived.RangeFuncCalls
import Derived.RangeFuncLeaves
import Derived.Shelf.Abstract
import Derived.Shelf.RegionOpen
import Derived.OwnWalkIn
import Derived.TacticsInMore
import Derived.LoopNIn
import Derived.LoopIn
import Derived.Test.YtifkoihhlhadhaaDoorSlF
namespace Go.Proofs.YtifkoihhlhadhaaDoor
open Go.RowKit Go.Shelf

attribute [local go_sem] Oper.semAt_some

/-- The slots of the first q words. -/
def Sl.Four.upto (s : Sl.Four) : Nat → List Int
  | 0 => []
  | q + 1 => s.upto q ++ Sl.at_ q (s.word q)
theorem upto_four (s : Sl.Four) : s.upto 4 = s.list := by
  simp [Sl.Four.upto, Sl.Four.list, Sl.Four.word]
theorem upto_prefix (s : Sl.Four) (q : Nat) (hq : q < 4) : s.upto (q + 1) <+: s.list := by
  rw [← upto_four]
  obtain rfl | rfl | rfl | rfl : q = 0 ∨ q = 1 ∨ q = 2 ∨ q = 3 := by omega
  · exact ⟨Sl.at_ 1 (s.word 1) ++ (Sl.at_ 2 (s.word 2) ++ Sl.at_ 3 (s.word 3)), by simp [Sl.Four.upto]⟩
  · exact ⟨Sl.at_ 2 (s.word 2) ++ Sl.at_ 3 (s.word 3), by simp [Sl.Four.upto]⟩
  · exact ⟨Sl.at_ 3 (s.word 3), by simp [Sl.Four.upto]⟩
  · exact ⟨[], by simp [Sl.Four.upto]⟩

/-- One slot more of word q: x is left, x' behind it. -/
theorem at_step {q x : Nat} (h0 : x ≠ 0) (hx : x < 18446744073709551616) : Sl.at_ q x = ((64 * q + Lib.ctz 64 x : Nat) : Int) :: Sl.at_ q (x &&& (x - 1)) := by
  unfold Sl.at_
  rw [(Sl.drop_low h0 hx).2]
  rfl
theorem at_zero (q : Nat) : Sl.at_ q 0 = [] := by
  unfold Sl.at_
  rw [Sl.places_zero]
  rfl
theorem low_lt {x : Nat} (h0 : x ≠ 0) (hx : x < 18446744073709551616) : Lib.ctz 64 x < 64 := by
  obtain ⟨_, _, h⟩ := Sl.low_bit h0 hx
  exact h
theorem low_any {x : Nat} (h0 : x ≠ 0) (hx : x < 18446744073709551616) : bits .and .u64 (x : Int) (IntKind.u64.wrap ((x : Int) - 1)) = ((x &&& (x - 1) : Nat) : Int) := by
  have e : IntKind.u64.wrap ((x : Int) - 1) = ((x - 1 : Nat) : Int) := by rw [IntKind.wrap_u64]; omega
  rw [e]
  exact u64_and_nat x (x - 1) hx (by omega)

def OutRel (s : Sl.Four) (n₀ : Nat) (W : World) (J : List Int → World → Prop) (i : Value) (wr : World) : Prop :=
  ∃ (q : Nat) (z : Int), q ≤ 4 ∧ i = .int .i64 z ∧ z = (q : Int) ∧ J (s.upto q) wr ∧ Below n₀ W wr
def SlInRel (s : Sl.Four) (q n₀ : Nat) (W : World) (J : List Int → World → Prop) (v : Value) (wr : World) : Prop :=
  ∃ (x : Nat) (pre : List Int), v = .int .u64 (x : Int) ∧ x < 18446744073709551616 ∧ J (s.upto q ++ pre) wr ∧ pre ++ Sl.at_ q x = Sl.at_ q (s.word q) ∧ Below n₀ W wr

theorem tab_below {w w' : World} {B : Nat} (h : Tab w) (hb : Below B w w') (hB : 0 < B) : Tab w' := fun j hj => (hb.cell (p := ⟨0, j, none⟩) hB).trans (h j hj)

set_option maxRecDepth 100000 in
set_option maxHeartbeats 4000000 in
theorem all1_in (n : Nat) (hn : 1 ≤ n) (l Bs n₀ : Nat) (s : Sl.Four) (hs : s.ok) (h1n : 0 < n₀) (J Jx : List Int → World → Prop)
    (hY : ∀ pre x W, J pre W → pre.length < s.list.length → YieldAt Fence.wide (n - 1) Tryd.prog l #[.int .i64 x] W fun e W' =>
      (e = .returned (.bool true) ∧ J (pre ++ [x]) W' ∧ Below n₀ W W') ∨ (e = .returned (.bool false) ∧ Jx (pre ++ [x]) W'))
    (W : World) (hB : SetAt W Bs s) (hT : Tab W) (h0 : J [] W) :
    CallsIn Fence.wide n Tryd.prog 69 #[.func (.yield l) #[] #[], .pointer (some ⟨Bs, 0, none⟩)] W fun e W' => (∃ v, e = .returned v) ∧
      ((∃ ys, ys = s.list ∧ J ys W') ∨ (∃ pre, pre <+: s.list ∧ Jx pre W')) := by
  obtain ⟨⟨c0, c1, c2, c3⟩, _⟩ := hB.reads
  have HS := Lib.hid hs
  have HY := Lib.hid hY
  have HT := Lib.hid hT
  have i0 := idx0
  have i1 := idx1
  have i2 := idx2
  have i3 := idx3
  clear hB hs hY hT
  refine callsIn_of_wp Tryd.func69 rfl trivial ?_ rfl
  simp only [Tryd.ntmps69, List.size_toArray, List.length_cons, List.length_nil, Nat.reduceAdd, Nat.reduceSub, Array.replicate_succ, Array.replicate_zero, List.push_toArray, List.append_toArray, List.nil_append, List.cons_append]
  gi_wp2
  gi_loopw [6] (OutRel s n₀ W J) (fun i _ => 4 - (intOf i).toNat)
  case atStart => exact ⟨0, 0, by omega, rfl, rfl, h0, Below.refl _ _⟩
  case round =>
    obtain ⟨q, z, hq, rfl, hz, hJ, hb⟩ := hrel
    have HJ := Lib.hid hJ
    have HB := Lib.hid hb
    clear hJ hb
    by_cases hlt : q < 4
    · obtain ⟨rfl, rfl⟩ | ⟨rfl, rfl⟩ | ⟨rfl, rfl⟩ | ⟨rfl, rfl⟩ : (q = 0 ∧ z = 0) ∨ (q = 1 ∧ z = 1) ∨ (q = 2 ∧ z = 2) ∨ (q = 3 ∧ z = 3) := by omega
      · clear hz hq hlt
        gi_wp2
        gi_loopw [4] (SlInRel s 0 n₀ W J) (fun v _ => (intOf v).toNat)
        case atStart => exact ⟨s.a, [], rfl, HS.out.1, by simpa using HJ.out, rfl, HB.out⟩
        case round =>
          obtain ⟨x, pre, rfl, hx, hJ, hp, hb⟩ := hrel
          by_cases hx0 : x = 0
          · subst hx0
            rw [at_zero, List.append_nil] at hp
            have HN : Hid (J (s.upto (0 + 1)) wr) := Lib.hid (by show J (s.upto 0 ++ Sl.at_ 0 (s.word 0)) wr; rw [← hp]; exact hJ)
            have HB2 := Lib.hid hb
            clear hJ hp hb
            gi_wp2
            go_roundw
            case rel => exact ⟨0 + 1, _, by omega, rfl, rfl, HN.out, HB2.out⟩
            case measure => simp [intOf]
          · have hx1 : ((x : Int) != 0) = true := by rw [bne_iff_ne]; omega
            rw [at_step hx0 hx] at hp
            have hk := low_lt hx0 hx
            have hlow := Sl.drop_low hx0 hx
            have hlo := low_any hx0 hx
            have HP := Lib.hid hp
            have HPre : Hid (s.upto 0 ++ (pre ++ [((64 * 0 + Lib.ctz 64 x : Nat) : Int)]) <+: s.list) := Lib.hid (by
              refine List.IsPrefix.trans ?_ (upto_prefix s 0 (by omega))
              show _ <+: s.upto 0 ++ Sl.at_ 0 (s.word 0)
              rw [← hp]
              exact ⟨Sl.at_ 0 (x &&& (x - 1)), by simp⟩)
            have HTz := Lib.hid (tz_any x hx wr (tab_below HT.out hb h1n))
            have HJ2 := Lib.hid hJ
            have HB2 := Lib.hid hb
            have HX := Lib.hid hx0
            clear hp hb hJ hx0
            generalize Lib.ctz 64 x = t at *
            obtain ⟨y, hy'⟩ : ∃ y, x &&& (x - 1) = y := ⟨_, rfl⟩
            rw [hy'] at hlow hlo HP
            have HYx := Lib.hid hy'
            have HLow := Lib.hid hlow.1
            clear hy' hlow
            have ev : ((64 * 0 + t : Nat) : Int) = ((t : Nat) : Int) := by omega
            rw [ev] at HP HPre
            obtain ⟨fn, tmps, assign, body, hy, hR⟩ := HY.out _ ((t : Nat) : Int) wr HJ2.out (by
              have := HPre.out.length_le
              simp at this
              simp
              omega)
            clear ev
            gi_wp2_with (refine ⟨trivial, ?_⟩; gi_at_call 70; refine (callsIn_wide.2 HTz.out).mono ?_; rintro e w' ⟨rfl, rfl⟩)
            refine hR.mono ?_
            rintro e W3 (⟨rfl, hJ3, hk3⟩ | ⟨rfl, hJx3⟩)
            · gi_wp2
              go_roundw
              case rel => exact ⟨y, pre ++ [((t : Nat) : Int)], rfl, by have := HLow.out; omega, by rw [← List.append_assoc]; exact hJ3, by rw [← HP.out]; simp, HB2.out.trans hk3⟩
              case measure => have := HLow.out; simp [intOf]; omega
            · gi_wp2
              refine bodyPost_ret (results_none rfl _ _ _) rfl ?_
              exact ⟨⟨_, rfl⟩, .inr ⟨_, HPre.out, by rw [← List.append_assoc]; exact hJx3⟩⟩
      · clear hz hq hlt
        gi_wp2
        gi_loopw [4] (SlInRel s 1 n₀ W J) (fun v _ => (intOf v).toNat)
        case atStart => exact ⟨s.b, [], rfl, HS.out.2.1, by simpa using HJ.out, rfl, HB.out⟩
        case round =>
          obtain ⟨x, pre, rfl, hx, hJ, hp, hb⟩ := hrel
          by_cases hx0 : x = 0
          · subst hx0
            rw [at_zero, List.append_nil] at hp
            have HN : Hid (J (s.upto (1 + 1)) wr) := Lib.hid (by show J (s.upto 1 ++ Sl.at_ 1 (s.word 1)) wr; rw [← hp]; exact hJ)
            have HB2 := Lib.hid hb
            clear hJ hp hb
            gi_wp2
            go_roundw
            case rel => exact ⟨1 + 1, _, by omega, rfl, rfl, HN.out, HB2.out⟩
            case measure => simp [intOf]
          · have hx1 : ((x : Int) != 0) = true := by rw [bne_iff_ne]; omega
            rw [at_step hx0 hx] at hp
            have hk := low_lt hx0 hx
            have hlow := Sl.drop_low hx0 hx
            have hlo := low_any hx0 hx
            have HP := Lib.hid hp
            have HPre : Hid (s.upto 1 ++ (pre ++ [((64 * 1 + Lib.ctz 64 x : Nat) : Int)]) <+: s.list) := Lib.hid (by
              refine List.IsPrefix.trans ?_ (upto_prefix s 1 (by omega))
              show _ <+: s.upto 1 ++ Sl.at_ 1 (s.word 1)
              rw [← hp]
              exact ⟨Sl.at_ 1 (x &&& (x - 1)), by simp⟩)
            have HTz := Lib.hid (tz_any x hx wr (tab_below HT.out hb h1n))
            have HJ2 := Lib.hid hJ
            have HB2 := Lib.hid hb
            have HX := Lib.hid hx0
            clear hp hb hJ hx0
            generalize Lib.ctz 64 x = t at *
            obtain ⟨y, hy'⟩ : ∃ y, x &&& (x - 1) = y := ⟨_, rfl⟩
            rw [hy'] at hlow hlo HP
            have HYx := Lib.hid hy'
            have HLow := Lib.hid hlow.1
            clear hy' hlow
            have ev : ((64 * 1 + t : Nat) : Int) = (64 + (t : Int)) := by omega
            rw [ev] at HP HPre
            obtain ⟨fn, tmps, assign, body, hy, hR⟩ := HY.out _ (64 + (t : Int)) wr HJ2.out (by
              have := HPre.out.length_le
              simp at this
              simp
              omega)
            clear ev
            gi_wp2_with (refine ⟨trivial, ?_⟩; gi_at_call 70; refine (callsIn_wide.2 HTz.out).mono ?_; rintro e w' ⟨rfl, rfl⟩)
            refine hR.mono ?_
            rintro e W3 (⟨rfl, hJ3, hk3⟩ | ⟨rfl, hJx3⟩)
            · gi_wp2
              go_roundw
              case rel => exact ⟨y, pre ++ [(64 + (t : Int))], rfl, by have := HLow.out; omega, by rw [← List.append_assoc]; exact hJ3, by rw [← HP.out]; simp, HB2.out.trans hk3⟩
              case measure => have := HLow.out; simp [intOf]; omega
            · gi_wp2
              refine bodyPost_ret (results_none rfl _ _ _) rfl ?_
              exact ⟨⟨_, rfl⟩, .inr ⟨_, HPre.out, by rw [← List.append_assoc]; exact hJx3⟩⟩
      · clear hz hq hlt
        gi_wp2
        gi_loopw [4] (SlInRel s 2 n₀ W J) (fun v _ => (intOf v).toNat)
        case atStart => exact ⟨s.c, [], rfl, HS.out.2.2.1, by simpa using HJ.out, rfl, HB.out⟩
        case round =>
          obtain ⟨x, pre, rfl, hx, hJ, hp, hb⟩ := hrel
          by_cases hx0 : x = 0
          · subst hx0
            rw [at_zero, List.append_nil] at hp
            have HN : Hid (J (s.upto (2 + 1)) wr) := Lib.hid (by show J (s.upto 2 ++ Sl.at_ 2 (s.word 2)) wr; rw [← hp]; exact hJ)
            have HB2 := Lib.hid hb
            clear hJ hp hb
            gi_wp2
            go_roundw
            case rel => exact ⟨2 + 1, _, by omega, rfl, rfl, HN.out, HB2.out⟩
            case measure => simp [intOf]
          · have hx1 : ((x : Int) != 0) = true := by rw [bne_iff_ne]; omega
            rw [at_step hx0 hx] at hp
            have hk := low_lt hx0 hx
            have hlow := Sl.drop_low hx0 hx
            have hlo := low_any hx0 hx
            have HP := Lib.hid hp
            have HPre : Hid (s.upto 2 ++ (pre ++ [((64 * 2 + Lib.ctz 64 x : Nat) : Int)]) <+: s.list) := Lib.hid (by
              refine List.IsPrefix.trans ?_ (upto_prefix s 2 (by omega))
              show _ <+: s.upto 2 ++ Sl.at_ 2 (s.word 2)
              rw [← hp]
              exact ⟨Sl.at_ 2 (x &&& (x - 1)), by simp⟩)
            have HTz := Lib.hid (tz_any x hx wr (tab_below HT.out hb h1n))
            have HJ2 := Lib.hid hJ
            have HB2 := Lib.hid hb
            have HX := Lib.hid hx0
            clear hp hb hJ hx0
            generalize Lib.ctz 64 x = t at *
            obtain ⟨y, hy'⟩ : ∃ y, x &&& (x - 1) = y := ⟨_, rfl⟩
            rw [hy'] at hlow hlo HP
            have HYx := Lib.hid hy'
            have HLow := Lib.hid hlow.1
            clear hy' hlow
            have ev : ((64 * 2 + t : Nat) : Int) = (128 + (t : Int)) := by omega
            rw [ev] at HP HPre
            obtain ⟨fn, tmps, assign, body, hy, hR⟩ := HY.out _ (128 + (t : Int)) wr HJ2.out (by
              have := HPre.out.length_le
              simp at this
              simp
              omega)
            clear ev
            gi_wp2_with (refine ⟨trivial, ?_⟩; gi_at_call 70; refine (callsIn_wide.2 HTz.out).mono ?_; rintro e w' ⟨rfl, rfl⟩)
            refine hR.mono ?_
            rintro e W3 (⟨rfl, hJ3, hk3⟩ | ⟨rfl, hJx3⟩)
            · gi_wp2
              go_roundw
              case rel => exact ⟨y, pre ++ [(128 + (t : Int))], rfl, by have := HLow.out; omega, by rw [← List.append_assoc]; exact hJ3, by rw [← HP.out]; simp, HB2.out.trans hk3⟩
              case measure => have := HLow.out; simp [intOf]; omega
            · gi_wp2
              refine bodyPost_ret (results_none rfl _ _ _) rfl ?_
              exact ⟨⟨_, rfl⟩, .inr ⟨_, HPre.out, by rw [← List.append_assoc]; exact hJx3⟩⟩
      · clear hz hq hlt
        gi_wp2
        gi_loopw [4] (SlInRel s 3 n₀ W J) (fun v _ => (intOf v).toNat)
        case atStart => exact ⟨s.d, [], rfl, HS.out.2.2.2, by simpa using HJ.out, rfl, HB.out⟩
        case round =>
          obtain ⟨x, pre, rfl, hx, hJ, hp, hb⟩ := hrel
          by_cases hx0 : x = 0
          · subst hx0
            rw [at_zero, List.append_nil] at hp
            have HN : Hid (J (s.upto (3 + 1)) wr) := Lib.hid (by show J (s.upto 3 ++ Sl.at_ 3 (s.word 3)) wr; rw [← hp]; exact hJ)
            have HB2 := Lib.hid hb
            clear hJ hp hb
            gi_wp2
            go_roundw
            case rel => exact ⟨3 + 1, _, by omega, rfl, rfl, HN.out, HB2.out⟩
            case measure => simp [intOf]
          · have hx1 : ((x : Int) != 0) = true := by rw [bne_iff_ne]; omega
            rw [at_step hx0 hx] at hp
            have hk := low_lt hx0 hx
            have hlow := Sl.drop_low hx0 hx
            have hlo := low_any hx0 hx
            have HP := Lib.hid hp
            have HPre : Hid (s.upto 3 ++ (pre ++ [((64 * 3 + Lib.ctz 64 x : Nat) : Int)]) <+: s.list) := Lib.hid (by
              refine List.IsPrefix.trans ?_ (upto_prefix s 3 (by omega))
              show _ <+: s.upto 3 ++ Sl.at_ 3 (s.word 3)
              rw [← hp]
              exact ⟨Sl.at_ 3 (x &&& (x - 1)), by simp⟩)
            have HTz := Lib.hid (tz_any x hx wr (tab_below HT.out hb h1n))
            have HJ2 := Lib.hid hJ
            have HB2 := Lib.hid hb
            have HX := Lib.hid hx0
            clear hp hb hJ hx0
            generalize Lib.ctz 64 x = t at *
            obtain ⟨y, hy'⟩ : ∃ y, x &&& (x - 1) = y := ⟨_, rfl⟩
            rw [hy'] at hlow hlo HP
            have HYx := Lib.hid hy'
            have HLow := Lib.hid hlow.1
            clear hy' hlow
            have ev : ((64 * 3 + t : Nat) : Int) = (192 + (t : Int)) := by omega
            rw [ev] at HP HPre
            obtain ⟨fn, tmps, assign, body, hy, hR⟩ := HY.out _ (192 + (t : Int)) wr HJ2.out (by
              have := HPre.out.length_le
              simp at this
              simp
              omega)
            clear ev
            gi_wp2_with (refine ⟨trivial, ?_⟩; gi_at_call 70; refine (callsIn_wide.2 HTz.out).mono ?_; rintro e w' ⟨rfl, rfl⟩)
            refine hR.mono ?_
            rintro e W3 (⟨rfl, hJ3, hk3⟩ | ⟨rfl, hJx3⟩)
            · gi_wp2
              go_roundw
              case rel => exact ⟨y, pre ++ [(192 + (t : Int))], rfl, by have := HLow.out; omega, by rw [← List.append_assoc]; exact hJ3, by rw [← HP.out]; simp, HB2.out.trans hk3⟩
              case measure => have := HLow.out; simp [intOf]; omega
            · gi_wp2
              refine bodyPost_ret (results_none rfl _ _ _) rfl ?_
              exact ⟨⟨_, rfl⟩, .inr ⟨_, HPre.out, by rw [← List.append_assoc]; exact hJx3⟩⟩
    · obtain ⟨rfl, rfl⟩ : q = 4 ∧ z = 4 := by omega
      clear hz hq hlt
      gi_wp2
      go_end0
      have hJ := HJ.out
      rw [upto_four] at hJ
      exact ⟨⟨_, rfl⟩, .inl ⟨_, rfl, hJ⟩⟩

end Go.Proofs.YtifkoihhlhadhaaDoor
