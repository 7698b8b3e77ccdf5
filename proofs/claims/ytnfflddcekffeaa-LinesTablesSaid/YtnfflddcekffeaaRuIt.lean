/-
  What runs.alike answers: a function that yields the runs of a row one by one. Conditions: each round keeps what lay below, and the row's box.
-/
import Derived.RangeFuncNested
import Derived.RangeFuncBound
import Derived.RangeFuncCalls
import Derived.RangeFuncLeaves
import Derived.RangeFuncBox
import Derived.Shelf.Abstract
import Derived.Shelf.RegionOpen
import Derived.OwnWalkIn
import Derived.TacticsInMore
import Derived.LoopNIn
import Derived.LoopIn
import Derived.Sort.QuietIn
import Derived.Test.YtnfflddcekffeaaRuAt
namespace Go.Proofs.Ytnfflddcekffeaa
open Go.RowKit Go.Shelf

attribute [local go_sem] Oper.semAt_some

/-- What a round must keep: what lay below n₀, and the row's box. -/
def KpIt (n₀ Bs : Nat) (W W' : World) : Prop := Below n₀ W W' ∧ W'.heap[Bs]? = W.heap[Bs]?
theorem KpIt.refl (n₀ Bs : Nat) (W : World) : KpIt n₀ Bs W W := ⟨Below.refl _ _, rfl⟩
theorem KpIt.trans {n₀ Bs : Nat} {A B C : World} (h : KpIt n₀ Bs A B) (k : KpIt n₀ Bs B C) : KpIt n₀ Bs A C := ⟨h.1.trans k.1, k.2.trans h.2⟩
theorem KpIt.drewN {n₀ Bs : Nat} {A B : World} (h : KpIt n₀ Bs A B) (q : Nat) : KpIt n₀ Bs A (B.drewN q) := ⟨⟨h.1.os, h.1.tape, h.1.output, h.1.size, h.1.block⟩, h.2⟩
theorem kpIt_b {n₀ Bs : Nat} {w : World} (hn : n₀ ≤ w.heap.size) (hB : Bs < w.heap.size) (W : World) (l : Nat) (o o' : Obj) (hl : w.heap.size ≤ l) (h : W.heap[l]? = some o) (h1 : o.isCells = false) (h2 : o.isWalk = false) : KpIt n₀ Bs W (W.putObj l o') :=
  ⟨belowK_b hn W l o o' hl h h1 h2, (grownBy_putObj' W l o').block Bs (by have := (Array.getElem?_eq_some_iff.1 h).1; omega) (by intro e; injection e with e; omega)⟩

/-- A run whose numbers are of their type. -/
abbrev RunT := { p : Int × Int // (0 ≤ p.1 ∧ p.1 ≤ 9223372036854775807) ∧ (-9223372036854775808 ≤ p.2 ∧ p.2 ≤ 9223372036854775807) }
def vals (pre : List RunT) : Ru.Runs := pre.map Subtype.val
theorem vals_length (pre : List RunT) : (vals pre).length = pre.length := by simp [vals]
theorem vals_snoc (pre : List RunT) (x : RunT) : vals (pre ++ [x]) = vals pre ++ [x.1] := by simp [vals]

/-- Between two rounds. -/
def ItRel (xs : List Int) (n₀ Bs : Nat) (W : World) (J : List RunT → World → Prop) (f i : Value) (wr : World) : Prop :=
  ∃ (k m : Nat) (y : Int) (pre : List RunT), k ≤ xs.length ∧ i = .int .i64 (k : Int) ∧ f = .int .i64 y ∧ y = (k : Int) - (m : Int) ∧ Ru.Part xs k (vals pre) m ∧ J pre wr ∧ KpIt n₀ Bs W wr

theorem abides_drewN {β : Type} {B : Nat} {J : β → World → Prop} (h : AbidesFrom B J) {s : β} {W : World} (hJ : J s W) (q : Nat) : J s (W.drewN q) :=
  h s W (W.drewN q) none hJ ⟨rfl, rfl, rfl, Nat.le_refl _, fun _ _ _ => rfl⟩ (fun r e => by cases e)

set_option maxRecDepth 100000 in
set_option maxHeartbeats 4000000 in
theorem alike1_in (n : Nat) (hn : 1 ≤ n) (l Bs n₀ : Nat) (a : Option Addr) (len cap : Nat) (xs : List Int) (hlen : len ≤ 9223372036854775807) (hz : ∀ z ∈ xs, -9223372036854775808 ≤ z ∧ z ≤ 9223372036854775807) (J Jx : List RunT → World → Prop) (B : Nat) (hJ : AbidesFrom B J)
    (hY : ∀ pre x W, J pre W → pre.length < xs.length → YieldAt Fence.wide (n - 1) Try.prog l #[.int .i64 x.1.1, .int .i64 x.1.2] W fun e W' =>
      (e = .returned (.bool true) ∧ J (pre ++ [x]) W' ∧ KpIt n₀ Bs W W') ∨ (e = .returned (.bool false) ∧ Jx (pre ++ [x]) W'))
    (W : World) (hB : Boxed W Bs 22 (.slice a len cap)) (hI : IntsAt W n₀ a len xs) (h0 : J [] W) :
    CallsIn Fence.wide n Try.prog 42 #[.func (.yield l) #[] #[], .pointer (some ⟨Bs, 0, none⟩)] W fun e W' => (∃ v, e = .returned v) ∧
      ((∃ ys, vals ys = Ru.of xs ∧ J ys W') ∨ (∃ pre, True ∧ Jx pre W')) := by
  have c0 := hB.cell
  have HB := Lib.hid hB
  have HI := Lib.hid hI
  have HY := Lib.hid hY
  have HJ := Lib.hid hJ
  have HZ := Lib.hid hz
  have hl := hI.1
  clear hB hY hI hJ hz
  refine callsIn_of_wp Try.func42 rfl trivial ?_ rfl
  simp only [Try.ntmps42, List.size_toArray, List.length_cons, List.length_nil, Nat.reduceAdd, Nat.reduceSub, Array.replicate_succ, Array.replicate_zero, List.push_toArray, List.append_toArray, List.nil_append, List.cons_append]
  gi_wp2
  gi_loopw [3, 8] (ItRel xs n₀ Bs W J) (fun _ i _ => len - (intOf i).toNat)
  case atStart => exact ⟨0, 0, 0, [], by omega, rfl, rfl, rfl, Ru.part_start xs, h0, KpIt.refl _ _ _⟩
  case round =>
    obtain ⟨k, m, y, pre, hk, rfl, rfl, hy, hP, hJr, hK⟩ := hrel
    have cr : wr.cell? ⟨Bs, 0, none⟩ = some (.slice a len cap) := Boxed.cell (t := 22) (hK.2.trans HB.out)
    have HK := Lib.hid hK
    have HP := Lib.hid hP
    have HJR := Lib.hid hJr
    have hmk := hP.1
    have hpl := hP.2.1
    rw [vals_length] at hpl
    have hy0 : 0 ≤ y := by omega
    have hyk : y ≤ (k : Int) := by omega
    have HYE := Lib.hid hy
    have HMK := Lib.hid hmk
    have HPL := Lib.hid hpl
    clear hK hP hJr hy hmk hpl
    by_cases hlt : k < len
    · obtain ⟨b, off, rfl, hlb, hc⟩ := (HI.out.below HK.out.1).2 (by omega)
      have hck := hc k hlt
      obtain ⟨x, hx⟩ : ∃ x, xs.getD k 0 = x := ⟨_, rfl⟩
      rw [hx] at hck
      have HX := Lib.hid hx
      have HXB : Hid (-9223372036854775808 ≤ x ∧ x ≤ 9223372036854775807) := Lib.hid (by
        have hkx : k < xs.length := by omega
        have e : xs.getD k 0 = xs[k] := by simp [List.getD, hkx]
        rw [← hx, e]
        exact HZ.out _ (List.getElem_mem hkx))
      clear hx
      by_cases h1 : k + 1 < len
      · have hck1 := hc (k + 1) h1
        obtain ⟨x1, hx1⟩ : ∃ x1, xs.getD (k + 1) 0 = x1 := ⟨_, rfl⟩
        rw [hx1] at hck1
        have HX1 := Lib.hid hx1
        have h1' : (k : Int) + 1 < (len : Int) := by omega
        clear hx1 hc
        by_cases he : x1 = x
        · subst he
          have HG := Lib.hid (Ru.part_go HP.out (by omega) (HX1.out.trans HX.out.symm))
          gi_wp2
          gi_quiet (fail)
          gi_wp2
          go_roundw
          case rel => exact ⟨k + 1, m + 1, y, pre, by omega, by go_num, rfl, by have := HYE.out; omega, HG.out, abides_drewN HJ.out HJR.out _, HK.out.drewN _⟩
          case measure => simp [intOf]; omega
        · have hd : (x1 == x) = false := by rw [beq_eq_false_iff_ne]; exact he
          have HG := Lib.hid (Ru.part_tell HP.out (by omega) (fun _ => by rw [HX1.out, HX.out]; exact he))
          gi_wp2
          gi_quiet (fail)
          have hJd := abides_drewN HJ.out HJR.out nq
          obtain ⟨fn, tmps, assign, body, hy, hR⟩ := HY.out pre ⟨((k : Int) + 1 - y, x), ⟨by simp only; omega, by simp only; omega⟩, HXB.out⟩ (wr.drewN nq) hJd (by have := HPL.out; omega)
          dsimp only at hy
          gi_wp2
          refine hR.mono ?_
          rintro e W3 (⟨rfl, hJ3, hk3⟩ | ⟨rfl, hJx3⟩)
          · have HG3 := Lib.hid (HG.out)
            rw [HX.out, show ((m : Int) + 1) = (k : Int) + 1 - y by have := HYE.out; omega] at HG3
            have HK3 := Lib.hid ((HK.out.drewN nq).trans hk3)
            clear hk3
            gi_wp2
            go_roundw
            case rel => exact ⟨k + 1, 0, (k : Int) + 1, _, by omega, by go_num, rfl, by omega, by rw [vals_snoc]; exact HG3.out, hJ3, HK3.out⟩
            case measure => simp [intOf]; omega
          · gi_wp2
            refine bodyPost_ret (results_none rfl _ _ _) rfl ?_
            exact ⟨⟨_, rfl⟩, .inr ⟨_, trivial, hJx3⟩⟩
      · clear hc
        have hd : decide ((k : Int) + 1 < (len : Int)) = false := decide_eq_false (by omega)
        have HG := Lib.hid (Ru.part_tell HP.out (by omega) (fun h => by omega))
        gi_wp2
        gi_quiet (fail)
        have hJd := abides_drewN HJ.out HJR.out nq
        obtain ⟨fn, tmps, assign, body, hy, hR⟩ := HY.out pre ⟨((k : Int) + 1 - y, x), ⟨by simp only; omega, by simp only; omega⟩, HXB.out⟩ (wr.drewN nq) hJd (by have := HPL.out; omega)
        dsimp only at hy
        gi_wp2
        refine hR.mono ?_
        rintro e W3 (⟨rfl, hJ3, hk3⟩ | ⟨rfl, hJx3⟩)
        · have HG3 := Lib.hid (HG.out)
          rw [HX.out, show ((m : Int) + 1) = (k : Int) + 1 - y by have := HYE.out; omega] at HG3
          have HK3 := Lib.hid ((HK.out.drewN nq).trans hk3)
          clear hk3
          gi_wp2
          go_roundw
          case rel => exact ⟨k + 1, 0, (k : Int) + 1, _, by omega, by go_num, rfl, by omega, by rw [vals_snoc]; exact HG3.out, hJ3, HK3.out⟩
          case measure => simp [intOf]; omega
        · gi_wp2
          refine bodyPost_ret (results_none rfl _ _ _) rfl ?_
          exact ⟨⟨_, rfl⟩, .inr ⟨_, trivial, hJx3⟩⟩
    · have h1 : ¬ (k : Int) < (len : Int) := by omega
      have HE := Lib.hid (HP.out.2.2.2 (by omega))
      gi_wp2
      go_end0
      exact ⟨⟨_, rfl⟩, .inl ⟨pre, HE.out, HJR.out⟩⟩

set_option maxHeartbeats 1000000 in
set_option maxRecDepth 100000 in
theorem alike_in (n : Nat) (a : Option Addr) (len cap : Nat) (w : World) :
    CallsIn Fence.wide n Try.prog 33 #[.slice a len cap] w fun e w' => e = .returned (.func (.func 42) #[] #[.pointer (some ⟨w.heap.size, 0, none⟩)]) ∧ w.alloc (.cells #[.slice a len cap] 22) = w' := by
  refine callsIn_of_wp Try.func33 rfl trivial ?_ rfl
  simp only [Try.ntmps33, List.size_toArray, List.length_cons, List.length_nil, Nat.reduceAdd, Nat.reduceSub, Array.replicate_succ, Array.replicate_zero, List.push_toArray, List.append_toArray, List.nil_append, List.cons_append]
  gi_wp2
  go_ret
  exact ⟨rfl, rfl⟩

set_option maxRecDepth 100000 in
theorem alike_stops (n : Nat) (hn : 1 ≤ n) (Bs n₀ : Nat) (a : Option Addr) (len cap : Nat) (xs : List Int) (hlen : len ≤ 9223372036854775807) (hz : ∀ z ∈ xs, -9223372036854775808 ≤ z ∧ z ≤ 9223372036854775807) (w : World) (hB : Boxed w Bs 22 (.slice a len cap)) (hI : IntsAt w n₀ a len xs) (hn₀ : n₀ ≤ w.heap.size) :
    SeqStopsK Fence.wide n Try.prog 42 #[.pointer (some ⟨Bs, 0, none⟩)] (fun x : RunT => #[Value.int .i64 x.1.1, Value.int .i64 x.1.2]) (KpIt n₀ Bs) (fun ys => vals ys = Ru.of xs) (fun _ => True) xs.length w :=
  fun l J Jx W hW hJ _ hY h0 => alike1_in n hn l Bs n₀ a len cap xs hlen hz J Jx W.heap.size hJ hY W ((hW.block Bs hB.lt).trans hB) (hI.below (hW.mono hn₀)) h0

end Go.Proofs.Ytnfflddcekffeaa
