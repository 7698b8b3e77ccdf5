/-
  What sig.Put and the document's Put lay. Conditions: the list can be read, at most a million types; the slice is the caller's own; lengths within the reach.
  What runs.alike answers: a function that yields the runs of a row one by one. Conditions: each round keeps what lay below, and the row's box.
  What runs.Of answers: the runs of a row, in new memory. Conditions: lengths within the reach.
  What runs.Put answers: the bytes of the slice that it is handed, and those of the row's runs behind them. Conditions: the slice is the caller's own; lengths within the reach.
  What lines.Put answers. Conditions: lengths within the reach.
-/
import Derived.Test.YtifkoihhlhadhaaGreatDoorSiOp
import Derived.Test.YtifkoihhlhadhaaGreatDoorUv
import Derived.RangeFuncNested
import Derived.RangeFuncBound
import Derived.RangeFuncCalls
import Derived.RangeFuncLeaves
import Derived.RangeFuncBox
import Derived.Shelf.Abstract
import Derived.Shelf.RegionOpen
import Derived.OwnWalkIn
import Derived.TacticsInMore
import Derived.LoopNIn
import Derived.LoopIn
import Derived.Sort.QuietIn
import Derived.Test.YtifkoihhlhadhaaGreatDoorAtA
import Derived.Maps.AppendAt
namespace Go.Proofs.YtifkoihhlhadhaaGreatDoor
open Go.RowKit

theorem toNats_snoc {l : List Int} {k : Nat} (h : k < l.length) : (l.take (k + 1)).map Int.toNat = (l.take k).map Int.toNat ++ [(l.getD k 0).toNat] := by
  rw [take_snoc l k h, List.map_append]
  rfl
theorem all_at {l : List Int} (h : l.all Si.may = true) {k : Nat} (hk : k < l.length) : l.getD k 0 = 1 ∨ l.getD k 0 = 2 := by
  have e : l.getD k 0 = l[k] := by simp [List.getD, hk]
  rw [e]
  exact (Si.may_iff _).1 (List.all_eq_true.1 h _ (List.getElem_mem hk))

/-- Between two rounds: how many, and the bytes of k types, are laid. -/
def SputRel (n : Nat) (l : List Int) (pt : List Nat) (w : World) (u i : Value) (wr : World) : Prop :=
  ∃ (k : Nat) (pre : List Nat), k ≤ n ∧ i = .int .i64 (k : Int) ∧ pre = pt ++ (l.take k).map Int.toNat ∧ wr.ownsRow w.heap.size 5 1 u pre.length (bs pre) ∧ Below w.heap.size w wr

set_option maxRecDepth 100000 in
theorem sputRel_next {n : Nat} {l : List Int} {pt pre : List Nat} {w w2 : World} {k q : Nat} {u : Value} (hlt : k < n) (hkl : k < l.length) (hq : l.getD k 0 = (q : Int)) (hp : pre = pt ++ (l.take k).map Int.toNat)
    (ho : w2.ownsRow w.heap.size 5 1 u (pre.length + 1) (bs pre ++ bs [q])) (hb : Below w.heap.size w w2) : SputRel n l pt w u (.int .i64 ((k : Int) + 1)) w2 := by
  refine ⟨k + 1, pre ++ [q], hlt, rfl, ?_, ?_, hb⟩
  · rw [hp, toNats_snoc hkl, hq, List.append_assoc]; rfl
  · rw [bs_append, List.length_append]; exact ho

set_option maxHeartbeats 2000000 in
set_option maxRecDepth 100000 in
theorem siput_own (base : Nat) (v : Value) (m : Nat) (xs : List Value) (a : Option Addr) (n c : Nat) (l : List Int) (w : World) (h : IntsAt w w.heap.size a n l) (hn : n ≤ 1048576) (hown : w.ownsRow base 5 1 v m xs) (hbase : base ≤ w.heap.size) (hm : m + n + 12 ≤ 140737488355328) :
    Calls Tryz.prog 34 #[v, .slice a n c] w (OwnPost base w v (m + (Si.bytes l).length) (xs ++ bs (Si.bytes l))) := by
  obtain ⟨i0, hi, hz0, hz1, hz2⟩ := info_parts info_u8
  have hl : l.length = n := h.1
  have HRt := siright_any a n c w.heap.size l (n : Int) w h (by omega)
  rw [show Si.right l (n : Int) = l.all Si.may by rw [← hl, Si.right_self]] at HRt
  have H := Lib.hid h
  have HO := Lib.hid hown
  clear h hown
  cases hr : l.all Si.may with
  | false =>
    rw [hr] at HRt
    rw [Si.bytes_bad hr]
    clear hr
    go_enter Tryz.func34, Tryz.ntmps34
    go_wp2_with (go_at_call 69; refine HRt.mono ?_; rintro _ w1 ⟨rfl, he⟩; obtain rfl := he.symm)
    go_ret
    exact ⟨_, rfl, (OwnInv.refl HO.out).cast rfl (by simp [bs])⟩
  | true =>
    rw [hr] at HRt
    have HAll := Lib.hid hr
    have HBytes : Hid (Si.bytes l = Uv.put n ++ l.map Int.toNat) := Lib.hid (by rw [Si.bytes_ok hr, hl])
    have hpl := Uv.put_len_10 (n := n) (by omega)
    have HPt := Lib.hid (put_own w.heap.size (.slice none 0 0) 0 [] n w (by omega) (World.ownsRow_nil _ _ _ _) (Nat.le_refl _) (by omega))
    have HPos := Lib.hid (Uv.put_len_pos n)
    generalize Uv.put n = pt at *
    have hwr : (n : Int) < 18446744073709551616 := by omega
    have HL : Hid (l.length = n ∧ pt.length ≤ 10 ∧ n ≤ 1048576) := Lib.hid ⟨hl, hpl, hn⟩
    clear hr hl hpl
    go_enter Tryz.func34, Tryz.ntmps34
    go_wp2_with (first
      | (go_at_call 69; refine HRt.mono ?_; rintro _ w1 ⟨rfl, he⟩; obtain rfl := he.symm)
      | (go_at_call 32; refine HPt.out.mono ?_; rintro _ w1 ⟨v1, rfl, hinv⟩))
    have HI := Lib.hid hinv
    clear hinv HPt HRt
    go_loopw [5, 7, 20] (fun u _ i wr => SputRel n l pt w u i wr) (fun _ _ i _ => n - (intOf i).toNat)
    case atStart =>
      refine ⟨0, pt, Nat.zero_le _, rfl, by simp, ?_, HI.out.below (World.ownsRow_nil _ _ _ _) (Nat.le_refl _)⟩
      have := HI.out.1
      simpa using this
    case round =>
      obtain ⟨k, pre, hk, rfl, hpre, hO, hB⟩ := hrel
      have HW := Lib.hid hO
      have HB := Lib.hid hB
      have HPre := Lib.hid hpre
      have HPL : Hid (pre.length ≤ 10 + k) := Lib.hid (by rw [hpre, List.length_append]; have h1 := HL.out; simp; omega)
      clear hO hB hpre
      by_cases hlt : k < n
      · obtain ⟨b, off, x, rfl, _, hc, hx, hkl⟩ := ints_cell (H.out.below HB.out) hlt
        have hx12 := all_at HAll.out hkl
        rw [hx] at hx12
        have HWS := Lib.hid HB.out.size
        have HX := Lib.hid hx
        have HKL := Lib.hid hkl
        clear hx hkl
        rcases hx12 with rfl | rfl
        · go_wp2_with (at_builtin; refine wpList_append_lies _ rfl (.tmp 24) (.tmp 27) 33 rfl w.heap.size 5 i0 (.int .u8 0) 1 1 Tryz.underlying33 hi hz0 hz1 hz2 rfl (by decide) u5 pre.length (bs pre) rfl (HW.out.alloc _) ⟨wr.heap.size, 0, none⟩ 1 1 (bs [1]) rfl rfl ?c1 (bs_one _) (by decide) ?c3 ?c4 ?c5 (wr.heap.size + 1) ?c6 ?_)
          case c1 => exact news_one wr _ 1 _ rfl
          case c3 => have h1 := HPL.out; have h2 := HL.out; unfold maxLen; omega
          case c4 => have h1 := HPL.out; have h2 := HL.out; omega
          case c5 => have h1 := HWS.out; simp; omega
          case c6 => simp
          intro g cap w2 hown2 hgrow2 hat2 _
          go_wp2
          go_roundw
          case rel => exact sputRel_next (q := 1) hlt HKL.out HX.out HPre.out hown2 ((HB.out.alloc HWS.out _).grown hgrow2 (by have h1 := HWS.out; simp; omega) (fun kk hk => (HW.out.lt kk hk).1))
          case measure => simp [intOf]; omega
        · go_wp2_with (at_builtin; refine wpList_append_lies _ rfl (.tmp 24) (.tmp 27) 33 rfl w.heap.size 5 i0 (.int .u8 0) 1 1 Tryz.underlying33 hi hz0 hz1 hz2 rfl (by decide) u5 pre.length (bs pre) rfl (HW.out.alloc _) ⟨wr.heap.size, 0, none⟩ 1 1 (bs [2]) rfl rfl ?c1 (bs_one _) (by decide) ?c3 ?c4 ?c5 (wr.heap.size + 1) ?c6 ?_)
          case c1 => exact news_one wr _ 2 _ rfl
          case c3 => have h1 := HPL.out; have h2 := HL.out; unfold maxLen; omega
          case c4 => have h1 := HPL.out; have h2 := HL.out; omega
          case c5 => have h1 := HWS.out; simp; omega
          case c6 => simp
          intro g cap w2 hown2 hgrow2 hat2 _
          go_wp2
          go_roundw
          case rel => exact sputRel_next (q := 2) hlt HKL.out HX.out HPre.out hown2 ((HB.out.alloc HWS.out _).grown hgrow2 (by have h1 := HWS.out; simp; omega) (fun kk hk => (HW.out.lt kk hk).1))
          case measure => simp [intOf]; omega
      · have hkn : k = n := by omega
        subst hkn
        have HE : Hid (pre = Si.bytes l) := Lib.hid (by rw [HPre.out, HBytes.out, List.take_of_length_le (Nat.le_of_eq HL.out.1)])
        have hpp : 0 < pre.length := by rw [HPre.out, List.length_append]; have := HPos.out; omega
        obtain ⟨g, cap, cur, rfl, _, _, hG, hlen, htake⟩ := own_str HW.out hpp
        obtain ⟨v', w', hr2, hinv⟩ := append_bytes_at (c := cap) (ownsRow_below HO.out HB.out) (bytesAt_own hG hlen htake (by rw [HE.out]; exact Si.bytes_byte l)) (by intro e; cases e) (Nat.le_trans hbase HB.out.size) (by have h1 := HPL.out; omega)
        have HR := Lib.hid (hr2 33 rfl)
        have HF := Lib.hid (own_then HB.out hinv)
        clear hG hlen htake hr2 hinv hpp
        have hki : decide ((k : Int) < (k : Int)) = false := decide_eq_false (by omega)
        go_wp2_with (at_builtin; refine Lib.wpList_append_run _ rfl (.tmp 30) (.tmp 31) _ _ rfl _ _ rfl rfl _ _ HR.out ?_)
        go_ret
        exact ⟨_, rfl, HF.out.cast (by rw [HE.out]) (by rw [HE.out])⟩

set_option maxHeartbeats 2000000 in
set_option maxRecDepth 100000 in
theorem rsiput_any (a : Option Addr) (n c : Nat) (l : List Int) (w : World) (h : IntsAt w w.heap.size a n l) (hn : n ≤ 1048576) :
    Calls Tryz.prog 41 #[.slice a n c] w (NewPost (Si.bytes l) w) := by
  obtain ⟨i0, hi, hz0, hz1, hz2⟩ := info_parts info_u8
  have hl : l.length = n := h.1
  have HRt := rsiright_any a n c w.heap.size l (n : Int) w h (by omega)
  rw [show Si.right l (n : Int) = l.all Si.may by rw [← hl, Si.right_self]] at HRt
  have H := Lib.hid h
  clear h
  cases hr : l.all Si.may with
  | false =>
    rw [hr] at HRt
    rw [Si.bytes_bad hr]
    clear hr
    go_enter Tryz.func41, Tryz.ntmps41
    go_wp2_with (go_at_call 28; refine HRt.mono ?_; rintro _ w1 ⟨rfl, he⟩; obtain rfl := he.symm)
    go_ret
    exact ⟨_, rfl, World.ownsRow_nil _ _ _ _, Below.refl _ _⟩
  | true =>
    rw [hr] at HRt
    have HAll := Lib.hid hr
    have HBytes : Hid (Si.bytes l = Uv.put n ++ l.map Int.toNat) := Lib.hid (by rw [Si.bytes_ok hr, hl])
    have hpl := Uv.put_len_10 (n := n) (by omega)
    have HPt := Lib.hid (rput_any n w (by omega))
    generalize Uv.put n = pt at *
    have hwr : (n : Int) < 18446744073709551616 := by omega
    have HL : Hid (l.length = n ∧ pt.length ≤ 10 ∧ n ≤ 1048576) := Lib.hid ⟨hl, hpl, hn⟩
    clear hr hl hpl
    go_enter Tryz.func41, Tryz.ntmps41
    go_wp2_with (first
      | (go_at_call 28; refine HRt.mono ?_; rintro _ w1 ⟨rfl, he⟩; obtain rfl := he.symm)
      | (go_at_call 40; refine HPt.out.mono ?_; rintro _ w1 ⟨v1, rfl, hown1, hb1⟩))
    have HI := Lib.hid (And.intro hown1 hb1)
    clear hown1 hb1 HPt HRt
    go_loopw [3, 4] (fun u i wr => SputRel n l pt w u i wr) (fun _ i _ => n - (intOf i).toNat)
    case atStart => exact ⟨0, pt, Nat.zero_le _, rfl, by simp, HI.out.1, HI.out.2⟩
    case round =>
      obtain ⟨k, pre, hk, rfl, hpre, hO, hB⟩ := hrel
      have HW := Lib.hid hO
      have HB := Lib.hid hB
      have HPre := Lib.hid hpre
      have HPL : Hid (pre.length ≤ 10 + k) := Lib.hid (by rw [hpre, List.length_append]; have h1 := HL.out; simp; omega)
      clear hO hB hpre
      by_cases hlt : k < n
      · obtain ⟨b, off, x, rfl, _, hc, hx, hkl⟩ := ints_cell (H.out.below HB.out) hlt
        have hx12 := all_at HAll.out hkl
        rw [hx] at hx12
        have HWS := Lib.hid HB.out.size
        have HX := Lib.hid hx
        have HKL := Lib.hid hkl
        clear hx hkl
        rcases hx12 with rfl | rfl
        · go_wp2_with (at_builtin; refine wpList_append_lies _ rfl (.tmp 20) (.tmp 26) 33 rfl w.heap.size 5 i0 (.int .u8 0) 1 1 Tryz.underlying33 hi hz0 hz1 hz2 rfl (by decide) u3 pre.length (bs pre) rfl (HW.out.alloc _) ⟨wr.heap.size, 0, none⟩ 1 1 (bs [1]) rfl rfl ?c1 (bs_one _) (by decide) ?c3 ?c4 ?c5 (wr.heap.size + 1) ?c6 ?_)
          case c1 => exact news_one wr _ 1 _ rfl
          case c3 => have h1 := HPL.out; have h2 := HL.out; unfold maxLen; omega
          case c4 => have h1 := HPL.out; have h2 := HL.out; omega
          case c5 => have h1 := HWS.out; simp; omega
          case c6 => simp
          intro g cap w2 hown2 hgrow2 hat2 _
          go_wp2
          go_roundw
          case rel => exact sputRel_next (q := 1) hlt HKL.out HX.out HPre.out hown2 ((HB.out.alloc HWS.out _).grown hgrow2 (by have h1 := HWS.out; simp; omega) (fun kk hk => (HW.out.lt kk hk).1))
          case measure => simp [intOf]; omega
        · go_wp2_with (at_builtin; refine wpList_append_lies _ rfl (.tmp 20) (.tmp 26) 33 rfl w.heap.size 5 i0 (.int .u8 0) 1 1 Tryz.underlying33 hi hz0 hz1 hz2 rfl (by decide) u3 pre.length (bs pre) rfl (HW.out.alloc _) ⟨wr.heap.size, 0, none⟩ 1 1 (bs [2]) rfl rfl ?c1 (bs_one _) (by decide) ?c3 ?c4 ?c5 (wr.heap.size + 1) ?c6 ?_)
          case c1 => exact news_one wr _ 2 _ rfl
          case c3 => have h1 := HPL.out; have h2 := HL.out; unfold maxLen; omega
          case c4 => have h1 := HPL.out; have h2 := HL.out; omega
          case c5 => have h1 := HWS.out; simp; omega
          case c6 => simp
          intro g cap w2 hown2 hgrow2 hat2 _
          go_wp2
          go_roundw
          case rel => exact sputRel_next (q := 2) hlt HKL.out HX.out HPre.out hown2 ((HB.out.alloc HWS.out _).grown hgrow2 (by have h1 := HWS.out; simp; omega) (fun kk hk => (HW.out.lt kk hk).1))
          case measure => simp [intOf]; omega
      · have hkn : k = n := by omega
        subst hkn
        have HE : Hid (pre = Si.bytes l) := Lib.hid (by rw [HPre.out, HBytes.out, List.take_of_length_le (Nat.le_of_eq HL.out.1)])
        have hki : decide ((k : Int) < (k : Int)) = false := decide_eq_false (by omega)
        go_wp2
        go_ret
        have hf := HW.out
        rw [HE.out] at hf
        exact ⟨_, rfl, hf, HB.out⟩
end Go.Proofs.YtifkoihhlhadhaaGreatDoor

namespace Go.Proofs.YtifkoihhlhadhaaGreatDoor
open Go.RowKit Go.Shelf

attribute [local go_sem] Oper.semAt_some

/-- What a round must keep: what lay below n₀, and the row's box. -/
def KpIt (n₀ Bs : Nat) (W W' : World) : Prop := Below n₀ W W' ∧ W'.heap[Bs]? = W.heap[Bs]?
theorem KpIt.refl (n₀ Bs : Nat) (W : World) : KpIt n₀ Bs W W := ⟨Below.refl _ _, rfl⟩
theorem KpIt.trans {n₀ Bs : Nat} {A B C : World} (h : KpIt n₀ Bs A B) (k : KpIt n₀ Bs B C) : KpIt n₀ Bs A C := ⟨h.1.trans k.1, k.2.trans h.2⟩
theorem KpIt.drewN {n₀ Bs : Nat} {A B : World} (h : KpIt n₀ Bs A B) (q : Nat) : KpIt n₀ Bs A (B.drewN q) := ⟨⟨h.1.os, h.1.tape, h.1.output, h.1.size, h.1.block⟩, h.2⟩
theorem kpIt_b {n₀ Bs : Nat} {w : World} (hn : n₀ ≤ w.heap.size) (hB : Bs < w.heap.size) (W : World) (l : Nat) (o o' : Obj) (hl : w.heap.size ≤ l) (h : W.heap[l]? = some o) (h1 : o.isCells = false) (h2 : o.isWalk = false) : KpIt n₀ Bs W (W.putObj l o') :=
  ⟨belowK_b hn W l o o' hl h h1 h2, (grownBy_putObj' W l o').block Bs (by have := (Array.getElem?_eq_some_iff.1 h).1; omega) (by intro e; injection e with e; omega)⟩

/-- A run whose numbers are of their type. -/
abbrev RunT := { p : Int × Int // (0 ≤ p.1 ∧ p.1 ≤ 9223372036854775807) ∧ (-9223372036854775808 ≤ p.2 ∧ p.2 ≤ 9223372036854775807) }
def vals (pre : List RunT) : Ru.Runs := pre.map Subtype.val
theorem vals_length (pre : List RunT) : (vals pre).length = pre.length := by simp [vals]
theorem vals_snoc (pre : List RunT) (x : RunT) : vals (pre ++ [x]) = vals pre ++ [x.1] := by simp [vals]

/-- Between two rounds. -/
def ItRel (xs : List Int) (n₀ Bs : Nat) (W : World) (J : List RunT → World → Prop) (f i : Value) (wr : World) : Prop :=
  ∃ (k m : Nat) (y : Int) (pre : List RunT), k ≤ xs.length ∧ i = .int .i64 (k : Int) ∧ f = .int .i64 y ∧ y = (k : Int) - (m : Int) ∧ Ru.Part xs k (vals pre) m ∧ J pre wr ∧ KpIt n₀ Bs W wr

theorem abides_drewN {β : Type} {B : Nat} {J : β → World → Prop} (h : AbidesFrom B J) {s : β} {W : World} (hJ : J s W) (q : Nat) : J s (W.drewN q) :=
  h s W (W.drewN q) none hJ ⟨rfl, rfl, rfl, Nat.le_refl _, fun _ _ _ => rfl⟩ (fun r e => by cases e)

set_option maxRecDepth 100000 in
set_option maxHeartbeats 4000000 in
theorem alike1_in (n : Nat) (hn : 1 ≤ n) (l Bs n₀ : Nat) (a : Option Addr) (len cap : Nat) (xs : List Int) (hlen : len ≤ 9223372036854775807) (hz : ∀ z ∈ xs, -9223372036854775808 ≤ z ∧ z ≤ 9223372036854775807) (J Jx : List RunT → World → Prop) (B : Nat) (hJ : AbidesFrom B J)
    (hY : ∀ pre x W, J pre W → pre.length < xs.length → YieldAt Fence.wide (n - 1) Tryz.prog l #[.int .i64 x.1.1, .int .i64 x.1.2] W fun e W' =>
      (e = .returned (.bool true) ∧ J (pre ++ [x]) W' ∧ KpIt n₀ Bs W W') ∨ (e = .returned (.bool false) ∧ Jx (pre ++ [x]) W'))
    (W : World) (hB : Boxed W Bs 24 (.slice a len cap)) (hI : IntsAt W n₀ a len xs) (h0 : J [] W) :
    CallsIn Fence.wide n Tryz.prog 132 #[.func (.yield l) #[] #[], .pointer (some ⟨Bs, 0, none⟩)] W fun e W' => (∃ v, e = .returned v) ∧
      ((∃ ys, vals ys = Ru.of xs ∧ J ys W') ∨ (∃ pre, True ∧ Jx pre W')) := by
  have c0 := hB.cell
  have HB := Lib.hid hB
  have HI := Lib.hid hI
  have HY := Lib.hid hY
  have HJ := Lib.hid hJ
  have HZ := Lib.hid hz
  have hl := hI.1
  clear hB hY hI hJ hz
  refine callsIn_of_wp Tryz.func132 rfl trivial ?_ rfl
  simp only [Tryz.ntmps132, List.size_toArray, List.length_cons, List.length_nil, Nat.reduceAdd, Nat.reduceSub, Array.replicate_succ, Array.replicate_zero, List.push_toArray, List.append_toArray, List.nil_append, List.cons_append]
  gi_wp2
  gi_loopw [3, 8] (ItRel xs n₀ Bs W J) (fun _ i _ => len - (intOf i).toNat)
  case atStart => exact ⟨0, 0, 0, [], by omega, rfl, rfl, rfl, Ru.part_start xs, h0, KpIt.refl _ _ _⟩
  case round =>
    obtain ⟨k, m, y, pre, hk, rfl, rfl, hy, hP, hJr, hK⟩ := hrel
    have cr : wr.cell? ⟨Bs, 0, none⟩ = some (.slice a len cap) := Boxed.cell (t := 24) (hK.2.trans HB.out)
    have HK := Lib.hid hK
    have HP := Lib.hid hP
    have HJR := Lib.hid hJr
    have hmk := hP.1
    have hpl := hP.2.1
    rw [vals_length] at hpl
    have hy0 : 0 ≤ y := by omega
    have hyk : y ≤ (k : Int) := by omega
    have HYE := Lib.hid hy
    have HMK := Lib.hid hmk
    have HPL := Lib.hid hpl
    clear hK hP hJr hy hmk hpl
    by_cases hlt : k < len
    · obtain ⟨b, off, rfl, hlb, hc⟩ := (HI.out.below HK.out.1).2 (by omega)
      have hck := hc k hlt
      obtain ⟨x, hx⟩ : ∃ x, xs.getD k 0 = x := ⟨_, rfl⟩
      rw [hx] at hck
      have HX := Lib.hid hx
      have HXB : Hid (-9223372036854775808 ≤ x ∧ x ≤ 9223372036854775807) := Lib.hid (by
        have hkx : k < xs.length := by omega
        have e : xs.getD k 0 = xs[k] := by simp [List.getD, hkx]
        rw [← hx, e]
        exact HZ.out _ (List.getElem_mem hkx))
      clear hx
      by_cases h1 : k + 1 < len
      · have hck1 := hc (k + 1) h1
        obtain ⟨x1, hx1⟩ : ∃ x1, xs.getD (k + 1) 0 = x1 := ⟨_, rfl⟩
        rw [hx1] at hck1
        have HX1 := Lib.hid hx1
        have h1' : (k : Int) + 1 < (len : Int) := by omega
        clear hx1 hc
        by_cases he : x1 = x
        · subst he
          have HG := Lib.hid (Ru.part_go HP.out (by omega) (HX1.out.trans HX.out.symm))
          gi_wp2
          gi_quiet (fail)
          gi_wp2
          go_roundw
          case rel => exact ⟨k + 1, m + 1, y, pre, by omega, by go_num, rfl, by have := HYE.out; omega, HG.out, abides_drewN HJ.out HJR.out _, HK.out.drewN _⟩
          case measure => simp [intOf]; omega
        · have hd : (x1 == x) = false := by rw [beq_eq_false_iff_ne]; exact he
          have HG := Lib.hid (Ru.part_tell HP.out (by omega) (fun _ => by rw [HX1.out, HX.out]; exact he))
          gi_wp2
          gi_quiet (fail)
          have hJd := abides_drewN HJ.out HJR.out nq
          obtain ⟨fn, tmps, assign, body, hy, hR⟩ := HY.out pre ⟨((k : Int) + 1 - y, x), ⟨by simp only; omega, by simp only; omega⟩, HXB.out⟩ (wr.drewN nq) hJd (by have := HPL.out; omega)
          dsimp only at hy
          gi_wp2
          refine hR.mono ?_
          rintro e W3 (⟨rfl, hJ3, hk3⟩ | ⟨rfl, hJx3⟩)
          · have HG3 := Lib.hid (HG.out)
            rw [HX.out, show ((m : Int) + 1) = (k : Int) + 1 - y by have := HYE.out; omega] at HG3
            have HK3 := Lib.hid ((HK.out.drewN nq).trans hk3)
            clear hk3
            gi_wp2
            go_roundw
            case rel => exact ⟨k + 1, 0, (k : Int) + 1, _, by omega, by go_num, rfl, by omega, by rw [vals_snoc]; exact HG3.out, hJ3, HK3.out⟩
            case measure => simp [intOf]; omega
          · gi_wp2
            refine bodyPost_ret (results_none rfl _ _ _) rfl ?_
            exact ⟨⟨_, rfl⟩, .inr ⟨_, trivial, hJx3⟩⟩
      · clear hc
        have hd : decide ((k : Int) + 1 < (len : Int)) = false := decide_eq_false (by omega)
        have HG := Lib.hid (Ru.part_tell HP.out (by omega) (fun h => by omega))
        gi_wp2
        gi_quiet (fail)
        have hJd := abides_drewN HJ.out HJR.out nq
        obtain ⟨fn, tmps, assign, body, hy, hR⟩ := HY.out pre ⟨((k : Int) + 1 - y, x), ⟨by simp only; omega, by simp only; omega⟩, HXB.out⟩ (wr.drewN nq) hJd (by have := HPL.out; omega)
        dsimp only at hy
        gi_wp2
        refine hR.mono ?_
        rintro e W3 (⟨rfl, hJ3, hk3⟩ | ⟨rfl, hJx3⟩)
        · have HG3 := Lib.hid (HG.out)
          rw [HX.out, show ((m : Int) + 1) = (k : Int) + 1 - y by have := HYE.out; omega] at HG3
          have HK3 := Lib.hid ((HK.out.drewN nq).trans hk3)
          clear hk3
          gi_wp2
          go_roundw
          case rel => exact ⟨k + 1, 0, (k : Int) + 1, _, by omega, by go_num, rfl, by omega, by rw [vals_snoc]; exact HG3.out, hJ3, HK3.out⟩
          case measure => simp [intOf]; omega
        · gi_wp2
          refine bodyPost_ret (results_none rfl _ _ _) rfl ?_
          exact ⟨⟨_, rfl⟩, .inr ⟨_, trivial, hJx3⟩⟩
    · have h1 : ¬ (k : Int) < (len : Int) := by omega
      have HE := Lib.hid (HP.out.2.2.2 (by omega))
      gi_wp2
      go_end0
      exact ⟨⟨_, rfl⟩, .inl ⟨pre, HE.out, HJR.out⟩⟩

set_option maxHeartbeats 1000000 in
set_option maxRecDepth 100000 in
theorem alike_in (n : Nat) (a : Option Addr) (len cap : Nat) (w : World) :
    CallsIn Fence.wide n Tryz.prog 89 #[.slice a len cap] w fun e w' => e = .returned (.func (.func 132) #[] #[.pointer (some ⟨w.heap.size, 0, none⟩)]) ∧ w.alloc (.cells #[.slice a len cap] 24) = w' := by
  refine callsIn_of_wp Tryz.func89 rfl trivial ?_ rfl
  simp only [Tryz.ntmps89, List.size_toArray, List.length_cons, List.length_nil, Nat.reduceAdd, Nat.reduceSub, Array.replicate_succ, Array.replicate_zero, List.push_toArray, List.append_toArray, List.nil_append, List.cons_append]
  gi_wp2
  go_ret
  exact ⟨rfl, rfl⟩

set_option maxRecDepth 100000 in
theorem alike_stops (n : Nat) (hn : 1 ≤ n) (Bs n₀ : Nat) (a : Option Addr) (len cap : Nat) (xs : List Int) (hlen : len ≤ 9223372036854775807) (hz : ∀ z ∈ xs, -9223372036854775808 ≤ z ∧ z ≤ 9223372036854775807) (w : World) (hB : Boxed w Bs 24 (.slice a len cap)) (hI : IntsAt w n₀ a len xs) (hn₀ : n₀ ≤ w.heap.size) :
    SeqStopsK Fence.wide n Tryz.prog 132 #[.pointer (some ⟨Bs, 0, none⟩)] (fun x : RunT => #[Value.int .i64 x.1.1, Value.int .i64 x.1.2]) (KpIt n₀ Bs) (fun ys => vals ys = Ru.of xs) (fun _ => True) xs.length w :=
  fun l J Jx W hW hJ _ hY h0 => alike1_in n hn l Bs n₀ a len cap xs hlen hz J Jx W.heap.size hJ hY W ((hW.block Bs hB.lt).trans hB) (hI.below (hW.mono hn₀)) h0

end Go.Proofs.YtifkoihhlhadhaaGreatDoor

namespace Go.Proofs.YtifkoihhlhadhaaGreatDoor
open Go.RowKit Go.Shelf

attribute [local go_sem] Oper.semAt_some

theorem heap_box {W : World} {B : Nat} {t : TypeId} {v : Value} {W' : World} (h : Boxed W B t v) (h' : Boxed W' B t v) : W'.heap[B]? = W.heap[B]? := Eq.trans (show W'.heap[B]? = _ from h') (show W.heap[B]? = _ from h).symm
theorem boxed_far {W : World} {B B' : Nat} {t : TypeId} {v u : Value} (h : Boxed W B t v) (hne : B ≠ B') : Boxed (W.setCell ⟨B', 0, none⟩ u) B t v := h.kept (grownBy_setCell' W B' u) (by intro e; injection e with e; exact hne e)

end Go.Proofs.YtifkoihhlhadhaaGreatDoor

namespace Go.Proofs.YtifkoihhlhadhaaGreatDoor
open Go.RowKit Go.Shelf

attribute [local go_sem] Oper.semAt_some

theorem laid_snoc (pre : List RunT) (x : RunT) : Ru.laid (vals (pre ++ [x])) = Ru.laid (vals pre) ++ Uv.put x.1.1.toNat ++ Uv.put (Uv.fold x.1.2) := by
  rw [vals_snoc, Ru.laid_append, Ru.laid_one, List.append_assoc]
theorem laid_vals_len (pre : List RunT) : (Ru.laid (vals pre)).length ≤ 20 * pre.length := by
  have := Ru.laid_len (r := vals pre) (fun p hp => by
    obtain ⟨q, _, rfl⟩ := List.mem_map.1 hp
    exact ⟨q.2.1.1, q.2.1.2, q.2.2.1, q.2.2.2⟩)
  rwa [vals_length] at this

set_option maxRecDepth 100000 in
/-- Behind a call that puts more: the box, the row, what is kept. -/
theorem boxed_put {W w1 : World} {n₀ B : Nat} {t : TypeId} {v v' : Value} {k m : Nat} {xs ys : List Value}
    (hv : Boxed W B t v) (hte : t ≠ 5) (hrow : W.ownsRow n₀ 5 1 v k xs) (hn₀ : n₀ ≤ W.heap.size) (hB : n₀ ≤ B) (h : OwnInv n₀ W v v' m ys w1) :
    Boxed w1 B t v ∧ Boxed (w1.setCell ⟨B, 0, none⟩ v') B t v' ∧ (w1.setCell ⟨B, 0, none⟩ v').ownsRow n₀ 5 1 v' m ys ∧ KeepsOthers W (w1.setCell ⟨B, 0, none⟩ v') ∧ Below n₀ W (w1.setCell ⟨B, 0, none⟩ v') := by
  obtain ⟨hown', hgrow, _⟩ := h
  have hv1 : Boxed w1 B t v := hv.kept hgrow (hv.not_row hte hrow)
  refine ⟨hv1, hv1.set v', hown'.kept (grownBy_setCell' w1 B v') (.inr (hv1.not_row hte hown').symm), ?_, ?_⟩
  · refine (KeepsOthers.of_grownBy hgrow fun j o ej hj => ?_).trans (KeepsOthers.setCell _ _ _)
    rcases hrow.2 with ⟨rfl, _⟩ | ⟨g, cap, cur, rfl, _, hgb, _⟩
    · simp [Value.ownBlock] at ej
    · obtain rfl : g = j := by simpa [Value.ownBlock] using ej
      rw [hgb] at hj; cases hj; rfl
  · exact ((Below.refl n₀ W).grown hgrow hn₀ fun j ej => (hrow.lt j ej).1).setCell (p := ⟨B, 0, none⟩) hB v'

theorem wpListIn_append_run {F : Fence} {n : Nat} {P : Program} (w : World) {ops : Array Oper} {rest : List Oper} {o : Oper} {a : Act} {Q : Exit → Act → World → Prop} (hgd : o.guard = none) (s x : Operand) (t tn : TypeId)
    (ho : o.op = .call { callee := .builtin .append, args := #[s, x], argTypes := #[t, tn] }) (vs vx : Value) (hs : a.eval s = vs) (hx : a.eval x = vx)
    (v' : Value) (w' : World) (hr : (Builtin.append_ #[t, tn] o.type #[vs, vx]).run P w = .ok v' w') (h : wpListIn F n P ops Q rest (a.put o.dst v') w') : wpListIn F n P ops Q (o :: rest) a w := by
  refine wpListIn_plain hgd fun K hK' => ?_
  unfold Oper.wpIn
  refine ⟨?_, ?_⟩
  · simp [Oper.about, ho, resolve, Target.leads, Sem.run_pure]
  · rw [Oper.semAt_plain F _ _ (by rw [ho]; intro c hc'; cases hc')]
    simp [execOp, ho, resolve, invoke, builtin, hs, hx, hr, Result.andThen]
    exact hK' _ _ h

theorem grown_back {w W w' : World} {row : Option Nat} {D : Nat} {o : Obj} (hB : Below w.heap.size w W) (hg : W.grownBy w' row) (hD : w.heap.size ≤ D) : w.grownBy (w'.putObj D o) row := by
  have h2 := grownBy_putObj' w' D o
  refine ⟨h2.os.trans (hg.os.trans hB.os), h2.tape.trans (hg.tape.trans hB.tape), h2.output.trans (hg.output.trans hB.output), Nat.le_trans hB.size (Nat.le_trans hg.size h2.size), fun k hk hne => ?_⟩
  have hkW := Nat.lt_of_lt_of_le hk hB.size
  rw [h2.block k (Nat.lt_of_lt_of_le hkW hg.size) (by intro e; injection e with e; omega), hg.block k hkW hne, hB.block k hk]

set_option maxRecDepth 100000 in
set_option maxHeartbeats 4000000 in
theorem runsPut_own (base : Nat) (b : Value) (nb : Nat) (xs0 : List Value) (a : Option Addr) (len cap : Nat) (xs : List Int) (w : World) (hown : w.ownsRow base 5 1 b nb xs0) (hbase : base ≤ w.heap.size)
    (h : IntsAt w w.heap.size a len xs) (hlen : len ≤ 1000000) (hz : ∀ z ∈ xs, -9223372036854775808 ≤ z ∧ z ≤ 9223372036854775807) (hl : nb + (Ru.laid (Ru.of xs)).length ≤ 140737488355328) :
    Calls Tryz.prog 38 #[b, .slice a len cap] w (OwnPost base w b (nb + (Ru.laid (Ru.of xs)).length) (xs0 ++ bs (Ru.laid (Ru.of xs)))) := by
  have HI := Lib.hid h
  have hxl := h.1
  have HZ := Lib.hid hz
  have HO := Lib.hid hown
  have HL := Lib.hid hl
  clear h hz hown hl
  refine (callsIn_wide (n := 5)).1 ?_
  refine callsIn_of_wp_marks Tryz.func38 rfl trivial ?_ rfl
  simp only [Tryz.ntmps38, List.size_toArray, List.length_cons, List.length_nil, Nat.reduceAdd, Nat.reduceSub, Array.replicate_succ, Array.replicate_zero, List.push_toArray, List.append_toArray, List.nil_append, List.cons_append]
  gi_wp2_with (refine ⟨trivial, ?_⟩; gi_at_call 89; refine (alike_in _ _ _ _ _).mono ?_; rintro e w' ⟨rfl, rfl⟩)
  have bO := Boxed.new w 33 (.slice none 0 0)
  have bN := Boxed.new (w.alloc (.cells #[.slice none 0 0] 33)) 24 (.slice a len cap)
  rw [World.size_alloc] at bN
  have hB0 : Below w.heap.size w ((w.alloc (.cells #[.slice none 0 0] 33)).alloc (.cells #[.slice a len cap] 24)) := ((Below.refl _ w).alloc (Nat.le_refl _) _).alloc (by simp) _
  refine wpIn_rangeFunc_ownF rfl (by omega) (gf := 132) (lb := #[.pointer (some ⟨w.heap.size + 1, 0, none⟩)]) rfl trivial (enters_of Tryz.func132 (by kernel_rfl) rfl)
    (alike_stops _ (by omega) (w.heap.size + 1) w.heap.size a len cap xs (by omega) HZ.out _ bN (HI.out.below hB0) (by simp; omega)) KpIt.trans (kpIt_b (by simp; omega) (by simp)) (Below.refl _ _) (fun _ => rfl)
    (fun pre W => (∃ v, Boxed W w.heap.size 33 v ∧ W.ownsRow w.heap.size 5 1 v (Ru.laid (vals pre)).length (bs (Ru.laid (vals pre))) ∧ True) ∧ Boxed W (w.heap.size + 1) 24 (.slice a len cap) ∧ Below w.heap.size w W)
    (fun _ _ _ => False)
    (OwnFrom.and (Own.from (holdsRow_own w.heap.size w.heap.size 33 5 1 (fun pre : List RunT => (Ru.laid (vals pre)).length) (fun pre => bs (Ru.laid (vals pre))) (fun _ _ => True)) _) (OwnFrom.and (Own.from (boxed_own _ _ _) _) (ownFrom_below (Nat.le_refl _) (by simp; omega))))
    (fun _ _ _ _ _ hs _ _ => hs)
    ⟨⟨_, bO.alloc _, World.ownsRow_nil _ _ _ _, trivial⟩, bN, hB0⟩
    (fun x => { tmps := #[b, .slice a len cap, undef, undef, .slice none 0 0, .pointer (some ⟨w.heap.size, 0, none⟩), .int .i64 x.1.1, .int .i64 x.1.2, .slice a len cap, .func (.func 132) #[] #[.pointer (some ⟨w.heap.size + 1, 0, none⟩)], .int .i64 x.1.1, .int .i64 x.1.2, undef, undef, undef, undef, undef, undef, undef, undef, undef, undef], defers := [] }) ?assign ?body ?done ?stop
  case assign =>
    intro l x W K hK
    gi_wp2
    exact hK
  case body =>
    rintro l pre x W ⟨⟨v, hv, hrow, _⟩, hbx, hB⟩ hlt
    have HS := Lib.hid (laid_snoc pre x)
    have hpl := laid_vals_len pre
    obtain ⟨⟨x1, x2⟩, ⟨hx0, hx1⟩, hx2, hx3⟩ := x
    simp only at hx0 hx1 hx2 hx3 HS
    obtain ⟨m, rfl⟩ := Int.eq_ofNat_of_zero_le hx0
    have hm : m < 18446744073709551616 := by omega
    have hp10 := Uv.put_len_10 hm
    have hc := hv.cell
    generalize hL : Ru.laid (vals pre) = L at *
    clear hL
    simp only [Int.toNat_natCast] at HS
    have HPut := Lib.hid (put_own w.heap.size v L.length (bs L) m W hm hrow hB.size (by omega))
    have hwm : IntKind.u64.wrap (m : Int) = (m : Int) := by rw [IntKind.wrap_u64]; omega
    have HBX := Lib.hid hbx
    have HB := Lib.hid hB
    have HV := Lib.hid hv
    have HR := Lib.hid hrow
    clear hbx hB hv hrow
    have hpos := Uv.put_len_pos m
    have hf10 := Uv.put_len_10 (Uv.fold_lt hx2 hx3)
    have hpos2 := Uv.put_len_pos (Uv.fold x2)
    gi_wp2_with (refine ⟨trivial, ?_⟩; gi_at_call 32; refine (CallsIn.inRound l (callsIn_wide.2 HPut.out)).mono ?_; rintro e w1 ⟨v1, rfl, hinv1⟩; obtain ⟨g1, cap1, rfl, _, _⟩ := hinv1.1.form (by omega); obtain ⟨hv1, hv2, hr2, hk2, hb2⟩ := boxed_put HV.out (by decide) HR.out HB.out.size (Nat.le_refl _) hinv1; have hbx2 := boxed_far (u := .slice (some ⟨g1, 0, none⟩) (L.length + (Uv.put m).length) cap1) (HBX.out.kept hinv1.2.1 (HBX.out.not_row (by decide) HR.out)) (B' := w.heap.size) (by omega); have hc1 := hv1.cell; have hf1 := hv1.frozen; have HBX2 := Lib.hid hbx2; have HV2 := Lib.hid hv2; have HR2 := Lib.hid hr2; have HK2 := Lib.hid hk2; have HB2 := Lib.hid hb2; clear hv1 hv2 hr2 hk2 hb2 hbx2 hinv1 HPut)
    have hs2 := Nat.le_trans HB.out.size HB2.out.size
    have HPut2 := Lib.hid (putInt_own w.heap.size _ _ _ x2 _ hx2 hx3 HR2.out hs2 (by omega))
    have hc2 := HV2.out.cell
    gi_wp2_with (refine ⟨trivial, ?_⟩; gi_at_call 87; refine (CallsIn.inRound l (callsIn_wide.2 HPut2.out)).mono ?_; rintro e w2 ⟨v2, rfl, hinv2⟩; obtain ⟨g2, cap2, rfl, _, _⟩ := hinv2.1.form (by omega); obtain ⟨hv1, hv2, hr2, hk2, hb2⟩ := boxed_put HV2.out (by decide) HR2.out hs2 (Nat.le_refl _) hinv2; have hbx2 := boxed_far (u := .slice (some ⟨g2, 0, none⟩) (L.length + (Uv.put m).length + (Uv.put (Uv.fold x2)).length) cap2) (HBX2.out.kept hinv2.2.1 (HBX2.out.not_row (by decide) HR2.out)) (B' := w.heap.size) (by omega); have hc3 := hv1.cell; have hf3 := hv1.frozen; have HBX3 := Lib.hid hbx2; have HV3 := Lib.hid hv2; have HR3 := Lib.hid hr2; have HK3 := Lib.hid hk2; have HB3 := Lib.hid hb2; clear hv1 hv2 hr2 hk2 hb2 hbx2 hinv2 HPut2)
    refine ⟨HK2.out.trans HK3.out, ⟨HB2.out.trans HB3.out, heap_box HBX.out HBX3.out⟩, ⟨_, HV3.out, ?_, trivial⟩, HBX3.out, HB.out.trans (HB2.out.trans HB3.out)⟩
    rw [HS.out, List.length_append, List.length_append, bs_append, bs_append]
    exact HR3.out
  case done =>
    rintro D ys W hD hys ⟨⟨v, hv, hrow, _⟩, hbx, hB⟩ hK
    rw [hys] at hrow
    have hc := hv.cell
    have HB := Lib.hid hB
    have HR := Lib.hid hrow
    have HLB := Lib.hid (Ru.laid_byte (Ru.of xs))
    clear hbx hB hv hrow hys
    generalize Ru.laid (Ru.of xs) = L at *
    have hOb := ownsRow_below HO.out HB.out
    obtain ⟨A, c, rfl, hba, hcn⟩ : ∃ A c, v = .slice A L.length c ∧ BytesAt W W.heap.size A L.length L ∧ (A = none → c = 0) := by
      rcases HR.out.2 with ⟨rfl, h0⟩ | ⟨g, cap', cur, rfl, _, hg, _, _, _, ht⟩
      · have : L = [] := List.eq_nil_of_length_eq_zero (by simpa using h0)
        subst this
        exact ⟨none, 0, rfl, ⟨rfl, by simp, by simp⟩, fun _ => rfl⟩
      · exact ⟨_, cap', rfl, bytesAt_own (cur := cur) hg rfl (by simpa using ht) HLB.out, fun h => by cases h⟩
    obtain ⟨v', w', hrun, hown', hgr, hat⟩ := append_bytes_at (c := c) hOb hba hcn (Nat.le_trans hbase HB.out.size) HL.out
    have HAT := Lib.hid hat
    have HRUN := Lib.hid (hrun 33 rfl)
    have HOW := Lib.hid hown'
    have HGR := Lib.hid hgr
    clear hrun hown' hgr hba hcn hOb hat
    have HBL : Hid (∀ k, b.ownBlock = some k → k < w.heap.size) := Lib.hid (fun k hk => (HO.out.lt k hk).2)
    gi_wp2_with (gi_at_builtin; refine wpListIn_append_run _ rfl (.tmp 19) (.tmp 20) _ _ rfl _ _ rfl rfl _ _ HRUN.out ?_)
    have hDw : w.heap.size ≤ D := by simp at hD; omega
    have hK' : w'.heap[D]? = some (.deferred (some [])) := (HGR.out.block D (Array.getElem?_eq_some_iff.1 hK).1 (fun e => by have := HBL.out D e.symm; omega)).trans hK
    refine ⟨by simp, .inl ⟨_, _, rfl, run_takeDeferred hK', ?_⟩⟩
    exact ⟨_, results_tmp rfl _ _ _, v', rfl, ownsRow_putObj HOW.out _ hK' rfl, grown_back HB.out HGR.out hDw, HAT.out.imp id (fun ⟨g, h1, h2⟩ => ⟨g, h1, Nat.le_trans HB.out.size h2⟩)⟩
  case stop =>
    rintro D c pre W _ _ h _
    exact h.elim

end Go.Proofs.YtifkoihhlhadhaaGreatDoor

namespace Go.Proofs.YtifkoihhlhadhaaGreatDoor
open Go.RowKit

set_option maxRecDepth 100000 in
theorem liput_own (base : Nat) (b : Value) (nb : Nat) (xs0 : List Value) (a : Option Addr) (len cap : Nat) (xs : List Int) (w : World) (hown : w.ownsRow base 5 1 b nb xs0) (hbase : base ≤ w.heap.size)
    (h : IntsAt w w.heap.size a len xs) (hlen : len ≤ 1000000) (hz : ∀ z ∈ xs, -9223372036854775808 ≤ z ∧ z ≤ 9223372036854775807) (hl : nb + (Ru.laid (Ru.of xs)).length ≤ 140737488355328) :
    Calls Tryz.prog 36 #[b, .slice a len cap] w (OwnPost base w b (nb + (Ru.laid (Ru.of xs)).length) (xs0 ++ bs (Ru.laid (Ru.of xs)))) := by
  have H := Lib.hid (runsPut_own base b nb xs0 a len cap xs w hown hbase h hlen hz hl)
  clear hown h hz hl
  go_enter Tryz.func36, Tryz.ntmps36
  go_wp2_with (go_at_call 38; refine H.out.mono ?_; rintro _ w1 ⟨v, rfl, hinv⟩; have HV := Lib.hid hinv; clear hinv)
  go_ret
  exact ⟨v, rfl, HV.out⟩

end Go.Proofs.YtifkoihhlhadhaaGreatDoor
