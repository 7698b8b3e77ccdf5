/-
 What sig.Put and the document's Put lay. Conditions: the list can be read, at most a million types; the slice is the caller's own; lengths within the reach.
-/
import Derived.RangeFuncBox
import Derived.Sort.QuietIn
import Derived.Maps.AppendAt
import Derived.Lib.AppendStr
import Derived.Test.YtdopheoedpldiaaGreatDoorInRP
import Derived.Test.YtdopheoedpldiaaGreatDoorFnCanL
import Derived.Test.YtdopheoedpldiaaGreatDoorTrP
set_option maxRecDepth 100000
namespace Go.Proofs.YtdopheoedpldiaaGreatDoor
open Go.RowKit
theorem toNats_snoc {l : List Int} {k : Nat} (h : k < l.length) : (l.take (k + 1)).map Int.toNat = (l.take k).map Int.toNat ++ [(l.getD k 0).toNat] := by
 rw [take_snoc l k h, List.map_append]
 rfl
theorem all_at {l : List Int} (h : l.all Si.may = true) {k : Nat} (hk : k < l.length) : l.getD k 0 = 1 ∨ l.getD k 0 = 2 := by
 have e : l.getD k 0 = l[k] := by simp [List.getD, hk]
 rw [e]
 exact (Si.may_iff _).1 (List.all_eq_true.1 h _ (List.getElem_mem hk))
def SputRel (n : Nat) (l : List Int) (pt : List Nat) (w : World) (u i : Value) (wr : World) : Prop :=
 ∃ (k : Nat) (pre : List Nat), k ≤ n ∧ i = .int .i64 (k : Int) ∧ pre = pt ++ (l.take k).map Int.toNat ∧ wr.ownsRow w.heap.size 5 1 u pre.length (bs pre) ∧ Below w.heap.size w wr
theorem sputRel_next {n : Nat} {l : List Int} {pt pre : List Nat} {w w2 : World} {k q : Nat} {u : Value} (hlt : k < n) (hkl : k < l.length) (hq : l.getD k 0 = (q : Int)) (hp : pre = pt ++ (l.take k).map Int.toNat)
   (ho : w2.ownsRow w.heap.size 5 1 u (pre.length + 1) (bs pre ++ bs [q])) (hb : Below w.heap.size w w2) : SputRel n l pt w u (.int .i64 ((k : Int) + 1)) w2 := by
 refine ⟨k + 1, pre ++ [q], hlt, rfl, ?_, ?_, hb⟩
 · rw [hp, toNats_snoc hkl, hq, List.append_assoc]; rfl
 · rw [bs_append, List.length_append]; exact ho
set_option maxHeartbeats 2000000 in
theorem siput_own (base : Nat) (v : Value) (m : Nat) (xs : List Value) (a : Option Addr) (n c : Nat) (l : List Int) (w : World) (h : IntsAt w w.heap.size a n l) (hn : n ≤ 1048576) (hown : w.ownsRow base 5 1 v m xs) (hbase : base ≤ w.heap.size) (hm : m + n + 12 ≤ 140737488355328) :
   Calls Tryz.prog 44 #[v, .slice a n c] w (OwnPost base w v (m + (Si.bytes l).length) (xs ++ bs (Si.bytes l))) := by
 obtain ⟨i0, hi, hz0, hz1, hz2⟩ := info_parts info_u8
 have hl : l.length = n := h.1
 have HRt := siright_any a n c w.heap.size l (n : Int) w h (by omega)
 rw [show Si.right l (n : Int) = l.all Si.may by rw [← hl, Si.right_self]] at HRt
 have H := Lib.hid h
 have HO := Lib.hid hown
 clear h hown
 cases hr : l.all Si.may with
 | false =>
   rw [hr] at HRt
   rw [Si.bytes_bad hr]
   clear hr
   go_enter Tryz.func44, Tryz.ntmps44
   go_wp2_with (go_at_call 89; refine HRt.mono ?_; rintro _ w1 ⟨rfl, he⟩; obtain rfl := he.symm)
   go_ret
   exact ⟨_, rfl, (OwnInv.refl HO.out).cast rfl (by simp [bs])⟩
 | true =>
   rw [hr] at HRt
   have HAll := Lib.hid hr
   have HBytes : Hid (Si.bytes l = Uv.put n ++ l.map Int.toNat) := Lib.hid (by rw [Si.bytes_ok hr, hl])
   have hpl := Uv.put_len_10 (n := n) (by omega)
   have HPt := Lib.hid (put_own w.heap.size (.slice none 0 0) 0 [] n w (by omega) (World.ownsRow_nil _ _ _ _) (Nat.le_refl _) (by omega))
   have HPos := Lib.hid (Uv.put_len_pos n)
   generalize Uv.put n = pt at *
   have hwr : (n : Int) < 18446744073709551616 := by omega
   have HL : Hid (l.length = n ∧ pt.length ≤ 10 ∧ n ≤ 1048576) := Lib.hid ⟨hl, hpl, hn⟩
   clear hr hl hpl
   go_enter Tryz.func44, Tryz.ntmps44
   go_wp2_with (first
     | (go_at_call 89; refine HRt.mono ?_; rintro _ w1 ⟨rfl, he⟩; obtain rfl := he.symm)
     | (go_at_call 20; refine HPt.out.mono ?_; rintro _ w1 ⟨v1, rfl, hinv⟩))
   have HI := Lib.hid hinv
   clear hinv HPt HRt
   go_loopw [5, 7, 20] (fun u _ i wr => SputRel n l pt w u i wr) (fun _ _ i _ => n - (intOf i).toNat)
   case atStart =>
     refine ⟨0, pt, Nat.zero_le _, rfl, by simp, ?_, HI.out.below (World.ownsRow_nil _ _ _ _) (Nat.le_refl _)⟩
     have := HI.out.1
     simpa using this
   case round =>
     obtain ⟨k, pre, hk, rfl, hpre, hO, hB⟩ := hrel
     have HW := Lib.hid hO
     have HB := Lib.hid hB
     have HPre := Lib.hid hpre
     have HPL : Hid (pre.length ≤ 10 + k) := Lib.hid (by rw [hpre, List.length_append]; have h1 := HL.out; simp; omega)
     clear hO hB hpre
     by_cases hlt : k < n
     · obtain ⟨b, off, x, rfl, _, hc, hx, hkl⟩ := ints_cell (H.out.below HB.out) hlt
       have hx12 := all_at HAll.out hkl
       rw [hx] at hx12
       have HWS := Lib.hid HB.out.size
       have HX := Lib.hid hx
       have HKL := Lib.hid hkl
       clear hx hkl
       rcases hx12 with rfl | rfl
       · go_wp2_with (at_builtin; refine wpList_append_lies _ rfl (.tmp 24) (.tmp 27) 27 rfl w.heap.size 5 i0 (.int .u8 0) 1 1 Tryz.underlying27 hi hz0 hz1 hz2 rfl (by decide) u5 pre.length (bs pre) rfl (HW.out.alloc _) ⟨wr.heap.size, 0, none⟩ 1 1 (bs [1]) rfl rfl ?c1 (bs_one _) (by decide) ?c3 ?c4 ?c5 (wr.heap.size + 1) ?c6 ?_)
         case c1 => exact news_one wr _ 1 _ rfl
         case c3 => have h1 := HPL.out; have h2 := HL.out; unfold maxLen; omega
         case c4 => have h1 := HPL.out; have h2 := HL.out; omega
         case c5 => have h1 := HWS.out; simp; omega
         case c6 => simp
         intro g cap w2 hown2 hgrow2 hat2 _
         go_wp2
         go_roundw
         case rel => exact sputRel_next (q := 1) hlt HKL.out HX.out HPre.out hown2 ((HB.out.alloc HWS.out _).grown hgrow2 (by have h1 := HWS.out; simp; omega) (fun kk hk => (HW.out.lt kk hk).1))
         case measure => simp [intOf]; omega
       · go_wp2_with (at_builtin; refine wpList_append_lies _ rfl (.tmp 24) (.tmp 27) 27 rfl w.heap.size 5 i0 (.int .u8 0) 1 1 Tryz.underlying27 hi hz0 hz1 hz2 rfl (by decide) u5 pre.length (bs pre) rfl (HW.out.alloc _) ⟨wr.heap.size, 0, none⟩ 1 1 (bs [2]) rfl rfl ?c1 (bs_one _) (by decide) ?c3 ?c4 ?c5 (wr.heap.size + 1) ?c6 ?_)
         case c1 => exact news_one wr _ 2 _ rfl
         case c3 => have h1 := HPL.out; have h2 := HL.out; unfold maxLen; omega
         case c4 => have h1 := HPL.out; have h2 := HL.out; omega
         case c5 => have h1 := HWS.out; simp; omega
         case c6 => simp
         intro g cap w2 hown2 hgrow2 hat2 _
         go_wp2
         go_roundw
         case rel => exact sputRel_next (q := 2) hlt HKL.out HX.out HPre.out hown2 ((HB.out.alloc HWS.out _).grown hgrow2 (by have h1 := HWS.out; simp; omega) (fun kk hk => (HW.out.lt kk hk).1))
         case measure => simp [intOf]; omega
     · have hkn : k = n := by omega
       subst hkn
       have HE : Hid (pre = Si.bytes l) := Lib.hid (by rw [HPre.out, HBytes.out, List.take_of_length_le (Nat.le_of_eq HL.out.1)])
       have hpp : 0 < pre.length := by rw [HPre.out, List.length_append]; have := HPos.out; omega
       obtain ⟨g, cap, cur, rfl, _, _, hG, hlen, htake⟩ := own_str HW.out hpp
       obtain ⟨v', w', hr2, hinv⟩ := append_bytes_at (c := cap) (ownsRow_below HO.out HB.out) (bytesAt_own hG hlen htake (by rw [HE.out]; exact Si.bytes_byte l)) (by intro e; cases e) (Nat.le_trans hbase HB.out.size) (by have h1 := HPL.out; omega)
       have HR := Lib.hid (hr2 27 rfl)
       have HF := Lib.hid (own_then HB.out hinv)
       clear hG hlen htake hr2 hinv hpp
       have hki : decide ((k : Int) < (k : Int)) = false := decide_eq_false (by omega)
       go_wp2_with (at_builtin; refine Lib.wpList_append_run _ rfl (.tmp 30) (.tmp 31) _ _ rfl _ _ rfl rfl _ _ HR.out ?_)
       go_ret
       exact ⟨_, rfl, HF.out.cast (by rw [HE.out]) (by rw [HE.out])⟩
set_option maxHeartbeats 2000000 in
theorem rsiput_any (a : Option Addr) (n c : Nat) (l : List Int) (w : World) (h : IntsAt w w.heap.size a n l) (hn : n ≤ 1048576) :
   Calls Tryz.prog 52 #[.slice a n c] w (NewPost (Si.bytes l) w) := by
 obtain ⟨i0, hi, hz0, hz1, hz2⟩ := info_parts info_u8
 have hl : l.length = n := h.1
 have HRt := rsiright_any a n c w.heap.size l (n : Int) w h (by omega)
 rw [show Si.right l (n : Int) = l.all Si.may by rw [← hl, Si.right_self]] at HRt
 have H := Lib.hid h
 clear h
 cases hr : l.all Si.may with
 | false =>
   rw [hr] at HRt
   rw [Si.bytes_bad hr]
   clear hr
   go_enter Tryz.func52, Tryz.ntmps52
   go_wp2_with (go_at_call 61; refine HRt.mono ?_; rintro _ w1 ⟨rfl, he⟩; obtain rfl := he.symm)
   go_ret
   exact ⟨_, rfl, World.ownsRow_nil _ _ _ _, Below.refl _ _⟩
 | true =>
   rw [hr] at HRt
   have HAll := Lib.hid hr
   have HBytes : Hid (Si.bytes l = Uv.put n ++ l.map Int.toNat) := Lib.hid (by rw [Si.bytes_ok hr, hl])
   have hpl := Uv.put_len_10 (n := n) (by omega)
   have HPt := Lib.hid (rput_any n w (by omega))
   generalize Uv.put n = pt at *
   have hwr : (n : Int) < 18446744073709551616 := by omega
   have HL : Hid (l.length = n ∧ pt.length ≤ 10 ∧ n ≤ 1048576) := Lib.hid ⟨hl, hpl, hn⟩
   clear hr hl hpl
   go_enter Tryz.func52, Tryz.ntmps52
   go_wp2_with (first
     | (go_at_call 61; refine HRt.mono ?_; rintro _ w1 ⟨rfl, he⟩; obtain rfl := he.symm)
     | (go_at_call 22; refine HPt.out.mono ?_; rintro _ w1 ⟨v1, rfl, hown1, hb1⟩))
   have HI := Lib.hid (And.intro hown1 hb1)
   clear hown1 hb1 HPt HRt
   go_loopw [3, 4] (fun u i wr => SputRel n l pt w u i wr) (fun _ i _ => n - (intOf i).toNat)
   case atStart => exact ⟨0, pt, Nat.zero_le _, rfl, by simp, HI.out.1, HI.out.2⟩
   case round =>
     obtain ⟨k, pre, hk, rfl, hpre, hO, hB⟩ := hrel
     have HW := Lib.hid hO
     have HB := Lib.hid hB
     have HPre := Lib.hid hpre
     have HPL : Hid (pre.length ≤ 10 + k) := Lib.hid (by rw [hpre, List.length_append]; have h1 := HL.out; simp; omega)
     clear hO hB hpre
     by_cases hlt : k < n
     · obtain ⟨b, off, x, rfl, _, hc, hx, hkl⟩ := ints_cell (H.out.below HB.out) hlt
       have hx12 := all_at HAll.out hkl
       rw [hx] at hx12
       have HWS := Lib.hid HB.out.size
       have HX := Lib.hid hx
       have HKL := Lib.hid hkl
       clear hx hkl
       rcases hx12 with rfl | rfl
       · go_wp2_with (at_builtin; refine wpList_append_lies _ rfl (.tmp 20) (.tmp 26) 27 rfl w.heap.size 5 i0 (.int .u8 0) 1 1 Tryz.underlying27 hi hz0 hz1 hz2 rfl (by decide) u3 pre.length (bs pre) rfl (HW.out.alloc _) ⟨wr.heap.size, 0, none⟩ 1 1 (bs [1]) rfl rfl ?c1 (bs_one _) (by decide) ?c3 ?c4 ?c5 (wr.heap.size + 1) ?c6 ?_)
         case c1 => exact news_one wr _ 1 _ rfl
         case c3 => have h1 := HPL.out; have h2 := HL.out; unfold maxLen; omega
         case c4 => have h1 := HPL.out; have h2 := HL.out; omega
         case c5 => have h1 := HWS.out; simp; omega
         case c6 => simp
         intro g cap w2 hown2 hgrow2 hat2 _
         go_wp2
         go_roundw
         case rel => exact sputRel_next (q := 1) hlt HKL.out HX.out HPre.out hown2 ((HB.out.alloc HWS.out _).grown hgrow2 (by have h1 := HWS.out; simp; omega) (fun kk hk => (HW.out.lt kk hk).1))
         case measure => simp [intOf]; omega
       · go_wp2_with (at_builtin; refine wpList_append_lies _ rfl (.tmp 20) (.tmp 26) 27 rfl w.heap.size 5 i0 (.int .u8 0) 1 1 Tryz.underlying27 hi hz0 hz1 hz2 rfl (by decide) u3 pre.length (bs pre) rfl (HW.out.alloc _) ⟨wr.heap.size, 0, none⟩ 1 1 (bs [2]) rfl rfl ?c1 (bs_one _) (by decide) ?c3 ?c4 ?c5 (wr.heap.size + 1) ?c6 ?_)
         case c1 => exact news_one wr _ 2 _ rfl
         case c3 => have h1 := HPL.out; have h2 := HL.out; unfold maxLen; omega
         case c4 => have h1 := HPL.out; have h2 := HL.out; omega
         case c5 => have h1 := HWS.out; simp; omega
         case c6 => simp
         intro g cap w2 hown2 hgrow2 hat2 _
         go_wp2
         go_roundw
         case rel => exact sputRel_next (q := 2) hlt HKL.out HX.out HPre.out hown2 ((HB.out.alloc HWS.out _).grown hgrow2 (by have h1 := HWS.out; simp; omega) (fun kk hk => (HW.out.lt kk hk).1))
         case measure => simp [intOf]; omega
     · have hkn : k = n := by omega
       subst hkn
       have HE : Hid (pre = Si.bytes l) := Lib.hid (by rw [HPre.out, HBytes.out, List.take_of_length_le (Nat.le_of_eq HL.out.1)])
       have hki : decide ((k : Int) < (k : Int)) = false := decide_eq_false (by omega)
       go_wp2
       go_ret
       have hf := HW.out
       rw [HE.out] at hf
       exact ⟨_, rfl, hf, HB.out⟩
end Go.Proofs.YtdopheoedpldiaaGreatDoor
namespace Go.Proofs.YtdopheoedpldiaaGreatDoor
open Go.RowKit Go.Shelf
attribute [local go_sem] Oper.semAt_some
def KpIt (n₀ Bs : Nat) (W W' : World) : Prop := Below n₀ W W' ∧ W'.heap[Bs]? = W.heap[Bs]?
theorem KpIt.refl (n₀ Bs : Nat) (W : World) : KpIt n₀ Bs W W := ⟨Below.refl _ _, rfl⟩
theorem KpIt.trans {n₀ Bs : Nat} {A B C : World} (h : KpIt n₀ Bs A B) (k : KpIt n₀ Bs B C) : KpIt n₀ Bs A C := ⟨h.1.trans k.1, k.2.trans h.2⟩
theorem KpIt.drewN {n₀ Bs : Nat} {A B : World} (h : KpIt n₀ Bs A B) (q : Nat) : KpIt n₀ Bs A (B.drewN q) := ⟨⟨h.1.os, h.1.tape, h.1.output, h.1.size, h.1.block⟩, h.2⟩
theorem kpIt_b {n₀ Bs : Nat} {w : World} (hn : n₀ ≤ w.heap.size) (hB : Bs < w.heap.size) (W : World) (l : Nat) (o o' : Obj) (hl : w.heap.size ≤ l) (h : W.heap[l]? = some o) (h1 : o.isCells = false) (h2 : o.isWalk = false) : KpIt n₀ Bs W (W.putObj l o') :=
 ⟨belowK_b hn W l o o' hl h h1 h2, (grownBy_putObj' W l o').block Bs (by have := (Array.getElem?_eq_some_iff.1 h).1; omega) (by intro e; injection e with e; omega)⟩
abbrev RunT := { p : Int × Int // (0 ≤ p.1 ∧ p.1 ≤ 9223372036854775807) ∧ (-9223372036854775808 ≤ p.2 ∧ p.2 ≤ 9223372036854775807) }
def vals (pre : List RunT) : Ru.Runs := pre.map Subtype.val
theorem vals_length (pre : List RunT) : (vals pre).length = pre.length := by simp [vals]
theorem vals_snoc (pre : List RunT) (x : RunT) : vals (pre ++ [x]) = vals pre ++ [x.1] := by simp [vals]
def ItRel (xs : List Int) (n₀ Bs : Nat) (W : World) (J : List RunT → World → Prop) (f i : Value) (wr : World) : Prop :=
 ∃ (k m : Nat) (y : Int) (pre : List RunT), k ≤ xs.length ∧ i = .int .i64 (k : Int) ∧ f = .int .i64 y ∧ y = (k : Int) - (m : Int) ∧ Ru.Part xs k (vals pre) m ∧ J pre wr ∧ KpIt n₀ Bs W wr
theorem abides_drewN {β : Type} {B : Nat} {J : β → World → Prop} (h : AbidesFrom B J) {s : β} {W : World} (hJ : J s W) (q : Nat) : J s (W.drewN q) :=
 h s W (W.drewN q) none hJ ⟨rfl, rfl, rfl, Nat.le_refl _, fun _ _ _ => rfl⟩ (fun r e => by cases e)
set_option maxHeartbeats 4000000 in
theorem alike1_in (n : Nat) (hn : 1 ≤ n) (l Bs n₀ : Nat) (a : Option Addr) (len cap : Nat) (xs : List Int) (hlen : len ≤ 9223372036854775807) (hz : ∀ z ∈ xs, -9223372036854775808 ≤ z ∧ z ≤ 9223372036854775807) (J Jx : List RunT → World → Prop) (B : Nat) (hJ : AbidesFrom B J)
   (hY : ∀ pre x W, J pre W → pre.length < xs.length → YieldAt Fence.wide (n - 1) Tryz.prog l #[.int .i64 x.1.1, .int .i64 x.1.2] W fun e W' =>
     (e = .returned (.bool true) ∧ J (pre ++ [x]) W' ∧ KpIt n₀ Bs W W') ∨ (e = .returned (.bool false) ∧ Jx (pre ++ [x]) W'))
   (W : World) (hB : Boxed W Bs 39 (.slice a len cap)) (hI : IntsAt W n₀ a len xs) (h0 : J [] W) :
   CallsIn Fence.wide n Tryz.prog 127 #[.func (.yield l) #[] #[], .pointer (some ⟨Bs, 0, none⟩)] W fun e W' => (∃ v, e = .returned v) ∧
     ((∃ ys, vals ys = Ru.of xs ∧ J ys W') ∨ (∃ pre, True ∧ Jx pre W')) := by
 have c0 := hB.cell
 have HB := Lib.hid hB
 have HI := Lib.hid hI
 have HY := Lib.hid hY
 have HJ := Lib.hid hJ
 have HZ := Lib.hid hz
 have hl := hI.1
 clear hB hY hI hJ hz
 refine callsIn_of_wp Tryz.func127 rfl trivial ?_ rfl
 simp only [Tryz.ntmps127, List.size_toArray, List.length_cons, List.length_nil, Nat.reduceAdd, Nat.reduceSub, Array.replicate_succ, Array.replicate_zero, List.push_toArray, List.append_toArray, List.nil_append, List.cons_append]
 gi_wp2
 gi_loopw [3, 8] (ItRel xs n₀ Bs W J) (fun _ i _ => len - (intOf i).toNat)
 case atStart => exact ⟨0, 0, 0, [], by omega, rfl, rfl, rfl, Ru.part_start xs, h0, KpIt.refl _ _ _⟩
 case round =>
   obtain ⟨k, m, y, pre, hk, rfl, rfl, hy, hP, hJr, hK⟩ := hrel
   have cr : wr.cell? ⟨Bs, 0, none⟩ = some (.slice a len cap) := Boxed.cell (t := 39) (hK.2.trans HB.out)
   have HK := Lib.hid hK
   have HP := Lib.hid hP
   have HJR := Lib.hid hJr
   have hmk := hP.1
   have hpl := hP.2.1
   rw [vals_length] at hpl
   have hy0 : 0 ≤ y := by omega
   have hyk : y ≤ (k : Int) := by omega
   have HYE := Lib.hid hy
   have HMK := Lib.hid hmk
   have HPL := Lib.hid hpl
   clear hK hP hJr hy hmk hpl
   by_cases hlt : k < len
   · obtain ⟨b, off, rfl, hlb, hc⟩ := (HI.out.below HK.out.1).2 (by omega)
     have hck := hc k hlt
     obtain ⟨x, hx⟩ : ∃ x, xs.getD k 0 = x := ⟨_, rfl⟩
     rw [hx] at hck
     have HX := Lib.hid hx
     have HXB : Hid (-9223372036854775808 ≤ x ∧ x ≤ 9223372036854775807) := Lib.hid (by
       have hkx : k < xs.length := by omega
       have e : xs.getD k 0 = xs[k] := by simp [List.getD, hkx]
       rw [← hx, e]
       exact HZ.out _ (List.getElem_mem hkx))
     clear hx
     by_cases h1 : k + 1 < len
     · have hck1 := hc (k + 1) h1
       obtain ⟨x1, hx1⟩ : ∃ x1, xs.getD (k + 1) 0 = x1 := ⟨_, rfl⟩
       rw [hx1] at hck1
       have HX1 := Lib.hid hx1
       have h1' : (k : Int) + 1 < (len : Int) := by omega
       clear hx1 hc
       by_cases he : x1 = x
       · subst he
         have HG := Lib.hid (Ru.part_go HP.out (by omega) (HX1.out.trans HX.out.symm))
         gi_wp2
         gi_quiet (fail)
         gi_wp2
         go_roundw
         case rel => exact ⟨k + 1, m + 1, y, pre, by omega, by go_num, rfl, by have := HYE.out; omega, HG.out, abides_drewN HJ.out HJR.out _, HK.out.drewN _⟩
         case measure => simp [intOf]; omega
       · have hd : (x1 == x) = false := by rw [beq_eq_false_iff_ne]; exact he
         have HG := Lib.hid (Ru.part_tell HP.out (by omega) (fun _ => by rw [HX1.out, HX.out]; exact he))
         gi_wp2
         gi_quiet (fail)
         have hJd := abides_drewN HJ.out HJR.out nq
         obtain ⟨fn, tmps, assign, body, hy, hR⟩ := HY.out pre ⟨((k : Int) + 1 - y, x), ⟨by simp only; omega, by simp only; omega⟩, HXB.out⟩ (wr.drewN nq) hJd (by have := HPL.out; omega)
         dsimp only at hy
         gi_wp2
         refine hR.mono ?_
         rintro e W3 (⟨rfl, hJ3, hk3⟩ | ⟨rfl, hJx3⟩)
         · have HG3 := Lib.hid (HG.out)
           rw [HX.out, show ((m : Int) + 1) = (k : Int) + 1 - y by have := HYE.out; omega] at HG3
           have HK3 := Lib.hid ((HK.out.drewN nq).trans hk3)
           clear hk3
           gi_wp2
           go_roundw
           case rel => exact ⟨k + 1, 0, (k : Int) + 1, _, by omega, by go_num, rfl, by omega, by rw [vals_snoc]; exact HG3.out, hJ3, HK3.out⟩
           case measure => simp [intOf]; omega
         · gi_wp2
           refine bodyPost_ret (results_none rfl _ _ _) rfl ?_
           exact ⟨⟨_, rfl⟩, .inr ⟨_, trivial, hJx3⟩⟩
     · clear hc
       have hd : decide ((k : Int) + 1 < (len : Int)) = false := decide_eq_false (by omega)
       have HG := Lib.hid (Ru.part_tell HP.out (by omega) (fun h => by omega))
       gi_wp2
       gi_quiet (fail)
       have hJd := abides_drewN HJ.out HJR.out nq
       obtain ⟨fn, tmps, assign, body, hy, hR⟩ := HY.out pre ⟨((k : Int) + 1 - y, x), ⟨by simp only; omega, by simp only; omega⟩, HXB.out⟩ (wr.drewN nq) hJd (by have := HPL.out; omega)
       dsimp only at hy
       gi_wp2
       refine hR.mono ?_
       rintro e W3 (⟨rfl, hJ3, hk3⟩ | ⟨rfl, hJx3⟩)
       · have HG3 := Lib.hid (HG.out)
         rw [HX.out, show ((m : Int) + 1) = (k : Int) + 1 - y by have := HYE.out; omega] at HG3
         have HK3 := Lib.hid ((HK.out.drewN nq).trans hk3)
         clear hk3
         gi_wp2
         go_roundw
         case rel => exact ⟨k + 1, 0, (k : Int) + 1, _, by omega, by go_num, rfl, by omega, by rw [vals_snoc]; exact HG3.out, hJ3, HK3.out⟩
         case measure => simp [intOf]; omega
       · gi_wp2
         refine bodyPost_ret (results_none rfl _ _ _) rfl ?_
         exact ⟨⟨_, rfl⟩, .inr ⟨_, trivial, hJx3⟩⟩
   · have h1 : ¬ (k : Int) < (len : Int) := by omega
     have HE := Lib.hid (HP.out.2.2.2 (by omega))
     gi_wp2
     go_end0
     exact ⟨⟨_, rfl⟩, .inl ⟨pre, HE.out, HJR.out⟩⟩
set_option maxHeartbeats 1000000 in
theorem alike_in (n : Nat) (a : Option Addr) (len cap : Nat) (w : World) :
   CallsIn Fence.wide n Tryz.prog 94 #[.slice a len cap] w fun e w' => e = .returned (.func (.func 127) #[] #[.pointer (some ⟨w.heap.size, 0, none⟩)]) ∧ w.alloc (.cells #[.slice a len cap] 39) = w' := by
 refine callsIn_of_wp Tryz.func94 rfl trivial ?_ rfl
 simp only [Tryz.ntmps94, List.size_toArray, List.length_cons, List.length_nil, Nat.reduceAdd, Nat.reduceSub, Array.replicate_succ, Array.replicate_zero, List.push_toArray, List.append_toArray, List.nil_append, List.cons_append]
 gi_wp2
 go_ret
 exact ⟨rfl, rfl⟩
theorem alike_stops (n : Nat) (hn : 1 ≤ n) (Bs n₀ : Nat) (a : Option Addr) (len cap : Nat) (xs : List Int) (hlen : len ≤ 9223372036854775807) (hz : ∀ z ∈ xs, -9223372036854775808 ≤ z ∧ z ≤ 9223372036854775807) (w : World) (hB : Boxed w Bs 39 (.slice a len cap)) (hI : IntsAt w n₀ a len xs) (hn₀ : n₀ ≤ w.heap.size) :
   SeqStopsK Fence.wide n Tryz.prog 127 #[.pointer (some ⟨Bs, 0, none⟩)] (fun x : RunT => #[Value.int .i64 x.1.1, Value.int .i64 x.1.2]) (KpIt n₀ Bs) (fun ys => vals ys = Ru.of xs) (fun _ => True) xs.length w :=
 fun l J Jx W hW hJ _ hY h0 => alike1_in n hn l Bs n₀ a len cap xs hlen hz J Jx W.heap.size hJ hY W ((hW.block Bs hB.lt).trans hB) (hI.below (hW.mono hn₀)) h0
end Go.Proofs.YtdopheoedpldiaaGreatDoor
namespace Go.Proofs.YtdopheoedpldiaaGreatDoor
open Go.RowKit Go.Shelf
attribute [local go_sem] Oper.semAt_some
theorem heap_box {W : World} {B : Nat} {t : TypeId} {v : Value} {W' : World} (h : Boxed W B t v) (h' : Boxed W' B t v) : W'.heap[B]? = W.heap[B]? := Eq.trans (show W'.heap[B]? = _ from h') (show W.heap[B]? = _ from h).symm
theorem boxed_far {W : World} {B B' : Nat} {t : TypeId} {v u : Value} (h : Boxed W B t v) (hne : B ≠ B') : Boxed (W.setCell ⟨B', 0, none⟩ u) B t v := h.kept (grownBy_setCell' W B' u) (by intro e; injection e with e; exact hne e)
end Go.Proofs.YtdopheoedpldiaaGreatDoor
namespace Go.Proofs.YtdopheoedpldiaaGreatDoor
open Go.RowKit Go.Shelf
attribute [local go_sem] Oper.semAt_some
theorem laid_snoc (pre : List RunT) (x : RunT) : Ru.laid (vals (pre ++ [x])) = Ru.laid (vals pre) ++ Uv.put x.1.1.toNat ++ Uv.put (Uv.fold x.1.2) := by
 rw [vals_snoc, Ru.laid_append, Ru.laid_one, List.append_assoc]
theorem laid_vals_len (pre : List RunT) : (Ru.laid (vals pre)).length ≤ 20 * pre.length := by
 have := Ru.laid_len (r := vals pre) (fun p hp => by
   obtain ⟨q, _, rfl⟩ := List.mem_map.1 hp
   exact ⟨q.2.1.1, q.2.1.2, q.2.2.1, q.2.2.2⟩)
 rwa [vals_length] at this
theorem boxed_put {W w1 : World} {n₀ B : Nat} {t : TypeId} {v v' : Value} {k m : Nat} {xs ys : List Value}
   (hv : Boxed W B t v) (hte : t ≠ 5) (hrow : W.ownsRow n₀ 5 1 v k xs) (hn₀ : n₀ ≤ W.heap.size) (hB : n₀ ≤ B) (h : OwnInv n₀ W v v' m ys w1) :
   Boxed w1 B t v ∧ Boxed (w1.setCell ⟨B, 0, none⟩ v') B t v' ∧ (w1.setCell ⟨B, 0, none⟩ v').ownsRow n₀ 5 1 v' m ys ∧ KeepsOthers W (w1.setCell ⟨B, 0, none⟩ v') ∧ Below n₀ W (w1.setCell ⟨B, 0, none⟩ v') := by
 obtain ⟨hown', hgrow, _⟩ := h
 have hv1 : Boxed w1 B t v := hv.kept hgrow (hv.not_row hte hrow)
 refine ⟨hv1, hv1.set v', hown'.kept (grownBy_setCell' w1 B v') (.inr (hv1.not_row hte hown').symm), ?_, ?_⟩
 · refine (KeepsOthers.of_grownBy hgrow fun j o ej hj => ?_).trans (KeepsOthers.setCell _ _ _)
   rcases hrow.2 with ⟨rfl, _⟩ | ⟨g, cap, cur, rfl, _, hgb, _⟩
   · simp [Value.ownBlock] at ej
   · obtain rfl : g = j := by simpa [Value.ownBlock] using ej
     rw [hgb] at hj; cases hj; rfl
 · exact ((Below.refl n₀ W).grown hgrow hn₀ fun j ej => (hrow.lt j ej).1).setCell (p := ⟨B, 0, none⟩) hB v'
theorem wpListIn_append_run {F : Fence} {n : Nat} {P : Program} (w : World) {ops : Array Oper} {rest : List Oper} {o : Oper} {a : Act} {Q : Exit → Act → World → Prop} (hgd : o.guard = none) (s x : Operand) (t tn : TypeId)
   (ho : o.op = .call { callee := .builtin .append, args := #[s, x], argTypes := #[t, tn] }) (vs vx : Value) (hs : a.eval s = vs) (hx : a.eval x = vx)
   (v' : Value) (w' : World) (hr : (Builtin.append_ #[t, tn] o.type #[vs, vx]).run P w = .ok v' w') (h : wpListIn F n P ops Q rest (a.put o.dst v') w') : wpListIn F n P ops Q (o :: rest) a w := by
 refine wpListIn_plain hgd fun K hK' => ?_
 unfold Oper.wpIn
 refine ⟨?_, ?_⟩
 · simp [Oper.about, ho, resolve, Target.leads, Sem.run_pure]
 · rw [Oper.semAt_plain F _ _ (by rw [ho]; intro c hc'; cases hc')]
   simp [execOp, ho, resolve, invoke, builtin, hs, hx, hr, Result.andThen]
   exact hK' _ _ h
theorem grown_back {w W w' : World} {row : Option Nat} {D : Nat} {o : Obj} (hB : Below w.heap.size w W) (hg : W.grownBy w' row) (hD : w.heap.size ≤ D) : w.grownBy (w'.putObj D o) row := by
 have h2 := grownBy_putObj' w' D o
 refine ⟨h2.os.trans (hg.os.trans hB.os), h2.tape.trans (hg.tape.trans hB.tape), h2.output.trans (hg.output.trans hB.output), Nat.le_trans hB.size (Nat.le_trans hg.size h2.size), fun k hk hne => ?_⟩
 have hkW := Nat.lt_of_lt_of_le hk hB.size
 rw [h2.block k (Nat.lt_of_lt_of_le hkW hg.size) (by intro e; injection e with e; omega), hg.block k hkW hne, hB.block k hk]
set_option maxHeartbeats 4000000 in
theorem runsPut_own (base : Nat) (b : Value) (nb : Nat) (xs0 : List Value) (a : Option Addr) (len cap : Nat) (xs : List Int) (w : World) (hown : w.ownsRow base 5 1 b nb xs0) (hbase : base ≤ w.heap.size)
   (h : IntsAt w w.heap.size a len xs) (hlen : len ≤ 1000000) (hz : ∀ z ∈ xs, -9223372036854775808 ≤ z ∧ z ≤ 9223372036854775807) (hl : nb + (Ru.laid (Ru.of xs)).length ≤ 140737488355328) :
   Calls Tryz.prog 49 #[b, .slice a len cap] w (OwnPost base w b (nb + (Ru.laid (Ru.of xs)).length) (xs0 ++ bs (Ru.laid (Ru.of xs)))) := by
 have HI := Lib.hid h
 have hxl := h.1
 have HZ := Lib.hid hz
 have HO := Lib.hid hown
 have HL := Lib.hid hl
 clear h hz hown hl
 refine (callsIn_wide (n := 5)).1 ?_
 refine callsIn_of_wp_marks Tryz.func49 rfl trivial ?_ rfl
 simp only [Tryz.ntmps49, List.size_toArray, List.length_cons, List.length_nil, Nat.reduceAdd, Nat.reduceSub, Array.replicate_succ, Array.replicate_zero, List.push_toArray, List.append_toArray, List.nil_append, List.cons_append]
 gi_wp2_with (refine ⟨trivial, ?_⟩; gi_at_call 94; refine (alike_in _ _ _ _ _).mono ?_; rintro e w' ⟨rfl, rfl⟩)
 have bO := Boxed.new w 27 (.slice none 0 0)
 have bN := Boxed.new (w.alloc (.cells #[.slice none 0 0] 27)) 39 (.slice a len cap)
 rw [World.size_alloc] at bN
 have hB0 : Below w.heap.size w ((w.alloc (.cells #[.slice none 0 0] 27)).alloc (.cells #[.slice a len cap] 39)) := ((Below.refl _ w).alloc (Nat.le_refl _) _).alloc (by simp) _
 refine wpIn_rangeFunc_ownF rfl (by omega) (gf := 127) (lb := #[.pointer (some ⟨w.heap.size + 1, 0, none⟩)]) rfl trivial (enters_of Tryz.func127 (by kernel_rfl) rfl)
   (alike_stops _ (by omega) (w.heap.size + 1) w.heap.size a len cap xs (by omega) HZ.out _ bN (HI.out.below hB0) (by simp; omega)) KpIt.trans (kpIt_b (by simp; omega) (by simp)) (Below.refl _ _) (fun _ => rfl)
   (fun pre W => (∃ v, Boxed W w.heap.size 27 v ∧ W.ownsRow w.heap.size 5 1 v (Ru.laid (vals pre)).length (bs (Ru.laid (vals pre))) ∧ True) ∧ Boxed W (w.heap.size + 1) 39 (.slice a len cap) ∧ Below w.heap.size w W)
   (fun _ _ _ => False)
   (OwnFrom.and (Own.from (holdsRow_own w.heap.size w.heap.size 27 5 1 (fun pre : List RunT => (Ru.laid (vals pre)).length) (fun pre => bs (Ru.laid (vals pre))) (fun _ _ => True)) _) (OwnFrom.and (Own.from (boxed_own _ _ _) _) (ownFrom_below (Nat.le_refl _) (by simp; omega))))
   (fun _ _ _ _ _ hs _ _ => hs)
   ⟨⟨_, bO.alloc _, World.ownsRow_nil _ _ _ _, trivial⟩, bN, hB0⟩
   (fun x => { tmps := #[b, .slice a len cap, undef, undef, .slice none 0 0, .pointer (some ⟨w.heap.size, 0, none⟩), .int .i64 x.1.1, .int .i64 x.1.2, .slice a len cap, .func (.func 127) #[] #[.pointer (some ⟨w.heap.size + 1, 0, none⟩)], .int .i64 x.1.1, .int .i64 x.1.2, undef, undef, undef, undef, undef, undef, undef, undef, undef, undef], defers := [] }) ?assign ?body ?done ?stop
 case assign =>
   intro l x W K hK
   gi_wp2
   exact hK
 case body =>
   rintro l pre x W ⟨⟨v, hv, hrow, _⟩, hbx, hB⟩ hlt
   have HS := Lib.hid (laid_snoc pre x)
   have hpl := laid_vals_len pre
   obtain ⟨⟨x1, x2⟩, ⟨hx0, hx1⟩, hx2, hx3⟩ := x
   simp only at hx0 hx1 hx2 hx3 HS
   obtain ⟨m, rfl⟩ := Int.eq_ofNat_of_zero_le hx0
   have hm : m < 18446744073709551616 := by omega
   have hp10 := Uv.put_len_10 hm
   have hc := hv.cell
   generalize hL : Ru.laid (vals pre) = L at *
   clear hL
   simp only [Int.toNat_natCast] at HS
   have HPut := Lib.hid (put_own w.heap.size v L.length (bs L) m W hm hrow hB.size (by omega))
   have hwm : IntKind.u64.wrap (m : Int) = (m : Int) := by rw [IntKind.wrap_u64]; omega
   have HBX := Lib.hid hbx
   have HB := Lib.hid hB
   have HV := Lib.hid hv
   have HR := Lib.hid hrow
   clear hbx hB hv hrow
   have hpos := Uv.put_len_pos m
   have hf10 := Uv.put_len_10 (Uv.fold_lt hx2 hx3)
   have hpos2 := Uv.put_len_pos (Uv.fold x2)
   gi_wp2_with (refine ⟨trivial, ?_⟩; gi_at_call 20; refine (CallsIn.inRound l (callsIn_wide.2 HPut.out)).mono ?_; rintro e w1 ⟨v1, rfl, hinv1⟩; obtain ⟨g1, cap1, rfl, _, _⟩ := hinv1.1.form (by omega); obtain ⟨hv1, hv2, hr2, hk2, hb2⟩ := boxed_put HV.out (by decide) HR.out HB.out.size (Nat.le_refl _) hinv1; have hbx2 := boxed_far (u := .slice (some ⟨g1, 0, none⟩) (L.length + (Uv.put m).length) cap1) (HBX.out.kept hinv1.2.1 (HBX.out.not_row (by decide) HR.out)) (B' := w.heap.size) (by omega); have hc1 := hv1.cell; have hf1 := hv1.frozen; have HBX2 := Lib.hid hbx2; have HV2 := Lib.hid hv2; have HR2 := Lib.hid hr2; have HK2 := Lib.hid hk2; have HB2 := Lib.hid hb2; clear hv1 hv2 hr2 hk2 hb2 hbx2 hinv1 HPut)
   have hs2 := Nat.le_trans HB.out.size HB2.out.size
   have HPut2 := Lib.hid (putInt_own w.heap.size _ _ _ x2 _ hx2 hx3 HR2.out hs2 (by omega))
   have hc2 := HV2.out.cell
   gi_wp2_with (refine ⟨trivial, ?_⟩; gi_at_call 92; refine (CallsIn.inRound l (callsIn_wide.2 HPut2.out)).mono ?_; rintro e w2 ⟨v2, rfl, hinv2⟩; obtain ⟨g2, cap2, rfl, _, _⟩ := hinv2.1.form (by omega); obtain ⟨hv1, hv2, hr2, hk2, hb2⟩ := boxed_put HV2.out (by decide) HR2.out hs2 (Nat.le_refl _) hinv2; have hbx2 := boxed_far (u := .slice (some ⟨g2, 0, none⟩) (L.length + (Uv.put m).length + (Uv.put (Uv.fold x2)).length) cap2) (HBX2.out.kept hinv2.2.1 (HBX2.out.not_row (by decide) HR2.out)) (B' := w.heap.size) (by omega); have hc3 := hv1.cell; have hf3 := hv1.frozen; have HBX3 := Lib.hid hbx2; have HV3 := Lib.hid hv2; have HR3 := Lib.hid hr2; have HK3 := Lib.hid hk2; have HB3 := Lib.hid hb2; clear hv1 hv2 hr2 hk2 hb2 hbx2 hinv2 HPut2)
   refine ⟨HK2.out.trans HK3.out, ⟨HB2.out.trans HB3.out, heap_box HBX.out HBX3.out⟩, ⟨_, HV3.out, ?_, trivial⟩, HBX3.out, HB.out.trans (HB2.out.trans HB3.out)⟩
   rw [HS.out, List.length_append, List.length_append, bs_append, bs_append]
   exact HR3.out
 case done =>
   rintro D ys W hD hys ⟨⟨v, hv, hrow, _⟩, hbx, hB⟩ hK
   rw [hys] at hrow
   have hc := hv.cell
   have HB := Lib.hid hB
   have HR := Lib.hid hrow
   have HLB := Lib.hid (Ru.laid_byte (Ru.of xs))
   clear hbx hB hv hrow hys
   generalize Ru.laid (Ru.of xs) = L at *
   have hOb := ownsRow_below HO.out HB.out
   obtain ⟨A, c, rfl, hba, hcn⟩ : ∃ A c, v = .slice A L.length c ∧ BytesAt W W.heap.size A L.length L ∧ (A = none → c = 0) := by
     rcases HR.out.2 with ⟨rfl, h0⟩ | ⟨g, cap', cur, rfl, _, hg, _, _, _, ht⟩
     · have : L = [] := List.eq_nil_of_length_eq_zero (by simpa using h0)
       subst this
       exact ⟨none, 0, rfl, ⟨rfl, by simp, by simp⟩, fun _ => rfl⟩
     · exact ⟨_, cap', rfl, bytesAt_own (cur := cur) hg rfl (by simpa using ht) HLB.out, fun h => by cases h⟩
   obtain ⟨v', w', hrun, hown', hgr, hat⟩ := append_bytes_at (c := c) hOb hba hcn (Nat.le_trans hbase HB.out.size) HL.out
   have HAT := Lib.hid hat
   have HRUN := Lib.hid (hrun 27 rfl)
   have HOW := Lib.hid hown'
   have HGR := Lib.hid hgr
   clear hrun hown' hgr hba hcn hOb hat
   have HBL : Hid (∀ k, b.ownBlock = some k → k < w.heap.size) := Lib.hid (fun k hk => (HO.out.lt k hk).2)
   gi_wp2_with (gi_at_builtin; refine wpListIn_append_run _ rfl (.tmp 19) (.tmp 20) _ _ rfl _ _ rfl rfl _ _ HRUN.out ?_)
   have hDw : w.heap.size ≤ D := by simp at hD; omega
   have hK' : w'.heap[D]? = some (.deferred (some [])) := (HGR.out.block D (Array.getElem?_eq_some_iff.1 hK).1 (fun e => by have := HBL.out D e.symm; omega)).trans hK
   refine ⟨by simp, .inl ⟨_, _, rfl, run_takeDeferred hK', ?_⟩⟩
   exact ⟨_, results_tmp rfl _ _ _, v', rfl, ownsRow_putObj HOW.out _ hK' rfl, grown_back HB.out HGR.out hDw, HAT.out.imp id (fun ⟨g, h1, h2⟩ => ⟨g, h1, Nat.le_trans HB.out.size h2⟩)⟩
 case stop =>
   rintro D c pre W _ _ h _
   exact h.elim
end Go.Proofs.YtdopheoedpldiaaGreatDoor
namespace Go.Proofs.YtdopheoedpldiaaGreatDoor
open Go.RowKit
theorem liput_own (base : Nat) (b : Value) (nb : Nat) (xs0 : List Value) (a : Option Addr) (len cap : Nat) (xs : List Int) (w : World) (hown : w.ownsRow base 5 1 b nb xs0) (hbase : base ≤ w.heap.size)
   (h : IntsAt w w.heap.size a len xs) (hlen : len ≤ 1000000) (hz : ∀ z ∈ xs, -9223372036854775808 ≤ z ∧ z ≤ 9223372036854775807) (hl : nb + (Ru.laid (Ru.of xs)).length ≤ 140737488355328) :
   Calls Tryz.prog 46 #[b, .slice a len cap] w (OwnPost base w b (nb + (Ru.laid (Ru.of xs)).length) (xs0 ++ bs (Ru.laid (Ru.of xs)))) := by
 have H := Lib.hid (runsPut_own base b nb xs0 a len cap xs w hown hbase h hlen hz hl)
 clear hown h hz hl
 go_enter Tryz.func46, Tryz.ntmps46
 go_wp2_with (go_at_call 49; refine H.out.mono ?_; rintro _ w1 ⟨v, rfl, hinv⟩; have HV := Lib.hid hinv; clear hinv)
 go_ret
 exact ⟨v, rfl, HV.out⟩
end Go.Proofs.YtdopheoedpldiaaGreatDoor
namespace Go.Proofs.YtdopheoedpldiaaGreatDoor
open Go.RowKit
namespace Mp
open Sl (Four)
def wordsTo (s : Four) (i : Nat) : List Nat := (List.range i).flatMap fun j => Uv.put (s.word j)
theorem wordsTo_zero (s : Four) : wordsTo s 0 = [] := rfl
theorem wordsTo_succ (s : Four) (i : Nat) : wordsTo s (i + 1) = wordsTo s i ++ Uv.put (s.word i) := by
 unfold wordsTo
 rw [List.range_succ, List.flatMap_append]
 simp
theorem wordsTo_all (s : Four) : wordsTo s 4 = words s := by
 simp [wordsTo, words, List.range, List.range.loop, Four.word]
theorem wordsTo_len {s : Four} (h : s.ok) : ∀ i, (wordsTo s i).length ≤ 10 * i
 | 0 => Nat.le_refl _
 | i + 1 => by
   have h1 := wordsTo_len h i
   have h2 := Uv.put_len_10 (Sl.ok_word h i)
   rw [wordsTo_succ, List.length_append]
   omega
theorem laid_take {r : Runs} {k : Nat} (h : k < r.length) : laid (r.take (k + 1)) = laid (r.take k) ++ (Uv.put (r.getD k (0, Sl.no)).1 ++ words (r.getD k (0, Sl.no)).2) := by
 rw [List.take_succ_eq_append_getElem h, laid_append, laid_one]
 simp [List.getD, h, one]
theorem laid_at {r : Runs} {k N : Nat} {y : Four} (h : k < r.length) (hy : r.getD k (0, Sl.no) = (N, y)) : (N, y) ∈ r ∧ laid (r.take (k + 1)) = laid (r.take k) ++ (Uv.put N ++ words y) := by
 have e : r.getD k (0, Sl.no) = r[k] := by simp [List.getD, h]
 have e2 := laid_take h
 rw [hy] at e2
 exact ⟨by rw [← hy, e]; exact List.getElem_mem h, e2⟩
theorem laid_take_len {r : Runs} (h : ∀ p ∈ r, p.1 < 18446744073709551616 ∧ p.2.ok) (k : Nat) : (laid (r.take k)).length ≤ 50 * k := by
 have h1 := laid_len (r := r.take k) fun p hp => h p (List.mem_of_mem_take hp)
 have h2 : (r.take k).length ≤ k := by simp; omega
 omega
end Mp
theorem own_bytes {w : World} {base n : Nat} {v : Value} {l : List Nat} (h : w.ownsRow base 5 1 v n (bs l)) (hb : ∀ c ∈ l, c < 256) : ∃ A c, v = .slice A n c ∧ BytesAt w w.heap.size A n l ∧ (A = none → c = 0) := by
 have hl : l.length = n := by have := h.1; rw [bs_length] at this; omega
 rcases h.2 with ⟨rfl, h0⟩ | ⟨g, cap, cur, rfl, _, hg, hnc, hcm, _, ht⟩
 · subst h0
   obtain rfl : l = [] := List.eq_nil_of_length_eq_zero hl
   exact ⟨none, 0, rfl, ⟨rfl, by simp, by simp⟩, fun _ => rfl⟩
 · exact ⟨_, cap, rfl, bytesAt_own hg hl (by simpa using ht) hb, fun e => by cases e⟩
theorem word_at (s : Sl.Four) : ∀ i : Nat, i < 4 → ∀ w : World, (Instr.index 107 (.agg #[.int .u64 (s.a : Int), .int .u64 (s.b : Int), .int .u64 (s.c : Int), .int .u64 (s.d : Int)]) (.int .i64 (i : Int))).run Tryz.prog w = .ok (.int .u64 (s.word i : Int)) w := by
 intro i hi w
 rcases (show i = 0 ∨ i = 1 ∨ i = 2 ∨ i = 3 by omega) with rfl | rfl | rfl | rfl
 · exact idx0 _ _ _ _ w
 · exact idx1 _ _ _ _ w
 · exact idx2 _ _ _ _ w
 · exact idx3 _ _ _ _ w
def MptRel (r : Mp.Runs) (w : World) (u i : Value) (wr : World) : Prop :=
 ∃ (k : Nat) (pre : List Nat), k ≤ r.length ∧ i = .int .i64 (k : Int) ∧ pre = Mp.laid (r.take k) ∧ wr.ownsRow w.heap.size 5 1 u pre.length (bs pre) ∧ Below w.heap.size w wr
def MptIn (y : Sl.Four) (pre : List Nat) (w : World) (u j : Value) (wr : World) : Prop :=
 ∃ (i : Nat) (q : List Nat), i ≤ 4 ∧ j = .int .i64 (i : Int) ∧ q = pre ++ Mp.wordsTo y i ∧ wr.ownsRow w.heap.size 5 1 u q.length (bs q) ∧ Below w.heap.size w wr
set_option maxHeartbeats 8000000 in
theorem mpput_own (base : Nat) (v : Value) (m : Nat) (xs : List Value) (a : Option Addr) (n c : Nat) (l : List Sl.Four) (w : World) (h : SetsAt w w.heap.size a n l) (hn : n ≤ 4096) (ho : ∀ s ∈ l, s.ok) (hown : w.ownsRow base 5 1 v m xs) (hbase : base ≤ w.heap.size) (hm : m + 1000000 ≤ 140737488355328) :
   Calls Tryz.prog 50 #[v, .slice a n c] w (OwnPost base w v (m + (Mp.bytes l).length) (xs ++ bs (Mp.bytes l))) := by
 have HR := Lib.hid (mprunsof_any a n c l w h (by omega))
 have HF : Hid (∀ p ∈ Mp.of l, 1 ≤ p.1 ∧ p.1 ≤ n ∧ p.2.ok) := Lib.hid (by have := Mp.of_fits ho; rw [h.1] at this; exact this)
 have HF2 : Hid (∀ p ∈ Mp.of l, p.1 < 18446744073709551616 ∧ p.2.ok) := Lib.hid (fun p hp => ⟨by have := (HF.out p hp).2.1; omega, (HF.out p hp).2.2⟩)
 have HN : Hid ((Mp.of l).length ≤ n) := Lib.hid (by have := Mp.of_len l; rw [h.1] at this; exact this)
 have HBytes : Hid (Mp.bytes l = Mp.laid (Mp.of l)) := Lib.hid rfl
 have HByte := Lib.hid (Mp.bytes_byte l)
 have HO := Lib.hid hown
 have HMn := Lib.hid (And.intro hm hn)
 generalize Mp.of l = r at *
 clear h ho hown
 go_enter Tryz.func50, Tryz.ntmps50
 go_wp2_with (go_at_call 95; refine HR.out.mono ?_; rintro _ w1 ⟨A, c1, rfl, hA, _, hb1⟩; have HA := Lib.hid hA; have HB1 := Lib.hid hb1; clear hA hb1)
 have hrn : r.length ≤ 4096 := by have := HN.out; omega
 clear HR
 go_loopw [5, 13] (fun u i wr => MptRel r w1 u i wr) (fun _ i _ => r.length - (intOf i).toNat)
 case atStart => exact ⟨0, [], Nat.zero_le _, rfl, rfl, World.ownsRow_nil _ _ _ _, Below.refl _ _⟩
 case round =>
   obtain ⟨k, pre, hk, rfl, hpre, hO, hB⟩ := hrel
   have HW := Lib.hid hO
   have HB := Lib.hid hB
   have HPre := Lib.hid hpre
   have HPL : Hid (pre.length ≤ 50 * k) := Lib.hid (by rw [hpre]; exact Mp.laid_take_len HF2.out k)
   clear hO hB hpre
   by_cases hlt : k < r.length
   · obtain ⟨b, off, N, y, rfl, _, hy, hky, d0, d1, d2, d3, d4⟩ := set_runs_cell (HA.out.below HB.out) hlt
     have HY := Lib.hid (Mp.laid_at hky hy)
     have HF3 := Lib.hid (HF.out _ HY.out.1)
     dsimp only at HF3
     have hN1 : 1 ≤ N := HF3.out.1
     have hN2 : N ≤ 4096 := by have := HF3.out.2.1; have := HMn.out.2; omega
     have hnw : N < 18446744073709551616 := by omega
     have hoy : Hid y.ok := Lib.hid HF3.out.2.2
     have hsz := HB.out.size
     have HW1 := Lib.hid (HW.out.alloc (.cells #[.int .i64 (N : Int), .int .u64 (y.a : Int), .int .u64 (y.b : Int), .int .u64 (y.c : Int), .int .u64 (y.d : Int)] 120))
     have HB1' := Lib.hid (HB.out.alloc HB.out.size (.cells #[.int .i64 (N : Int), .int .u64 (y.a : Int), .int .u64 (y.b : Int), .int .u64 (y.c : Int), .int .u64 (y.d : Int)] 120))
     have HP1 := Lib.hid (put_own w1.heap.size u5 pre.length (bs pre) N _ hnw HW1.out HB1'.out.size (by have h1 := HPL.out; have h2 := HMn.out; omega))
     have HNe : Hid (u5.ownBlock ≠ some wr.heap.size) := Lib.hid (fun e => by have := (HW.out.lt _ e).2; omega)
     have HBx := Lib.hid (heap_alloc_new wr (.cells #[.int .i64 (N : Int), .int .u64 (y.a : Int), .int .u64 (y.b : Int), .int .u64 (y.c : Int), .int .u64 (y.d : Int)] 120))
     clear hy hky
     go_wp2_with (go_at_call 20; go_must (refine HP1.out.mono ?_; rintro _ w2 ⟨v2, rfl, hinv⟩; have HI := Lib.hid hinv; clear hinv; have hbx := (HI.out.2.1.block wr.heap.size (by simp) (Ne.symm HNe.out)).trans HBx.out; have x1 := cell_of_row _ _ 1 _ _ _ hbx; have x2 := cell_of_row _ _ 2 _ _ _ hbx; have x3 := cell_of_row _ _ 3 _ _ _ hbx; have x4 := cell_of_row _ _ 4 _ _ _ hbx; clear hbx))
     have HO0 := Lib.hid (show w2.ownsRow w1.heap.size 5 1 v2 (pre ++ Uv.put N).length (bs (pre ++ Uv.put N)) from by rw [List.length_append, bs_append]; exact HI.out.1)
     have HB0 := Lib.hid (HB1'.out.grown HI.out.2.1 HB1'.out.size (fun b e => (HW1.out.lt b e).1))
     have HPL0 : Hid ((pre ++ Uv.put N).length ≤ 50 * k + 10) := Lib.hid (by rw [List.length_append]; have h1 := HPL.out; have h2 := Uv.put_len_10 hnw; omega)
     obtain ⟨p2, hp2⟩ : ∃ p2, pre ++ Uv.put N = p2 := ⟨_, rfl⟩
     rw [hp2] at HO0 HPL0
     have HP2 := Lib.hid hp2
     clear hp2 d0 d1 d2 d3 d4 x1 x2 x3 x4
     have ix := word_at y
     go_loopw [5, 24] (fun u j W => MptIn y p2 w1 u j W) (fun _ j _ => 4 - (intOf j).toNat)
     case atStart => exact ⟨0, p2, by omega, rfl, by rw [Mp.wordsTo_zero, List.append_nil], HO0.out, HB0.out⟩
     case round =>
       obtain ⟨i, q, hi4, rfl, hq, hO3, hB3⟩ := hrel
       have HO3 := Lib.hid hO3
       have HB3 := Lib.hid hB3
       have HQ := Lib.hid hq
       have HQL : Hid (q.length ≤ 50 * k + 50) := Lib.hid (by rw [hq, List.length_append]; have h1 := HPL0.out; have h2 := Mp.wordsTo_len hoy.out i; omega)
       clear hO3 hB3 hq
       by_cases hi3 : i < 4
       · have HS := Lib.hid (Mp.wordsTo_succ y i)
         have hxw := Sl.ok_word hoy.out i
         have ixi := ix i hi3
         generalize y.word i = x at *
         have HC := Lib.hid (put_own w1.heap.size u5 q.length (bs q) x _ hxw HO3.out HB3.out.size (by have h1 := HQL.out; have h2 := HMn.out; omega))
         have hi64 : (i : Int) < 4 := by omega
         clear ix
         go_wp2_with (go_at_call 20; go_must (refine HC.out.mono ?_; rintro _ w3 ⟨v3, rfl, hinv⟩; have HI3 := Lib.hid hinv; clear hinv))
         go_roundw
         case rel => exact ⟨i + 1, q ++ Uv.put x, hi3, by go_num, by rw [HQ.out, HS.out, List.append_assoc], by rw [List.length_append, bs_append]; exact HI3.out.1, HB3.out.grown HI3.out.2.1 HB3.out.size (fun b e => (HO3.out.lt b e).1)⟩
         case measure => simp [intOf]; omega
       · obtain rfl : i = 4 := by omega
         have HE : Hid (q = Mp.laid (r.take (k + 1))) := Lib.hid (by rw [HQ.out, ← HP2.out, HPre.out, Mp.wordsTo_all, HY.out.2, List.append_assoc])
         clear ix
         go_wp2
         go_roundw
         case rel => exact ⟨k + 1, q, hlt, by go_num, HE.out, HO3.out, HB3.out⟩
         case measure => simp [intOf]; omega
   · obtain rfl : k = r.length := by omega
     have HE : Hid (pre = Mp.bytes l) := Lib.hid (by rw [HPre.out, HBytes.out, List.take_length])
     obtain ⟨A', c', rfl, hG, hnil⟩ := own_bytes HW.out (by rw [HE.out]; exact HByte.out)
     have hbw := HB1.out.trans (HB.out.mono HB1.out.size)
     obtain ⟨v', w', hr2, hinv⟩ := append_bytes_at (c := c') (ownsRow_below HO.out hbw) hG hnil (Nat.le_trans hbase hbw.size) (by have h1 := HPL.out; have h2 := HMn.out; have h3 := HN.out; omega)
     have HR := Lib.hid (hr2 27 rfl)
     have HFi := Lib.hid (own_then hbw hinv)
     have hki : decide ((r.length : Int) < (r.length : Int)) = false := decide_eq_false (by omega)
     clear hG hnil hr2 hinv hbw
     go_wp2_with (at_builtin; refine Lib.wpList_append_run _ rfl (.tmp 32) (.tmp 33) _ _ rfl _ _ rfl rfl _ _ HR.out ?_)
     go_ret
     exact ⟨_, rfl, HFi.out.cast (by rw [HE.out]) (by rw [HE.out])⟩
end Go.Proofs.YtdopheoedpldiaaGreatDoor
namespace Go.Proofs.YtdopheoedpldiaaGreatDoor
open Go.RowKit
theorem fnmarks_any (v : FnV) (f : Fn.F) (w0 w : World) (B : Nat) (h : FnOk w0 B v f) : Calls Tryz.prog 43 #[.agg v.cells] w fun e w' => e = .returned (.int .u8 (f.mark : Int)) ∧ Below w.heap.size w w' := by
 have hb0 := (Below.refl w.heap.size w).alloc (Nat.le_refl _) (.cells v.cells 43)
 have A1 := Lib.hid (FnAt.new w v)
 have HBa := Lib.hid (fun (W : World) => fnbare_ok h W)
 have HM : Hid (f.mark = (if v.inner then 1 else 0) + (if f.bare then 0 else 2)) := Lib.hid (by unfold Fn.F.mark; rw [h.inner])
 have HB := Lib.hid hb0
 obtain ⟨c0, c1, c2, c3, c4, c5, c6, c7, c8, c9, c10⟩ := A1.out.all
 clear hb0 h
 generalize f.mark = mk at *
 generalize f.bare = b at *
 obtain ⟨nm, inn, ⟨oa, on, oc⟩, ⟨pa, pn, pc⟩, ⟨ra, rn, rc⟩, ⟨la, ln, lc⟩, ⟨ca, cn, cc⟩, ⟨ia, i_n, ic⟩, ⟨na, nn, nc⟩, ⟨ta, tn, tc⟩, ⟨va, vn, vc⟩⟩ := v
 rcases Bool.eq_false_or_eq_true inn with h1 | h1 <;> rcases Bool.eq_false_or_eq_true b with h2 | h2
 · subst h1 h2
   have HE : Hid (mk = 1) := Lib.hid HM.out
   go_enter Tryz.func43, Tryz.ntmps43
   go_wp2_with (go_at_call 47; go_must (refine (HBa.out _).mono ?_; rintro _ w1 ⟨rfl, hb⟩; have HB1 := Lib.hid hb; clear hb))
   go_ret
   exact ⟨by rw [HE.out]; rfl, below_self HB.out HB1.out⟩
 · subst h1 h2
   have HE : Hid (mk = 3) := Lib.hid HM.out
   go_enter Tryz.func43, Tryz.ntmps43
   go_wp2_with (go_at_call 47; go_must (refine (HBa.out _).mono ?_; rintro _ w1 ⟨rfl, hb⟩; have HB1 := Lib.hid hb; clear hb))
   go_ret
   exact ⟨by rw [HE.out]; rfl, below_self HB.out HB1.out⟩
 · subst h1 h2
   have HE : Hid (mk = 0) := Lib.hid HM.out
   go_enter Tryz.func43, Tryz.ntmps43
   go_wp2_with (go_at_call 47; go_must (refine (HBa.out _).mono ?_; rintro _ w1 ⟨rfl, hb⟩; have HB1 := Lib.hid hb; clear hb))
   go_ret
   exact ⟨by rw [HE.out]; rfl, below_self HB.out HB1.out⟩
 · subst h1 h2
   have HE : Hid (mk = 2) := Lib.hid HM.out
   go_enter Tryz.func43, Tryz.ntmps43
   go_wp2_with (go_at_call 47; go_must (refine (HBa.out _).mono ?_; rintro _ w1 ⟨rfl, hb⟩; have HB1 := Lib.hid hb; clear hb))
   go_ret
   exact ⟨by rw [HE.out]; rfl, below_self HB.out HB1.out⟩
theorem Lies.grow {w0 W W' : World} {l m : List Nat} {u v : Value} (h : Lies w0 l u W) (ho : W'.ownsRow w0.heap.size 5 1 v (l.length + m.length) (bs l ++ bs m)) (hg : W.grownBy W' u.ownBlock) : Lies w0 (l ++ m) v W' := by
 refine ⟨?_, h.2.grown hg h.2.size (fun k hk => (h.1.lt k hk).1)⟩
 rw [List.length_append, bs_append]
 exact ho
theorem Lies.on {w0 W W' : World} {l : List Nat} {u : Value} (h : Lies w0 l u W) (hb : Below W.heap.size W W') : Lies w0 l u W' := ⟨ownsRow_below h.1 hb, h.2.trans (hb.mono h.2.size)⟩
theorem str_cells (s : ByteArray) : Lib.strCells s = bs (nats s) := by
 unfold Lib.strCells bs nats
 rw [List.map_map]
 rfl
theorem Lies.text {w0 W : World} {l : List Nat} {u : Value} (h : Lies w0 l u W) (s : ByteArray) (hl : l.length + s.size ≤ 140737488355328) :
   ∃ v W', (∀ ty, ty = 27 → (Builtin.append_ #[27, 9] ty #[u, .string s]).run Tryz.prog W = .ok v W') ∧ Lies w0 (l ++ nats s) v W' := by
 obtain ⟨i0, hi, hz0, hz1, hz2⟩ := info_parts info_u8
 obtain ⟨v, W', hr, ho, hg, _⟩ := Lib.run_append_own_string (P := Tryz.prog) W w0.heap.size 27 9 27 5 i0 Tryz.underlying27 Tryz.underlying9 hi hz0 hz1 hz2 u l.length (bs l) h.1 s (by unfold maxLen; omega) hl h.2.size
 refine ⟨v, W', fun ty hty => by rw [hty]; exact hr, h.grow ?_ hg⟩
 rw [nats_length, ← str_cells]
 exact ho
theorem bytes_new1 (w : World) (x : Nat) (h : x < 256) : BytesAt (w.alloc (.cells #[.int .u8 (x : Int)] 5)) (w.alloc (.cells #[.int .u8 (x : Int)] 5)).heap.size (some ⟨w.heap.size, 0, none⟩) 1 [x] := by
 refine ⟨rfl, fun c hc => by obtain rfl := List.mem_singleton.1 hc; exact h, fun _ => ⟨w.heap.size, 0, rfl, by simp, fun i hi => ?_⟩⟩
 obtain rfl : i = 0 := by omega
 exact cell_of_row _ _ 0 _ _ _ (heap_alloc_new w _)
theorem Lies.byte {w0 W : World} {l : List Nat} {u : Value} (h : Lies w0 l u W) (x : Nat) (hx : x < 256) (hl : l.length + 1 ≤ 140737488355328) :
   ∃ v W', (∀ ty, ty = 27 → (Builtin.append_ #[27, 27] ty #[u, .slice (some ⟨W.heap.size, 0, none⟩) 1 1]).run Tryz.prog (W.alloc (.cells #[.int .u8 (x : Int)] 5)) = .ok v W') ∧ Lies w0 (l ++ [x]) v W' := by
 have h1 : Lies w0 l u (W.alloc (.cells #[.int .u8 (x : Int)] 5)) := h.on ((Below.refl _ _).alloc (Nat.le_refl _) _)
 obtain ⟨v, W', hr, ho, hg⟩ := append_bytes (c := 1) h1.1 (bytes_new1 W x hx) (fun e => by cases e) h1.2.size hl
 exact ⟨v, W', hr, h1.grow ho hg⟩
set_option maxHeartbeats 16000000 in
theorem fnput_own (base : Nat) (b : Value) (m : Nat) (xs : List Value) (v : FnV) (f : Fn.F) (w : World) (h : FnOk w w.heap.size v f) (hl : v.Len) (hw : f.Wf) (hT : Tab w) (hg : 0 < w.heap.size) (hown : w.ownsRow base 5 1 b m xs) (hbase : base ≤ w.heap.size) (hm : m + 1000000 ≤ 140737488355328) :
   Calls Tryz.prog 21 #[b, .agg v.cells] w (OwnPost base w b (m + f.bytes.length) (xs ++ bs f.bytes)) := by
 have hb0 := (Below.refl w.heap.size w).alloc (Nat.le_refl _) (.cells v.cells 43)
 have A1 := Lib.hid (FnAt.new w v)
 have O1 := Lib.hid (h.on hb0)
 have B1 := Lib.hid hb0
 have HCan := fncan_any v f _ (h.on hb0) hl hw (tab_below hT hb0 hg) (Nat.lt_of_lt_of_le hg hb0.size)
 have HOw := Lib.hid hown
 obtain ⟨c0, c1, c2, c3, c4, c5, c6, c7, c8, c9, c10⟩ := A1.out.all
 clear hb0 hT hg hown
 by_cases hc : f.can = 0
 rotate_left
 · have HE : Hid (f.bytes = []) := Lib.hid (by unfold Fn.F.bytes; rw [if_neg hc])
   have hd : ((f.can : Int) != 0) = true := bne_iff_ne.2 (by omega)
   clear h hl hw O1
   obtain ⟨nm, inn, ⟨oa, on, oc⟩, ⟨pa, pn, pc⟩, ⟨ra, rn, rc⟩, ⟨la, ln, lc⟩, ⟨ca, cn, cc⟩, ⟨ia, i_n, ic⟩, ⟨na, nn, nc⟩, ⟨ta, tn, tc⟩, ⟨va, vn, vc⟩⟩ := v
   go_enter Tryz.func21, Tryz.ntmps21
   go_wp2_with (go_at_call 42; go_must (refine HCan.mono ?_; rintro _ w2 ⟨rfl, hb2⟩; have B2 := Lib.hid (B1.out.trans (hb2.mono B1.out.size)); clear hb2))
   go_ret
   rw [HE.out]
   refine ⟨b, rfl, ?_⟩
   have := own_later HOw.out B2.out
   simpa [bs] using this
 rw [hc] at HCan
 have HP := Lib.hid (Fn.parts_len hc hw)
 have HN : Hid (v.outer.n ≤ 4 ∧ v.params.n ≤ 8 ∧ v.results.n ≤ 4 ∧ v.locals.n ≤ 256) := Lib.hid (by
   have := Fn.can_len hc
   rw [h.n_outer, h.n_params, h.n_results, h.n_locals] at this
   exact ⟨this.2.1, this.2.2.1, this.2.2.2.1, this.2.2.2.2.1⟩)
 have hcn : v.code.n ≤ 2000 := by rw [← h.n_code]; exact (Fn.can_len hc).2.2.2.2.2.2.2.1
 have hns : v.name.size ≤ 12 := by rw [h.name]; exact (Fn.can_len hc).1
 have HB4 : Hid (f.l4.length ≤ 100000 ∧ f.l5.length ≤ 100000 ∧ f.l6.length ≤ 100000 ∧ f.l7.length ≤ 100000 ∧ f.l8.length ≤ 100000 ∧ f.l9.length ≤ 100000 ∧ f.l3.length ≤ 100000) := Lib.hid (by
   have h9 := Fn.l9_len hc hw
   unfold Fn.F.l9 at h9 ⊢
   unfold Fn.F.l8 at h9 ⊢
   unfold Fn.F.l7 at h9 ⊢
   unfold Fn.F.l6 at h9 ⊢
   unfold Fn.F.l5 at h9 ⊢
   unfold Fn.F.l4 at h9 ⊢
   simp only [List.length_append] at h9 ⊢
   omega)
 have HTb := Lib.hid (fun hb => Fn.tables_len hc hb hw)
 have HLd := Lib.hid (Fn.laid_len hc hw)
 have HBy : Hid (f.bytes = f.laid) := Lib.hid (by unfold Fn.F.bytes; rw [if_pos hc])
 have HWf := Lib.hid hw
 have HMk := Lib.hid (fun (W : World) => fnmarks_any v f _ W _ h)
 have HBa := Lib.hid (fun (W : World) => fnbare_ok h W)
 have HLi : Hid (f.lines.length ≤ 2000) := Lib.hid (by have := Fn.can_len hc; omega)
 have HTl : Hid (f.bare = false → f.nodes.length ≤ 120 ∧ f.at_.length ≤ 2000 ∧ f.live.length ≤ 2000) := Lib.hid (fun hb => by have h1 := Fn.can_len hc; have h2 := h1.2.2.2.2.2.2.2.2.2 hb; omega)
 have hni : v.name = f.name ∧ v.inner = f.inner := ⟨h.name, h.inner⟩
 have HNI := Lib.hid hni
 clear h hl hw hni
 obtain ⟨nm, inn, ⟨oa, on, oc⟩, ⟨pa, pn, pc⟩, ⟨ra, rn, rc⟩, ⟨la, ln, lc⟩, ⟨ca, cn, cc⟩, ⟨ia, i_n, ic⟩, ⟨na, nn, nc⟩, ⟨ta, tn, tc⟩, ⟨va, vn, vc⟩⟩ := v
 simp only at hcn hns HN HNI
 go_enter Tryz.func21, Tryz.ntmps21
 go_wp2_with (go_at_call 42; go_must (refine HCan.mono ?_; rintro _ W0 ⟨rfl, hb2⟩; refine Hid.out ?_))
 have A0 := Lib.hid (A1.out.on hb2)
 have O0 := Lib.hid (O1.out.on hb2)
 have B0 := Lib.hid (B1.out.trans (hb2.mono B1.out.size))
 clear c0 c1 c2 c3 c4 c5 c6 c7 c8 c9 c10
 obtain ⟨c0, c1, c2, c3, c4, c5, c6, c7, c8, c9, c10⟩ := A0.out.all
 clear hb2 A1 O1 B1 HCan
 have L0 := Lib.hid (Lies.nil W0)
 refine Lib.hid ?_
 go_wp2_with (go_at_call 20; go_must (refine (put_own W0.heap.size _ _ _ nm.size _ (by omega) L0.out.1 L0.out.2.size (by simp)).mono ?_; rintro _ w1 ⟨u1, rfl, hinv⟩; refine Hid.out ?_))
 have L1 := Lib.hid (L0.out.put hinv)
 clear hinv
 clear c0 c1 c2 c3 c4 c5 c6 c7 c8 c9 c10
 have A1 := Lib.hid (A0.out.on L1.out.2)
 have O1 := Lib.hid (O0.out.on L1.out.2)
 obtain ⟨c0, c1, c2, c3, c4, c5, c6, c7, c8, c9, c10⟩ := A1.out.all
 have h1l : (Uv.put nm.size).length ≤ 10 := Uv.put_len_10 (by omega)
 obtain ⟨u2, w2, r2, h2⟩ := L1.out.text nm (by simp; omega)
 have HR2 := Lib.hid (r2 27 rfl)
 have L2 := Lib.hid h2
 clear r2 h2
 have HMw := Lib.hid (HMk.out w2)
 have A2 := Lib.hid (A0.out.on L2.out.2)
 have O2 := Lib.hid (O0.out.on L2.out.2)
 obtain ⟨c0, c1, c2, c3, c4, c5, c6, c7, c8, c9, c10⟩ := A2.out.all
 refine Lib.hid ?_
 go_wp2_with (first
   | (at_builtin; refine Lib.wpList_append_run _ rfl (.tmp 17) (.tmp 19) _ _ rfl _ _ rfl rfl _ _ HR2.out ?_)
   | (go_at_call 43; go_must (refine HMw.out.mono ?_; rintro _ w2b ⟨rfl, hb⟩; refine Hid.out ?_)))
 have L2b := Lib.hid (L2.out.on hb)
 clear hb
 obtain ⟨u3, w3, r3, h3⟩ := L2b.out.byte f.mark (by have := Fn.mark_lt f; omega) (by simp [nats_length]; omega)
 have HR3 := Lib.hid (r3 27 rfl)
 have L3 : Hid (Lies W0 f.l2 u3 w3) := Lib.hid (by unfold Fn.F.l2; rw [← HNI.out.1]; exact h3)
 clear r3 h3
 have HLen3 : Hid ((f.l2).length ≤ 200000) := Lib.hid (by have := HP.out.1; omega)
 clear c0 c1 c2 c3 c4 c5 c6 c7 c8 c9 c10
 have A3 := Lib.hid (A0.out.on L3.out.2)
 have O3 := Lib.hid (O0.out.on L3.out.2)
 obtain ⟨c0, c1, c2, c3, c4, c5, c6, c7, c8, c9, c10⟩ := A3.out.all
 cases inn with
 | true =>
   have H3 : Hid (f.l3 = f.l2 ++ Si.bytes f.outer) := Lib.hid (by unfold Fn.F.l3; rw [← HNI.out.2]; rfl)
   refine Lib.hid ?_
   go_wp2_with (first
     | (at_builtin; refine Lib.wpList_append_run _ rfl (.tmp 21) (.tmp 24) _ _ rfl _ _ rfl rfl _ _ HR3.out ?_)
     | (go_at_call 44; go_must (refine (siput_own W0.heap.size _ _ _ oa on oc f.outer _ O3.out.outer.1 (by have := HN.out; omega) L3.out.1 L3.out.2.size (by have := HLen3.out; have := HN.out; omega)).mono ?_; rintro _ w33 ⟨u33, rfl, hinv⟩; refine Hid.out ?_)))
   have L33 := Lib.hid (L3.out.put hinv)
   clear hinv
   clear c0 c1 c2 c3 c4 c5 c6 c7 c8 c9 c10
   have A33 := Lib.hid (A0.out.on L33.out.2)
   have O33 := Lib.hid (O0.out.on L33.out.2)
   obtain ⟨c0, c1, c2, c3, c4, c5, c6, c7, c8, c9, c10⟩ := A33.out.all
   have L33' : Hid (Lies W0 f.l3 u33 w33) := Lib.hid (by rw [H3.out]; exact L33.out)
   clear L33
   have L33 := L33'
   clear L33'
   have HLen33 : Hid ((f.l3).length ≤ 200000) := Lib.hid (by have := HB4.out; omega)
   refine Lib.hid ?_
   go_wp2_with (go_at_call 44; go_must (refine (siput_own W0.heap.size _ _ _ pa pn pc f.params _ O33.out.params.1 (by have := HN.out; omega) L33.out.1 L33.out.2.size (by have := HLen33.out; have := HN.out; omega)).mono ?_; rintro _ w4 ⟨u4, rfl, hinv⟩; refine Hid.out ?_))
   have L4 := Lib.hid (L33.out.put hinv)
   clear hinv
   clear c0 c1 c2 c3 c4 c5 c6 c7 c8 c9 c10
   have A4 := Lib.hid (A0.out.on L4.out.2)
   have O4 := Lib.hid (O0.out.on L4.out.2)
   obtain ⟨c0, c1, c2, c3, c4, c5, c6, c7, c8, c9, c10⟩ := A4.out.all
   have L4' : Hid (Lies W0 f.l4 u4 w4) := Lib.hid (L4.out)
   clear L4
   have L4 := L4'
   clear L4'
   have HLen4 : Hid ((f.l4).length ≤ 200000) := Lib.hid (by have := HB4.out; omega)
   refine Lib.hid ?_
   go_wp2_with (go_at_call 44; go_must (refine (siput_own W0.heap.size _ _ _ ra rn rc f.results _ O4.out.results.1 (by have := HN.out; omega) L4.out.1 L4.out.2.size (by have := HLen4.out; have := HN.out; omega)).mono ?_; rintro _ w5 ⟨u5, rfl, hinv⟩; refine Hid.out ?_))
   have L5 := Lib.hid (L4.out.put hinv)
   clear hinv
   clear c0 c1 c2 c3 c4 c5 c6 c7 c8 c9 c10
   have A5 := Lib.hid (A0.out.on L5.out.2)
   have O5 := Lib.hid (O0.out.on L5.out.2)
   obtain ⟨c0, c1, c2, c3, c4, c5, c6, c7, c8, c9, c10⟩ := A5.out.all
   have L5' : Hid (Lies W0 f.l5 u5 w5) := Lib.hid (L5.out)
   clear L5
   have L5 := L5'
   clear L5'
   have HLen5 : Hid ((f.l5).length ≤ 200000) := Lib.hid (by have := HB4.out; omega)
   refine Lib.hid ?_
   go_wp2_with (go_at_call 44; go_must (refine (siput_own W0.heap.size _ _ _ la ln lc f.locals _ O5.out.locals.1 (by have := HN.out; omega) L5.out.1 L5.out.2.size (by have := HLen5.out; have := HN.out; omega)).mono ?_; rintro _ w6 ⟨u6, rfl, hinv⟩; refine Hid.out ?_))
   have L6 := Lib.hid (L5.out.put hinv)
   clear hinv
   clear c0 c1 c2 c3 c4 c5 c6 c7 c8 c9 c10
   have A6 := Lib.hid (A0.out.on L6.out.2)
   have O6 := Lib.hid (O0.out.on L6.out.2)
   obtain ⟨c0, c1, c2, c3, c4, c5, c6, c7, c8, c9, c10⟩ := A6.out.all
   have L6' : Hid (Lies W0 f.l6 u6 w6) := Lib.hid (L6.out)
   clear L6
   have L6 := L6'
   clear L6'
   have HLen6 : Hid ((f.l6).length ≤ 200000) := Lib.hid (by have := HB4.out; omega)
   refine Lib.hid ?_
   go_wp2_with (go_at_call 20; go_must (refine (put_own W0.heap.size _ _ _ cn _ (by have := hcn; omega) L6.out.1 L6.out.2.size (by have := HLen6.out; omega)).mono ?_; rintro _ w7 ⟨u7, rfl, hinv⟩; refine Hid.out ?_))
   have L7 := Lib.hid (L6.out.put hinv)
   clear hinv
   clear c0 c1 c2 c3 c4 c5 c6 c7 c8 c9 c10
   have A7 := Lib.hid (A0.out.on L7.out.2)
   have O7 := Lib.hid (O0.out.on L7.out.2)
   obtain ⟨c0, c1, c2, c3, c4, c5, c6, c7, c8, c9, c10⟩ := A7.out.all
   have hcl : f.code.length = cn := O7.out.n_code
   have HCl := Lib.hid hcl
   have L7' : Hid (Lies W0 f.l7 u7 w7) := Lib.hid (by have := L7.out; rw [← hcl] at this; exact this)
   clear L7
   have L7 := L7'
   clear L7'
   clear hcl
   refine Lib.hid ?_
   go_wp2
   go_loopw [5, 7, 53] (fun u _ i wr => ∃ k : Nat, k ≤ cn ∧ i = .int .i64 (k : Int) ∧ Lies W0 (f.l7 ++ Fn.codes (f.code.take k)) u wr) (fun _ _ i _ => cn - (intOf i).toNat)
   case atStart => exact ⟨0, Nat.zero_le _, rfl, by simpa [Fn.codes] using L7.out⟩
   case round =>
     obtain ⟨k, hk, rfl, hL⟩ := hrel
     have HL := Lib.hid hL
     have A8 := Lib.hid (A0.out.on hL.2)
     have O8 := Lib.hid (O0.out.on hL.2)
     clear hL
     obtain ⟨c0, c1, c2, c3, c4, c5, c6, c7, c8, c9, c10⟩ := A8.out.all
     by_cases hlt : k < cn
     · obtain ⟨bk, off, x, ec, _, hx, hkl, q0, q1⟩ := pairs_cell O8.out.code.1 hlt
       simp only at ec
       subst ec
       have hki : (k : Int) < (cn : Int) := by omega
       have HS := Lib.hid (Fn.codes_succ hkl)
       have hx64 := HWf.out.code x (by rw [← hx]; simp [List.getD, hkl])
       have hkc : (Fn.codes (f.code.take k)).length ≤ 11 * k := by
         have := Fn.codes_len (l := f.code.take k) (fun p hp => HWf.out.code p (List.mem_of_mem_take hp))
         rw [List.length_take] at this
         omega
       rw [hx] at HS
       have L9 := Lib.hid (HL.out.on ((Below.refl _ _).alloc (Nat.le_refl _) (.cells #[.int .i64 x.1, .int .i64 x.2] 68)))
       have HIn := Lib.hid (input_own W0.heap.size _ _ _ x.1 x.2 _ hx64.2.1 hx64.2.2 L9.out.1 L9.out.2.size (by rw [List.length_append]; have := HB4.out; omega))
       clear hx hkl hx64 hkc
       generalize Fn.codes (f.code.take k) = cs at *
       go_wp2_with (go_at_call 45; go_must (refine HIn.out.mono ?_; rintro _ w10 ⟨u10, rfl, hinv⟩; have L10 := Lib.hid (L9.out.put hinv); clear hinv))
       go_roundw
       case rel => exact ⟨k + 1, hlt, by go_num, by rw [HS.out, ← List.append_assoc]; exact L10.out⟩
       case measure => simp [intOf]; omega
     · obtain rfl : k = cn := by omega
       have hki : decide ((k : Int) < (k : Int)) = false := decide_eq_false (by omega)
       have hL8 : Lies W0 f.l8 u5 wr := by
         have := HL.out
         rw [List.take_of_length_le (by have := HCl.out; omega)] at this
         exact this
       have L8 := Lib.hid hL8
       clear hL8 HL
       have hz9 := HWf.out.lines
       have hzl := HP.out.2.2.2.2.2.2.2
       have hl8 := HB4.out.2.2.2.2.1
       have hl9 := HB4.out.2.2.2.2.2.1
       have hil : i_n ≤ 1000000 := by have := O8.out.n_lines; simp only at this; have := HLi.out; omega
       have HBw := Lib.hid (fun (W : World) => HBa.out W)
       have HLp := Lib.hid (liput_own W0.heap.size _ _ _ _ i_n ic f.lines _ L8.out.1 L8.out.2.size O8.out.lines.1 hil hz9 (by omega))
       clear hz9 hzl
       go_wp2_with (go_at_call 46; go_must (refine HLp.out.mono ?_; rintro _ w9 ⟨u9, rfl, hinv⟩; refine Hid.out ?_))
       have L9 := Lib.hid (L8.out.put hinv)
       clear hinv c0 c1 c2 c3 c4 c5 c6 c7 c8 c9 c10
       have L9' : Hid (Lies W0 f.l9 u9 w9) := Lib.hid (L9.out)
       clear L9
       have L9 := L9'
       clear L9'
       have A9 := Lib.hid (A0.out.on L9.out.2)
       have O9 := Lib.hid (O0.out.on L9.out.2)
       obtain ⟨c0, c1, c2, c3, c4, c5, c6, c7, c8, c9, c10⟩ := A9.out.all
       refine Lib.hid ?_
       obtain ⟨bb, hbb⟩ : ∃ bb, f.bare = bb := ⟨_, rfl⟩
       rw [hbb] at HBw
       have HBB := Lib.hid hbb
       clear hbb
       go_wp2_with (go_at_call 47; go_must (refine (HBw.out w9).mono ?_; rintro _ w11 ⟨rfl, hb11⟩; refine Hid.out ?_))
       have L11 : Hid (Lies W0 f.l9 u9 w11) := Lib.hid (L9.out.on hb11)
       clear hb11 c0 c1 c2 c3 c4 c5 c6 c7 c8 c9 c10
       have A11 := Lib.hid (A0.out.on L11.out.2)
       have O11 := Lib.hid (O0.out.on L11.out.2)
       obtain ⟨c0, c1, c2, c3, c4, c5, c6, c7, c8, c9, c10⟩ := A11.out.all
       cases bb with
       | true =>
         have HLa : Hid (f.laid = f.l9) := Lib.hid (by unfold Fn.F.laid; rw [HBB.out, if_pos rfl])
         have HLen11 : Hid (f.l9.length ≤ 200000) := Lib.hid (by omega)
         obtain ⟨A9, c9', hu9, hG9, hn9⟩ := own_bytes L11.out.1 Fn.l9_byte
         subst hu9
         have hb9 : Below w.heap.size w w11 := B0.out.trans (L11.out.2.mono B0.out.size)
         obtain ⟨v10, w10, r10, h10⟩ := append_bytes_at (c := c9') (own_later HOw.out hb9).1 hG9 hn9 (Nat.le_trans hbase hb9.size) (by have := HLen11.out; omega)
         have HR10 := Lib.hid (r10 27 rfl)
         have HI10 := Lib.hid (own_then hb9 h10)
         clear r10 h10 hG9 hn9 hb9
         refine Lib.hid ?_
         go_wp2_with (at_builtin; refine Lib.wpList_append_run _ rfl (.tmp 80) (.tmp 81) _ _ rfl _ _ rfl rfl _ _ HR10.out ?_)
         go_ret
         rw [HBy.out, HLa.out]
         exact ⟨v10, rfl, HI10.out⟩
       | false =>
         have HLa : Hid (f.laid = f.l12) := Lib.hid (by unfold Fn.F.laid; rw [HBB.out, if_neg (by decide)])
         obtain ⟨t1, t2, t3⟩ := HTb.out HBB.out
         obtain ⟨m1, m2, m3⟩ := HTl.out HBB.out
         have hno := O11.out.n_nodes
         have hao := O11.out.n_at
         have hvo := O11.out.n_live
         simp only at hno hao hvo
         have HTp := Lib.hid (trput_own W0.heap.size _ _ _ _ nn nc f.nodes _ O11.out.nodes.1 (by omega) HWf.out.nodes L11.out.1 L11.out.2.size (by omega))
         refine Lib.hid ?_
         go_wp2_with (go_at_call 48; go_must (refine HTp.out.mono ?_; rintro _ w12 ⟨u12, rfl, hinv⟩; refine Hid.out ?_))
         have L12 : Hid (Lies W0 f.l10 u12 w12) := Lib.hid (L11.out.put hinv)
         clear hinv c0 c1 c2 c3 c4 c5 c6 c7 c8 c9 c10
         have A12 := Lib.hid (A0.out.on L12.out.2)
         have O12 := Lib.hid (O0.out.on L12.out.2)
         obtain ⟨c0, c1, c2, c3, c4, c5, c6, c7, c8, c9, c10⟩ := A12.out.all
         have hl10 : f.l10.length ≤ 200000 := by unfold Fn.F.l10; rw [List.length_append]; omega
         have HRp := Lib.hid (runsPut_own W0.heap.size _ _ _ _ tn tc f.at_ _ L12.out.1 L12.out.2.size O12.out.at_.1 (by omega) HWf.out.at_ (by omega))
         refine Lib.hid ?_
         go_wp2_with (go_at_call 49; go_must (refine HRp.out.mono ?_; rintro _ w13 ⟨u13, rfl, hinv⟩; refine Hid.out ?_))
         have L13 : Hid (Lies W0 f.l11 u13 w13) := Lib.hid (L12.out.put hinv)
         clear hinv c0 c1 c2 c3 c4 c5 c6 c7 c8 c9 c10
         have A13 := Lib.hid (A0.out.on L13.out.2)
         have O13 := Lib.hid (O0.out.on L13.out.2)
         obtain ⟨c0, c1, c2, c3, c4, c5, c6, c7, c8, c9, c10⟩ := A13.out.all
         have hl11 : f.l11.length ≤ 250000 := by unfold Fn.F.l11; rw [List.length_append]; omega
         have HMp := Lib.hid (mpput_own W0.heap.size _ _ _ _ vn vc f.live _ O13.out.live.1 (by omega) HWf.out.live L13.out.1 L13.out.2.size (by omega))
         refine Lib.hid ?_
         go_wp2_with (go_at_call 50; go_must (refine HMp.out.mono ?_; rintro _ w14 ⟨u14, rfl, hinv⟩; refine Hid.out ?_))
         have L14 : Hid (Lies W0 f.l12 u14 w14) := Lib.hid (L13.out.put hinv)
         clear hinv
         have HLen14 : Hid (f.l12.length ≤ 400000) := Lib.hid (by unfold Fn.F.l12; rw [List.length_append]; omega)
         obtain ⟨A9, c9', hu9, hG9, hn9⟩ := own_bytes L14.out.1 (by have h := Fn.laid_byte (f := f); rw [HLa.out] at h; exact h)
         subst hu9
         have hb9 : Below w.heap.size w w14 := B0.out.trans (L14.out.2.mono B0.out.size)
         obtain ⟨v10, w10, r10, h10⟩ := append_bytes_at (c := c9') (own_later HOw.out hb9).1 hG9 hn9 (Nat.le_trans hbase hb9.size) (by have := HLen14.out; omega)
         have HR10 := Lib.hid (r10 27 rfl)
         have HI10 := Lib.hid (own_then hb9 h10)
         clear r10 h10 hG9 hn9 hb9
         refine Lib.hid ?_
         go_wp2_with (at_builtin; refine Lib.wpList_append_run _ rfl (.tmp 80) (.tmp 81) _ _ rfl _ _ rfl rfl _ _ HR10.out ?_)
         go_ret
         rw [HBy.out, HLa.out]
         exact ⟨v10, rfl, HI10.out⟩
 | false =>
   have H3 : Hid (f.l3 = f.l2) := Lib.hid (by unfold Fn.F.l3; rw [← HNI.out.2]; simp)
   have L3b : Hid (Lies W0 f.l3 u3 w3) := Lib.hid (by rw [H3.out]; exact L3.out)
   clear L3
   have L3 := L3b
   clear L3b HLen3
   have HLen3 : Hid ((f.l3).length ≤ 200000) := Lib.hid (by have := HB4.out; omega)
   refine Lib.hid ?_
   go_wp2_with (first
     | (at_builtin; refine Lib.wpList_append_run _ rfl (.tmp 21) (.tmp 24) _ _ rfl _ _ rfl rfl _ _ HR3.out ?_)
     | (go_at_call 44; go_must (refine (siput_own W0.heap.size _ _ _ pa pn pc f.params _ O3.out.params.1 (by have := HN.out; omega) L3.out.1 L3.out.2.size (by have := HLen3.out; have := HN.out; omega)).mono ?_; rintro _ w4 ⟨u4, rfl, hinv⟩; refine Hid.out ?_)))
   have L4 := Lib.hid (L3.out.put hinv)
   clear hinv
   clear c0 c1 c2 c3 c4 c5 c6 c7 c8 c9 c10
   have A4 := Lib.hid (A0.out.on L4.out.2)
   have O4 := Lib.hid (O0.out.on L4.out.2)
   obtain ⟨c0, c1, c2, c3, c4, c5, c6, c7, c8, c9, c10⟩ := A4.out.all
   have L4' : Hid (Lies W0 f.l4 u4 w4) := Lib.hid (L4.out)
   clear L4
   have L4 := L4'
   clear L4'
   have HLen4 : Hid ((f.l4).length ≤ 200000) := Lib.hid (by have := HB4.out; omega)
   refine Lib.hid ?_
   go_wp2_with (go_at_call 44; go_must (refine (siput_own W0.heap.size _ _ _ ra rn rc f.results _ O4.out.results.1 (by have := HN.out; omega) L4.out.1 L4.out.2.size (by have := HLen4.out; have := HN.out; omega)).mono ?_; rintro _ w5 ⟨u5, rfl, hinv⟩; refine Hid.out ?_))
   have L5 := Lib.hid (L4.out.put hinv)
   clear hinv
   clear c0 c1 c2 c3 c4 c5 c6 c7 c8 c9 c10
   have A5 := Lib.hid (A0.out.on L5.out.2)
   have O5 := Lib.hid (O0.out.on L5.out.2)
   obtain ⟨c0, c1, c2, c3, c4, c5, c6, c7, c8, c9, c10⟩ := A5.out.all
   have L5' : Hid (Lies W0 f.l5 u5 w5) := Lib.hid (L5.out)
   clear L5
   have L5 := L5'
   clear L5'
   have HLen5 : Hid ((f.l5).length ≤ 200000) := Lib.hid (by have := HB4.out; omega)
   refine Lib.hid ?_
   go_wp2_with (go_at_call 44; go_must (refine (siput_own W0.heap.size _ _ _ la ln lc f.locals _ O5.out.locals.1 (by have := HN.out; omega) L5.out.1 L5.out.2.size (by have := HLen5.out; have := HN.out; omega)).mono ?_; rintro _ w6 ⟨u6, rfl, hinv⟩; refine Hid.out ?_))
   have L6 := Lib.hid (L5.out.put hinv)
   clear hinv
   clear c0 c1 c2 c3 c4 c5 c6 c7 c8 c9 c10
   have A6 := Lib.hid (A0.out.on L6.out.2)
   have O6 := Lib.hid (O0.out.on L6.out.2)
   obtain ⟨c0, c1, c2, c3, c4, c5, c6, c7, c8, c9, c10⟩ := A6.out.all
   have L6' : Hid (Lies W0 f.l6 u6 w6) := Lib.hid (L6.out)
   clear L6
   have L6 := L6'
   clear L6'
   have HLen6 : Hid ((f.l6).length ≤ 200000) := Lib.hid (by have := HB4.out; omega)
   refine Lib.hid ?_
   go_wp2_with (go_at_call 20; go_must (refine (put_own W0.heap.size _ _ _ cn _ (by have := hcn; omega) L6.out.1 L6.out.2.size (by have := HLen6.out; omega)).mono ?_; rintro _ w7 ⟨u7, rfl, hinv⟩; refine Hid.out ?_))
   have L7 := Lib.hid (L6.out.put hinv)
   clear hinv
   clear c0 c1 c2 c3 c4 c5 c6 c7 c8 c9 c10
   have A7 := Lib.hid (A0.out.on L7.out.2)
   have O7 := Lib.hid (O0.out.on L7.out.2)
   obtain ⟨c0, c1, c2, c3, c4, c5, c6, c7, c8, c9, c10⟩ := A7.out.all
   have hcl : f.code.length = cn := O7.out.n_code
   have HCl := Lib.hid hcl
   have L7' : Hid (Lies W0 f.l7 u7 w7) := Lib.hid (by have := L7.out; rw [← hcl] at this; exact this)
   clear L7
   have L7 := L7'
   clear L7'
   clear hcl
   refine Lib.hid ?_
   go_wp2
   go_loopw [5, 7, 53] (fun u _ i wr => ∃ k : Nat, k ≤ cn ∧ i = .int .i64 (k : Int) ∧ Lies W0 (f.l7 ++ Fn.codes (f.code.take k)) u wr) (fun _ _ i _ => cn - (intOf i).toNat)
   case atStart => exact ⟨0, Nat.zero_le _, rfl, by simpa [Fn.codes] using L7.out⟩
   case round =>
     obtain ⟨k, hk, rfl, hL⟩ := hrel
     have HL := Lib.hid hL
     have A8 := Lib.hid (A0.out.on hL.2)
     have O8 := Lib.hid (O0.out.on hL.2)
     clear hL
     obtain ⟨c0, c1, c2, c3, c4, c5, c6, c7, c8, c9, c10⟩ := A8.out.all
     by_cases hlt : k < cn
     · obtain ⟨bk, off, x, ec, _, hx, hkl, q0, q1⟩ := pairs_cell O8.out.code.1 hlt
       simp only at ec
       subst ec
       have hki : (k : Int) < (cn : Int) := by omega
       have HS := Lib.hid (Fn.codes_succ hkl)
       have hx64 := HWf.out.code x (by rw [← hx]; simp [List.getD, hkl])
       have hkc : (Fn.codes (f.code.take k)).length ≤ 11 * k := by
         have := Fn.codes_len (l := f.code.take k) (fun p hp => HWf.out.code p (List.mem_of_mem_take hp))
         rw [List.length_take] at this
         omega
       rw [hx] at HS
       have L9 := Lib.hid (HL.out.on ((Below.refl _ _).alloc (Nat.le_refl _) (.cells #[.int .i64 x.1, .int .i64 x.2] 68)))
       have HIn := Lib.hid (input_own W0.heap.size _ _ _ x.1 x.2 _ hx64.2.1 hx64.2.2 L9.out.1 L9.out.2.size (by rw [List.length_append]; have := HB4.out; omega))
       clear hx hkl hx64 hkc
       generalize Fn.codes (f.code.take k) = cs at *
       go_wp2_with (go_at_call 45; go_must (refine HIn.out.mono ?_; rintro _ w10 ⟨u10, rfl, hinv⟩; have L10 := Lib.hid (L9.out.put hinv); clear hinv))
       go_roundw
       case rel => exact ⟨k + 1, hlt, by go_num, by rw [HS.out, ← List.append_assoc]; exact L10.out⟩
       case measure => simp [intOf]; omega
     · obtain rfl : k = cn := by omega
       have hki : decide ((k : Int) < (k : Int)) = false := decide_eq_false (by omega)
       have hL8 : Lies W0 f.l8 u5 wr := by
         have := HL.out
         rw [List.take_of_length_le (by have := HCl.out; omega)] at this
         exact this
       have L8 := Lib.hid hL8
       clear hL8 HL
       have hz9 := HWf.out.lines
       have hzl := HP.out.2.2.2.2.2.2.2
       have hl8 := HB4.out.2.2.2.2.1
       have hl9 := HB4.out.2.2.2.2.2.1
       have hil : i_n ≤ 1000000 := by have := O8.out.n_lines; simp only at this; have := HLi.out; omega
       have HBw := Lib.hid (fun (W : World) => HBa.out W)
       have HLp := Lib.hid (liput_own W0.heap.size _ _ _ _ i_n ic f.lines _ L8.out.1 L8.out.2.size O8.out.lines.1 hil hz9 (by omega))
       clear hz9 hzl
       go_wp2_with (go_at_call 46; go_must (refine HLp.out.mono ?_; rintro _ w9 ⟨u9, rfl, hinv⟩; refine Hid.out ?_))
       have L9 := Lib.hid (L8.out.put hinv)
       clear hinv c0 c1 c2 c3 c4 c5 c6 c7 c8 c9 c10
       have L9' : Hid (Lies W0 f.l9 u9 w9) := Lib.hid (L9.out)
       clear L9
       have L9 := L9'
       clear L9'
       have A9 := Lib.hid (A0.out.on L9.out.2)
       have O9 := Lib.hid (O0.out.on L9.out.2)
       obtain ⟨c0, c1, c2, c3, c4, c5, c6, c7, c8, c9, c10⟩ := A9.out.all
       refine Lib.hid ?_
       obtain ⟨bb, hbb⟩ : ∃ bb, f.bare = bb := ⟨_, rfl⟩
       rw [hbb] at HBw
       have HBB := Lib.hid hbb
       clear hbb
       go_wp2_with (go_at_call 47; go_must (refine (HBw.out w9).mono ?_; rintro _ w11 ⟨rfl, hb11⟩; refine Hid.out ?_))
       have L11 : Hid (Lies W0 f.l9 u9 w11) := Lib.hid (L9.out.on hb11)
       clear hb11 c0 c1 c2 c3 c4 c5 c6 c7 c8 c9 c10
       have A11 := Lib.hid (A0.out.on L11.out.2)
       have O11 := Lib.hid (O0.out.on L11.out.2)
       obtain ⟨c0, c1, c2, c3, c4, c5, c6, c7, c8, c9, c10⟩ := A11.out.all
       cases bb with
       | true =>
         have HLa : Hid (f.laid = f.l9) := Lib.hid (by unfold Fn.F.laid; rw [HBB.out, if_pos rfl])
         have HLen11 : Hid (f.l9.length ≤ 200000) := Lib.hid (by omega)
         obtain ⟨A9, c9', hu9, hG9, hn9⟩ := own_bytes L11.out.1 Fn.l9_byte
         subst hu9
         have hb9 : Below w.heap.size w w11 := B0.out.trans (L11.out.2.mono B0.out.size)
         obtain ⟨v10, w10, r10, h10⟩ := append_bytes_at (c := c9') (own_later HOw.out hb9).1 hG9 hn9 (Nat.le_trans hbase hb9.size) (by have := HLen11.out; omega)
         have HR10 := Lib.hid (r10 27 rfl)
         have HI10 := Lib.hid (own_then hb9 h10)
         clear r10 h10 hG9 hn9 hb9
         refine Lib.hid ?_
         go_wp2_with (at_builtin; refine Lib.wpList_append_run _ rfl (.tmp 80) (.tmp 81) _ _ rfl _ _ rfl rfl _ _ HR10.out ?_)
         go_ret
         rw [HBy.out, HLa.out]
         exact ⟨v10, rfl, HI10.out⟩
       | false =>
         have HLa : Hid (f.laid = f.l12) := Lib.hid (by unfold Fn.F.laid; rw [HBB.out, if_neg (by decide)])
         obtain ⟨t1, t2, t3⟩ := HTb.out HBB.out
         obtain ⟨m1, m2, m3⟩ := HTl.out HBB.out
         have hno := O11.out.n_nodes
         have hao := O11.out.n_at
         have hvo := O11.out.n_live
         simp only at hno hao hvo
         have HTp := Lib.hid (trput_own W0.heap.size _ _ _ _ nn nc f.nodes _ O11.out.nodes.1 (by omega) HWf.out.nodes L11.out.1 L11.out.2.size (by omega))
         refine Lib.hid ?_
         go_wp2_with (go_at_call 48; go_must (refine HTp.out.mono ?_; rintro _ w12 ⟨u12, rfl, hinv⟩; refine Hid.out ?_))
         have L12 : Hid (Lies W0 f.l10 u12 w12) := Lib.hid (L11.out.put hinv)
         clear hinv c0 c1 c2 c3 c4 c5 c6 c7 c8 c9 c10
         have A12 := Lib.hid (A0.out.on L12.out.2)
         have O12 := Lib.hid (O0.out.on L12.out.2)
         obtain ⟨c0, c1, c2, c3, c4, c5, c6, c7, c8, c9, c10⟩ := A12.out.all
         have hl10 : f.l10.length ≤ 200000 := by unfold Fn.F.l10; rw [List.length_append]; omega
         have HRp := Lib.hid (runsPut_own W0.heap.size _ _ _ _ tn tc f.at_ _ L12.out.1 L12.out.2.size O12.out.at_.1 (by omega) HWf.out.at_ (by omega))
         refine Lib.hid ?_
         go_wp2_with (go_at_call 49; go_must (refine HRp.out.mono ?_; rintro _ w13 ⟨u13, rfl, hinv⟩; refine Hid.out ?_))
         have L13 : Hid (Lies W0 f.l11 u13 w13) := Lib.hid (L12.out.put hinv)
         clear hinv c0 c1 c2 c3 c4 c5 c6 c7 c8 c9 c10
         have A13 := Lib.hid (A0.out.on L13.out.2)
         have O13 := Lib.hid (O0.out.on L13.out.2)
         obtain ⟨c0, c1, c2, c3, c4, c5, c6, c7, c8, c9, c10⟩ := A13.out.all
         have hl11 : f.l11.length ≤ 250000 := by unfold Fn.F.l11; rw [List.length_append]; omega
         have HMp := Lib.hid (mpput_own W0.heap.size _ _ _ _ vn vc f.live _ O13.out.live.1 (by omega) HWf.out.live L13.out.1 L13.out.2.size (by omega))
         refine Lib.hid ?_
         go_wp2_with (go_at_call 50; go_must (refine HMp.out.mono ?_; rintro _ w14 ⟨u14, rfl, hinv⟩; refine Hid.out ?_))
         have L14 : Hid (Lies W0 f.l12 u14 w14) := Lib.hid (L13.out.put hinv)
         clear hinv
         have HLen14 : Hid (f.l12.length ≤ 400000) := Lib.hid (by unfold Fn.F.l12; rw [List.length_append]; omega)
         obtain ⟨A9, c9', hu9, hG9, hn9⟩ := own_bytes L14.out.1 (by have h := Fn.laid_byte (f := f); rw [HLa.out] at h; exact h)
         subst hu9
         have hb9 : Below w.heap.size w w14 := B0.out.trans (L14.out.2.mono B0.out.size)
         obtain ⟨v10, w10, r10, h10⟩ := append_bytes_at (c := c9') (own_later HOw.out hb9).1 hG9 hn9 (Nat.le_trans hbase hb9.size) (by have := HLen14.out; omega)
         have HR10 := Lib.hid (r10 27 rfl)
         have HI10 := Lib.hid (own_then hb9 h10)
         clear r10 h10 hG9 hn9 hb9
         refine Lib.hid ?_
         go_wp2_with (at_builtin; refine Lib.wpList_append_run _ rfl (.tmp 80) (.tmp 81) _ _ rfl _ _ rfl rfl _ _ HR10.out ?_)
         go_ret
         rw [HBy.out, HLa.out]
         exact ⟨v10, rfl, HI10.out⟩
end Go.Proofs.YtdopheoedpldiaaGreatDoor
