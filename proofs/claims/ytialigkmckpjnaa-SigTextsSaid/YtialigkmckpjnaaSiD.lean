/-
  What sig.Put and the document's Put lay. Conditions: the list can be read, at most a million types; the slice is the caller's own; lengths within the reach.
-/
import Derived.Test.YtialigkmckpjnaaSiB
import Derived.Test.YtialigkmckpjnaaAppendAt
import Derived.Test.YtialigkmckpjnaaRefPut
namespace Go.Proofs.Ytialigkmckpjnaa
open Go.RowKit

theorem toNats_snoc {l : List Int} {k : Nat} (h : k < l.length) : (l.take (k + 1)).map Int.toNat = (l.take k).map Int.toNat ++ [(l.getD k 0).toNat] := by
  rw [take_snoc l k h, List.map_append]
  rfl
theorem all_at {l : List Int} (h : l.all Si.may = true) {k : Nat} (hk : k < l.length) : l.getD k 0 = 1 ∨ l.getD k 0 = 2 := by
  have e : l.getD k 0 = l[k] := by simp [List.getD, hk]
  rw [e]
  exact (Si.may_iff _).1 (List.all_eq_true.1 h _ (List.getElem_mem hk))

/-- Between two rounds: how many, and the bytes of k types, are laid. -/
def SputRel (n : Nat) (l : List Int) (pt : List Nat) (w : World) (u i : Value) (wr : World) : Prop :=
  ∃ (k : Nat) (pre : List Nat), k ≤ n ∧ i = .int .i64 (k : Int) ∧ pre = pt ++ (l.take k).map Int.toNat ∧ wr.ownsRow w.heap.size 5 1 u pre.length (bs pre) ∧ Below w.heap.size w wr

theorem sputRel_next {n : Nat} {l : List Int} {pt pre : List Nat} {w w2 : World} {k q : Nat} {u : Value} (hlt : k < n) (hkl : k < l.length) (hq : l.getD k 0 = (q : Int)) (hp : pre = pt ++ (l.take k).map Int.toNat)
    (ho : w2.ownsRow w.heap.size 5 1 u (pre.length + 1) (bs pre ++ bs [q])) (hb : Below w.heap.size w w2) : SputRel n l pt w u (.int .i64 ((k : Int) + 1)) w2 := by
  refine ⟨k + 1, pre ++ [q], hlt, rfl, ?_, ?_, hb⟩
  · rw [hp, toNats_snoc hkl, hq, List.append_assoc]; rfl
  · rw [bs_append, List.length_append]; exact ho

set_option maxHeartbeats 2000000 in
set_option maxRecDepth 100000 in
theorem siput_own (base : Nat) (v : Value) (m : Nat) (xs : List Value) (a : Option Addr) (n c : Nat) (l : List Int) (w : World) (h : IntsAt w w.heap.size a n l) (hn : n ≤ 1048576) (hown : w.ownsRow base 5 1 v m xs) (hbase : base ≤ w.heap.size) (hm : m + n + 12 ≤ 140737488355328) :
    Calls Try.prog 15 #[v, .slice a n c] w (OwnPost base w v (m + (Si.bytes l).length) (xs ++ bs (Si.bytes l))) := by
  obtain ⟨i0, hi, hz0, hz1, hz2⟩ := info_parts info_u8
  have hl : l.length = n := h.1
  have HRt := siright_any a n c w.heap.size l (n : Int) w h (by omega)
  rw [show Si.right l (n : Int) = l.all Si.may by rw [← hl, Si.right_self]] at HRt
  have H := Lib.hid h
  have HO := Lib.hid hown
  clear h hown
  cases hr : l.all Si.may with
  | false =>
    rw [hr] at HRt
    rw [Si.bytes_bad hr]
    clear hr
    go_enter Try.func15, Try.ntmps15
    go_wp2_with (go_at_call 11; refine HRt.mono ?_; rintro _ w1 ⟨rfl, he⟩; obtain rfl := he.symm)
    go_ret
    exact ⟨_, rfl, (OwnInv.refl HO.out).cast rfl (by simp [bs])⟩
  | true =>
    rw [hr] at HRt
    have HAll := Lib.hid hr
    have HBytes : Hid (Si.bytes l = Uv.put n ++ l.map Int.toNat) := Lib.hid (by rw [Si.bytes_ok hr, hl])
    have hpl := Uv.put_len_10 (n := n) (by omega)
    have HPt := Lib.hid (put_own w.heap.size (.slice none 0 0) 0 [] n w (by omega) (World.ownsRow_nil _ _ _ _) (Nat.le_refl _) (by omega))
    have HPos := Lib.hid (Uv.put_len_pos n)
    generalize Uv.put n = pt at *
    have hwr : (n : Int) < 18446744073709551616 := by omega
    have HL : Hid (l.length = n ∧ pt.length ≤ 10 ∧ n ≤ 1048576) := Lib.hid ⟨hl, hpl, hn⟩
    clear hr hl hpl
    go_enter Try.func15, Try.ntmps15
    go_wp2_with (first
      | (go_at_call 11; refine HRt.mono ?_; rintro _ w1 ⟨rfl, he⟩; obtain rfl := he.symm)
      | (go_at_call 28; refine HPt.out.mono ?_; rintro _ w1 ⟨v1, rfl, hinv⟩))
    have HI := Lib.hid hinv
    clear hinv HPt HRt
    go_loopw [5, 7, 20] (fun u _ i wr => SputRel n l pt w u i wr) (fun _ _ i _ => n - (intOf i).toNat)
    case atStart =>
      refine ⟨0, pt, Nat.zero_le _, rfl, by simp, ?_, HI.out.below (World.ownsRow_nil _ _ _ _) (Nat.le_refl _)⟩
      have := HI.out.1
      simpa using this
    case round =>
      obtain ⟨k, pre, hk, rfl, hpre, hO, hB⟩ := hrel
      have HW := Lib.hid hO
      have HB := Lib.hid hB
      have HPre := Lib.hid hpre
      have HPL : Hid (pre.length ≤ 10 + k) := Lib.hid (by rw [hpre, List.length_append]; have h1 := HL.out; simp; omega)
      clear hO hB hpre
      by_cases hlt : k < n
      · obtain ⟨b, off, x, rfl, _, hc, hx, hkl⟩ := ints_cell (H.out.below HB.out) hlt
        have hx12 := all_at HAll.out hkl
        rw [hx] at hx12
        have HWS := Lib.hid HB.out.size
        have HX := Lib.hid hx
        have HKL := Lib.hid hkl
        clear hx hkl
        rcases hx12 with rfl | rfl
        · go_wp2_with (at_builtin; refine wpList_append_lies _ rfl (.tmp 24) (.tmp 27) 29 rfl w.heap.size 5 i0 (.int .u8 0) 1 1 Try.underlying29 hi hz0 hz1 hz2 rfl (by decide) u5 pre.length (bs pre) rfl (HW.out.alloc _) ⟨wr.heap.size, 0, none⟩ 1 1 (bs [1]) rfl rfl ?c1 (bs_one _) (by decide) ?c3 ?c4 ?c5 (wr.heap.size + 1) ?c6 ?_)
          case c1 => exact news_one wr _ 1 _ rfl
          case c3 => have h1 := HPL.out; have h2 := HL.out; unfold maxLen; omega
          case c4 => have h1 := HPL.out; have h2 := HL.out; omega
          case c5 => have h1 := HWS.out; simp; omega
          case c6 => simp
          intro g cap w2 hown2 hgrow2 hat2 _
          go_wp2
          go_roundw
          case rel => exact sputRel_next (q := 1) hlt HKL.out HX.out HPre.out hown2 ((HB.out.alloc HWS.out _).grown hgrow2 (by have h1 := HWS.out; simp; omega) (fun kk hk => (HW.out.lt kk hk).1))
          case measure => simp [intOf]; omega
        · go_wp2_with (at_builtin; refine wpList_append_lies _ rfl (.tmp 24) (.tmp 27) 29 rfl w.heap.size 5 i0 (.int .u8 0) 1 1 Try.underlying29 hi hz0 hz1 hz2 rfl (by decide) u5 pre.length (bs pre) rfl (HW.out.alloc _) ⟨wr.heap.size, 0, none⟩ 1 1 (bs [2]) rfl rfl ?c1 (bs_one _) (by decide) ?c3 ?c4 ?c5 (wr.heap.size + 1) ?c6 ?_)
          case c1 => exact news_one wr _ 2 _ rfl
          case c3 => have h1 := HPL.out; have h2 := HL.out; unfold maxLen; omega
          case c4 => have h1 := HPL.out; have h2 := HL.out; omega
          case c5 => have h1 := HWS.out; simp; omega
          case c6 => simp
          intro g cap w2 hown2 hgrow2 hat2 _
          go_wp2
          go_roundw
          case rel => exact sputRel_next (q := 2) hlt HKL.out HX.out HPre.out hown2 ((HB.out.alloc HWS.out _).grown hgrow2 (by have h1 := HWS.out; simp; omega) (fun kk hk => (HW.out.lt kk hk).1))
          case measure => simp [intOf]; omega
      · have hkn : k = n := by omega
        subst hkn
        have HE : Hid (pre = Si.bytes l) := Lib.hid (by rw [HPre.out, HBytes.out, List.take_of_length_le (Nat.le_of_eq HL.out.1)])
        have hpp : 0 < pre.length := by rw [HPre.out, List.length_append]; have := HPos.out; omega
        obtain ⟨g, cap, cur, rfl, _, _, hG, hlen, htake⟩ := own_str HW.out hpp
        obtain ⟨v', w', hr2, hinv⟩ := append_bytes_at (c := cap) (ownsRow_below HO.out HB.out) (bytesAt_own hG hlen htake (by rw [HE.out]; exact Si.bytes_byte l)) (by intro e; cases e) (Nat.le_trans hbase HB.out.size) (by have h1 := HPL.out; omega)
        have HR := Lib.hid (hr2 29 rfl)
        have HF := Lib.hid (own_then HB.out hinv)
        clear hG hlen htake hr2 hinv hpp
        have hki : decide ((k : Int) < (k : Int)) = false := decide_eq_false (by omega)
        go_wp2_with (at_builtin; refine Lib.wpList_append_run _ rfl (.tmp 30) (.tmp 31) _ _ rfl _ _ rfl rfl _ _ HR.out ?_)
        go_ret
        exact ⟨_, rfl, HF.out.cast (by rw [HE.out]) (by rw [HE.out])⟩

set_option maxHeartbeats 2000000 in
set_option maxRecDepth 100000 in
theorem rsiput_any (a : Option Addr) (n c : Nat) (l : List Int) (w : World) (h : IntsAt w w.heap.size a n l) (hn : n ≤ 1048576) :
    Calls Try.prog 16 #[.slice a n c] w (NewPost (Si.bytes l) w) := by
  obtain ⟨i0, hi, hz0, hz1, hz2⟩ := info_parts info_u8
  have hl : l.length = n := h.1
  have HRt := rsiright_any a n c w.heap.size l (n : Int) w h (by omega)
  rw [show Si.right l (n : Int) = l.all Si.may by rw [← hl, Si.right_self]] at HRt
  have H := Lib.hid h
  clear h
  cases hr : l.all Si.may with
  | false =>
    rw [hr] at HRt
    rw [Si.bytes_bad hr]
    clear hr
    go_enter Try.func16, Try.ntmps16
    go_wp2_with (go_at_call 12; refine HRt.mono ?_; rintro _ w1 ⟨rfl, he⟩; obtain rfl := he.symm)
    go_ret
    exact ⟨_, rfl, World.ownsRow_nil _ _ _ _, Below.refl _ _⟩
  | true =>
    rw [hr] at HRt
    have HAll := Lib.hid hr
    have HBytes : Hid (Si.bytes l = Uv.put n ++ l.map Int.toNat) := Lib.hid (by rw [Si.bytes_ok hr, hl])
    have hpl := Uv.put_len_10 (n := n) (by omega)
    have HPt := Lib.hid (rput_any n w (by omega))
    generalize Uv.put n = pt at *
    have hwr : (n : Int) < 18446744073709551616 := by omega
    have HL : Hid (l.length = n ∧ pt.length ≤ 10 ∧ n ≤ 1048576) := Lib.hid ⟨hl, hpl, hn⟩
    clear hr hl hpl
    go_enter Try.func16, Try.ntmps16
    go_wp2_with (first
      | (go_at_call 12; refine HRt.mono ?_; rintro _ w1 ⟨rfl, he⟩; obtain rfl := he.symm)
      | (go_at_call 29; refine HPt.out.mono ?_; rintro _ w1 ⟨v1, rfl, hown1, hb1⟩))
    have HI := Lib.hid (And.intro hown1 hb1)
    clear hown1 hb1 HPt HRt
    go_loopw [3, 4] (fun u i wr => SputRel n l pt w u i wr) (fun _ i _ => n - (intOf i).toNat)
    case atStart => exact ⟨0, pt, Nat.zero_le _, rfl, by simp, HI.out.1, HI.out.2⟩
    case round =>
      obtain ⟨k, pre, hk, rfl, hpre, hO, hB⟩ := hrel
      have HW := Lib.hid hO
      have HB := Lib.hid hB
      have HPre := Lib.hid hpre
      have HPL : Hid (pre.length ≤ 10 + k) := Lib.hid (by rw [hpre, List.length_append]; have h1 := HL.out; simp; omega)
      clear hO hB hpre
      by_cases hlt : k < n
      · obtain ⟨b, off, x, rfl, _, hc, hx, hkl⟩ := ints_cell (H.out.below HB.out) hlt
        have hx12 := all_at HAll.out hkl
        rw [hx] at hx12
        have HWS := Lib.hid HB.out.size
        have HX := Lib.hid hx
        have HKL := Lib.hid hkl
        clear hx hkl
        rcases hx12 with rfl | rfl
        · go_wp2_with (at_builtin; refine wpList_append_lies _ rfl (.tmp 20) (.tmp 26) 29 rfl w.heap.size 5 i0 (.int .u8 0) 1 1 Try.underlying29 hi hz0 hz1 hz2 rfl (by decide) u3 pre.length (bs pre) rfl (HW.out.alloc _) ⟨wr.heap.size, 0, none⟩ 1 1 (bs [1]) rfl rfl ?c1 (bs_one _) (by decide) ?c3 ?c4 ?c5 (wr.heap.size + 1) ?c6 ?_)
          case c1 => exact news_one wr _ 1 _ rfl
          case c3 => have h1 := HPL.out; have h2 := HL.out; unfold maxLen; omega
          case c4 => have h1 := HPL.out; have h2 := HL.out; omega
          case c5 => have h1 := HWS.out; simp; omega
          case c6 => simp
          intro g cap w2 hown2 hgrow2 hat2 _
          go_wp2
          go_roundw
          case rel => exact sputRel_next (q := 1) hlt HKL.out HX.out HPre.out hown2 ((HB.out.alloc HWS.out _).grown hgrow2 (by have h1 := HWS.out; simp; omega) (fun kk hk => (HW.out.lt kk hk).1))
          case measure => simp [intOf]; omega
        · go_wp2_with (at_builtin; refine wpList_append_lies _ rfl (.tmp 20) (.tmp 26) 29 rfl w.heap.size 5 i0 (.int .u8 0) 1 1 Try.underlying29 hi hz0 hz1 hz2 rfl (by decide) u3 pre.length (bs pre) rfl (HW.out.alloc _) ⟨wr.heap.size, 0, none⟩ 1 1 (bs [2]) rfl rfl ?c1 (bs_one _) (by decide) ?c3 ?c4 ?c5 (wr.heap.size + 1) ?c6 ?_)
          case c1 => exact news_one wr _ 2 _ rfl
          case c3 => have h1 := HPL.out; have h2 := HL.out; unfold maxLen; omega
          case c4 => have h1 := HPL.out; have h2 := HL.out; omega
          case c5 => have h1 := HWS.out; simp; omega
          case c6 => simp
          intro g cap w2 hown2 hgrow2 hat2 _
          go_wp2
          go_roundw
          case rel => exact sputRel_next (q := 2) hlt HKL.out HX.out HPre.out hown2 ((HB.out.alloc HWS.out _).grown hgrow2 (by have h1 := HWS.out; simp; omega) (fun kk hk => (HW.out.lt kk hk).1))
          case measure => simp [intOf]; omega
      · have hkn : k = n := by omega
        subst hkn
        have HE : Hid (pre = Si.bytes l) := Lib.hid (by rw [HPre.out, HBytes.out, List.take_of_length_le (Nat.le_of_eq HL.out.1)])
        have hki : decide ((k : Int) < (k : Int)) = false := decide_eq_false (by omega)
        go_wp2
        go_ret
        have hf := HW.out
        rw [HE.out] at hf
        exact ⟨_, rfl, hf, HB.out⟩
end Go.Proofs.Ytialigkmckpjnaa
