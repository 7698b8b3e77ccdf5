/-
  What the document's Put of nodes lays. Conditions: the nodes can be read, at most 4096; numbers of their type.
  What the document's Put of sets lays. Conditions: the table can be read, at most 4096 sets; words of 64 bits.
-/
import Derived.Test.YtifkoihhlhadhaaGreatDoorTrP
import Derived.Test.YtifkoihhlhadhaaGreatDoorUv
import Derived.Test.YtifkoihhlhadhaaGreatDoorMpF
namespace Go.Proofs.YtifkoihhlhadhaaGreatDoor
open Go.RowKit

/-- Within a round: a node's first i numbers are laid; they lie in a row at block p. -/
def TprIn (p : Nat) (y : Tr.Nd) (pre : List Nat) (w : World) (u j : Value) (wr : World) : Prop :=
  ∃ (i : Nat) (q : List Nat), i ≤ 7 ∧ j = .int .i64 (i : Int) ∧ q = pre ++ Tr.part y i ∧ wr.ownsRow w.heap.size 5 1 u q.length (bs q) ∧ NodeAt wr p 124 y ∧ u.ownBlock ≠ some p ∧ Below w.heap.size w wr
set_option maxRecDepth 100000 in
theorem tprIn_step {p : Nat} {y : Tr.Nd} {pre q : List Nat} {w wr w2 : World} {u v : Value} {i : Nat} {d : List Nat} (hi : i < 7) (hd : Tr.part y (i + 1) = Tr.part y i ++ d) (hq : q = pre ++ Tr.part y i) (hN : NodeAt wr p 124 y) (hne : u.ownBlock ≠ some p) (hB : Below w.heap.size w wr)
    (hO : wr.ownsRow w.heap.size 5 1 u q.length (bs q)) (h : OwnInv w.heap.size wr u v (q.length + d.length) (bs q ++ bs d) w2) : TprIn p y pre w v (.int .i64 ((i : Int) + 1)) w2 := by
  obtain ⟨h1, h2, h3⟩ := h
  refine ⟨i + 1, q ++ d, hi, rfl, by rw [hq, hd, List.append_assoc], by rw [List.length_append, bs_append]; exact h1, (h2.block p hN.lt (Ne.symm hne)).trans hN, ?_, hB.grown h2 hB.size (fun k hk => (hO.lt k hk).1)⟩
  rcases h3 with h3 | ⟨g, h3, hg⟩
  · rw [h3]; exact hne
  · rw [h3]
    intro e
    injection e with e
    have := hN.lt
    omega

set_option maxHeartbeats 8000000 in
set_option maxRecDepth 100000 in
theorem rtrput_any (a : Option Addr) (n c : Nat) (l : List Tr.Nd) (w : World) (h : NodesAt w w.heap.size a n l) (hn : n ≤ 4096) (hwf : ∀ nd ∈ l, nd.wf) :
    Calls Tryz.prog 44 #[.slice a n c] w (NewPost (Tr.bytes l) w) := by
  obtain ⟨i0, hi, hz0, hz1, hz2⟩ := info_parts info_u8
  have hl : l.length = n := h.1
  have H := Lib.hid h
  have HBytes : Hid (Tr.bytes l = Uv.put n ++ l.flatMap Tr.one) := Lib.hid (by rw [Tr.bytes, hl])
  have hpl := Uv.put_len_10 (n := n) (by omega)
  have HPt := Lib.hid (rput_any n w (by omega))
  generalize Uv.put n = pt at *
  have hwr : (n : Int) < 18446744073709551616 := by omega
  have HL : Hid (l.length = n ∧ pt.length ≤ 10 ∧ n ≤ 4096) := Lib.hid ⟨hl, hpl, hn⟩
  have HWf := Lib.hid hwf
  clear hl hpl h hwf
  go_enter Tryz.func44, Tryz.ntmps44
  go_wp2_with (go_at_call 40; refine HPt.out.mono ?_; rintro _ w1 ⟨v1, rfl, hown1, hb1⟩; have HI := Lib.hid (And.intro hown1 hb1); clear hown1 hb1)
  clear HPt
  go_loopw [3, 4] (fun u i wr => TptRel n l pt w u i wr) (fun _ i _ => n - (intOf i).toNat)
  case atStart => exact ⟨0, pt, Nat.zero_le _, rfl, by simp, HI.out.1, HI.out.2⟩
  case round =>
    obtain ⟨k, pre, hk, rfl, hpre, hO, hB⟩ := hrel
    have HW := Lib.hid hO
    have HB := Lib.hid hB
    have HPre := Lib.hid hpre
    have HPL : Hid (pre.length ≤ 10 + 70 * k) := Lib.hid (by rw [hpre, List.length_append]; have h1 := HL.out; have h2 := Tr.flat_take_len HWf.out k; omega)
    clear hO hB hpre
    by_cases hlt : k < n
    · obtain ⟨b, off, y, rfl, _, hy, hky, d0, d1, d2, d3, d4, d5, d6⟩ := nodes_cell (H.out.below HB.out) hlt
      have HY : Hid (y.wf ∧ (l.take (k + 1)).flatMap Tr.one = (l.take k).flatMap Tr.one ++ Tr.one y) := Lib.hid (by have h1 := Tr.wf_of HWf.out hky; have h2 := Tr.flat_take hky; rw [hy] at h1 h2; exact ⟨h1, h2⟩)
      clear hy hky
      go_wp2
      have HN0 := Lib.hid (NodeAt.new (wr.alloc (.cells #[.int .i64 y.p, .int .i64 y.f, .int .i64 y.l, .int .i64 y.a, .int .i64 y.g, .int .i64 y.t, .int .i64 y.r] 90)) 124 y)
      have HO0 := Lib.hid ((HW.out.alloc (.cells #[.int .i64 y.p, .int .i64 y.f, .int .i64 y.l, .int .i64 y.a, .int .i64 y.g, .int .i64 y.t, .int .i64 y.r] 90)).alloc (.cells #[.int .i64 y.p, .int .i64 y.f, .int .i64 y.l, .int .i64 y.a, .int .i64 y.g, .int .i64 y.t, .int .i64 y.r] 124))
      have HB0 := Lib.hid ((HB.out.alloc HB.out.size (.cells #[.int .i64 y.p, .int .i64 y.f, .int .i64 y.l, .int .i64 y.a, .int .i64 y.g, .int .i64 y.t, .int .i64 y.r] 90)).alloc (by have := HB.out.size; simp; omega) (.cells #[.int .i64 y.p, .int .i64 y.f, .int .i64 y.l, .int .i64 y.a, .int .i64 y.g, .int .i64 y.t, .int .i64 y.r] 124))
      have HNe : Hid (u3.ownBlock ≠ some (wr.heap.size + 1)) := Lib.hid (fun e => by have := (HW.out.lt _ e).2; omega)
      simp only [World.size_alloc] at HN0
      generalize wr.heap.size + 1 = p at *
      clear d0 d1 d2 d3 d4 d5 d6
      go_loopw [3, 7] (fun u j W => TprIn p y pre w u j W) (fun _ j _ => 7 - (intOf j).toNat)
      case atStart => exact ⟨0, pre, by omega, rfl, by rw [Tr.part_zero, List.append_nil], HO0.out, HN0.out, HNe.out, HB0.out⟩
      case round =>
        obtain ⟨i, q, hi7, rfl, hq, hO3, hN3, hne3, hB3⟩ := hrel
        have HO3 := Lib.hid hO3
        have HN3 := Lib.hid hN3
        have HB3 := Lib.hid hB3
        have HNe3 := Lib.hid hne3
        have HQ := Lib.hid hq
        have HQL : Hid (q.length ≤ 10 + 70 * k + 70) := Lib.hid (by rw [hq, List.length_append]; have h1 := HPL.out; have h2 := Tr.part_len HY.out.1 i hi7; omega)
        clear hO3 hN3 hB3 hne3 hq
        by_cases hi6 : i < 7
        · have HS := Lib.hid (Tr.part_succ y hi6)
          have hw := Tr.wf_at HY.out.1 hi6
          have hi64 : (i : Int) < 7 := by omega
          have ec := node_at HN3.out hi6
          generalize y.list.getD i 0 = x at *
          obtain ⟨hw1, hw2⟩ := hw
          have hfl := Uv.fold_lt hw1 hw2
          have hq10 := Uv.put_len_10 hfl
          have hqpos := Uv.put_len_pos (Uv.fold x)
          go_wp2_with (go_at_call 91; go_must (refine (rfold_any x _ hw1 hw2).mono ?_; rintro e w' ⟨rfl, rfl⟩))
          refine (rput_any (Uv.fold x) wr hfl).mono ?_
          rintro e w2 ⟨v2, rfl, hown2, hb2⟩
          obtain ⟨g, cap, cur, rfl, _, _, hG, hlen, htake⟩ := own_str hown2 hqpos
          obtain ⟨v', w3, hr2, hinv⟩ := append_bytes_at (c := cap) (ownsRow_below HO3.out hb2) (bytesAt_own hG hlen htake (Uv.put_byte _)) (by intro e; cases e) (Nat.le_trans HB3.out.size hb2.size) (by have h1 := HQL.out; have h2 := HL.out; omega)
          have HR := Lib.hid (hr2 33 rfl)
          have HF := Lib.hid (own_then hb2 hinv)
          clear hG hlen htake hr2 hinv hown2 hb2 ec
          go_wp2_with (at_builtin; refine Lib.wpList_append_run _ rfl (.tmp 41) (.tmp 46) _ _ rfl _ _ rfl rfl _ _ HR.out ?_)
          go_roundw
          case rel => exact tprIn_step hi6 HS.out HQ.out HN3.out HNe3.out HB3.out HO3.out HF.out
          case measure => simp [intOf]; omega
        · obtain rfl : i = 7 := by omega
          have HE : Hid (q = pt ++ (l.take (k + 1)).flatMap Tr.one) := Lib.hid (by rw [HQ.out, HPre.out, Tr.part_all, HY.out.2, List.append_assoc])
          go_wp2
          go_roundw
          case rel => exact ⟨k + 1, q, hlt, by go_num, HE.out, HO3.out, HB3.out⟩
          case measure => simp [intOf]; omega
    · have hkn : k = n := by omega
      subst hkn
      have HE : Hid (pre = Tr.bytes l) := Lib.hid (by rw [HPre.out, HBytes.out, List.take_of_length_le (Nat.le_of_eq HL.out.1)])
      go_wp2
      go_ret
      have hf := HW.out
      rw [HE.out] at hf
      exact ⟨_, rfl, hf, HB.out⟩
end Go.Proofs.YtifkoihhlhadhaaGreatDoor

namespace Go.Proofs.YtifkoihhlhadhaaGreatDoor
open Go.RowKit

/-- A set's word in memory, by its number. -/
theorem set_word {w : World} {B n b off : Nat} {l : List Sl.Four} (h : SetsAt w B (some ⟨b, off, none⟩) n l) {k i : Nat} {y : Sl.Four} (hk : k < n) (hi : i < 4) (hy : l.getD k Sl.no = y) : w.cell? ⟨b, off + k * 4 + i, none⟩ = some (.int .u64 (y.word i : Int)) := by
  obtain ⟨b', off', e, _, hc⟩ := h.2 (by omega)
  injection e with e
  injection e with e1 e2
  subst e1 e2
  rw [← hy]
  exact hc k hk i hi

theorem Mp.Part.upto {l : List Sl.Four} {fr k n : Nat} (h : Mp.Part l fr fr) (hf : fr < k) (hk : k ≤ n) (ha : ∀ j, fr ≤ j → j < k → l.getD j Sl.no = l.getD fr Sl.no) (hl : l.length = n) : Mp.Part l (k - 1) fr :=
  ⟨by omega, fun j h1 h2 _ => ha j h1 (by omega), h.last, fun e => by omega⟩
theorem Mp.bytes_take_len {l : List Sl.Four} (h : ∀ s ∈ l, s.ok) (hl : l.length ≤ 4096) (k : Nat) : (Mp.laid (Mp.of (l.take k))).length ≤ 50 * k := by
  have h1 := Mp.bytes_len (l := l.take k) (fun s hs => h s (List.mem_of_mem_take hs)) (by simp; omega)
  have h2 : (l.take k).length ≤ k := by simp; omega
  unfold Mp.bytes at h1
  omega

/-- Between two rounds: the bytes of the first fr sets are laid, behind which another one stands. -/
def MprRel (n : Nat) (l : List Sl.Four) (w : World) (u i : Value) (wr : World) : Prop :=
  ∃ (fr : Nat) (pre : List Nat), fr ≤ n ∧ i = .int .i64 (fr : Int) ∧ Mp.Part l fr fr ∧ pre = Mp.laid (Mp.of (l.take fr)) ∧ wr.ownsRow w.heap.size 5 1 u pre.length (bs pre) ∧ Below w.heap.size w wr
/-- Within a round: from fr on all ahead of k are alike. -/
def MprIn (fr n : Nat) (l : List Sl.Four) (w : World) (j : Value) (wr : World) : Prop :=
  ∃ k : Nat, fr ≤ k ∧ k ≤ n ∧ j = .int .i64 (k : Int) ∧ (∀ j, fr ≤ j → j < k → l.getD j Sl.no = l.getD fr Sl.no) ∧ Below w.heap.size w wr

set_option maxHeartbeats 8000000 in
set_option maxRecDepth 100000 in
theorem rmpput_any (a : Option Addr) (n c : Nat) (l : List Sl.Four) (w : World) (h : SetsAt w w.heap.size a n l) (hn : n ≤ 4096) (ho : ∀ s ∈ l, s.ok) :
    Calls Tryz.prog 45 #[.slice a n c] w (NewPost (Mp.bytes l) w) := by
  have H := Lib.hid h
  have HL := Lib.hid h.1
  have HOk := Lib.hid ho
  have HLen := Lib.hid (fun k => Mp.bytes_take_len ho (by rw [h.1]; exact hn) k)
  clear h ho
  go_enter Tryz.func45, Tryz.ntmps45
  go_wp2
  go_loopw [3, 4] (fun u i wr => MprRel n l w u i wr) (fun _ i _ => n - (intOf i).toNat)
  case atStart => exact ⟨0, [], Nat.zero_le _, rfl, Mp.Part.zero l, rfl, World.ownsRow_nil _ _ _ _, Below.refl _ _⟩
  case round =>
    obtain ⟨fr, pre, hfn, rfl, hP, hpre, hO, hB⟩ := hrel
    have HO := Lib.hid hO
    have HB := Lib.hid hB
    have HP := Lib.hid hP
    have HPre := Lib.hid hpre
    have HPL : Hid (pre.length ≤ 50 * fr) := Lib.hid (by rw [hpre]; exact HLen.out fr)
    clear hO hB hP hpre
    by_cases hlt : fr < n
    · obtain ⟨b, off, y, rfl, hbl, hy, hky, _⟩ := sets_cell (H.out.on HB.out) hlt
      have HOy : Hid y.ok := Lib.hid (by rw [← hy]; exact mp_ok HOk.out hky)
      have HY := Lib.hid hy
      clear hy hky
      obtain ⟨wo, rfl⟩ : ∃ wo : World, wo = wr := ⟨_, rfl⟩
      go_wp2
      go_loopw [5] (fun j W => MprIn fr n l wo j W) (fun j _ => n - (intOf j).toNat)
      case atStart => exact ⟨fr, Nat.le_refl _, hfn, rfl, fun j h1 h2 => absurd h2 (by omega), Below.refl _ _⟩
      case round =>
        obtain ⟨k, hfk, hkn, rfl, hal, hBk⟩ := hrel
        have HAl := Lib.hid hal
        have HBk := Lib.hid hBk
        clear hal hBk
        obtain ⟨_, _, y', e1, _, hy', hky', c0, c1, c2, c3⟩ := sets_cell (H.out.below (HB.out.trans (HBk.out.mono HB.out.size))) hlt
        injection e1 with e1
        injection e1 with e3 e4
        subst e3 e4
        rw [HY.out] at hy'
        subst hy'
        by_cases hlt2 : k < n
        · have hkn64 : (k : Int) < (n : Int) := by omega
          have hfn64 : (fr : Int) < (n : Int) := by omega
          obtain ⟨_, _, z, e1, _, hz, hkz, d0, d1, d2, d3⟩ := sets_cell (H.out.below (HB.out.trans (HBk.out.mono HB.out.size))) hlt2
          injection e1 with e1
          injection e1 with e3 e4
          subst e3 e4
          have eqs := eq_sets z y
          by_cases hzy : z = y
          · rw [Mp.same_iff.2 hzy] at eqs
            have HAl2 : Hid (∀ j, fr ≤ j → j < k + 1 → l.getD j Sl.no = l.getD fr Sl.no) := Lib.hid (fun j h1 h2 => by
              rcases (show j < k ∨ j = k by omega) with h3 | rfl
              · exact HAl.out j h1 h3
              · rw [hz, hzy, HY.out])
            clear hz hzy hkz hky'
            go_wp2
            go_quiet (fail)
            go_wp2
            go_roundw
            case rel => exact ⟨k + 1, by omega, hlt2, by go_num, HAl2.out, HBk.out.trans (below_drewN (Below.refl _ wr) nq |>.mono HBk.out.size)⟩
            case measure => simp [intOf]; omega
          · rw [Mp.same_not hzy] at eqs
            have HNe : Hid (fr ≠ k) := Lib.hid (by rintro rfl; rw [HY.out] at hz; exact hzy hz.symm)
            have HCut : Hid (fr < k → k - 1 + 1 < l.length → l.getD (k - 1 + 1) Sl.no ≠ l.getD (k - 1) Sl.no) := Lib.hid (fun h1 _ => by
              rw [show k - 1 + 1 = k by omega, hz, HAl.out (k - 1) (by omega) (by omega), HY.out]
              exact hzy)
            clear hz hzy hkz hky'
            have hkf : fr < k := by have := HNe.out; omega
            have HPk := Lib.hid (Mp.Part.upto HP.out hkf hkn HAl.out HL.out)
            have HOf := Lib.hid (HPk.out.of_take (by rw [HL.out]; omega))
            rw [show k - 1 + 1 = k by omega] at HOf
            have HPc : Hid (Mp.Part l k k) := Lib.hid (by have e := HPk.out.cut (HCut.out hkf); rwa [show k - 1 + 1 = k by omega] at e)
            have HTop : Hid (l.getD (k - 1) Sl.no = y) := Lib.hid (by rw [HAl.out (k - 1) (by omega) (by omega)]; exact HY.out)
            rw [HTop.out] at HOf
            obtain ⟨d, hdd⟩ : ∃ d : Nat, k - fr = d := ⟨_, rfl⟩
            rw [hdd] at HOf
            have hsub : (k : Int) - (fr : Int) = (d : Int) := by omega
            have hd64 : d < 18446744073709551616 := by omega
            clear HTop hdd HCut
            go_wp2
            go_quiet (fail)
            have HO1 := Lib.hid (ownsRow_below (ownsRow_below HO.out HBk.out) (below_drewN (Below.refl _ _) nq))
            have HB1 := Lib.hid ((HB.out.trans (HBk.out.mono HB.out.size)).trans (below_drewN (Below.refl _ wr) nq |>.mono (by have := HB.out.size; have := HBk.out.size; omega)))
            have HBo1 := Lib.hid (HBk.out.trans (below_drewN (Below.refl _ wr) nq |>.mono HBk.out.size))
            generalize wr.drewN nq = w1 at *
            go_wp2_with fail
            refine (rput_any d w1 hd64).mono ?_
            rintro e w2 ⟨v2, rfl, hown2, hb2⟩
            obtain ⟨A2, c2, rfl, hG, hnil⟩ := own_bytes hown2 (Uv.put_byte _)
            have hd10 := Uv.put_len_10 hd64
            obtain ⟨v', w3, hr2, hinv⟩ := append_bytes_at (c := c2) (ownsRow_below HO1.out hb2) hG hnil (Nat.le_trans HB1.out.size hb2.size) (by have h1 := HPL.out; have h2 := hn; omega)
            have HR := Lib.hid (hr2 33 rfl)
            have HF := Lib.hid (own_then hb2 hinv)
            have HO2 := Lib.hid (show w3.ownsRow w.heap.size 5 1 v' (pre ++ Uv.put d).length (bs (pre ++ Uv.put d)) from by rw [List.length_append, bs_append]; exact HF.out.1)
            have HB2 := Lib.hid (HB1.out.grown HF.out.2.1 HB1.out.size (fun b e => (HO1.out.lt b e).1))
            have HPL0 : Hid ((pre ++ Uv.put d).length ≤ 50 * fr + 10) := Lib.hid (by rw [List.length_append]; have h1 := HPL.out; omega)
            obtain ⟨p2, hp2⟩ : ∃ p2, pre ++ Uv.put d = p2 := ⟨_, rfl⟩
            rw [hp2] at HO2 HPL0
            have HP2 := Lib.hid hp2
            clear hp2 hG hnil hr2 hinv hown2 hb2
            go_wp2_with (at_builtin; refine Lib.wpList_append_run _ rfl (.tmp 29) (.tmp 34) _ _ rfl _ _ rfl rfl _ _ HR.out ?_)
            clear HR
            go_loopw [3, 6] (fun u j W => MptIn y p2 w u j W) (fun _ j _ => 4 - (intOf j).toNat)
            case atStart => exact ⟨0, p2, by omega, rfl, by rw [Mp.wordsTo_zero, List.append_nil], HO2.out, HB2.out⟩
            case round =>
              obtain ⟨i, q, hi4, rfl, hq, hO3, hB3⟩ := hrel
              have HO3 := Lib.hid hO3
              have HB3 := Lib.hid hB3
              have HQ := Lib.hid hq
              have HQL : Hid (q.length ≤ 50 * fr + 50) := Lib.hid (by rw [hq, List.length_append]; have h1 := HPL0.out; have h2 := Mp.wordsTo_len HOy.out i; omega)
              clear hO3 hB3 hq
              by_cases hi3 : i < 4
              · have HS := Lib.hid (Mp.wordsTo_succ y i)
                have hxw := Sl.ok_word HOy.out i
                have hx10 := Uv.put_len_10 hxw
                have ec := set_word (H.out.below HB3.out) (show fr < n by omega) hi3 rfl
                rw [HY.out] at ec
                generalize y.word i = x at *
                have hi64 : (i : Int) < 4 := by omega
                go_wp2_with fail
                refine (rput_any x wr hxw).mono ?_
                rintro e w4 ⟨v4, rfl, hown4, hb4⟩
                obtain ⟨A4, c4, rfl, hG, hnil⟩ := own_bytes hown4 (Uv.put_byte _)
                obtain ⟨v', w5, hr2, hinv⟩ := append_bytes_at (c := c4) (ownsRow_below HO3.out hb4) hG hnil (Nat.le_trans HB3.out.size hb4.size) (by have h1 := HQL.out; have h2 := hn; omega)
                have HR := Lib.hid (hr2 33 rfl)
                have HF4 := Lib.hid (own_then hb4 hinv)
                clear hG hnil hr2 hinv hown4 hb4 ec
                go_wp2_with (at_builtin; refine Lib.wpList_append_run _ rfl (.tmp 40) (.tmp 47) _ _ rfl _ _ rfl rfl _ _ HR.out ?_)
                go_roundw
                case rel => exact ⟨i + 1, q ++ Uv.put x, hi3, by go_num, by rw [HQ.out, HS.out, List.append_assoc], by rw [List.length_append, bs_append]; exact HF4.out.1, HB3.out.grown HF4.out.2.1 HB3.out.size (fun b e => (HO3.out.lt b e).1)⟩
                case measure => simp [intOf]; omega
              · obtain rfl : i = 4 := by omega
                have HE : Hid (q = Mp.laid (Mp.of (l.take k))) := Lib.hid (by rw [HQ.out, ← HP2.out, HPre.out, Mp.wordsTo_all, HOf.out, Mp.laid_append, Mp.laid_one, List.append_assoc]; rfl)
                go_wp2
                go_roundw
                case rel => exact ⟨k, q, hkn, rfl, HPc.out, HE.out, HO3.out, HB3.out⟩
                case measure => simp [intOf]; omega
        · have hkn64 : decide ((k : Int) < (n : Int)) = false := decide_eq_false (by omega)
          have HCut : Hid (fr < k → k - 1 + 1 < l.length → l.getD (k - 1 + 1) Sl.no ≠ l.getD (k - 1) Sl.no) := Lib.hid (fun h1 h2 => absurd h2 (by rw [HL.out]; omega))
          clear hky'
          have hkf : fr < k := by omega
          have HPk := Lib.hid (Mp.Part.upto HP.out hkf hkn HAl.out HL.out)
          have HOf := Lib.hid (HPk.out.of_take (by rw [HL.out]; omega))
          rw [show k - 1 + 1 = k by omega] at HOf
          have HPc : Hid (Mp.Part l k k) := Lib.hid (by have e := HPk.out.cut (HCut.out hkf); rwa [show k - 1 + 1 = k by omega] at e)
          have HTop : Hid (l.getD (k - 1) Sl.no = y) := Lib.hid (by rw [HAl.out (k - 1) (by omega) (by omega)]; exact HY.out)
          rw [HTop.out] at HOf
          obtain ⟨d, hdd⟩ : ∃ d : Nat, k - fr = d := ⟨_, rfl⟩
          rw [hdd] at HOf
          have hsub : (k : Int) - (fr : Int) = (d : Int) := by omega
          have hd64 : d < 18446744073709551616 := by omega
          clear HTop hdd HCut
          go_wp2
          go_quiet (fail)
          have HO1 := Lib.hid (ownsRow_below (ownsRow_below HO.out HBk.out) (below_drewN (Below.refl _ _) nq))
          have HB1 := Lib.hid ((HB.out.trans (HBk.out.mono HB.out.size)).trans (below_drewN (Below.refl _ wr) nq |>.mono (by have := HB.out.size; have := HBk.out.size; omega)))
          have HBo1 := Lib.hid (HBk.out.trans (below_drewN (Below.refl _ wr) nq |>.mono HBk.out.size))
          generalize wr.drewN nq = w1 at *
          go_wp2_with fail
          refine (rput_any d w1 hd64).mono ?_
          rintro e w2 ⟨v2, rfl, hown2, hb2⟩
          obtain ⟨A2, c2, rfl, hG, hnil⟩ := own_bytes hown2 (Uv.put_byte _)
          have hd10 := Uv.put_len_10 hd64
          obtain ⟨v', w3, hr2, hinv⟩ := append_bytes_at (c := c2) (ownsRow_below HO1.out hb2) hG hnil (Nat.le_trans HB1.out.size hb2.size) (by have h1 := HPL.out; have h2 := hn; omega)
          have HR := Lib.hid (hr2 33 rfl)
          have HF := Lib.hid (own_then hb2 hinv)
          have HO2 := Lib.hid (show w3.ownsRow w.heap.size 5 1 v' (pre ++ Uv.put d).length (bs (pre ++ Uv.put d)) from by rw [List.length_append, bs_append]; exact HF.out.1)
          have HB2 := Lib.hid (HB1.out.grown HF.out.2.1 HB1.out.size (fun b e => (HO1.out.lt b e).1))
          have HPL0 : Hid ((pre ++ Uv.put d).length ≤ 50 * fr + 10) := Lib.hid (by rw [List.length_append]; have h1 := HPL.out; omega)
          obtain ⟨p2, hp2⟩ : ∃ p2, pre ++ Uv.put d = p2 := ⟨_, rfl⟩
          rw [hp2] at HO2 HPL0
          have HP2 := Lib.hid hp2
          clear hp2 hG hnil hr2 hinv hown2 hb2
          go_wp2_with (at_builtin; refine Lib.wpList_append_run _ rfl (.tmp 29) (.tmp 34) _ _ rfl _ _ rfl rfl _ _ HR.out ?_)
          clear HR
          go_loopw [3, 6] (fun u j W => MptIn y p2 w u j W) (fun _ j _ => 4 - (intOf j).toNat)
          case atStart => exact ⟨0, p2, by omega, rfl, by rw [Mp.wordsTo_zero, List.append_nil], HO2.out, HB2.out⟩
          case round =>
            obtain ⟨i, q, hi4, rfl, hq, hO3, hB3⟩ := hrel
            have HO3 := Lib.hid hO3
            have HB3 := Lib.hid hB3
            have HQ := Lib.hid hq
            have HQL : Hid (q.length ≤ 50 * fr + 50) := Lib.hid (by rw [hq, List.length_append]; have h1 := HPL0.out; have h2 := Mp.wordsTo_len HOy.out i; omega)
            clear hO3 hB3 hq
            by_cases hi3 : i < 4
            · have HS := Lib.hid (Mp.wordsTo_succ y i)
              have hxw := Sl.ok_word HOy.out i
              have hx10 := Uv.put_len_10 hxw
              have ec := set_word (H.out.below HB3.out) (show fr < n by omega) hi3 rfl
              rw [HY.out] at ec
              generalize y.word i = x at *
              have hi64 : (i : Int) < 4 := by omega
              go_wp2_with fail
              refine (rput_any x wr hxw).mono ?_
              rintro e w4 ⟨v4, rfl, hown4, hb4⟩
              obtain ⟨A4, c4, rfl, hG, hnil⟩ := own_bytes hown4 (Uv.put_byte _)
              obtain ⟨v', w5, hr2, hinv⟩ := append_bytes_at (c := c4) (ownsRow_below HO3.out hb4) hG hnil (Nat.le_trans HB3.out.size hb4.size) (by have h1 := HQL.out; have h2 := hn; omega)
              have HR := Lib.hid (hr2 33 rfl)
              have HF4 := Lib.hid (own_then hb4 hinv)
              clear hG hnil hr2 hinv hown4 hb4 ec
              go_wp2_with (at_builtin; refine Lib.wpList_append_run _ rfl (.tmp 40) (.tmp 47) _ _ rfl _ _ rfl rfl _ _ HR.out ?_)
              go_roundw
              case rel => exact ⟨i + 1, q ++ Uv.put x, hi3, by go_num, by rw [HQ.out, HS.out, List.append_assoc], by rw [List.length_append, bs_append]; exact HF4.out.1, HB3.out.grown HF4.out.2.1 HB3.out.size (fun b e => (HO3.out.lt b e).1)⟩
              case measure => simp [intOf]; omega
            · obtain rfl : i = 4 := by omega
              have HE : Hid (q = Mp.laid (Mp.of (l.take k))) := Lib.hid (by rw [HQ.out, ← HP2.out, HPre.out, Mp.wordsTo_all, HOf.out, Mp.laid_append, Mp.laid_one, List.append_assoc]; rfl)
              go_wp2
              go_roundw
              case rel => exact ⟨k, q, hkn, rfl, HPc.out, HE.out, HO3.out, HB3.out⟩
              case measure => simp [intOf]; omega
    · obtain rfl : fr = n := by omega
      have HE : Hid (pre = Mp.bytes l) := Lib.hid (by rw [HPre.out, List.take_of_length_le (by rw [HL.out]; omega)]; rfl)
      go_wp2
      go_ret
      have hf := HO.out
      rw [HE.out] at hf
      exact ⟨_, rfl, hf, HB.out⟩
end Go.Proofs.YtifkoihhlhadhaaGreatDoor
