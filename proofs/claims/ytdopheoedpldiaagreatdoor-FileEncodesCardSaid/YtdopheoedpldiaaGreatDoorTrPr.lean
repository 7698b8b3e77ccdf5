/-
 What the document's Put of nodes lays. Conditions: the nodes can be read, at most 4096; numbers of their type.
-/
import Derived.Test.YtdopheoedpldiaaGreatDoorTrP
set_option maxRecDepth 100000
namespace Go.Proofs.YtdopheoedpldiaaGreatDoor
open Go.RowKit
def TprIn (p : Nat) (y : Tr.Nd) (pre : List Nat) (w : World) (u j : Value) (wr : World) : Prop :=
 ∃ (i : Nat) (q : List Nat), i ≤ 7 ∧ j = .int .i64 (i : Int) ∧ q = pre ++ Tr.part y i ∧ wr.ownsRow w.heap.size 5 1 u q.length (bs q) ∧ NodeAt wr p 127 y ∧ u.ownBlock ≠ some p ∧ Below w.heap.size w wr
theorem tprIn_step {p : Nat} {y : Tr.Nd} {pre q : List Nat} {w wr w2 : World} {u v : Value} {i : Nat} {d : List Nat} (hi : i < 7) (hd : Tr.part y (i + 1) = Tr.part y i ++ d) (hq : q = pre ++ Tr.part y i) (hN : NodeAt wr p 127 y) (hne : u.ownBlock ≠ some p) (hB : Below w.heap.size w wr)
   (hO : wr.ownsRow w.heap.size 5 1 u q.length (bs q)) (h : OwnInv w.heap.size wr u v (q.length + d.length) (bs q ++ bs d) w2) : TprIn p y pre w v (.int .i64 ((i : Int) + 1)) w2 := by
 obtain ⟨h1, h2, h3⟩ := h
 refine ⟨i + 1, q ++ d, hi, rfl, by rw [hq, hd, List.append_assoc], by rw [List.length_append, bs_append]; exact h1, (h2.block p hN.lt (Ne.symm hne)).trans hN, ?_, hB.grown h2 hB.size (fun k hk => (hO.lt k hk).1)⟩
 rcases h3 with h3 | ⟨g, h3, hg⟩
 · rw [h3]; exact hne
 · rw [h3]
   intro e
   injection e with e
   have := hN.lt
   omega
set_option maxHeartbeats 8000000 in
theorem rtrput_any (a : Option Addr) (n c : Nat) (l : List Tr.Nd) (w : World) (h : NodesAt w w.heap.size a n l) (hn : n ≤ 4096) (hwf : ∀ nd ∈ l, nd.wf) :
   Calls Tryz.prog 55 #[.slice a n c] w (NewPost (Tr.bytes l) w) := by
 obtain ⟨i0, hi, hz0, hz1, hz2⟩ := info_parts info_u8
 have hl : l.length = n := h.1
 have H := Lib.hid h
 have HBytes : Hid (Tr.bytes l = Uv.put n ++ l.flatMap Tr.one) := Lib.hid (by rw [Tr.bytes, hl])
 have hpl := Uv.put_len_10 (n := n) (by omega)
 have HPt := Lib.hid (rput_any n w (by omega))
 generalize Uv.put n = pt at *
 have hwr : (n : Int) < 18446744073709551616 := by omega
 have HL : Hid (l.length = n ∧ pt.length ≤ 10 ∧ n ≤ 4096) := Lib.hid ⟨hl, hpl, hn⟩
 have HWf := Lib.hid hwf
 clear hl hpl h hwf
 go_enter Tryz.func55, Tryz.ntmps55
 go_wp2_with (go_at_call 22; refine HPt.out.mono ?_; rintro _ w1 ⟨v1, rfl, hown1, hb1⟩; have HI := Lib.hid (And.intro hown1 hb1); clear hown1 hb1)
 clear HPt
 go_loopw [3, 4] (fun u i wr => TptRel n l pt w u i wr) (fun _ i _ => n - (intOf i).toNat)
 case atStart => exact ⟨0, pt, Nat.zero_le _, rfl, by simp, HI.out.1, HI.out.2⟩
 case round =>
   obtain ⟨k, pre, hk, rfl, hpre, hO, hB⟩ := hrel
   have HW := Lib.hid hO
   have HB := Lib.hid hB
   have HPre := Lib.hid hpre
   have HPL : Hid (pre.length ≤ 10 + 70 * k) := Lib.hid (by rw [hpre, List.length_append]; have h1 := HL.out; have h2 := Tr.flat_take_len HWf.out k; omega)
   clear hO hB hpre
   by_cases hlt : k < n
   · obtain ⟨b, off, y, rfl, _, hy, hky, d0, d1, d2, d3, d4, d5, d6⟩ := nodes_cell (H.out.below HB.out) hlt
     have HY : Hid (y.wf ∧ (l.take (k + 1)).flatMap Tr.one = (l.take k).flatMap Tr.one ++ Tr.one y) := Lib.hid (by have h1 := Tr.wf_of HWf.out hky; have h2 := Tr.flat_take hky; rw [hy] at h1 h2; exact ⟨h1, h2⟩)
     clear hy hky
     go_wp2
     have HN0 := Lib.hid (NodeAt.new (wr.alloc (.cells #[.int .i64 y.p, .int .i64 y.f, .int .i64 y.l, .int .i64 y.a, .int .i64 y.g, .int .i64 y.t, .int .i64 y.r] 104)) 127 y)
     have HO0 := Lib.hid ((HW.out.alloc (.cells #[.int .i64 y.p, .int .i64 y.f, .int .i64 y.l, .int .i64 y.a, .int .i64 y.g, .int .i64 y.t, .int .i64 y.r] 104)).alloc (.cells #[.int .i64 y.p, .int .i64 y.f, .int .i64 y.l, .int .i64 y.a, .int .i64 y.g, .int .i64 y.t, .int .i64 y.r] 127))
     have HB0 := Lib.hid ((HB.out.alloc HB.out.size (.cells #[.int .i64 y.p, .int .i64 y.f, .int .i64 y.l, .int .i64 y.a, .int .i64 y.g, .int .i64 y.t, .int .i64 y.r] 104)).alloc (by have := HB.out.size; simp; omega) (.cells #[.int .i64 y.p, .int .i64 y.f, .int .i64 y.l, .int .i64 y.a, .int .i64 y.g, .int .i64 y.t, .int .i64 y.r] 127))
     have HNe : Hid (u3.ownBlock ≠ some (wr.heap.size + 1)) := Lib.hid (fun e => by have := (HW.out.lt _ e).2; omega)
     simp only [World.size_alloc] at HN0
     generalize wr.heap.size + 1 = p at *
     clear d0 d1 d2 d3 d4 d5 d6
     go_loopw [3, 7] (fun u j W => TprIn p y pre w u j W) (fun _ j _ => 7 - (intOf j).toNat)
     case atStart => exact ⟨0, pre, by omega, rfl, by rw [Tr.part_zero, List.append_nil], HO0.out, HN0.out, HNe.out, HB0.out⟩
     case round =>
       obtain ⟨i, q, hi7, rfl, hq, hO3, hN3, hne3, hB3⟩ := hrel
       have HO3 := Lib.hid hO3
       have HN3 := Lib.hid hN3
       have HB3 := Lib.hid hB3
       have HNe3 := Lib.hid hne3
       have HQ := Lib.hid hq
       have HQL : Hid (q.length ≤ 10 + 70 * k + 70) := Lib.hid (by rw [hq, List.length_append]; have h1 := HPL.out; have h2 := Tr.part_len HY.out.1 i hi7; omega)
       clear hO3 hN3 hB3 hne3 hq
       by_cases hi6 : i < 7
       · have HS := Lib.hid (Tr.part_succ y hi6)
         have hw := Tr.wf_at HY.out.1 hi6
         have hi64 : (i : Int) < 7 := by omega
         have ec := node_at HN3.out hi6
         generalize y.list.getD i 0 = x at *
         obtain ⟨hw1, hw2⟩ := hw
         have hfl := Uv.fold_lt hw1 hw2
         have hq10 := Uv.put_len_10 hfl
         have hqpos := Uv.put_len_pos (Uv.fold x)
         go_wp2_with (go_at_call 97; go_must (refine (rfold_any x _ hw1 hw2).mono ?_; rintro e w' ⟨rfl, rfl⟩))
         refine (rput_any (Uv.fold x) wr hfl).mono ?_
         rintro e w2 ⟨v2, rfl, hown2, hb2⟩
         obtain ⟨g, cap, cur, rfl, _, _, hG, hlen, htake⟩ := own_str hown2 hqpos
         obtain ⟨v', w3, hr2, hinv⟩ := append_bytes_at (c := cap) (ownsRow_below HO3.out hb2) (bytesAt_own hG hlen htake (Uv.put_byte _)) (by intro e; cases e) (Nat.le_trans HB3.out.size hb2.size) (by have h1 := HQL.out; have h2 := HL.out; omega)
         have HR := Lib.hid (hr2 27 rfl)
         have HF := Lib.hid (own_then hb2 hinv)
         clear hG hlen htake hr2 hinv hown2 hb2 ec
         go_wp2_with (at_builtin; refine Lib.wpList_append_run _ rfl (.tmp 41) (.tmp 46) _ _ rfl _ _ rfl rfl _ _ HR.out ?_)
         go_roundw
         case rel => exact tprIn_step hi6 HS.out HQ.out HN3.out HNe3.out HB3.out HO3.out HF.out
         case measure => simp [intOf]; omega
       · obtain rfl : i = 7 := by omega
         have HE : Hid (q = pt ++ (l.take (k + 1)).flatMap Tr.one) := Lib.hid (by rw [HQ.out, HPre.out, Tr.part_all, HY.out.2, List.append_assoc])
         go_wp2
         go_roundw
         case rel => exact ⟨k + 1, q, hlt, by go_num, HE.out, HO3.out, HB3.out⟩
         case measure => simp [intOf]; omega
   · have hkn : k = n := by omega
     subst hkn
     have HE : Hid (pre = Tr.bytes l) := Lib.hid (by rw [HPre.out, HBytes.out, List.take_of_length_le (Nat.le_of_eq HL.out.1)])
     go_wp2
     go_ret
     have hf := HW.out
     rw [HE.out] at hf
     exact ⟨_, rfl, hf, HB.out⟩
end Go.Proofs.YtdopheoedpldiaaGreatDoor
