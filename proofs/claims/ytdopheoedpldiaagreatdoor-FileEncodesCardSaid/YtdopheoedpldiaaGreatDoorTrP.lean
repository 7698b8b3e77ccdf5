/-
 Where a node's seven numbers are, told by tree.numbers. Conditions: none.
-/
import Derived.BigRegion
import Derived.Test.YtdopheoedpldiaaGreatDoorAtA
import Derived.Test.YtdopheoedpldiaaGreatDoorUv
import Derived.Deep.DeepMust
set_option maxRecDepth 100000
namespace Go.Proofs.YtdopheoedpldiaaGreatDoor
open Go.RowKit
def places7 (g : Nat) : Array Value := #[.pointer (some ⟨g, 0, none⟩), .pointer (some ⟨g, 1, none⟩), .pointer (some ⟨g, 2, none⟩), .pointer (some ⟨g, 3, none⟩), .pointer (some ⟨g, 4, none⟩), .pointer (some ⟨g, 5, none⟩), .pointer (some ⟨g, 6, none⟩)]
set_option maxHeartbeats 4000000 in
theorem trnumbers_any (g : Nat) (w : World) :
   Calls Tryz.prog 93 #[.pointer (some ⟨g, 0, none⟩)] w fun e w' => e = .returned (.agg (places7 g)) ∧ Below w.heap.size w w' := by
 go_enter Tryz.func93, Tryz.ntmps93
 go_wp2
 go_region
 go_wp2
 exact bodyPost_ret (v := .agg (places7 g)) (by simp [results, Tryz.results93, go_sem, places7]) rfl ⟨rfl, ((Below.refl _ _).alloc (Nat.le_refl _) _).drew⟩
theorem place7 (g i : Nat) (h : i < 7) (w : World) : (Instr.index 111 (.agg (places7 g)) (.int .i64 (i : Int))).run Tryz.prog w = .ok (.pointer (some ⟨g, i, none⟩)) w := by
 rcases (show i = 0 ∨ i = 1 ∨ i = 2 ∨ i = 3 ∨ i = 4 ∨ i = 5 ∨ i = 6 by omega) with rfl | rfl | rfl | rfl | rfl | rfl | rfl
 all_goals kernel_rfl
theorem node_at {w : World} {B : Nat} {t : TypeId} {n : Tr.Nd} (h : NodeAt w B t n) {i : Nat} (hi : i < 7) : w.cell? ⟨B, i, none⟩ = some (.int .i64 (n.list.getD i 0)) := by
 obtain ⟨e0, e1, e2, e3, e4, e5, e6⟩ := h.cells
 rcases (show i = 0 ∨ i = 1 ∨ i = 2 ∨ i = 3 ∨ i = 4 ∨ i = 5 ∨ i = 6 by omega) with rfl | rfl | rfl | rfl | rfl | rfl | rfl
 · exact e0
 · exact e1
 · exact e2
 · exact e3
 · exact e4
 · exact e5
 · exact e6
end Go.Proofs.YtdopheoedpldiaaGreatDoor
namespace Go.Proofs.YtdopheoedpldiaaGreatDoor
open Go.RowKit
namespace Tr
def part (n : Nd) (i : Nat) : List Nat := (n.list.take i).flatMap fun x => Uv.put (Uv.fold x)
theorem part_zero (n : Nd) : part n 0 = [] := rfl
theorem part_all (n : Nd) : part n 7 = one n := rfl
theorem part_succ (n : Nd) {i : Nat} (h : i < 7) : part n (i + 1) = part n i ++ Uv.put (Uv.fold (n.list.getD i 0)) := by
 rcases (show i = 0 ∨ i = 1 ∨ i = 2 ∨ i = 3 ∨ i = 4 ∨ i = 5 ∨ i = 6 by omega) with rfl | rfl | rfl | rfl | rfl | rfl | rfl <;> simp [part, Nd.list]
theorem wf_at {n : Nd} (h : n.wf) {i : Nat} (hi : i < 7) : -9223372036854775808 ≤ n.list.getD i 0 ∧ n.list.getD i 0 ≤ 9223372036854775807 := by
 refine h _ ?_
 rcases (show i = 0 ∨ i = 1 ∨ i = 2 ∨ i = 3 ∨ i = 4 ∨ i = 5 ∨ i = 6 by omega) with rfl | rfl | rfl | rfl | rfl | rfl | rfl <;> simp [Nd.list]
theorem part_len {n : Nd} (h : n.wf) : ∀ i, i ≤ 7 → (part n i).length ≤ 10 * i
 | 0, _ => by simp [part]
 | i + 1, hi => by
   have ih := part_len h i (by omega)
   have hw := wf_at h (show i < 7 by omega)
   have h2 := Uv.put_len_10 (Uv.fold_lt hw.1 hw.2)
   rw [part_succ n (by omega), List.length_append]
   omega
theorem wf_of {l : List Nd} (h : ∀ n ∈ l, n.wf) {k : Nat} (hk : k < l.length) : (l.getD k Nd.nil).wf := by
 have e : l.getD k Nd.nil = l[k] := by simp [List.getD, hk]
 rw [e]
 exact h _ (List.getElem_mem hk)
theorem flat_take_len {l : List Nd} (h : ∀ n ∈ l, n.wf) (k : Nat) : ((l.take k).flatMap one).length ≤ 70 * k := by
 have h1 := flat_len (l := l.take k) (fun n hn => h n (List.mem_of_mem_take hn))
 have h2 : (l.take k).length ≤ k := by simp; omega
 omega
end Tr
def TptRel (n : Nat) (l : List Tr.Nd) (pt : List Nat) (w : World) (u i : Value) (wr : World) : Prop :=
 ∃ (k : Nat) (pre : List Nat), k ≤ n ∧ i = .int .i64 (k : Int) ∧ pre = pt ++ (l.take k).flatMap Tr.one ∧ wr.ownsRow w.heap.size 5 1 u pre.length (bs pre) ∧ Below w.heap.size w wr
def TptIn (p : Nat) (y : Tr.Nd) (pre : List Nat) (w : World) (u j : Value) (wr : World) : Prop :=
 ∃ (i : Nat) (q : List Nat), i ≤ 7 ∧ j = .int .i64 (i : Int) ∧ q = pre ++ Tr.part y i ∧ wr.ownsRow w.heap.size 5 1 u q.length (bs q) ∧ NodeAt wr p 104 y ∧ u.ownBlock ≠ some p ∧ Below w.heap.size w wr
theorem tptIn_step {p : Nat} {y : Tr.Nd} {pre q : List Nat} {w wr w2 : World} {u v : Value} {i : Nat} {d : List Nat} (hi : i < 7) (hd : Tr.part y (i + 1) = Tr.part y i ++ d) (hq : q = pre ++ Tr.part y i) (hN : NodeAt wr p 104 y) (hne : u.ownBlock ≠ some p) (hB : Below w.heap.size w wr)
   (hO : wr.ownsRow w.heap.size 5 1 u q.length (bs q)) (h : OwnInv w.heap.size wr u v (q.length + d.length) (bs q ++ bs d) w2) : TptIn p y pre w v (.int .i64 ((i : Int) + 1)) w2 := by
 obtain ⟨h1, h2, h3⟩ := h
 refine ⟨i + 1, q ++ d, hi, rfl, by rw [hq, hd, List.append_assoc], by rw [List.length_append, bs_append]; exact h1, (h2.block p hN.lt (Ne.symm hne)).trans hN, ?_, hB.grown h2 hB.size (fun k hk => (hO.lt k hk).1)⟩
 rcases h3 with h3 | ⟨g, h3, hg⟩
 · rw [h3]; exact hne
 · rw [h3]
   intro e
   injection e with e
   have := hN.lt
   omega
set_option maxHeartbeats 8000000 in
theorem trput_own (base : Nat) (v : Value) (m : Nat) (xs : List Value) (a : Option Addr) (n c : Nat) (l : List Tr.Nd) (w : World) (h : NodesAt w w.heap.size a n l) (hn : n ≤ 4096) (hwf : ∀ nd ∈ l, nd.wf) (hown : w.ownsRow base 5 1 v m xs) (hbase : base ≤ w.heap.size) (hm : m + 1000000 ≤ 140737488355328) :
   Calls Tryz.prog 48 #[v, .slice a n c] w (OwnPost base w v (m + (Tr.bytes l).length) (xs ++ bs (Tr.bytes l))) := by
 obtain ⟨i0, hi, hz0, hz1, hz2⟩ := info_parts info_u8
 have hl : l.length = n := h.1
 have H := Lib.hid h
 have HO := Lib.hid hown
 have HBytes : Hid (Tr.bytes l = Uv.put n ++ l.flatMap Tr.one) := Lib.hid (by rw [Tr.bytes, hl])
 have HByte := Lib.hid (Tr.bytes_byte l)
 have hpl := Uv.put_len_10 (n := n) (by omega)
 have HPt := Lib.hid (put_own w.heap.size (.slice none 0 0) 0 [] n w (by omega) (World.ownsRow_nil _ _ _ _) (Nat.le_refl _) (by omega))
 have HPos := Lib.hid (Uv.put_len_pos n)
 generalize Uv.put n = pt at *
 have hwr : (n : Int) < 18446744073709551616 := by omega
 have HL : Hid (l.length = n ∧ pt.length ≤ 10 ∧ n ≤ 4096) := Lib.hid ⟨hl, hpl, hn⟩
 have HWf := Lib.hid hwf
 clear hl hpl h hown hwf
 go_enter Tryz.func48, Tryz.ntmps48
 go_wp2_with (go_at_call 20; refine HPt.out.mono ?_; rintro _ w1 ⟨v1, rfl, hinv⟩; have HI := Lib.hid hinv; clear hinv)
 clear HPt
 go_loopw [5, 16] (fun u i wr => TptRel n l pt w u i wr) (fun _ i _ => n - (intOf i).toNat)
 case atStart =>
   refine ⟨0, pt, Nat.zero_le _, rfl, by simp, ?_, HI.out.below (World.ownsRow_nil _ _ _ _) (Nat.le_refl _)⟩
   have := HI.out.1
   simpa using this
 case round =>
   obtain ⟨k, pre, hk, rfl, hpre, hO, hB⟩ := hrel
   have HW := Lib.hid hO
   have HB := Lib.hid hB
   have HPre := Lib.hid hpre
   have HPL : Hid (pre.length ≤ 10 + 70 * k) := Lib.hid (by rw [hpre, List.length_append]; have h1 := HL.out; have h2 := Tr.flat_take_len HWf.out k; omega)
   clear hO hB hpre
   by_cases hlt : k < n
   · obtain ⟨b, off, y, rfl, _, hy, hky, d0, d1, d2, d3, d4, d5, d6⟩ := nodes_cell (H.out.below HB.out) hlt
     have HY : Hid (y.wf ∧ (l.take (k + 1)).flatMap Tr.one = (l.take k).flatMap Tr.one ++ Tr.one y) := Lib.hid (by have h1 := Tr.wf_of HWf.out hky; have h2 := Tr.flat_take hky; rw [hy] at h1 h2; exact ⟨h1, h2⟩)
     have HNum := Lib.hid (fun (W : World) => trnumbers_any wr.heap.size W)
     unfold places7 at HNum
     clear hy hky
     go_wp2_with (go_at_call 93; go_must (refine (HNum.out _).mono ?_; rintro _ w2 ⟨rfl, hb2⟩))
     have HN0 := Lib.hid ((NodeAt.new wr 104 y).below hb2 (by simp))
     have HO0 := Lib.hid (ownsRow_below (HW.out.alloc (.cells #[.int .i64 y.p, .int .i64 y.f, .int .i64 y.l, .int .i64 y.a, .int .i64 y.g, .int .i64 y.t, .int .i64 y.r] 104)) hb2)
     have HB0 := Lib.hid (below_self ((HB.out.alloc HB.out.size (.cells #[.int .i64 y.p, .int .i64 y.f, .int .i64 y.l, .int .i64 y.a, .int .i64 y.g, .int .i64 y.t, .int .i64 y.r] 104)).mono (Nat.le_refl _)) hb2)
     have HNe : Hid (u5.ownBlock ≠ some wr.heap.size) := Lib.hid (fun e => by have := (HW.out.lt _ e).2; omega)
     generalize hp : wr.heap.size = p at *
     clear hb2 d0 d1 d2 d3 d4 d5 d6
     go_loopw [5, 21] (fun u j W => TptIn p y pre w u j W) (fun _ j _ => 7 - (intOf j).toNat)
     case atStart => exact ⟨0, pre, by omega, rfl, by rw [Tr.part_zero, List.append_nil], HO0.out, HN0.out, HNe.out, HB0.out⟩
     case round =>
       obtain ⟨i, q, hi7, rfl, hq, hO3, hN3, hne3, hB3⟩ := hrel
       have HO3 := Lib.hid hO3
       have HN3 := Lib.hid hN3
       have HB3 := Lib.hid hB3
       have HNe3 := Lib.hid hne3
       have HQ := Lib.hid hq
       have HQL : Hid (q.length ≤ 10 + 70 * k + 70) := Lib.hid (by rw [hq, List.length_append]; have h1 := HPL.out; have h2 := Tr.part_len HY.out.1 i hi7; omega)
       obtain ⟨e0, e1, e2, e3, e4, e5, e6⟩ := hN3.cells
       clear hO3 hN3 hB3 hne3 hq
       by_cases hi6 : i < 7
       · have HS := Lib.hid (Tr.part_succ y hi6)
         have hw := Tr.wf_at HY.out.1 hi6
         have HC := Lib.hid (putInt_own w.heap.size u5 q.length (bs q) (y.list.getD i 0) wr hw.1 hw.2 HO3.out HB3.out.size (by have h1 := HQL.out; have h2 := HL.out; omega))
         have hi64 : (i : Int) < 7 := by omega
         have ix := place7 p i hi6
         unfold places7 at ix
         have ec := node_at HN3.out hi6
         generalize y.list.getD i 0 = x at *
         clear hw e0 e1 e2 e3 e4 e5 e6
         go_wp2_with (go_at_call 92; go_must (refine HC.out.mono ?_; rintro _ w3 ⟨v3, rfl, hinv⟩; have HI3 := Lib.hid hinv; clear hinv))
         go_roundw
         case rel => exact tptIn_step hi6 HS.out HQ.out HN3.out HNe3.out HB3.out HO3.out HI3.out
         case measure => simp [intOf]; omega
       · obtain rfl : i = 7 := by omega
         have HE : Hid (q = pt ++ (l.take (k + 1)).flatMap Tr.one) := Lib.hid (by rw [HQ.out, HPre.out, Tr.part_all, HY.out.2, List.append_assoc])
         go_wp2
         go_roundw
         case rel => exact ⟨k + 1, q, hlt, by go_num, HE.out, HO3.out, HB3.out⟩
         case measure => simp [intOf]; omega
   · have hkn : k = n := by omega
     subst hkn
     have HE : Hid (pre = Tr.bytes l) := Lib.hid (by rw [HPre.out, HBytes.out, List.take_of_length_le (Nat.le_of_eq HL.out.1)])
     have hpp : 0 < pre.length := by rw [HPre.out, List.length_append]; have := HPos.out; omega
     obtain ⟨g, cap, cur, rfl, _, _, hG, hlen, htake⟩ := own_str HW.out hpp
     obtain ⟨v', w', hr2, hinv⟩ := append_bytes_at (c := cap) (ownsRow_below HO.out HB.out) (bytesAt_own hG hlen htake (by rw [HE.out]; exact HByte.out)) (by intro e; cases e) (Nat.le_trans hbase HB.out.size) (by have h1 := HPL.out; have h2 := HL.out; omega)
     have HR := Lib.hid (hr2 27 rfl)
     have HF := Lib.hid (own_then HB.out hinv)
     clear hG hlen htake hr2 hinv hpp
     have hki : decide ((k : Int) < (k : Int)) = false := decide_eq_false (by omega)
     go_wp2_with (at_builtin; refine Lib.wpList_append_run _ rfl (.tmp 31) (.tmp 32) _ _ rfl _ _ rfl rfl _ _ HR.out ?_)
     go_ret
     exact ⟨_, rfl, HF.out.cast (by rw [HE.out]) (by rw [HE.out])⟩
end Go.Proofs.YtdopheoedpldiaaGreatDoor
