/-
 What the document's Put of sets lays. Conditions: the table can be read, at most 4096 sets; words of 64 bits.
-/
import Derived.Test.YtdopheoedpldiaaGreatDoorPutX
set_option maxRecDepth 100000
namespace Go.Proofs.YtdopheoedpldiaaGreatDoor
open Go.RowKit
theorem set_word {w : World} {B n b off : Nat} {l : List Sl.Four} (h : SetsAt w B (some ⟨b, off, none⟩) n l) {k i : Nat} {y : Sl.Four} (hk : k < n) (hi : i < 4) (hy : l.getD k Sl.no = y) : w.cell? ⟨b, off + k * 4 + i, none⟩ = some (.int .u64 (y.word i : Int)) := by
 obtain ⟨b', off', e, _, hc⟩ := h.2 (by omega)
 injection e with e
 injection e with e1 e2
 subst e1 e2
 rw [← hy]
 exact hc k hk i hi
theorem Mp.Part.upto {l : List Sl.Four} {fr k n : Nat} (h : Mp.Part l fr fr) (hf : fr < k) (hk : k ≤ n) (ha : ∀ j, fr ≤ j → j < k → l.getD j Sl.no = l.getD fr Sl.no) (hl : l.length = n) : Mp.Part l (k - 1) fr :=
 ⟨by omega, fun j h1 h2 _ => ha j h1 (by omega), h.last, fun e => by omega⟩
theorem Mp.bytes_take_len {l : List Sl.Four} (h : ∀ s ∈ l, s.ok) (hl : l.length ≤ 4096) (k : Nat) : (Mp.laid (Mp.of (l.take k))).length ≤ 50 * k := by
 have h1 := Mp.bytes_len (l := l.take k) (fun s hs => h s (List.mem_of_mem_take hs)) (by simp; omega)
 have h2 : (l.take k).length ≤ k := by simp; omega
 unfold Mp.bytes at h1
 omega
def MprRel (n : Nat) (l : List Sl.Four) (w : World) (u i : Value) (wr : World) : Prop :=
 ∃ (fr : Nat) (pre : List Nat), fr ≤ n ∧ i = .int .i64 (fr : Int) ∧ Mp.Part l fr fr ∧ pre = Mp.laid (Mp.of (l.take fr)) ∧ wr.ownsRow w.heap.size 5 1 u pre.length (bs pre) ∧ Below w.heap.size w wr
def MprIn (fr n : Nat) (l : List Sl.Four) (w : World) (j : Value) (wr : World) : Prop :=
 ∃ k : Nat, fr ≤ k ∧ k ≤ n ∧ j = .int .i64 (k : Int) ∧ (∀ j, fr ≤ j → j < k → l.getD j Sl.no = l.getD fr Sl.no) ∧ Below w.heap.size w wr
set_option maxHeartbeats 8000000 in
theorem rmpput_any (a : Option Addr) (n c : Nat) (l : List Sl.Four) (w : World) (h : SetsAt w w.heap.size a n l) (hn : n ≤ 4096) (ho : ∀ s ∈ l, s.ok) :
   Calls Tryz.prog 56 #[.slice a n c] w (NewPost (Mp.bytes l) w) := by
 have H := Lib.hid h
 have HL := Lib.hid h.1
 have HOk := Lib.hid ho
 have HLen := Lib.hid (fun k => Mp.bytes_take_len ho (by rw [h.1]; exact hn) k)
 clear h ho
 go_enter Tryz.func56, Tryz.ntmps56
 go_wp2
 go_loopw [3, 4] (fun u i wr => MprRel n l w u i wr) (fun _ i _ => n - (intOf i).toNat)
 case atStart => exact ⟨0, [], Nat.zero_le _, rfl, Mp.Part.zero l, rfl, World.ownsRow_nil _ _ _ _, Below.refl _ _⟩
 case round =>
   obtain ⟨fr, pre, hfn, rfl, hP, hpre, hO, hB⟩ := hrel
   have HO := Lib.hid hO
   have HB := Lib.hid hB
   have HP := Lib.hid hP
   have HPre := Lib.hid hpre
   have HPL : Hid (pre.length ≤ 50 * fr) := Lib.hid (by rw [hpre]; exact HLen.out fr)
   clear hO hB hP hpre
   by_cases hlt : fr < n
   · obtain ⟨b, off, y, rfl, hbl, hy, hky, _⟩ := sets_cell (H.out.on HB.out) hlt
     have HOy : Hid y.ok := Lib.hid (by rw [← hy]; exact mp_ok HOk.out hky)
     have HY := Lib.hid hy
     clear hy hky
     obtain ⟨wo, rfl⟩ : ∃ wo : World, wo = wr := ⟨_, rfl⟩
     go_wp2
     go_loopw [5] (fun j W => MprIn fr n l wo j W) (fun j _ => n - (intOf j).toNat)
     case atStart => exact ⟨fr, Nat.le_refl _, hfn, rfl, fun j h1 h2 => absurd h2 (by omega), Below.refl _ _⟩
     case round =>
       obtain ⟨k, hfk, hkn, rfl, hal, hBk⟩ := hrel
       have HAl := Lib.hid hal
       have HBk := Lib.hid hBk
       clear hal hBk
       obtain ⟨_, _, y', e1, _, hy', hky', c0, c1, c2, c3⟩ := sets_cell (H.out.below (HB.out.trans (HBk.out.mono HB.out.size))) hlt
       injection e1 with e1
       injection e1 with e3 e4
       subst e3 e4
       rw [HY.out] at hy'
       subst hy'
       by_cases hlt2 : k < n
       · have hkn64 : (k : Int) < (n : Int) := by omega
         have hfn64 : (fr : Int) < (n : Int) := by omega
         obtain ⟨_, _, z, e1, _, hz, hkz, d0, d1, d2, d3⟩ := sets_cell (H.out.below (HB.out.trans (HBk.out.mono HB.out.size))) hlt2
         injection e1 with e1
         injection e1 with e3 e4
         subst e3 e4
         have eqs := eq_sets z y
         by_cases hzy : z = y
         · rw [Mp.same_iff.2 hzy] at eqs
           have HAl2 : Hid (∀ j, fr ≤ j → j < k + 1 → l.getD j Sl.no = l.getD fr Sl.no) := Lib.hid (fun j h1 h2 => by
             rcases (show j < k ∨ j = k by omega) with h3 | rfl
             · exact HAl.out j h1 h3
             · rw [hz, hzy, HY.out])
           clear hz hzy hkz hky'
           go_wp2
           go_quiet (fail)
           go_wp2
           go_roundw
           case rel => exact ⟨k + 1, by omega, hlt2, by go_num, HAl2.out, HBk.out.trans (below_drewN (Below.refl _ wr) nq |>.mono HBk.out.size)⟩
           case measure => simp [intOf]; omega
         · rw [Mp.same_not hzy] at eqs
           have HNe : Hid (fr ≠ k) := Lib.hid (by rintro rfl; rw [HY.out] at hz; exact hzy hz.symm)
           have HCut : Hid (fr < k → k - 1 + 1 < l.length → l.getD (k - 1 + 1) Sl.no ≠ l.getD (k - 1) Sl.no) := Lib.hid (fun h1 _ => by
             rw [show k - 1 + 1 = k by omega, hz, HAl.out (k - 1) (by omega) (by omega), HY.out]
             exact hzy)
           clear hz hzy hkz hky'
           have hkf : fr < k := by have := HNe.out; omega
           have HPk := Lib.hid (Mp.Part.upto HP.out hkf hkn HAl.out HL.out)
           have HOf := Lib.hid (HPk.out.of_take (by rw [HL.out]; omega))
           rw [show k - 1 + 1 = k by omega] at HOf
           have HPc : Hid (Mp.Part l k k) := Lib.hid (by have e := HPk.out.cut (HCut.out hkf); rwa [show k - 1 + 1 = k by omega] at e)
           have HTop : Hid (l.getD (k - 1) Sl.no = y) := Lib.hid (by rw [HAl.out (k - 1) (by omega) (by omega)]; exact HY.out)
           rw [HTop.out] at HOf
           obtain ⟨d, hdd⟩ : ∃ d : Nat, k - fr = d := ⟨_, rfl⟩
           rw [hdd] at HOf
           have hsub : (k : Int) - (fr : Int) = (d : Int) := by omega
           have hd64 : d < 18446744073709551616 := by omega
           clear HTop hdd HCut
           go_wp2
           go_quiet (fail)
           have HO1 := Lib.hid (ownsRow_below (ownsRow_below HO.out HBk.out) (below_drewN (Below.refl _ _) nq))
           have HB1 := Lib.hid ((HB.out.trans (HBk.out.mono HB.out.size)).trans (below_drewN (Below.refl _ wr) nq |>.mono (by have := HB.out.size; have := HBk.out.size; omega)))
           have HBo1 := Lib.hid (HBk.out.trans (below_drewN (Below.refl _ wr) nq |>.mono HBk.out.size))
           generalize wr.drewN nq = w1 at *
           go_wp2_with fail
           refine (rput_any d w1 hd64).mono ?_
           rintro e w2 ⟨v2, rfl, hown2, hb2⟩
           obtain ⟨A2, c2, rfl, hG, hnil⟩ := own_bytes hown2 (Uv.put_byte _)
           have hd10 := Uv.put_len_10 hd64
           obtain ⟨v', w3, hr2, hinv⟩ := append_bytes_at (c := c2) (ownsRow_below HO1.out hb2) hG hnil (Nat.le_trans HB1.out.size hb2.size) (by have h1 := HPL.out; have h2 := hn; omega)
           have HR := Lib.hid (hr2 27 rfl)
           have HF := Lib.hid (own_then hb2 hinv)
           have HO2 := Lib.hid (show w3.ownsRow w.heap.size 5 1 v' (pre ++ Uv.put d).length (bs (pre ++ Uv.put d)) from by rw [List.length_append, bs_append]; exact HF.out.1)
           have HB2 := Lib.hid (HB1.out.grown HF.out.2.1 HB1.out.size (fun b e => (HO1.out.lt b e).1))
           have HPL0 : Hid ((pre ++ Uv.put d).length ≤ 50 * fr + 10) := Lib.hid (by rw [List.length_append]; have h1 := HPL.out; omega)
           obtain ⟨p2, hp2⟩ : ∃ p2, pre ++ Uv.put d = p2 := ⟨_, rfl⟩
           rw [hp2] at HO2 HPL0
           have HP2 := Lib.hid hp2
           clear hp2 hG hnil hr2 hinv hown2 hb2
           go_wp2_with (at_builtin; refine Lib.wpList_append_run _ rfl (.tmp 29) (.tmp 34) _ _ rfl _ _ rfl rfl _ _ HR.out ?_)
           clear HR
           go_loopw [3, 6] (fun u j W => MptIn y p2 w u j W) (fun _ j _ => 4 - (intOf j).toNat)
           case atStart => exact ⟨0, p2, by omega, rfl, by rw [Mp.wordsTo_zero, List.append_nil], HO2.out, HB2.out⟩
           case round =>
             obtain ⟨i, q, hi4, rfl, hq, hO3, hB3⟩ := hrel
             have HO3 := Lib.hid hO3
             have HB3 := Lib.hid hB3
             have HQ := Lib.hid hq
             have HQL : Hid (q.length ≤ 50 * fr + 50) := Lib.hid (by rw [hq, List.length_append]; have h1 := HPL0.out; have h2 := Mp.wordsTo_len HOy.out i; omega)
             clear hO3 hB3 hq
             by_cases hi3 : i < 4
             · have HS := Lib.hid (Mp.wordsTo_succ y i)
               have hxw := Sl.ok_word HOy.out i
               have hx10 := Uv.put_len_10 hxw
               have ec := set_word (H.out.below HB3.out) (show fr < n by omega) hi3 rfl
               rw [HY.out] at ec
               generalize y.word i = x at *
               have hi64 : (i : Int) < 4 := by omega
               go_wp2_with fail
               refine (rput_any x wr hxw).mono ?_
               rintro e w4 ⟨v4, rfl, hown4, hb4⟩
               obtain ⟨A4, c4, rfl, hG, hnil⟩ := own_bytes hown4 (Uv.put_byte _)
               obtain ⟨v', w5, hr2, hinv⟩ := append_bytes_at (c := c4) (ownsRow_below HO3.out hb4) hG hnil (Nat.le_trans HB3.out.size hb4.size) (by have h1 := HQL.out; have h2 := hn; omega)
               have HR := Lib.hid (hr2 27 rfl)
               have HF4 := Lib.hid (own_then hb4 hinv)
               clear hG hnil hr2 hinv hown4 hb4 ec
               go_wp2_with (at_builtin; refine Lib.wpList_append_run _ rfl (.tmp 40) (.tmp 47) _ _ rfl _ _ rfl rfl _ _ HR.out ?_)
               go_roundw
               case rel => exact ⟨i + 1, q ++ Uv.put x, hi3, by go_num, by rw [HQ.out, HS.out, List.append_assoc], by rw [List.length_append, bs_append]; exact HF4.out.1, HB3.out.grown HF4.out.2.1 HB3.out.size (fun b e => (HO3.out.lt b e).1)⟩
               case measure => simp [intOf]; omega
             · obtain rfl : i = 4 := by omega
               have HE : Hid (q = Mp.laid (Mp.of (l.take k))) := Lib.hid (by rw [HQ.out, ← HP2.out, HPre.out, Mp.wordsTo_all, HOf.out, Mp.laid_append, Mp.laid_one, List.append_assoc]; rfl)
               go_wp2
               go_roundw
               case rel => exact ⟨k, q, hkn, rfl, HPc.out, HE.out, HO3.out, HB3.out⟩
               case measure => simp [intOf]; omega
       · have hkn64 : decide ((k : Int) < (n : Int)) = false := decide_eq_false (by omega)
         have HCut : Hid (fr < k → k - 1 + 1 < l.length → l.getD (k - 1 + 1) Sl.no ≠ l.getD (k - 1) Sl.no) := Lib.hid (fun h1 h2 => absurd h2 (by rw [HL.out]; omega))
         clear hky'
         have hkf : fr < k := by omega
         have HPk := Lib.hid (Mp.Part.upto HP.out hkf hkn HAl.out HL.out)
         have HOf := Lib.hid (HPk.out.of_take (by rw [HL.out]; omega))
         rw [show k - 1 + 1 = k by omega] at HOf
         have HPc : Hid (Mp.Part l k k) := Lib.hid (by have e := HPk.out.cut (HCut.out hkf); rwa [show k - 1 + 1 = k by omega] at e)
         have HTop : Hid (l.getD (k - 1) Sl.no = y) := Lib.hid (by rw [HAl.out (k - 1) (by omega) (by omega)]; exact HY.out)
         rw [HTop.out] at HOf
         obtain ⟨d, hdd⟩ : ∃ d : Nat, k - fr = d := ⟨_, rfl⟩
         rw [hdd] at HOf
         have hsub : (k : Int) - (fr : Int) = (d : Int) := by omega
         have hd64 : d < 18446744073709551616 := by omega
         clear HTop hdd HCut
         go_wp2
         go_quiet (fail)
         have HO1 := Lib.hid (ownsRow_below (ownsRow_below HO.out HBk.out) (below_drewN (Below.refl _ _) nq))
         have HB1 := Lib.hid ((HB.out.trans (HBk.out.mono HB.out.size)).trans (below_drewN (Below.refl _ wr) nq |>.mono (by have := HB.out.size; have := HBk.out.size; omega)))
         have HBo1 := Lib.hid (HBk.out.trans (below_drewN (Below.refl _ wr) nq |>.mono HBk.out.size))
         generalize wr.drewN nq = w1 at *
         go_wp2_with fail
         refine (rput_any d w1 hd64).mono ?_
         rintro e w2 ⟨v2, rfl, hown2, hb2⟩
         obtain ⟨A2, c2, rfl, hG, hnil⟩ := own_bytes hown2 (Uv.put_byte _)
         have hd10 := Uv.put_len_10 hd64
         obtain ⟨v', w3, hr2, hinv⟩ := append_bytes_at (c := c2) (ownsRow_below HO1.out hb2) hG hnil (Nat.le_trans HB1.out.size hb2.size) (by have h1 := HPL.out; have h2 := hn; omega)
         have HR := Lib.hid (hr2 27 rfl)
         have HF := Lib.hid (own_then hb2 hinv)
         have HO2 := Lib.hid (show w3.ownsRow w.heap.size 5 1 v' (pre ++ Uv.put d).length (bs (pre ++ Uv.put d)) from by rw [List.length_append, bs_append]; exact HF.out.1)
         have HB2 := Lib.hid (HB1.out.grown HF.out.2.1 HB1.out.size (fun b e => (HO1.out.lt b e).1))
         have HPL0 : Hid ((pre ++ Uv.put d).length ≤ 50 * fr + 10) := Lib.hid (by rw [List.length_append]; have h1 := HPL.out; omega)
         obtain ⟨p2, hp2⟩ : ∃ p2, pre ++ Uv.put d = p2 := ⟨_, rfl⟩
         rw [hp2] at HO2 HPL0
         have HP2 := Lib.hid hp2
         clear hp2 hG hnil hr2 hinv hown2 hb2
         go_wp2_with (at_builtin; refine Lib.wpList_append_run _ rfl (.tmp 29) (.tmp 34) _ _ rfl _ _ rfl rfl _ _ HR.out ?_)
         clear HR
         go_loopw [3, 6] (fun u j W => MptIn y p2 w u j W) (fun _ j _ => 4 - (intOf j).toNat)
         case atStart => exact ⟨0, p2, by omega, rfl, by rw [Mp.wordsTo_zero, List.append_nil], HO2.out, HB2.out⟩
         case round =>
           obtain ⟨i, q, hi4, rfl, hq, hO3, hB3⟩ := hrel
           have HO3 := Lib.hid hO3
           have HB3 := Lib.hid hB3
           have HQ := Lib.hid hq
           have HQL : Hid (q.length ≤ 50 * fr + 50) := Lib.hid (by rw [hq, List.length_append]; have h1 := HPL0.out; have h2 := Mp.wordsTo_len HOy.out i; omega)
           clear hO3 hB3 hq
           by_cases hi3 : i < 4
           · have HS := Lib.hid (Mp.wordsTo_succ y i)
             have hxw := Sl.ok_word HOy.out i
             have hx10 := Uv.put_len_10 hxw
             have ec := set_word (H.out.below HB3.out) (show fr < n by omega) hi3 rfl
             rw [HY.out] at ec
             generalize y.word i = x at *
             have hi64 : (i : Int) < 4 := by omega
             go_wp2_with fail
             refine (rput_any x wr hxw).mono ?_
             rintro e w4 ⟨v4, rfl, hown4, hb4⟩
             obtain ⟨A4, c4, rfl, hG, hnil⟩ := own_bytes hown4 (Uv.put_byte _)
             obtain ⟨v', w5, hr2, hinv⟩ := append_bytes_at (c := c4) (ownsRow_below HO3.out hb4) hG hnil (Nat.le_trans HB3.out.size hb4.size) (by have h1 := HQL.out; have h2 := hn; omega)
             have HR := Lib.hid (hr2 27 rfl)
             have HF4 := Lib.hid (own_then hb4 hinv)
             clear hG hnil hr2 hinv hown4 hb4 ec
             go_wp2_with (at_builtin; refine Lib.wpList_append_run _ rfl (.tmp 40) (.tmp 47) _ _ rfl _ _ rfl rfl _ _ HR.out ?_)
             go_roundw
             case rel => exact ⟨i + 1, q ++ Uv.put x, hi3, by go_num, by rw [HQ.out, HS.out, List.append_assoc], by rw [List.length_append, bs_append]; exact HF4.out.1, HB3.out.grown HF4.out.2.1 HB3.out.size (fun b e => (HO3.out.lt b e).1)⟩
             case measure => simp [intOf]; omega
           · obtain rfl : i = 4 := by omega
             have HE : Hid (q = Mp.laid (Mp.of (l.take k))) := Lib.hid (by rw [HQ.out, ← HP2.out, HPre.out, Mp.wordsTo_all, HOf.out, Mp.laid_append, Mp.laid_one, List.append_assoc]; rfl)
             go_wp2
             go_roundw
             case rel => exact ⟨k, q, hkn, rfl, HPc.out, HE.out, HO3.out, HB3.out⟩
             case measure => simp [intOf]; omega
   · obtain rfl : fr = n := by omega
     have HE : Hid (pre = Mp.bytes l) := Lib.hid (by rw [HPre.out, List.take_of_length_le (by rw [HL.out]; omega)]; rfl)
     go_wp2
     go_ret
     have hf := HO.out
     rw [HE.out] at hf
     exact ⟨_, rfl, hf, HB.out⟩
end Go.Proofs.YtdopheoedpldiaaGreatDoor
