/-
 What sig.Take takes. Conditions: at most a million types are asked for (a cursor that a call made).
-/
import Derived.Test.YtdopheoedpldiaaGreatDoorCurS
import Derived.Test.YtdopheoedpldiaaGreatDoorSiOp
import Derived.Deep.DeepMust
set_option maxRecDepth 100000
namespace Go.Proofs.YtdopheoedpldiaaGreatDoor
open Go.RowKit
def SiTakeP (g : Nat) (o : List Int × (List Nat × Nat)) (w : World) (e : Ending) (w' : World) : Prop :=
 ∃ v, e = .returned v ∧ w'.ownsRow w.heap.size 99 1 v o.1.length (vs o.1) ∧ Cur w' g o.2 ∧ w.grownBy w' (some g)
theorem SiTakeP.no {g : Nat} {o : List Int × (List Nat × Nat)} {s : List Nat × Nat} {w w' : World} (h : o = ([], s)) (hc : Cur w' g s) (hg : w.grownBy w' (some g)) : SiTakeP g o w (.returned (.slice none 0 0)) w' := by
 subst h
 exact ⟨_, rfl, World.ownsRow_nil _ _ _ _, hc, hg⟩
theorem ty_slice {w : World} {b : Nat} {v : Value} {l : List Int} (h : w.ownsRow b 99 1 v l.length (vs l)) : ∃ A c, v = .slice A l.length c ∧ IntsAt w w.heap.size A l.length l ∧ (A = none → c = 0) := by
 rcases h.2 with ⟨rfl, h0⟩ | ⟨g, cap, cur, rfl, _⟩
 · have hi := ints_of_rowE h
   rw [h0] at hi ⊢
   exact ⟨none, 0, rfl, hi.2.1, fun _ => rfl⟩
 · have hi := ints_of_rowE h
   exact ⟨some ⟨g, 0, none⟩, cap, rfl, hi.2.1, fun e => by cases e⟩
def SiTkRel (g m : Nat) (s1 : List Nat × Nat) (w : World) (u i : Value) (wr : World) : Prop :=
 ∃ k : Nat, k ≤ m ∧ i = .int .i64 (k : Int) ∧ wr.ownsRow w.heap.size 99 1 u k (vs (Si.bytesV s1 k)) ∧ Cur wr g (Si.bytesS k s1) ∧ w.grownBy wr (some g) ∧ (k ≠ 0 → (Si.bytesS k s1).2 = 0)
set_option maxHeartbeats 8000000 in
theorem sitake_cur (g : Nat) (s : List Nat × Nat) (most : Int) (w : World) (h : Cur w g s) (h0 : 0 ≤ most) (h1 : most ≤ 1048576) : Calls Tryz.prog 168 #[.pointer (some ⟨g, 0, none⟩), .int .i64 most] w (SiTakeP g (Si.take s most) w) := by
 obtain ⟨i0, hi, hz0, hz1, hz2⟩ := info_parts info_type
 have hgl := h.lt
 have HNm := Lib.hid (num_cur g s most w h (by omega) (by omega))
 have HCl : Hid (Clean s) := Lib.hid h.nil
 have hmm := num_most s h0
 obtain ⟨m, s1, hns⟩ : ∃ m s1, numA s most = (m, s1) := ⟨_, _, rfl⟩
 have HC1 : Hid (Clean s1) := Lib.hid (by have := num_clean most HCl.out; rwa [hns] at this)
 rw [hns] at HNm hmm
 dsimp only at HNm hmm
 have HNs := Lib.hid hns
 have hm1 : m ≤ 1048576 := by omega
 clear h hns hmm
 go_enter Tryz.func168, Tryz.ntmps168
 go_wp2_with (go_at_call 106; refine HNm.out.mono ?_; rintro _ w1 ⟨rfl, hc1, hg1⟩; have HI := Lib.hid (And.intro hc1 hg1); clear hc1 hg1 HNm)
 go_loopw [5, 6, 10] (fun u _ i wr => SiTkRel g m s1 w u i wr) (fun _ _ i _ => m - (intOf i).toNat)
 case atStart => exact ⟨0, Nat.zero_le _, rfl, World.ownsRow_nil _ _ _ _, HI.out.1, HI.out.2, fun h => absurd rfl h⟩
 case round =>
   obtain ⟨k, hk, rfl, hO, hC, hG, hz⟩ := hrel
   have HZ := Lib.hid hz
   clear hz
   have HO := Lib.hid hO
   have HC := Lib.hid hC
   have HG := Lib.hid hG
   clear hO hC hG
   by_cases hlt : k < m
   · have HBy := Lib.hid (byte_cur g _ wr HC.out)
     have HV : Hid (Si.bytesV s1 (k + 1) = Si.bytesV s1 k ++ [(Si.byteV s1 k : Int)]) := Lib.hid (Si.bytesV_succ s1 k)
     have HS : Hid (Si.bytesS (k + 1) s1 = (byteA (Si.bytesS k s1)).2) := Lib.hid rfl
     have HSE : Hid ((byteA (Si.bytesS k s1)).2.2 ≠ 0 → Si.take s most = ([], (byteA (Si.bytesS k s1)).2)) := Lib.hid (fun he => by
       have := Si.take_err (most := most) HCl.out (k := k + 1) (by rw [HNs.out]; exact hlt) (by rw [HNs.out]; exact he)
       rw [HNs.out] at this
       exact this)
     have hbl : (byteA (Si.bytesS k s1)).1 < 256 := byteA_lt HC.out.byte
     have hbv : (byteA (Si.bytesS k s1)).1 = Si.byteV s1 k := rfl
     rw [hbv] at HBy hbl
     clear hbv
     generalize Si.byteV s1 k = b at *
     generalize (byteA (Si.bytesS k s1)).2 = s2 at *
     have hbi : (b : Int) < 256 := by omega
     go_wp2_with (go_at_call 165; go_must (refine HBy.out.mono ?_; rintro _ w2 ⟨rfl, hc2, hg2⟩; refine Hid.out ?_))
     have HO2 := Lib.hid (own_grownG HO.out hg2 hgl)
     have HC2 := Lib.hid hc2
     have HG2 := Lib.hid (Lib.grownBy_trans HG.out hg2)
     have HE := Lib.hid (err_cur g s2 w2 hc2)
     clear hc2 hg2 HBy
     by_cases he : s2.2 = 0
     · have HE0 := Lib.hid he
       rw [he] at HE
       clear he
       refine Lib.hid ?_
       go_wp2_with (first
         | (go_at_call 107; go_must (refine HE.out.mono ?_; rintro _ w3 ⟨rfl, he3⟩; obtain rfl := he3.symm))
         | (at_builtin; refine wpList_append_lies _ rfl (.tmp 18) (.tmp 20) 37 rfl w.heap.size 99 i0 (.int .i64 0) 1 8 Tryz.underlying37 hi hz0 hz1 hz2 rfl (by decide) u5 k (vs (Si.bytesV s1 k)) rfl (HO2.out.alloc _) ⟨w2.heap.size, 0, none⟩ 1 1 (vs [(b : Int)]) rfl rfl ?c1 (vs_one _) (by decide) ?c3 ?c4 ?c5 (w2.heap.size + 1) ?c6 ?_))
       case c1 => exact new_one w2 _ (b : Int)
       case c3 => unfold maxLen; omega
       case c4 => omega
       case c5 => have := HG2.out.size; simp; omega
       case c6 => simp
       intro ga cap w4 hown4 hgrow4 hat4 _
       have HO5 := Lib.hid hown4
       have HCa := Lib.hid (HC2.out.kept (World.grownBy_alloc w2 (.cells #[.int .i64 (b : Int)] 99) none) (by simp))
       have HC5 := Lib.hid (HCa.out.kept hgrow4 (fun b e => by have := (HO2.out.lt b e).1; omega))
       have HG5 := Lib.hid (grown_more (Lib.grownBy_allocR HG2.out (.cells #[.int .i64 (b : Int)] 99)) (HO2.out.alloc _) hgrow4)
       clear hown4 hgrow4 hat4
       go_wp2
       go_roundw
       case rel => exact ⟨k + 1, hlt, by go_num, by rw [HV.out, vs_append]; exact HO5.out, by rw [HS.out]; exact HC5.out, HG5.out, fun _ => by rw [HS.out]; exact HE0.out⟩
       case measure => simp [intOf]; omega
     · have HT := Lib.hid (HSE.out he)
       have heb : ((s2.2 : Int) != 0) = true := by rw [bne_iff_ne]; omega
       clear he
       generalize s2.2 = z at HE heb
       refine Lib.hid ?_
       go_wp2_with (go_at_call 107; go_must (refine HE.out.mono ?_; rintro _ w3 ⟨rfl, he3⟩; obtain rfl := he3.symm))
       go_ret
       exact SiTakeP.no HT.out HC2.out HG2.out
   · obtain rfl : k = m := by omega
     have hlen : (Si.bytesV s1 k).length = k := Si.bytesV_len s1 k
     obtain ⟨A, c, rfl, hN, _⟩ := ty_slice (l := Si.bytesV s1 k) (by rw [hlen]; exact HO.out)
     rw [hlen] at hN HO ⊢
     have HRt := siright_any A k c wr.heap.size (Si.bytesV s1 k) (k : Int) wr hN (by omega)
     have hrr := Si.right_self (Si.bytesV s1 k)
     rw [hlen] at hrr
     rw [hrr] at HRt
     have ht : (numA s most).1 = k ∧ (numA s most).2 = s1 := by rw [HNs.out]; exact ⟨rfl, rfl⟩
     have hki : decide ((k : Int) < (k : Int)) = false := decide_eq_false (by omega)
     have HLn := Lib.hid hlen
     have HErr : Hid ((Si.bytesS k s1).2 ≠ 0 → Si.take s most = ([], Si.bytesS k s1)) := Lib.hid (fun he => by
       have := Si.take_err (most := most) HCl.out (k := k) (by rw [ht.1]; exact Nat.le_refl _) (by rw [ht.2]; exact he)
       rw [ht.2] at this
       exact this)
     have HRg : Hid ((Si.bytesS k s1).2 = 0 → (Si.bytesV s1 k).all Si.may = true → Si.take s most = (Si.bytesV s1 k, Si.bytesS k s1)) := Lib.hid (fun h0 hr => by
       have := Si.take_right (most := most) (s := s) (by rw [ht.1, ht.2]; exact h0) (by rw [ht.1, ht.2]; exact hr)
       rw [ht.1, ht.2] at this
       exact this)
     have HWr : Hid ((Si.bytesS k s1).2 = 0 → (Si.bytesV s1 k).all Si.may = false → Si.take s most = ([], failA (Si.bytesS k s1) 9)) := Lib.hid (fun h0 hr => by
       have := Si.take_wrong (most := most) (s := s) (by rw [ht.1, ht.2]; exact h0) (by rw [ht.1, ht.2]; exact hr)
       rw [ht.1, ht.2] at this
       exact this)
     clear hN hrr ht hlen
     generalize Si.bytesV s1 k = l at *
     generalize Si.bytesS k s1 = s2 at *
     obtain ⟨b, hb⟩ : ∃ b, l.all Si.may = b := ⟨_, rfl⟩
     rw [hb] at HRt
     have HB := Lib.hid hb
     have HFl := Lib.hid (fail_cur g s2 9 wr HC.out (by decide))
     clear hb
     cases b with
     | true =>
       go_wp2_with (go_at_call 89; go_must (refine HRt.mono ?_; rintro _ w2 ⟨rfl, he⟩; obtain rfl := he.symm))
       go_ret
       by_cases h0 : s2.2 = 0
       · rw [HRg.out h0 HB.out]
         exact ⟨_, rfl, by rw [HLn.out]; exact HO.out, HC.out, HG.out⟩
       · have hk0 : k = 0 := Decidable.byContradiction fun e => h0 (HZ.out e)
         subst hk0
         obtain rfl : l = [] := List.eq_nil_of_length_eq_zero HLn.out
         rw [HErr.out h0]
         exact ⟨_, rfl, HO.out, HC.out, HG.out⟩
     | false =>
       go_wp2_with (first
         | (go_at_call 89; go_must (refine HRt.mono ?_; rintro _ w2 ⟨rfl, he⟩; obtain rfl := he.symm))
         | (go_at_call 134; go_must (refine HFl.out.mono ?_; rintro _ w3 ⟨rfl, hc3, hg3⟩; have HC3 := Lib.hid hc3; have HG3 := Lib.hid (Lib.grownBy_trans HG.out hg3); clear hc3 hg3)))
       go_ret
       by_cases h0 : s2.2 = 0
       · exact SiTakeP.no (HWr.out h0 HB.out) HC3.out HG3.out
       · exact SiTakeP.no (by rw [fail_stays _ h0]; exact HErr.out h0) HC3.out HG3.out
end Go.Proofs.YtdopheoedpldiaaGreatDoor
