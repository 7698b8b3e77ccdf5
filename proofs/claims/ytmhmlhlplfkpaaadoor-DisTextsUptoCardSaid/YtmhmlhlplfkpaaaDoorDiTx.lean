/-
 What dis.Func and dis.Text tell. Conditions: the functions can be read; numbers of their type; the table of powers of ten is laid; lengths within the reach.
-/
import Derived.Test.YtmhmlhlplfkpaaaDoorDiFn
set_option maxRecDepth 100000
namespace Go.Proofs.YtmhmlhlplfkpaaaDoor
open Go.RowKit
theorem retD {a b : ByteArray} (h : a = b) : Ending.returned (.string a) = .returned (.string b) := by rw [h]
theorem list_back (s : ByteArray) : (⟨s.data.toList.toArray⟩ : ByteArray) = s := by
 apply In.list_ext
 simp
set_option maxHeartbeats 4000000 in
theorem dtext_any (a : Option Addr) (n c : Nat) (vs : List FnV) (fs : List Fn.F) (w : World) (h : FnsAt w w.heap.size a n vs fs) (hn : n ≤ 50) (hf : ∀ k, k < n → DiFit (vs.getD k .zero)) (hw : ∀ f ∈ fs, f.Wf) (hp : Pow w) (hs : (Di.text fs).size ≤ 140737488355328) :
   Calls Tryd.prog 6 #[.agg #[.slice a n c]] w (StrP (Di.text fs) w) := by
 have b0 := (Below.refl w.heap.size w).alloc (Nat.le_refl _) (.cells #[.slice a n c] 24)
 have b1 := b0.alloc b0.size (.cells #[.pointer none, .slice none 0 0] 43)
 have hP := Pg.new (B := w.heap.size) (w.alloc (.cells #[.slice a n c] 24)) b0.size
 simp only [World.size_alloc] at hP
 have H := Lib.hid h
 have HF := Lib.hid hf
 have HW := Lib.hid hw
 have HLf := Lib.hid h.lenf
 have HGp := Lib.hid (pow_lt hp)
 have HP := Lib.hid hP
 have HB := Lib.hid b1
 have HPw := Lib.hid (hp.below b1)
 have HLe : Hid (∀ k, k ≤ n → (Di.textTo fs k).size ≤ 140737488355328) := Lib.hid (fun k hk => Nat.le_trans (Di.textTo_grows fs (by have := h.lenf; omega)) hs)
 have c0 := cell_of_row ((w.alloc (.cells #[.slice a n c] 24)).alloc (.cells #[.pointer none, .slice none 0 0] 43)) w.heap.size 0 _ _ _ ((Below.heap_alloc _ _ _ (by simp)).trans (heap_alloc_new w (.cells #[.slice a n c] 24)))
 clear h hf hw hp hs b0 b1 hP
 go_enter Tryd.func6, Tryd.ntmps6
 go_wp2
 go_loopw [5, 9] (fun _ i wr => ∃ k : Nat, k ≤ n ∧ i = .int .i64 (k : Int) ∧ Pg w.heap.size (w.heap.size + 1) (Di.textTo fs k).data.toList wr ∧ Below w.heap.size w wr ∧ Pow wr) (fun _ i _ => n - (intOf i).toNat)
 case atStart => exact ⟨0, Nat.zero_le _, rfl, HP.out, HB.out, HPw.out⟩
 case round =>
   obtain ⟨k, hk, rfl, hP, hB, hPw⟩ := hrel
   clear c0 HP HB HPw
   by_cases hlt : k < n
   · obtain ⟨b, off, v, f, rfl, hltb, hv, hfk, hok, hlen, hkl, d0, d1, d2, d3, d4, d5, d6, d7, d8, d9, d10⟩ := fns_cell (H.out.below hB) hlt
     have hb1 := (Below.refl wr.heap.size wr).alloc (Nat.le_refl _) (.cells v.cells 35)
     have hbB := hb1.mono hB.size
     have hfit := HF.out k hlt
     rw [hv] at hfit
     have hwf := HW.out f (by rw [← hfk]; simp [List.getD, hkl])
     have hsz := HLe.out (k + 1) hlt
     have hst : Di.textTo fs (k + 1) = Di.textTo fs k ++ Di.func f := by rw [Di.textTo, hfk]
     have HFn := Lib.hid ((dfunction_any w.heap.size (w.heap.size + 1) (Di.textTo fs k).data.toList v f (wr.alloc (.cells v.cells 35)) (hP.below hb1) (hok.below hbB) hfit hlen hwf (hPw.below hb1) HGp.out (by rw [hst, ByteArray.size_append] at hsz; rw [← Lib.size_eq]; omega)).mono fun e w' h => h.of (t2 := (Di.textTo fs (k + 1)).data.toList) (by rw [hst]; simp))
     have HB2 := Lib.hid (hB.trans hbB)
     have HPw2 := Lib.hid (hPw.below hb1)
     have hk1 : k + 1 ≤ n := hlt
     clear hP hB hPw hok hlen hb1 hbB hfit hwf hsz hst hkl hfk hv
     go_wp2_with (go_at_call 11; refine HFn.out.mono ?_; rintro _ w4 ⟨rfl, hp4, hb4, _⟩; have HP4 := Lib.hid hp4; have HB4 := Lib.hid hb4; clear hp4 hb4 HFn d0 d1 d2 d3 d4 d5 d6 d7 d8 d9 d10)
     go_roundw
     case rel => exact ⟨k + 1, hk1, by go_num, HP4.out, HB2.out.trans HB4.out, pow_upto HPw2.out HB4.out HGp.out⟩
     case measure => simp [intOf]; omega
   · obtain rfl : k = n := by omega
     have HE : Hid (Di.text fs = Di.textTo fs k) := Lib.hid (by unfold Di.text; rw [HLf.out])
     have HS := Lib.hid (pg_string _ _ _ wr hP)
     have HB2 := Lib.hid hB
     clear hP hB hPw
     go_wp2_with (go_at_call 13; refine HS.out.mono ?_; rintro _ w2 ⟨rfl, hb2⟩)
     go_ret
     exact ⟨retD (by rw [HE.out, list_back]), HB2.out.trans hb2⟩
end Go.Proofs.YtmhmlhlplfkpaaaDoor
