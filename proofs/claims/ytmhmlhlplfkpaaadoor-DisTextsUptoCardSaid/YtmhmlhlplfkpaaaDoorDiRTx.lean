/-
 What the document's Text tells. Conditions: the functions can be read; numbers of their type; lengths within the reach.
-/
import Derived.Test.YtmhmlhlplfkpaaaDoorDiRf
import Derived.Test.YtmhmlhlplfkpaaaDoorFlA
set_option maxRecDepth 100000
namespace Go.Proofs.YtmhmlhlplfkpaaaDoor
open Go.RowKit
set_option maxHeartbeats 4000000 in
theorem rdtext_any (a : Option Addr) (n c : Nat) (vs : List FnV) (fs : List Fn.F) (w : World) (h : FnsAt w w.heap.size a n vs fs) (hn : n ≤ 50) (hf : ∀ k, k < n → DiFit (vs.getD k .zero)) (hw : ∀ f ∈ fs, f.Wf) (hs : (Di.text fs).size ≤ 140737488355328) :
   Calls Tryd.prog 7 #[.agg #[.slice a n c]] w (StrP (Di.text fs) w) := by
 have b0 := (Below.refl w.heap.size w).alloc (Nat.le_refl _) (.cells #[.slice a n c] 24)
 have H := Lib.hid h
 have HF := Lib.hid hf
 have HW := Lib.hid hw
 have HLf := Lib.hid h.lenf
 have HB := Lib.hid b0
 have HLe : Hid (∀ k, k ≤ n → (Di.textTo fs k).size ≤ 140737488355328) := Lib.hid (fun k hk => Nat.le_trans (Di.textTo_grows fs (by have := h.lenf; omega)) hs)
 have HQ := Lib.hid (cell_of_row (w.alloc (.cells #[.slice a n c] 24)) w.heap.size 0 _ _ _ (heap_alloc_new w (.cells #[.slice a n c] 24)))
 have HZ := Lib.hid (show w.heap.size < (w.alloc (.cells #[.slice a n c] 24)).heap.size by simp)
 clear h hf hw hs b0
 go_enter Tryd.func7, Tryd.ntmps7
 go_wp2
 go_loopw [3, 4] (fun s i wr => ∃ k : Nat, k ≤ n ∧ s = .string (Di.textTo fs k) ∧ i = .int .i64 (k : Int) ∧ Below (w.alloc (.cells #[.slice a n c] 24)).heap.size (w.alloc (.cells #[.slice a n c] 24)) wr) (fun _ i _ => n - (intOf i).toNat)
 case atStart => exact ⟨0, Nat.zero_le _, rfl, rfl, Below.refl _ _⟩
 case round =>
   obtain ⟨k, hk, rfl, rfl, hB⟩ := hrel
   have q0 := (hB.cell (p := ⟨w.heap.size, 0, none⟩) HZ.out).trans HQ.out
   have HBk := Lib.hid hB
   have HBw := Lib.hid (HB.out.trans (hB.mono HB.out.size))
   clear hB
   by_cases hlt : k < n
   · obtain ⟨b, off, v, f, rfl, hltb, hv, hfk, hok, hlen, hkl, d0, d1, d2, d3, d4, d5, d6, d7, d8, d9, d10⟩ := fns_cell (H.out.on HBw.out) hlt
     have hfit := HF.out k hlt
     rw [hv] at hfit
     have hwf := HW.out f (by rw [← hfk]; simp [List.getD, hkl])
     have hsz := HLe.out (k + 1) hlt
     have hst : Di.textTo fs (k + 1) = Di.textTo fs k ++ Di.func f := by rw [Di.textTo, hfk]
     have hz0 := HLe.out k hk
     have hz1 : (Di.func f).size ≤ 140737488355328 := by rw [hst, ByteArray.size_append] at hsz; omega
     have HFn := Lib.hid (fun W (hW : FnOk W W.heap.size v f) => rdfunc_any v f W hW hfit hlen hwf hz1)
     have HOk := Lib.hid hok
     have HS := Lib.hid hst
     have hk1 : k + 1 ≤ n := hlt
     have hki : (k : Int) < (n : Int) := by omega
     clear hok hlen hfit hwf hsz hst hkl hfk hv hlt hk
     obtain ⟨s1, hs1⟩ : ∃ s, Di.textTo fs (k + 1) = s := ⟨_, rfl⟩
     rw [hs1] at HS
     generalize Di.textTo fs k = s0 at *
     generalize Di.func f = fx at *
     go_wp2_with (go_at_call 14; refine (HFn.out _ HOk.out).mono ?_; rintro _ w4 ⟨rfl, hb4⟩; have HB4 := Lib.hid (HBk.out.trans (hb4.mono HBk.out.size)); clear hb4 HFn d0 d1 d2 d3 d4 d5 d6 d7 d8 d9 d10)
     rw [← HS.out, ← hs1]
     clear HS hs1
     go_roundw
     case rel => exact ⟨k + 1, hk1, rfl, by go_num, HB4.out⟩
     case measure => simp [intOf]; omega
   · obtain rfl : k = n := by omega
     have hki : decide (k < k) = false := decide_eq_false (by omega)
     have HE : Hid (Di.textTo fs k = Di.text fs) := Lib.hid (by unfold Di.text; rw [HLf.out])
     generalize Di.textTo fs k = s0 at *
     go_wp2
     go_ret
     exact ⟨retR HE.out, HBw.out⟩
end Go.Proofs.YtmhmlhlplfkpaaaDoor
