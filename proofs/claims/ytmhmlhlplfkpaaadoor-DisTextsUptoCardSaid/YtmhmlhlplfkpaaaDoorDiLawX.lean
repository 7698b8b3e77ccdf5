/-
 inlaylaw18.DisTexts: the text of a program is the document's. Conditions: names and lists fit a page; the library's tables are laid.
-/
import Derived.Test.YtmhmlhlplfkpaaaDoorDiRTx
import Derived.Test.YtmhmlhlplfkpaaaDoorDiLives
set_option maxRecDepth 100000
namespace Go.Proofs.YtmhmlhlplfkpaaaDoor
open Go.RowKit
theorem Di.text_fit {w : World} {a : Option Addr} {n : Nat} {vs : List FnV} {fs : List Fn.F} (h : FnsAt w w.heap.size a n vs fs) (hn : n ≤ 50) (hf : ∀ k, k < n → DiFit (vs.getD k .zero)) (hw : ∀ f ∈ fs, f.Wf) (hc : ∀ k, k < n → (vs.getD k .zero).Few) : (Di.text fs).size ≤ 140737488355328 := by
 have h1 : ∀ f ∈ fs, (Di.func f).size ≤ 1080000000 := fun f hm => by
   obtain ⟨k, hk, e⟩ := List.getElem_of_mem hm
   have hkn : k < n := by rw [← h.lenf]; exact hk
   have ef : fs.getD k .zero = f := by rw [← e]; simp [List.getD, hk]
   have hok := h.ok k hkn
   rw [ef] at hok
   have hfit := hf k hkn
   have h2 := Di.func_size (hw f hm)
   have h3 := hfit.name; have h4 := hfit.outer; have h5 := hfit.params; have h6 := hfit.results; have h7 := hfit.locals
   have h8 := (hc k hkn).1
   rw [hok.name] at h3
   rw [← hok.n_outer] at h4
   rw [← hok.n_params] at h5
   rw [← hok.n_results] at h6
   rw [← hok.n_locals] at h7
   rw [← hok.n_code] at h8
   omega
 have h2 := Di.textTo_size h1 (Nat.le_refl fs.length)
 have h3 : fs.length * 1080000000 ≤ 50 * 1080000000 := Nat.mul_le_mul_right _ (by rw [h.lenf]; exact hn)
 unfold Di.text
 omega
set_option maxHeartbeats 8000000 in
theorem disTexts_walk (a : Option Addr) (n c : Nat) (vs : List FnV) (fs : List Fn.F) (w : World) (h : FnsAt w w.heap.size a n vs fs) (hn : n ≤ 9223372036854775807) (hw : ∀ f ∈ fs, f.Wf) (hf : ∀ k, k < n → DiFit (vs.getD k .zero)) (hp : Pow w) :
   Calls Tryd.prog 3 #[.agg #[.slice a n c]] w (BoolP true w) := by
 have b0 := (Below.refl w.heap.size w).alloc (Nat.le_refl _) (.cells #[.slice a n c] 24)
 have HLv := Lib.hid (fun (W : World) (hb : Below w.heap.size w W) => lives18_any W (hp.below hb))
 have H := Lib.hid (h.on b0)
 have HSm := Lib.hid (small16_any a n c vs fs _ H.out hn)
 have HB0 := Lib.hid b0
 have HP := Lib.hid hp
 have HW := Lib.hid (And.intro hw hf)
 have hc := heap_alloc_new w (.cells #[.slice a n c] 24)
 have HQ := Lib.hid (cell_of_row (w.alloc (.cells #[.slice a n c] 24)) _ 0 _ _ _ hc)
 have HZ := Lib.hid (show w.heap.size < (w.alloc (.cells #[.slice a n c] 24)).heap.size by simp)
 have q0 := HQ.out
 clear h hw hf hp b0 hc
 go_enter Tryd.func3, Tryd.ntmps3
 go_wp2_with (go_at_call 4; refine HSm.out.mono ?_; rintro _ w1 ⟨s1, rfl, hs1, hb1⟩; clear HSm q0; refine Hid.out ?_)
 have q1 := (hb1.cell (p := ⟨w.heap.size, 0, none⟩) HZ.out).trans HQ.out
 have HB1 := Lib.hid (HB0.out.trans (hb1.mono HB0.out.size))
 have HS1 := Lib.hid hs1
 have H1 := Lib.hid (H.out.on hb1)
 have HZ1 := Lib.hid (Nat.lt_of_lt_of_le HZ.out hb1.size)
 clear hb1 hs1 HQ HZ
 cases s1 with
 | false =>
   refine Lib.hid ?_
   go_wp2_with (go_at_call 5; refine (HLv.out w1 HB1.out).mono ?_; rintro _ w2 ⟨rfl, hb2⟩; have HB2 := Lib.hid (HB1.out.trans (hb2.mono HB1.out.size)); clear hb2 HLv)
   go_ret
   exact ⟨rfl, HB2.out⟩
 | true =>
 have HF := Lib.hid (HS1.out rfl)
 have HSz := Lib.hid (Di.text_fit H1.out HF.out.1 HW.out.2 HW.out.1 HF.out.2)
 obtain ⟨K, hK, F, HC, HBe, HU⟩ := worlds_of w1
 have HBF := Lib.hid (fun q => HB1.out.trans ((HBe.out q).mono HB1.out.size))
 have p0 := cell_q HBe.out HZ1.out q1
 have T1 := Lib.hid (fun q => dtext_any a n c vs fs (F q) (H1.out.on (HBe.out q)) HF.out.1 HW.out.2 HW.out.1 (HP.out.below (HBF.out q)) HSz.out)
 have T2 := Lib.hid (fun q => rdtext_any a n c vs fs (F q) (H1.out.on (HBe.out q)) HF.out.1 HW.out.2 HW.out.1 HSz.out)
 have T3 := Lib.hid (fun q => HLv.out (F q) (HBF.out q))
 clear HSz HLv q1
 generalize Di.text fs = x at *
 have ex : (x.toList == x.toList) = true := beq_self_eq_true _
 refine Lib.hid ?_
 go_wp2
 refine region_q F HC.out (by kernel_rfl) (by kernel_rfl) ?_
 repeat (go_big_quiet_step (first
   | (go_at_call 6; refine Calls.q HU.out (T1.out _))
   | (go_at_call 7; refine Calls.q HU.out (T2.out _))
   | (go_at_call 5; refine Calls.q HU.out (T3.out _))))
 refine wpQuiet_nil ?_
 rintro _ ⟨nq, rfl⟩
 go_wp2
 go_ret
 exact ⟨rfl, HBF.out nq⟩
end Go.Proofs.YtmhmlhlplfkpaaaDoor
