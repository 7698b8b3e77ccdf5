/-
 What the document's Head and Func tell. Conditions: the function's lists can be read; numbers of their type; lengths within the reach.
-/
import Derived.Test.YtmhmlhlplfkpaaaDoorDiHead
import Derived.Test.YtmhmlhlplfkpaaaDoorFnCanL
import Derived.Test.YtmhmlhlplfkpaaaDoorInO
import Derived.Test.YtmhmlhlplfkpaaaDoorMpX
set_option maxRecDepth 100000
namespace Go.Proofs.YtmhmlhlplfkpaaaDoor
open Go.RowKit
theorem retR {a b : ByteArray} (h : a = b) : Ending.returned (.string a) = .returned (.string b) := by rw [h]
theorem func_blank : (⟨#[102, 117, 110, 99, 32]⟩ : ByteArray) = Di.begin_ ++ ⟨#[32]⟩ := In.list_ext (by simp [Di.begin_])
theorem end_line : (⟨#[101, 110, 100, 10]⟩ : ByteArray) = Di.fin ++ Di.nl := In.list_ext (by simp [Di.fin, Di.nl])
set_option maxHeartbeats 8000000 in
theorem rdihead_any (v : FnV) (f : Fn.F) (w : World) (h : FnOk w w.heap.size v f) (hf : DiFit v) :
   Calls Tryd.prog 21 #[.agg v.cells] w (StrP (Di.head f) w) := by
 have b0 := (Below.refl w.heap.size w).alloc (Nat.le_refl _) (.cells v.cells 35)
 have h1 := h.on b0
 have hA := FnAt.new w v
 have hlt := hA.lt
 obtain ⟨K, hK, F, HC, HBe, HU⟩ := worlds_of (w.alloc (.cells v.cells 35))
 have HP := Lib.hid (fun n => show Calls Tryd.prog 33 #[.slice v.params.a v.params.n v.params.c] (F n) (SameP (.string (Di.ty f.params)) (F n)) from rsitext_any v.params.a v.params.n v.params.c _ f.params (F n) (h1.on (HBe.out n)).params.1 hf.params)
 have HR := Lib.hid (fun n => show Calls Tryd.prog 33 #[.slice v.results.a v.results.n v.results.c] (F n) (SameP (.string (Di.ty f.results)) (F n)) from rsitext_any v.results.a v.results.n v.results.c _ f.results (F n) (h1.on (HBe.out n)).results.1 hf.results)
 have HL := Lib.hid (fun n => show Calls Tryd.prog 33 #[.slice v.locals.a v.locals.n v.locals.c] (F n) (SameP (.string (Di.ty f.locals)) (F n)) from rsitext_any v.locals.a v.locals.n v.locals.c _ f.locals (F n) (h1.on (HBe.out n)).locals.1 hf.locals)
 have HO := Lib.hid (fun n => show Calls Tryd.prog 33 #[.slice v.outer.a v.outer.n v.outer.c] (F n) (SameP (.string (Di.ty f.outer)) (F n)) from rsitext_any v.outer.a v.outer.n v.outer.c _ f.outer (F n) (h1.on (HBe.out n)).outer.1 hf.outer)
 have c0 := cell_q HBe.out hlt hA.c0
 have c1 := cell_q HBe.out hlt hA.c1
 have c2 := cell_q HBe.out hlt hA.c2
 have c3 := cell_q HBe.out hlt hA.c3
 have c4 := cell_q HBe.out hlt hA.c4
 have c5 := cell_q HBe.out hlt hA.c5
 rw [h.name] at c0
 rw [h.inner] at c1
 have HB := Lib.hid (fun n => b0.trans ((HBe.out n).mono b0.size))
 have hz0 : f.name.size ≤ 1073741824 := by rw [← h.name]; exact hf.name
 have hz1 := Di.ty_size f.params
 have hz2 := Di.ty_size f.results
 have hz3 := Di.ty_size f.locals
 have hz4 := Di.ty_size f.outer
 rw [h.n_params] at hz1
 rw [h.n_results] at hz2
 rw [h.n_locals] at hz3
 rw [h.n_outer] at hz4
 have hy1 : (Di.ty f.params).size ≤ 1048577 := Nat.le_trans hz1 (Nat.add_le_add_right hf.params 1)
 have hy2 : (Di.ty f.results).size ≤ 1048577 := Nat.le_trans hz2 (Nat.add_le_add_right hf.results 1)
 have hy3 : (Di.ty f.locals).size ≤ 1048577 := Nat.le_trans hz3 (Nat.add_le_add_right hf.locals 1)
 have hy4 : (Di.ty f.outer).size ≤ 1048577 := Nat.le_trans hz4 (Nat.add_le_add_right hf.outer 1)
 have hE : Hid (Di.head f = if f.inner then (⟨#[102, 117, 110, 99, 32]⟩ : ByteArray) ++ f.name ++ ⟨#[32]⟩ ++ Di.ty f.params ++ ⟨#[32]⟩ ++ Di.ty f.results ++ ⟨#[32]⟩ ++ Di.ty f.locals ++ ⟨#[32]⟩ ++ Di.ty f.outer else (⟨#[102, 117, 110, 99, 32]⟩ : ByteArray) ++ f.name ++ ⟨#[32]⟩ ++ Di.ty f.params ++ ⟨#[32]⟩ ++ Di.ty f.results ++ ⟨#[32]⟩ ++ Di.ty f.locals) := Lib.hid (by
   rw [func_blank]
   cases hin : f.inner
   · exact Di.head_plain hin
   · exact Di.head_inner hin)
 clear h h1 hA hlt b0 hf hz1 hz2 hz3 hz4
 generalize Di.ty f.params = sp at *
 generalize Di.ty f.results = sr at *
 generalize Di.ty f.locals = sl at *
 generalize Di.ty f.outer = so at *
 generalize f.name = nm at *
 generalize f.inner = inn at *
 go_enter Tryd.func21, Tryd.ntmps21
 go_wp2
 refine region_q F HC.out (by kernel_rfl) (by kernel_rfl) ?_
 repeat (go_big_quiet_step (fail))
 go_big_quiet_step ((go_at_call 33; refine Calls.q_same (HP.out _)))
 repeat (go_big_quiet_step (fail))
 go_big_quiet_step ((go_at_call 33; refine Calls.q_same (HR.out _)))
 repeat (go_big_quiet_step (fail))
 go_big_quiet_step ((go_at_call 33; refine Calls.q_same (HL.out _)))
 repeat (go_big_quiet_step (fail))
 refine wpQuiet_nil ?_
 rintro _ ⟨nq, rfl⟩
 cases inn with
 | false =>
   go_wp2
   go_ret
   exact ⟨retR (by rw [hE.out]; rfl), HB.out nq⟩
 | true =>
   go_wp2_with (go_at_call 33; refine (HO.out _).mono ?_; rintro _ w2 ⟨rfl, rfl⟩)
   go_ret
   exact ⟨retR (by rw [hE.out]; rfl), HB.out nq⟩
set_option maxHeartbeats 8000000 in
theorem rdfunc_any (v : FnV) (f : Fn.F) (w : World) (h : FnOk w w.heap.size v f) (hf : DiFit v) (hl : v.Len) (hw : f.Wf) (hs : (Di.func f).size ≤ 140737488355328) :
   Calls Tryd.prog 14 #[.agg v.cells] w (StrP (Di.func f) w) := by
 have b0 := (Below.refl w.heap.size w).alloc (Nat.le_refl _) (.cells v.cells 35)
 have HB0 := Lib.hid b0
 have HK := Lib.hid (h.on b0)
 have HA := Lib.hid (FnAt.new w v)
 have HLen : Hid (∀ k, k ≤ f.code.length → (Di.upTo f k).size + 4 ≤ 140737488355328) := Lib.hid (fun k hk => by have := Di.upTo_le f hk; omega)
 have HHd := Lib.hid (Di.upTo_head f 0)
 have HN := Lib.hid h.n_code
 have HNc := Lib.hid hl.code
 have HLn := Lib.hid hl.lines
 have HWf := Lib.hid hw
 have HH := Lib.hid (rdihead_any v f _ HK.out hf)
 have hE0 : Hid (Di.head f ++ ⟨#[10]⟩ = Di.upTo f 0) := Lib.hid (Di.upTo_zero f).symm
 obtain ⟨c0, c1, c2, c3, c4, c5, c6, c7, c8, c9, c10⟩ := HA.out.all
 have hz : (Di.head f).size ≤ 140737488355328 := by have h1 := HLen.out 0 (Nat.zero_le _); have h2 := HHd.out; omega
 clear h hf hl hw hs b0
 go_enter Tryd.func14, Tryd.ntmps14
 go_wp2_with (go_at_call 21; refine HH.out.mono ?_; rintro _ w1 ⟨rfl, hb1⟩; have HB1 := Lib.hid hb1; clear hb1 HH)
 clear c0 c1 c2 c3 c4 c5 c6 c7 c8 c9 c10 hz
 have hcb : f.code.length ≤ 9223372036854775807 := by rw [HN.out]; exact HNc.out
 go_loopw [3, 4] (fun s i wr => ∃ k : Nat, k ≤ f.code.length ∧ s = .string (Di.upTo f k) ∧ i = .int .i64 (k : Int) ∧ Below (w.alloc (.cells v.cells 35)).heap.size (w.alloc (.cells v.cells 35)) wr) (fun _ i _ => f.code.length - (intOf i).toNat)
 case atStart => exact ⟨0, Nat.zero_le _, congrArg Value.string hE0.out, rfl, HB1.out⟩
 case round =>
   obtain ⟨k, hk, rfl, rfl, hB⟩ := hrel
   have hok := HK.out.on hB
   have hA := HA.out.on hB
   have HBk := Lib.hid hB
   have d6 := hA.c6
   have hls := HLen.out k hk
   clear HB1 HHd hE0
   by_cases hlt : k < f.code.length
   · obtain ⟨bk, off, ⟨op, a0⟩, eca, hbk, hy, hkl, q0, q1⟩ := pairs_cell hok.code.1 (show k < v.code.n by rw [← HN.out]; exact hlt)
     have hki : (k : Int) < (v.code.n : Int) := by rw [← HN.out]; omega
     rw [eca] at d6
     clear eca
     have hcw := Di.code_in HWf.out.code k
     rw [hy] at hcw
     have hlw := Di.at_in HWf.out.lines (k : Int)
     have hz1 := txt_size _ hlw.1 hlw.2
     have hz2 := Di.text_le op a0 hcw.2
     have HS : Hid (Di.upTo f k ++ In.txt (Li.at_ f.lines (k : Int)) ++ ⟨#[32]⟩ ++ In.text op a0 ++ ⟨#[10]⟩ = Di.upTo f (k + 1)) := Lib.hid (by rw [Di.upTo_succ, Di.line_eq, hy]; simp [ByteArray.append_assoc, Di.nl])
     obtain ⟨K, hKn, F, HC, HBe, HU⟩ := worlds_of wr
     have HAt := Lib.hid (fun n => rliat_any v.lines.a v.lines.n v.lines.c _ f.lines (k : Int) (F n) (hok.on (HBe.out n)).lines.1 HLn.out)
     have HDg := Lib.hid (fun n => rdigits_any (Li.at_ f.lines (k : Int)) hlw.1 hlw.2 (F n))
     have HTx := Lib.hid (fun n => rintext_any op a0 hcw.2.1 hcw.2.2 (F n))
     have e6 := cell_q HBe.out hA.lt d6
     have e7 := cell_q HBe.out hA.lt hA.c7
     have p0 := cell_q HBe.out hbk q0
     have p1 := cell_q HBe.out hbk q1
     clear hok hA hy hkl hcw hlw hB q0 q1
     have hk1 : k + 1 ≤ f.code.length := hlt
     have hk2 : k + 1 ≤ v.code.n := by rw [← HN.out]; exact hlt
     clear hlt hk
     generalize hsk : Di.upTo f k = sk at *
     generalize hsk2 : Di.upTo f (k + 1) = sk2 at *
     generalize In.text op a0 = tx at *
     generalize hln : Li.at_ f.lines (k : Int) = ln at *
     generalize In.txt ln = dg at *
     clear hln hsk
     go_wp2
     refine region_q F HC.out (by kernel_rfl) (by kernel_rfl) ?_
     repeat (go_big_quiet_step (fail))
     go_big_quiet_step ((go_at_call 23; refine Calls.q_same (HAt.out _)))
     repeat (go_big_quiet_step (fail))
     go_big_quiet_step ((go_at_call 22; refine Calls.q HU.out (HDg.out _)))
     repeat (go_big_quiet_step (fail))
     go_big_quiet_step ((go_at_call 24; refine Calls.q HU.out (HTx.out _)))
     repeat (go_big_quiet_step (fail))
     refine wpQuiet_nil ?_
     rintro _ ⟨nq, rfl⟩
     have HBq := Lib.hid (HBk.out.trans ((HBe.out nq).mono HBk.out.size))
     subst hsk2
     go_wp2
     go_roundw
     case rel => exact ⟨k + 1, hk1, congrArg Value.string HS.out, by go_num, HBq.out⟩
     case measure => simp [intOf]; omega
   · obtain rfl : k = f.code.length := by omega
     have hkn := HN.out
     rw [← hkn] at d6
     clear hkn
     have HE : Hid (Di.upTo f f.code.length ++ ⟨#[101, 110, 100, 10]⟩ = Di.func f) := Lib.hid (by rw [end_line]; unfold Di.func; rw [ByteArray.append_assoc])
     clear hok hA hB hlt hk
     generalize f.code.length = k at *
     generalize Di.upTo f k = sk at *
     go_wp2
     go_ret
     exact ⟨retR HE.out, HB0.out.trans (HBk.out.mono HB0.out.size)⟩
end Go.Proofs.YtmhmlhlplfkpaaaDoor
