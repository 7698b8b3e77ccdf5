/-
 What the document's Put lays. Conditions: the function can be read; few of everything; words of 64 bits.
-/
import Derived.Test.YtdopheoedpldiaaGreatDoorFnRp
import Derived.Test.YtdopheoedpldiaaGreatDoorCanQ
import Derived.Test.YtdopheoedpldiaaGreatDoorRuRefPut
import Derived.Test.YtdopheoedpldiaaGreatDoorTrPr
import Derived.Test.YtdopheoedpldiaaGreatDoorMpG
set_option maxRecDepth 100000
namespace Go.Proofs.YtdopheoedpldiaaGreatDoor
open Go.RowKit
theorem Lies.on' {w0 W W' : World} {l : List Nat} {u : Value} (h : Lies w0 l u W) (hb : Below W.heap.size W W') : Lies w0 l u W' := ⟨ownsRow_below h.1 hb, h.2.trans (hb.mono h.2.size)⟩
theorem bytes_new1' (w : World) (x : Nat) (h : x < 256) : BytesAt (w.alloc (.cells #[.int .u8 (x : Int)] 5)) (w.alloc (.cells #[.int .u8 (x : Int)] 5)).heap.size (some ⟨w.heap.size, 0, none⟩) 1 [x] := by
 refine ⟨rfl, fun c hc => by obtain rfl := List.mem_singleton.1 hc; exact h, fun _ => ⟨w.heap.size, 0, rfl, by simp, fun i hi => ?_⟩⟩
 obtain rfl : i = 0 := by omega
 exact cell_of_row _ _ 0 _ _ _ (heap_alloc_new w _)
theorem Lies.byte' {w0 W : World} {l : List Nat} {u : Value} (h : Lies w0 l u W) (x : Nat) (hx : x < 256) (hl : l.length + 1 ≤ 140737488355328) :
   ∃ v W', (∀ ty, ty = 27 → (Builtin.append_ #[27, 27] ty #[u, .slice (some ⟨W.heap.size, 0, none⟩) 1 1]).run Tryz.prog (W.alloc (.cells #[.int .u8 (x : Int)] 5)) = .ok v W') ∧ Lies w0 (l ++ [x]) v W' := by
 have h1 : Lies w0 l u (W.alloc (.cells #[.int .u8 (x : Int)] 5)) := h.on' ((Below.refl _ _).alloc (Nat.le_refl _) _)
 obtain ⟨v, W', hr, ho, hg⟩ := append_bytes (c := 1) h1.1 (bytes_new1' W x hx) (fun e => by cases e) h1.2.size hl
 refine ⟨v, W', hr, ?_, h1.2.grown hg h1.2.size (fun k hk => (h1.1.lt k hk).1)⟩
 rw [List.length_append, bs_append]
 exact ho
set_option maxHeartbeats 16000000 in
theorem rfnput_any (v : FnV) (f : Fn.F) (w : World) (h : FnOk w w.heap.size v f) (hl : v.Len) (hw : f.Wf) (hf : v.Few) :
   Calls Tryz.prog 23 #[.agg v.cells] w (NewPost f.bytes w) := by
 have hb0 := (Below.refl w.heap.size w).alloc (Nat.le_refl _) (.cells v.cells 43)
 have A1 := Lib.hid (FnAt.new w v)
 have O1 := Lib.hid (h.on hb0)
 have B1 := Lib.hid hb0
 have HCan := rfncan_any v f _ (h.on hb0) hl hw hf
 obtain ⟨c0, c1, c2, c3, c4, c5, c6, c7, c8, c9, c10⟩ := A1.out.all
 clear hb0
 by_cases hc : f.can = 0
 rotate_left
 · have HE : Hid (f.bytes = []) := Lib.hid (by unfold Fn.F.bytes; rw [if_neg hc])
   have hd : ((f.can : Int) != 0) = true := bne_iff_ne.2 (by omega)
   clear h hl hw hf O1
   obtain ⟨nm, inn, ⟨oa, on, oc⟩, ⟨pa, pn, pc⟩, ⟨ra, rn, rc⟩, ⟨la, ln, lc⟩, ⟨ca, cn, cc⟩, ⟨ia, i_n, ic⟩, ⟨na, nn, nc⟩, ⟨ta, tn, tc⟩, ⟨va, vn, vc⟩⟩ := v
   go_enter Tryz.func23, Tryz.ntmps23
   go_wp2_with (go_at_call 27; go_must (refine HCan.mono ?_; rintro _ w2 ⟨rfl, hb2⟩; have B2 := Lib.hid (B1.out.trans (hb2.mono B1.out.size)); clear hb2))
   go_ret
   rw [HE.out]
   exact ⟨_, rfl, World.ownsRow_nil _ _ _ _, B2.out⟩
 rw [hc] at HCan
 have HP := Lib.hid (Fn.parts_len hc hw)
 have HN : Hid (v.outer.n ≤ 4 ∧ v.params.n ≤ 8 ∧ v.results.n ≤ 4 ∧ v.locals.n ≤ 256) := Lib.hid (by
   have := Fn.can_len hc
   rw [h.n_outer, h.n_params, h.n_results, h.n_locals] at this
   exact ⟨this.2.1, this.2.2.1, this.2.2.2.1, this.2.2.2.2.1⟩)
 have hcn : v.code.n ≤ 2000 := by rw [← h.n_code]; exact (Fn.can_len hc).2.2.2.2.2.2.2.1
 have hns : v.name.size ≤ 12 := by rw [h.name]; exact (Fn.can_len hc).1
 have HB4 : Hid (f.l4.length ≤ 100000 ∧ f.l5.length ≤ 100000 ∧ f.l6.length ≤ 100000 ∧ f.l7.length ≤ 100000 ∧ f.l8.length ≤ 100000 ∧ f.l9.length ≤ 100000 ∧ f.l3.length ≤ 100000 ∧ f.l2.length ≤ 100000) := Lib.hid (by
   have h9 := Fn.l9_len hc hw
   have h2 := (Fn.parts_len hc hw).1
   unfold Fn.F.l9 at h9 ⊢
   unfold Fn.F.l8 at h9 ⊢
   unfold Fn.F.l7 at h9 ⊢
   unfold Fn.F.l6 at h9 ⊢
   unfold Fn.F.l5 at h9 ⊢
   unfold Fn.F.l4 at h9 ⊢
   simp only [List.length_append] at h9 ⊢
   omega)
 have HLi : Hid (f.lines.length ≤ 2000) := Lib.hid (by have := Fn.can_len hc; omega)
 have HTb' := Lib.hid (fun hb => Fn.tables_len hc hb hw)
 have HTl' : Hid (f.bare = false → f.nodes.length ≤ 120 ∧ f.at_.length ≤ 2000 ∧ f.live.length ≤ 2000) := Lib.hid (fun hb => by have h1 := Fn.can_len hc; have h2 := h1.2.2.2.2.2.2.2.2.2 hb; omega)
 have HBb : Hid (f.bytes = f.laid) := Lib.hid (by unfold Fn.F.bytes; rw [if_pos hc])
 have HWf := Lib.hid hw
 have HBa := Lib.hid (fun (W : World) => rfnbare_any v hf W)
 rw [h.bare] at HBa
 have hni : v.name = f.name ∧ v.inner = f.inner := ⟨h.name, h.inner⟩
 have HNI := Lib.hid hni
 clear h hl hw hni hf
 obtain ⟨nm, inn, ⟨oa, on, oc⟩, ⟨pa, pn, pc⟩, ⟨ra, rn, rc⟩, ⟨la, ln, lc⟩, ⟨ca, cn, cc⟩, ⟨ia, i_n, ic⟩, ⟨na, nn, nc⟩, ⟨ta, tn, tc⟩, ⟨va, vn, vc⟩⟩ := v
 simp only at hcn hns HN HNI
 go_enter Tryz.func23, Tryz.ntmps23
 go_wp2_with (go_at_call 27; go_must (refine HCan.mono ?_; rintro _ W0 ⟨rfl, hb2⟩; refine Hid.out ?_))
 have A0 := Lib.hid (A1.out.on hb2)
 have O0 := Lib.hid (O1.out.on hb2)
 have B0 := Lib.hid (B1.out.trans (hb2.mono B1.out.size))
 clear c0 c1 c2 c3 c4 c5 c6 c7 c8 c9 c10
 have c0 := A0.out.c0
 have hpb : w.heap.size < W0.heap.size := A0.out.lt
 have hl47 : (Uv.put nm.size).length + (nats nm).length ≤ 140737488355328 := by have := Uv.put_len_10 (n := nm.size) (by omega); rw [nats_length]; omega
 clear hb2 A1 O1 B1 HCan
 refine Lib.hid ?_
 go_wp2
 generalize hpp : w.heap.size = pb at *
 have HPP := Lib.hid hpp
 clear hpp
 refine region_k (⟨undef, 0, 0, undef⟩ : FpX) 97 (FpC W0 (Uv.put nm.size) (nats nm)) (FpG pb nm) (by kernel_rfl) (by kernel_rfl) (by kernel_rfl) rfl rfl (fp_start (Below.refl _ _)) ?_ ?_
 · refine ⟨?_, ?_, ?_, ?_, ?_, ?_, ?_, ?_, ?_, ?_, trivial⟩
   · intro x D a w hI hdep hD0 K hK
     have e1 : a.eval (.tmp 1) = .pointer (some ⟨pb, 0, none⟩) := hI.read 1 rfl
     refine ok_value (wanted_none rfl) (v := .pointer (some ⟨pb, 0, none⟩)) ?_ (hK x _ _ (hI.world.up rfl rfl rfl) (fun _ _ _ h => h) rfl)
     obtain ⟨ec, ef⟩ := ecs a; clear hI hdep hK; generalize a.eval = ρ at e1 ec ef ⊢; go_simp
   · intro x D a w hI hdep hD0 K hK
     have e9 : a.eval (.tmp 9) = .pointer (some ⟨pb, 0, none⟩) := hI.good 0 9 (dep_of hdep 0 rfl) rfl
     have x0 := (hI.world.row.cell (p := ⟨pb, 0, none⟩) hpb).trans c0
     refine ok_value (wanted_none rfl) (v := .string nm) ?_ (hK x _ _ (hI.world.up rfl rfl rfl) (fun _ _ _ h => h) rfl)
     obtain ⟨ec, ef⟩ := ecs a; clear hI hdep hK; generalize a.eval = ρ at e9 ec ef ⊢; go_simp
   · intro x D a w hI hdep hD0 K hK
     have e10 : a.eval (.tmp 10) = .string nm := hI.good 1 10 (dep_of hdep 1 rfl) rfl
     refine ok_value (wanted_none rfl) (v := .int .i64 (nm.size : Int)) ?_ (hK x _ _ (hI.world.up rfl rfl rfl) (fun _ _ _ h => h) rfl)
     obtain ⟨ec, ef⟩ := ecs a; clear hI hdep hK; generalize a.eval = ρ at e10 ec ef ⊢; go_simp
   · intro x D a w hI hdep hD0 K hK
     have e11 : a.eval (.tmp 11) = .int .i64 (nm.size : Int) := hI.good 2 11 (dep_of hdep 2 rfl) rfl
     have hwr : IntKind.u64.wrap (nm.size : Int) = (nm.size : Int) := by rw [IntKind.wrap_u64]; omega
     refine ok_value (wanted_none rfl) (v := .int .u64 (nm.size : Int)) ?_ (hK x _ _ (hI.world.up rfl rfl rfl) (fun _ _ _ h => h) rfl)
     obtain ⟨ec, ef⟩ := ecs a; clear hI hdep hK; generalize a.eval = ρ at e11 ec ef ⊢; go_simp
   · intro x D a w hI hdep hD0 K hK
     have e12 : a.eval (.tmp 12) = .int .u64 (nm.size : Int) := hI.good 3 12 (dep_of hdep 3 rfl) rfl
     have h8 := hI.not_up hD0 8 rfl
     refine ok_call (wanted_none rfl) (f := 22) (args := #[.int .u64 (nm.size : Int)]) ?_ (rput_any nm.size w (by omega)) ?_
     · obtain ⟨ec, ef⟩ := ecs a; clear hI hdep hK; generalize a.eval = ρ at e12 ec ef ⊢; go_simp
     · rintro e w2 ⟨v, rfl, ho, hb⟩
       exact ⟨_, rfl, hK ⟨v, x.q, x.c, x.r⟩ _ _ (hI.world.called h8 ho hb) (fpg_call hD0) rfl⟩
   · intro x D a w hI hdep hD0 K hK
     have e1 : a.eval (.tmp 1) = .pointer (some ⟨pb, 0, none⟩) := hI.read 1 rfl
     refine ok_value (wanted_none rfl) (v := .pointer (some ⟨pb, 0, none⟩)) ?_ (hK x _ _ (hI.world.up rfl rfl rfl) (fun _ _ _ h => h) rfl)
     obtain ⟨ec, ef⟩ := ecs a; clear hI hdep hK; generalize a.eval = ρ at e1 ec ef ⊢; go_simp
   · intro x D a w hI hdep hD0 K hK
     have e14 : a.eval (.tmp 14) = .pointer (some ⟨pb, 0, none⟩) := hI.good 5 14 (dep_of hdep 5 rfl) rfl
     have x0 := (hI.world.row.cell (p := ⟨pb, 0, none⟩) hpb).trans c0
     refine ok_value (wanted_none rfl) (v := .string nm) ?_ (hK x _ _ (hI.world.up rfl rfl rfl) (fun _ _ _ h => h) rfl)
     obtain ⟨ec, ef⟩ := ecs a; clear hI hdep hK; generalize a.eval = ρ at e14 ec ef ⊢; go_simp
   · intro x D a w hI hdep hD0 K hK
     have e15 : a.eval (.tmp 15) = .string nm := hI.good 6 15 (dep_of hdep 6 rfl) rfl
     have h8 := hI.not_up hD0 8 rfl
     obtain ⟨c, W', hr, hc, hs, hb⟩ := conv_text w nm
     refine ok_new (wanted_none rfl) (v := .slice (some ⟨w.heap.size, 0, none⟩) nm.size c) (w' := W') ?_ (hK ⟨x.v, w.heap.size, c, x.r⟩ _ _ (hI.world.turned h8 (by rw [nats_length]; exact hc) hs hb) (fpg_conv hD0) rfl)
     obtain ⟨ec, ef⟩ := ecs a; clear hI hdep hK; generalize a.eval = ρ at e15 ec ef ⊢; go_simp
   · intro x D a w hI hdep hD0 K hK
     have e13 : a.eval (.tmp 13) = x.v := hI.good 4 13 (dep_of hdep 4 rfl) rfl
     have e16 : a.eval (.tmp 16) = .slice (some ⟨x.q, 0, none⟩) nm.size x.c := hI.good 7 16 (dep_of hdep 7 rfl) rfl
     obtain ⟨r, W', hr, hC⟩ := hI.world.appends (dep_of hdep 4 rfl) (dep_of hdep 7 rfl) hD0 (nats_byte nm) hl47
     rw [nats_length] at hr
     exact ok_append (wanted_none rfl) (.tmp 13) (.tmp 16) 27 27 rfl (by rw [e13, e16]; exact hr) (hK ⟨x.v, x.q, x.c, r⟩ _ _ hC (fpg_app hD0 (hI.not_up hD0 9 rfl)) rfl)
   · intro x D a w hI hdep hD0 K hK
     have e17 : a.eval (.tmp 17) = x.r := hI.good 8 17 (dep_of hdep 8 rfl) rfl
     refine ok_value (wanted_none rfl) (v := x.r) ?_ (hK x _ _ (hI.world.up rfl rfl rfl) (fun _ _ _ h => h) rfl)
     obtain ⟨ec, ef⟩ := ecs a; clear hI hdep hK; generalize a.eval = ρ at e17 ec ef ⊢; go_simp
 · intro x D a wX hI hD
   have hfr := hI.frame [(9, .pointer (some ⟨pb, 0, none⟩)), (10, .string nm), (11, .int .i64 (nm.size : Int)), (12, .int .u64 (nm.size : Int)), (13, x.v), (14, .pointer (some ⟨pb, 0, none⟩)), (15, .string nm), (16, .slice (some ⟨x.q, 0, none⟩) nm.size x.c), (17, x.r), (3, x.r)] (all_cons (hI.good 0 9 (hD 0 (by decide)) rfl) (all_cons (hI.good 1 10 (hD 1 (by decide)) rfl) (all_cons (hI.good 2 11 (hD 2 (by decide)) rfl) (all_cons (hI.good 3 12 (hD 3 (by decide)) rfl) (all_cons (hI.good 4 13 (hD 4 (by decide)) rfl) (all_cons (hI.good 5 14 (hD 5 (by decide)) rfl) (all_cons (hI.good 6 15 (hD 6 (by decide)) rfl) (all_cons (hI.good 7 16 (hD 7 (by decide)) rfl) (all_cons (hI.good 8 17 (hD 8 (by decide)) rfl) (all_cons (hI.good 9 3 (hD 9 (by decide)) rfl) all_nil)))))))))) rfl
   have hW := hI.world
   clear hI
   subst hfr
   simp only [List.foldl_cons, List.foldl_nil, List.setIfInBounds_toArray, List.set_cons_succ, List.set_cons_zero]
   have L2 := Lib.hid (hW.o8 (hD 8 (by decide)))
   clear hW hD hl47
   generalize x.v = xv at *
   generalize x.q = xq at *
   generalize x.c = xc at *
   generalize x.r = u2 at *
   clear c0
   have A2 := Lib.hid (A0.out.on L2.out.2)
   have O2 := Lib.hid (O0.out.on L2.out.2)
   obtain ⟨c0, c1, c2, c3, c4, c5, c6, c7, c8, c9, c10⟩ := A2.out.all
   rcases Bool.eq_false_or_eq_true inn with h1 | h1 <;> rcases Bool.eq_false_or_eq_true f.bare with h2 | h2
   · subst h1
     rw [h2] at HBa
     have HMk : Hid (f.mark = 1) := Lib.hid (by unfold Fn.F.mark; rw [← HNI.out.2, h2]; rfl)
     have HBy : Hid (f.bytes = f.l9) := Lib.hid (by rw [HBb.out]; unfold Fn.F.laid; rw [h2, if_pos rfl])
     clear HTb' HTl' HBb h2
     have HBw2 := HBa.out wX
     go_wp2_with (go_at_call 51; go_must (refine HBw2.mono ?_; rintro _ w2b ⟨rfl, hb⟩; refine Hid.out ?_))
     have L2b := Lib.hid (L2.out.on' hb)
     clear hb
     obtain ⟨u3, w3, r3, h3⟩ := L2b.out.byte' 1 (by decide) (by rw [List.length_append, nats_length]; have := Uv.put_len_10 (n := nm.size) (by omega); omega)
     have HR3 := Lib.hid (r3 27 rfl)
     have L3 : Hid (Lies W0 f.l2 u3 w3) := Lib.hid (by unfold Fn.F.l2; rw [← HNI.out.1, HMk.out]; exact h3)
     clear r3 h3
     have A3 := Lib.hid (A0.out.on L3.out.2)
     have O3 := Lib.hid (O0.out.on L3.out.2)
     obtain ⟨c0, c1, c2, c3, c4, c5, c6, c7, c8, c9, c10⟩ := A3.out.all
     have H3 : Hid (f.l3 = f.l2 ++ Si.bytes f.outer) := Lib.hid (by unfold Fn.F.l3; rw [← HNI.out.2]; rfl)
     refine Lib.hid ?_
     go_wp2_with (first
       | (at_builtin; refine Lib.wpList_append_run _ rfl (.tmp 25) (.tmp 27) _ _ rfl _ _ rfl rfl _ _ HR3.out ?_)
       | (go_at_call 52; go_must (refine (rsiput_any oa on oc f.outer _ O3.out.outer.1 (by have := HN.out; omega)).mono ?_; rintro _ wb33 ⟨vb33, rfl, ho, hb⟩; refine Hid.out ?_)))
     obtain ⟨u33, w33, r33, h33⟩ := L3.out.more (m := Si.bytes f.outer) ho hb (Si.bytes_byte _) (by have := HB4.out; have := HP.out; omega)
     have HR33 := Lib.hid (r33 27 rfl)
     have L33 : Hid (Lies W0 f.l3 u33 w33) := Lib.hid (by rw [H3.out]; exact h33)
     clear r33 h33 ho hb
     have A33 := Lib.hid (A0.out.on L33.out.2)
     have O33 := Lib.hid (O0.out.on L33.out.2)
     obtain ⟨c0, c1, c2, c3, c4, c5, c6, c7, c8, c9, c10⟩ := A33.out.all
     refine Lib.hid ?_
     go_wp2_with (first
       | (at_builtin; refine Lib.wpList_append_run _ rfl (.tmp 31) (.tmp 34) _ _ rfl _ _ rfl rfl _ _ HR33.out ?_)
       | (go_at_call 52; go_must (refine (rsiput_any pa pn pc f.params _ O33.out.params.1 (by have := HN.out; omega)).mono ?_; rintro _ wb4 ⟨vb4, rfl, ho, hb⟩; refine Hid.out ?_)))
     obtain ⟨u4, w4, r4, h4⟩ := L33.out.more (m := Si.bytes f.params) ho hb (Si.bytes_byte _) (by have := HB4.out; have := HP.out; omega)
     have HR4 := Lib.hid (r4 27 rfl)
     have L4 : Hid (Lies W0 f.l4 u4 w4) := Lib.hid (h4)
     clear r4 h4 ho hb
     have A4 := Lib.hid (A0.out.on L4.out.2)
     have O4 := Lib.hid (O0.out.on L4.out.2)
     obtain ⟨c0, c1, c2, c3, c4, c5, c6, c7, c8, c9, c10⟩ := A4.out.all
     refine Lib.hid ?_
     go_wp2_with (first
       | (at_builtin; refine Lib.wpList_append_run _ rfl (.tmp 36) (.tmp 39) _ _ rfl _ _ rfl rfl _ _ HR4.out ?_)
       | (go_at_call 52; go_must (refine (rsiput_any ra rn rc f.results _ O4.out.results.1 (by have := HN.out; omega)).mono ?_; rintro _ wb5 ⟨vb5, rfl, ho, hb⟩; refine Hid.out ?_)))
     obtain ⟨u5, w5, r5, h5⟩ := L4.out.more (m := Si.bytes f.results) ho hb (Si.bytes_byte _) (by have := HB4.out; have := HP.out; omega)
     have HR5 := Lib.hid (r5 27 rfl)
     have L5 : Hid (Lies W0 f.l5 u5 w5) := Lib.hid (h5)
     clear r5 h5 ho hb
     have A5 := Lib.hid (A0.out.on L5.out.2)
     have O5 := Lib.hid (O0.out.on L5.out.2)
     obtain ⟨c0, c1, c2, c3, c4, c5, c6, c7, c8, c9, c10⟩ := A5.out.all
     refine Lib.hid ?_
     go_wp2_with (first
       | (at_builtin; refine Lib.wpList_append_run _ rfl (.tmp 41) (.tmp 44) _ _ rfl _ _ rfl rfl _ _ HR5.out ?_)
       | (go_at_call 52; go_must (refine (rsiput_any la ln lc f.locals _ O5.out.locals.1 (by have := HN.out; omega)).mono ?_; rintro _ wb6 ⟨vb6, rfl, ho, hb⟩; refine Hid.out ?_)))
     obtain ⟨u6, w6, r6, h6⟩ := L5.out.more (m := Si.bytes f.locals) ho hb (Si.bytes_byte _) (by have := HB4.out; have := HP.out; omega)
     have HR6 := Lib.hid (r6 27 rfl)
     have L6 : Hid (Lies W0 f.l6 u6 w6) := Lib.hid (h6)
     clear r6 h6 ho hb
     have A6 := Lib.hid (A0.out.on L6.out.2)
     have O6 := Lib.hid (O0.out.on L6.out.2)
     obtain ⟨c0, c1, c2, c3, c4, c5, c6, c7, c8, c9, c10⟩ := A6.out.all
     have hcl : f.code.length = cn := O6.out.n_code
     have HCl := Lib.hid hcl
     refine Lib.hid ?_
     go_wp2_with (first
       | (at_builtin; refine Lib.wpList_append_run _ rfl (.tmp 46) (.tmp 49) _ _ rfl _ _ rfl rfl _ _ HR6.out ?_)
       | (go_at_call 22; go_must (refine (rput_any cn _ (by omega)).mono ?_; rintro _ wb7 ⟨vb7, rfl, ho, hb⟩; refine Hid.out ?_)))
     obtain ⟨u7, w7, r7, h7⟩ := L6.out.more (m := Uv.put cn) ho hb (Uv.put_byte _) (by have := HB4.out; have := Uv.put_len_10 (n := cn) (by omega); omega)
     have HR7 := Lib.hid (r7 27 rfl)
     have L7 : Hid (Lies W0 f.l7 u7 w7) := Lib.hid (by unfold Fn.F.l7; rw [hcl]; exact h7)
     clear r7 h7 ho hb
     have A7 := Lib.hid (A0.out.on L7.out.2)
     have O7 := Lib.hid (O0.out.on L7.out.2)
     obtain ⟨c0, c1, c2, c3, c4, c5, c6, c7, c8, c9, c10⟩ := A7.out.all
     clear hcl
     refine Lib.hid ?_
     go_wp2_with (at_builtin; refine Lib.wpList_append_run _ rfl (.tmp 51) (.tmp 56) _ _ rfl _ _ rfl rfl _ _ HR7.out ?_)
     go_loopw [3, 5] (fun u i wr => ∃ k : Nat, k ≤ cn ∧ i = .int .i64 (k : Int) ∧ Lies W0 (f.l7 ++ Fn.codes (f.code.take k)) u wr) (fun _ i _ => cn - (intOf i).toNat)
     case atStart => exact ⟨0, Nat.zero_le _, rfl, by simpa [Fn.codes] using L7.out⟩
     case round =>
       obtain ⟨k, hk, rfl, hL⟩ := hrel
       have HL := Lib.hid hL
       have A8 := Lib.hid (A0.out.on hL.2)
       have O8 := Lib.hid (O0.out.on hL.2)
       clear hL
       obtain ⟨c0, c1, c2, c3, c4, c5, c6, c7, c8, c9, c10⟩ := A8.out.all
       by_cases hlt : k < cn
       · obtain ⟨bk, off, x, ec, _, hx, hkl, q0, q1⟩ := pairs_cell O8.out.code.1 hlt
         simp only at ec
         subst ec
         have hki : (k : Int) < (cn : Int) := by omega
         have HS := Lib.hid (Fn.codes_succ hkl)
         have hx64 := HWf.out.code x (by rw [← hx]; simp [List.getD, hkl])
         have hkc : (Fn.codes (f.code.take k)).length ≤ 11 * k := by
           have := Fn.codes_len (l := f.code.take k) (fun p hp => HWf.out.code p (List.mem_of_mem_take hp))
           rw [List.length_take] at this
           omega
         rw [hx] at HS
         have HIn := Lib.hid (rinput_any x.1 x.2 wr hx64.2.1 hx64.2.2)
         have hil := In.bytes_len (op := x.1) hx64.2.1 hx64.2.2
         have HIb := Lib.hid (Fn.In_byte x.1 x.2)
         clear hx hkl hx64
         generalize Fn.codes (f.code.take k) = cs at *
         generalize In.bytes x.1 x.2 = ib at *
         go_wp2_with (go_at_call 53; go_must (refine HIn.out.mono ?_; rintro _ w10 ⟨v10, rfl, ho, hb⟩; refine Hid.out ?_))
         obtain ⟨u11, w11, r11, h11⟩ := HL.out.more ho hb HIb.out (by rw [List.length_append]; have := HB4.out; omega)
         have HR11 := Lib.hid (r11 27 rfl)
         have L11 := Lib.hid h11
         clear r11 h11 ho hb hkc hil
         refine Lib.hid ?_
         go_wp2_with (at_builtin; refine Lib.wpList_append_run _ rfl (.tmp 65) (.tmp 71) _ _ rfl _ _ rfl rfl _ _ HR11.out ?_)
         go_roundw
         case rel => exact ⟨k + 1, hlt, by go_num, by rw [HS.out, ← List.append_assoc]; exact L11.out⟩
         case measure => simp [intOf]; omega
       · obtain rfl : k = cn := by omega
         have hki : decide ((k : Int) < (k : Int)) = false := decide_eq_false (by omega)
         have L8 : Hid (Lies W0 f.l8 u3 wr) := Lib.hid (by
           have := HL.out
           rw [List.take_of_length_le (by have := HCl.out; omega)] at this
           exact this)
         clear HL
         go_wp2_with (go_at_call 54; go_must (refine (rrunsPut_any ia i_n ic f.lines _ O8.out.lines.1 (by have := O8.out.n_lines; simp only at this; have := HLi.out; omega) HWf.out.lines).mono ?_; rintro _ wb9 ⟨vb9, rfl, ho, hb⟩; refine Hid.out ?_))
         obtain ⟨u9, w9, r9, h9⟩ := L8.out.more (m := Ru.laid (Ru.of f.lines)) ho hb (Ru.laid_byte _) (by have := HB4.out; have := HP.out; omega)
         have HR9 := Lib.hid (r9 27 rfl)
         have L9 : Hid (Lies W0 f.l9 u9 w9) := Lib.hid (h9)
         clear r9 h9 ho hb
         have A9 := Lib.hid (A0.out.on L9.out.2)
         have O9 := Lib.hid (O0.out.on L9.out.2)
         obtain ⟨c0, c1, c2, c3, c4, c5, c6, c7, c8, c9, c10⟩ := A9.out.all
         have HBw := Lib.hid (HBa.out w9)
         refine Lib.hid ?_
         go_wp2_with (first
           | (at_builtin; refine Lib.wpList_append_run _ rfl (.tmp 73) (.tmp 76) _ _ rfl _ _ rfl rfl _ _ HR9.out ?_)
           | (go_at_call 51; go_must (refine HBw.out.mono ?_; rintro _ w12 ⟨rfl, hb12⟩; refine Hid.out ?_)))
         have L12 : Hid (Lies W0 f.l9 u9 w12) := Lib.hid (L9.out.on' hb12)
         clear hb12
         have A12 := Lib.hid (A0.out.on L12.out.2)
         have O12 := Lib.hid (O0.out.on L12.out.2)
         obtain ⟨c0, c1, c2, c3, c4, c5, c6, c7, c8, c9, c10⟩ := A12.out.all
         refine Lib.hid ?_
         go_wp2
         go_ret
         rw [HBy.out]
         have hB := B0.out
         rw [← HPP.out] at hB
         exact ⟨_, rfl, ownsRow_base L12.out.1 hB.size, hB.trans (L12.out.2.mono hB.size)⟩
   · subst h1
     rw [h2] at HBa
     have HMk : Hid (f.mark = 3) := Lib.hid (by unfold Fn.F.mark; rw [← HNI.out.2, h2]; rfl)
     have HBy : Hid (f.bytes = f.l12) := Lib.hid (by rw [HBb.out]; unfold Fn.F.laid; rw [h2, if_neg (by decide)])
     have HTb := Lib.hid (HTb'.out h2)
     have HTl := Lib.hid (HTl'.out h2)
     clear HTb' HTl' HBb h2
     have HBw2 := HBa.out wX
     go_wp2_with (go_at_call 51; go_must (refine HBw2.mono ?_; rintro _ w2b ⟨rfl, hb⟩; refine Hid.out ?_))
     have L2b := Lib.hid (L2.out.on' hb)
     clear hb
     obtain ⟨u3, w3, r3, h3⟩ := L2b.out.byte' 3 (by decide) (by rw [List.length_append, nats_length]; have := Uv.put_len_10 (n := nm.size) (by omega); omega)
     have HR3 := Lib.hid (r3 27 rfl)
     have L3 : Hid (Lies W0 f.l2 u3 w3) := Lib.hid (by unfold Fn.F.l2; rw [← HNI.out.1, HMk.out]; exact h3)
     clear r3 h3
     have A3 := Lib.hid (A0.out.on L3.out.2)
     have O3 := Lib.hid (O0.out.on L3.out.2)
     obtain ⟨c0, c1, c2, c3, c4, c5, c6, c7, c8, c9, c10⟩ := A3.out.all
     have H3 : Hid (f.l3 = f.l2 ++ Si.bytes f.outer) := Lib.hid (by unfold Fn.F.l3; rw [← HNI.out.2]; rfl)
     refine Lib.hid ?_
     go_wp2_with (first
       | (at_builtin; refine Lib.wpList_append_run _ rfl (.tmp 25) (.tmp 27) _ _ rfl _ _ rfl rfl _ _ HR3.out ?_)
       | (go_at_call 52; go_must (refine (rsiput_any oa on oc f.outer _ O3.out.outer.1 (by have := HN.out; omega)).mono ?_; rintro _ wb33 ⟨vb33, rfl, ho, hb⟩; refine Hid.out ?_)))
     obtain ⟨u33, w33, r33, h33⟩ := L3.out.more (m := Si.bytes f.outer) ho hb (Si.bytes_byte _) (by have := HB4.out; have := HP.out; omega)
     have HR33 := Lib.hid (r33 27 rfl)
     have L33 : Hid (Lies W0 f.l3 u33 w33) := Lib.hid (by rw [H3.out]; exact h33)
     clear r33 h33 ho hb
     have A33 := Lib.hid (A0.out.on L33.out.2)
     have O33 := Lib.hid (O0.out.on L33.out.2)
     obtain ⟨c0, c1, c2, c3, c4, c5, c6, c7, c8, c9, c10⟩ := A33.out.all
     refine Lib.hid ?_
     go_wp2_with (first
       | (at_builtin; refine Lib.wpList_append_run _ rfl (.tmp 31) (.tmp 34) _ _ rfl _ _ rfl rfl _ _ HR33.out ?_)
       | (go_at_call 52; go_must (refine (rsiput_any pa pn pc f.params _ O33.out.params.1 (by have := HN.out; omega)).mono ?_; rintro _ wb4 ⟨vb4, rfl, ho, hb⟩; refine Hid.out ?_)))
     obtain ⟨u4, w4, r4, h4⟩ := L33.out.more (m := Si.bytes f.params) ho hb (Si.bytes_byte _) (by have := HB4.out; have := HP.out; omega)
     have HR4 := Lib.hid (r4 27 rfl)
     have L4 : Hid (Lies W0 f.l4 u4 w4) := Lib.hid (h4)
     clear r4 h4 ho hb
     have A4 := Lib.hid (A0.out.on L4.out.2)
     have O4 := Lib.hid (O0.out.on L4.out.2)
     obtain ⟨c0, c1, c2, c3, c4, c5, c6, c7, c8, c9, c10⟩ := A4.out.all
     refine Lib.hid ?_
     go_wp2_with (first
       | (at_builtin; refine Lib.wpList_append_run _ rfl (.tmp 36) (.tmp 39) _ _ rfl _ _ rfl rfl _ _ HR4.out ?_)
       | (go_at_call 52; go_must (refine (rsiput_any ra rn rc f.results _ O4.out.results.1 (by have := HN.out; omega)).mono ?_; rintro _ wb5 ⟨vb5, rfl, ho, hb⟩; refine Hid.out ?_)))
     obtain ⟨u5, w5, r5, h5⟩ := L4.out.more (m := Si.bytes f.results) ho hb (Si.bytes_byte _) (by have := HB4.out; have := HP.out; omega)
     have HR5 := Lib.hid (r5 27 rfl)
     have L5 : Hid (Lies W0 f.l5 u5 w5) := Lib.hid (h5)
     clear r5 h5 ho hb
     have A5 := Lib.hid (A0.out.on L5.out.2)
     have O5 := Lib.hid (O0.out.on L5.out.2)
     obtain ⟨c0, c1, c2, c3, c4, c5, c6, c7, c8, c9, c10⟩ := A5.out.all
     refine Lib.hid ?_
     go_wp2_with (first
       | (at_builtin; refine Lib.wpList_append_run _ rfl (.tmp 41) (.tmp 44) _ _ rfl _ _ rfl rfl _ _ HR5.out ?_)
       | (go_at_call 52; go_must (refine (rsiput_any la ln lc f.locals _ O5.out.locals.1 (by have := HN.out; omega)).mono ?_; rintro _ wb6 ⟨vb6, rfl, ho, hb⟩; refine Hid.out ?_)))
     obtain ⟨u6, w6, r6, h6⟩ := L5.out.more (m := Si.bytes f.locals) ho hb (Si.bytes_byte _) (by have := HB4.out; have := HP.out; omega)
     have HR6 := Lib.hid (r6 27 rfl)
     have L6 : Hid (Lies W0 f.l6 u6 w6) := Lib.hid (h6)
     clear r6 h6 ho hb
     have A6 := Lib.hid (A0.out.on L6.out.2)
     have O6 := Lib.hid (O0.out.on L6.out.2)
     obtain ⟨c0, c1, c2, c3, c4, c5, c6, c7, c8, c9, c10⟩ := A6.out.all
     have hcl : f.code.length = cn := O6.out.n_code
     have HCl := Lib.hid hcl
     refine Lib.hid ?_
     go_wp2_with (first
       | (at_builtin; refine Lib.wpList_append_run _ rfl (.tmp 46) (.tmp 49) _ _ rfl _ _ rfl rfl _ _ HR6.out ?_)
       | (go_at_call 22; go_must (refine (rput_any cn _ (by omega)).mono ?_; rintro _ wb7 ⟨vb7, rfl, ho, hb⟩; refine Hid.out ?_)))
     obtain ⟨u7, w7, r7, h7⟩ := L6.out.more (m := Uv.put cn) ho hb (Uv.put_byte _) (by have := HB4.out; have := Uv.put_len_10 (n := cn) (by omega); omega)
     have HR7 := Lib.hid (r7 27 rfl)
     have L7 : Hid (Lies W0 f.l7 u7 w7) := Lib.hid (by unfold Fn.F.l7; rw [hcl]; exact h7)
     clear r7 h7 ho hb
     have A7 := Lib.hid (A0.out.on L7.out.2)
     have O7 := Lib.hid (O0.out.on L7.out.2)
     obtain ⟨c0, c1, c2, c3, c4, c5, c6, c7, c8, c9, c10⟩ := A7.out.all
     clear hcl
     refine Lib.hid ?_
     go_wp2_with (at_builtin; refine Lib.wpList_append_run _ rfl (.tmp 51) (.tmp 56) _ _ rfl _ _ rfl rfl _ _ HR7.out ?_)
     go_loopw [3, 5] (fun u i wr => ∃ k : Nat, k ≤ cn ∧ i = .int .i64 (k : Int) ∧ Lies W0 (f.l7 ++ Fn.codes (f.code.take k)) u wr) (fun _ i _ => cn - (intOf i).toNat)
     case atStart => exact ⟨0, Nat.zero_le _, rfl, by simpa [Fn.codes] using L7.out⟩
     case round =>
       obtain ⟨k, hk, rfl, hL⟩ := hrel
       have HL := Lib.hid hL
       have A8 := Lib.hid (A0.out.on hL.2)
       have O8 := Lib.hid (O0.out.on hL.2)
       clear hL
       obtain ⟨c0, c1, c2, c3, c4, c5, c6, c7, c8, c9, c10⟩ := A8.out.all
       by_cases hlt : k < cn
       · obtain ⟨bk, off, x, ec, _, hx, hkl, q0, q1⟩ := pairs_cell O8.out.code.1 hlt
         simp only at ec
         subst ec
         have hki : (k : Int) < (cn : Int) := by omega
         have HS := Lib.hid (Fn.codes_succ hkl)
         have hx64 := HWf.out.code x (by rw [← hx]; simp [List.getD, hkl])
         have hkc : (Fn.codes (f.code.take k)).length ≤ 11 * k := by
           have := Fn.codes_len (l := f.code.take k) (fun p hp => HWf.out.code p (List.mem_of_mem_take hp))
           rw [List.length_take] at this
           omega
         rw [hx] at HS
         have HIn := Lib.hid (rinput_any x.1 x.2 wr hx64.2.1 hx64.2.2)
         have hil := In.bytes_len (op := x.1) hx64.2.1 hx64.2.2
         have HIb := Lib.hid (Fn.In_byte x.1 x.2)
         clear hx hkl hx64
         generalize Fn.codes (f.code.take k) = cs at *
         generalize In.bytes x.1 x.2 = ib at *
         go_wp2_with (go_at_call 53; go_must (refine HIn.out.mono ?_; rintro _ w10 ⟨v10, rfl, ho, hb⟩; refine Hid.out ?_))
         obtain ⟨u11, w11, r11, h11⟩ := HL.out.more ho hb HIb.out (by rw [List.length_append]; have := HB4.out; omega)
         have HR11 := Lib.hid (r11 27 rfl)
         have L11 := Lib.hid h11
         clear r11 h11 ho hb hkc hil
         refine Lib.hid ?_
         go_wp2_with (at_builtin; refine Lib.wpList_append_run _ rfl (.tmp 65) (.tmp 71) _ _ rfl _ _ rfl rfl _ _ HR11.out ?_)
         go_roundw
         case rel => exact ⟨k + 1, hlt, by go_num, by rw [HS.out, ← List.append_assoc]; exact L11.out⟩
         case measure => simp [intOf]; omega
       · obtain rfl : k = cn := by omega
         have hki : decide ((k : Int) < (k : Int)) = false := decide_eq_false (by omega)
         have L8 : Hid (Lies W0 f.l8 u3 wr) := Lib.hid (by
           have := HL.out
           rw [List.take_of_length_le (by have := HCl.out; omega)] at this
           exact this)
         clear HL
         go_wp2_with (go_at_call 54; go_must (refine (rrunsPut_any ia i_n ic f.lines _ O8.out.lines.1 (by have := O8.out.n_lines; simp only at this; have := HLi.out; omega) HWf.out.lines).mono ?_; rintro _ wb9 ⟨vb9, rfl, ho, hb⟩; refine Hid.out ?_))
         obtain ⟨u9, w9, r9, h9⟩ := L8.out.more (m := Ru.laid (Ru.of f.lines)) ho hb (Ru.laid_byte _) (by have := HB4.out; have := HP.out; omega)
         have HR9 := Lib.hid (r9 27 rfl)
         have L9 : Hid (Lies W0 f.l9 u9 w9) := Lib.hid (h9)
         clear r9 h9 ho hb
         have A9 := Lib.hid (A0.out.on L9.out.2)
         have O9 := Lib.hid (O0.out.on L9.out.2)
         obtain ⟨c0, c1, c2, c3, c4, c5, c6, c7, c8, c9, c10⟩ := A9.out.all
         have HBw := Lib.hid (HBa.out w9)
         refine Lib.hid ?_
         go_wp2_with (first
           | (at_builtin; refine Lib.wpList_append_run _ rfl (.tmp 73) (.tmp 76) _ _ rfl _ _ rfl rfl _ _ HR9.out ?_)
           | (go_at_call 51; go_must (refine HBw.out.mono ?_; rintro _ w12 ⟨rfl, hb12⟩; refine Hid.out ?_)))
         have L12 : Hid (Lies W0 f.l9 u9 w12) := Lib.hid (L9.out.on' hb12)
         clear hb12
         have A12 := Lib.hid (A0.out.on L12.out.2)
         have O12 := Lib.hid (O0.out.on L12.out.2)
         obtain ⟨c0, c1, c2, c3, c4, c5, c6, c7, c8, c9, c10⟩ := A12.out.all
         obtain ⟨t1, t2, t3⟩ := HTb.out
         obtain ⟨m1, m2, m3⟩ := HTl.out
         have hno := O12.out.n_nodes
         have hao := O12.out.n_at
         have hvo := O12.out.n_live
         simp only at hno hao hvo
         have hl10 : f.l10.length ≤ 200000 := by unfold Fn.F.l10; rw [List.length_append]; have := HB4.out; omega
         have hl11 : f.l11.length ≤ 250000 := by unfold Fn.F.l11; rw [List.length_append]; omega
         refine Lib.hid ?_
         go_wp2_with (go_at_call 55; go_must (refine (rtrput_any na nn nc f.nodes _ O12.out.nodes.1 (by omega) HWf.out.nodes).mono ?_; rintro _ wb13 ⟨vb13, rfl, ho, hb⟩; refine Hid.out ?_))
         obtain ⟨u13, w13, r13, h13⟩ := L12.out.more (m := Tr.bytes f.nodes) ho hb (Fn.tr_byte _) (by have := HB4.out; omega)
         have HR13 := Lib.hid (r13 27 rfl)
         have L13 : Hid (Lies W0 f.l10 u13 w13) := Lib.hid (h13)
         clear r13 h13 ho hb
         have A13 := Lib.hid (A0.out.on L13.out.2)
         have O13 := Lib.hid (O0.out.on L13.out.2)
         obtain ⟨c0, c1, c2, c3, c4, c5, c6, c7, c8, c9, c10⟩ := A13.out.all
         refine Lib.hid ?_
         go_wp2_with (first
           | (at_builtin; refine Lib.wpList_append_run _ rfl (.tmp 81) (.tmp 84) _ _ rfl _ _ rfl rfl _ _ HR13.out ?_)
           | (go_at_call 54; go_must (refine (rrunsPut_any ta tn tc f.at_ _ O13.out.at_.1 (by omega) HWf.out.at_).mono ?_; rintro _ wb14 ⟨vb14, rfl, ho, hb⟩; refine Hid.out ?_)))
         obtain ⟨u14, w14, r14, h14⟩ := L13.out.more (m := Ru.laid (Ru.of f.at_)) ho hb (Ru.laid_byte _) (by omega)
         have HR14 := Lib.hid (r14 27 rfl)
         have L14 : Hid (Lies W0 f.l11 u14 w14) := Lib.hid (h14)
         clear r14 h14 ho hb
         have A14 := Lib.hid (A0.out.on L14.out.2)
         have O14 := Lib.hid (O0.out.on L14.out.2)
         obtain ⟨c0, c1, c2, c3, c4, c5, c6, c7, c8, c9, c10⟩ := A14.out.all
         refine Lib.hid ?_
         go_wp2_with (first
           | (at_builtin; refine Lib.wpList_append_run _ rfl (.tmp 86) (.tmp 89) _ _ rfl _ _ rfl rfl _ _ HR14.out ?_)
           | (go_at_call 56; go_must (refine (rmpput_any va vn vc f.live _ O14.out.live.1 (by omega) HWf.out.live).mono ?_; rintro _ wb15 ⟨vb15, rfl, ho, hb⟩; refine Hid.out ?_)))
         obtain ⟨u15, w15, r15, h15⟩ := L14.out.more (m := Mp.bytes f.live) ho hb (Mp.bytes_byte _) (by omega)
         have HR15 := Lib.hid (r15 27 rfl)
         have L15 : Hid (Lies W0 f.l12 u15 w15) := Lib.hid (h15)
         clear r15 h15 ho hb
         have A15 := Lib.hid (A0.out.on L15.out.2)
         have O15 := Lib.hid (O0.out.on L15.out.2)
         obtain ⟨c0, c1, c2, c3, c4, c5, c6, c7, c8, c9, c10⟩ := A15.out.all
         refine Lib.hid ?_
         go_wp2_with (at_builtin; refine Lib.wpList_append_run _ rfl (.tmp 91) (.tmp 94) _ _ rfl _ _ rfl rfl _ _ HR15.out ?_)
         go_ret
         rw [HBy.out]
         have hB := B0.out
         rw [← HPP.out] at hB
         exact ⟨_, rfl, ownsRow_base L15.out.1 hB.size, hB.trans (L15.out.2.mono hB.size)⟩
   · subst h1
     rw [h2] at HBa
     have HMk : Hid (f.mark = 0) := Lib.hid (by unfold Fn.F.mark; rw [← HNI.out.2, h2]; rfl)
     have HBy : Hid (f.bytes = f.l9) := Lib.hid (by rw [HBb.out]; unfold Fn.F.laid; rw [h2, if_pos rfl])
     clear HTb' HTl' HBb h2
     have HBw2 := HBa.out wX
     go_wp2_with (go_at_call 51; go_must (refine HBw2.mono ?_; rintro _ w2b ⟨rfl, hb⟩; refine Hid.out ?_))
     have L2b := Lib.hid (L2.out.on' hb)
     clear hb
     obtain ⟨u3, w3, r3, h3⟩ := L2b.out.byte' 0 (by decide) (by rw [List.length_append, nats_length]; have := Uv.put_len_10 (n := nm.size) (by omega); omega)
     have HR3 := Lib.hid (r3 27 rfl)
     have L3 : Hid (Lies W0 f.l3 u3 w3) := Lib.hid (by unfold Fn.F.l3; rw [← HNI.out.2]; simp only [Bool.false_eq_true, if_false, List.append_nil]; unfold Fn.F.l2; rw [← HNI.out.1, HMk.out]; exact h3)
     clear r3 h3
     have A3 := Lib.hid (A0.out.on L3.out.2)
     have O3 := Lib.hid (O0.out.on L3.out.2)
     obtain ⟨c0, c1, c2, c3, c4, c5, c6, c7, c8, c9, c10⟩ := A3.out.all
     refine Lib.hid ?_
     go_wp2_with (first
       | (at_builtin; refine Lib.wpList_append_run _ rfl (.tmp 25) (.tmp 27) _ _ rfl _ _ rfl rfl _ _ HR3.out ?_)
       | (go_at_call 52; go_must (refine (rsiput_any pa pn pc f.params _ O3.out.params.1 (by have := HN.out; omega)).mono ?_; rintro _ wb4 ⟨vb4, rfl, ho, hb⟩; refine Hid.out ?_)))
     obtain ⟨u4, w4, r4, h4⟩ := L3.out.more (m := Si.bytes f.params) ho hb (Si.bytes_byte _) (by have := HB4.out; have := HP.out; omega)
     have HR4 := Lib.hid (r4 27 rfl)
     have L4 : Hid (Lies W0 f.l4 u4 w4) := Lib.hid (h4)
     clear r4 h4 ho hb
     have A4 := Lib.hid (A0.out.on L4.out.2)
     have O4 := Lib.hid (O0.out.on L4.out.2)
     obtain ⟨c0, c1, c2, c3, c4, c5, c6, c7, c8, c9, c10⟩ := A4.out.all
     refine Lib.hid ?_
     go_wp2_with (first
       | (at_builtin; refine Lib.wpList_append_run _ rfl (.tmp 36) (.tmp 39) _ _ rfl _ _ rfl rfl _ _ HR4.out ?_)
       | (go_at_call 52; go_must (refine (rsiput_any ra rn rc f.results _ O4.out.results.1 (by have := HN.out; omega)).mono ?_; rintro _ wb5 ⟨vb5, rfl, ho, hb⟩; refine Hid.out ?_)))
     obtain ⟨u5, w5, r5, h5⟩ := L4.out.more (m := Si.bytes f.results) ho hb (Si.bytes_byte _) (by have := HB4.out; have := HP.out; omega)
     have HR5 := Lib.hid (r5 27 rfl)
     have L5 : Hid (Lies W0 f.l5 u5 w5) := Lib.hid (h5)
     clear r5 h5 ho hb
     have A5 := Lib.hid (A0.out.on L5.out.2)
     have O5 := Lib.hid (O0.out.on L5.out.2)
     obtain ⟨c0, c1, c2, c3, c4, c5, c6, c7, c8, c9, c10⟩ := A5.out.all
     refine Lib.hid ?_
     go_wp2_with (first
       | (at_builtin; refine Lib.wpList_append_run _ rfl (.tmp 41) (.tmp 44) _ _ rfl _ _ rfl rfl _ _ HR5.out ?_)
       | (go_at_call 52; go_must (refine (rsiput_any la ln lc f.locals _ O5.out.locals.1 (by have := HN.out; omega)).mono ?_; rintro _ wb6 ⟨vb6, rfl, ho, hb⟩; refine Hid.out ?_)))
     obtain ⟨u6, w6, r6, h6⟩ := L5.out.more (m := Si.bytes f.locals) ho hb (Si.bytes_byte _) (by have := HB4.out; have := HP.out; omega)
     have HR6 := Lib.hid (r6 27 rfl)
     have L6 : Hid (Lies W0 f.l6 u6 w6) := Lib.hid (h6)
     clear r6 h6 ho hb
     have A6 := Lib.hid (A0.out.on L6.out.2)
     have O6 := Lib.hid (O0.out.on L6.out.2)
     obtain ⟨c0, c1, c2, c3, c4, c5, c6, c7, c8, c9, c10⟩ := A6.out.all
     have hcl : f.code.length = cn := O6.out.n_code
     have HCl := Lib.hid hcl
     refine Lib.hid ?_
     go_wp2_with (first
       | (at_builtin; refine Lib.wpList_append_run _ rfl (.tmp 46) (.tmp 49) _ _ rfl _ _ rfl rfl _ _ HR6.out ?_)
       | (go_at_call 22; go_must (refine (rput_any cn _ (by omega)).mono ?_; rintro _ wb7 ⟨vb7, rfl, ho, hb⟩; refine Hid.out ?_)))
     obtain ⟨u7, w7, r7, h7⟩ := L6.out.more (m := Uv.put cn) ho hb (Uv.put_byte _) (by have := HB4.out; have := Uv.put_len_10 (n := cn) (by omega); omega)
     have HR7 := Lib.hid (r7 27 rfl)
     have L7 : Hid (Lies W0 f.l7 u7 w7) := Lib.hid (by unfold Fn.F.l7; rw [hcl]; exact h7)
     clear r7 h7 ho hb
     have A7 := Lib.hid (A0.out.on L7.out.2)
     have O7 := Lib.hid (O0.out.on L7.out.2)
     obtain ⟨c0, c1, c2, c3, c4, c5, c6, c7, c8, c9, c10⟩ := A7.out.all
     clear hcl
     refine Lib.hid ?_
     go_wp2_with (at_builtin; refine Lib.wpList_append_run _ rfl (.tmp 51) (.tmp 56) _ _ rfl _ _ rfl rfl _ _ HR7.out ?_)
     go_loopw [3, 5] (fun u i wr => ∃ k : Nat, k ≤ cn ∧ i = .int .i64 (k : Int) ∧ Lies W0 (f.l7 ++ Fn.codes (f.code.take k)) u wr) (fun _ i _ => cn - (intOf i).toNat)
     case atStart => exact ⟨0, Nat.zero_le _, rfl, by simpa [Fn.codes] using L7.out⟩
     case round =>
       obtain ⟨k, hk, rfl, hL⟩ := hrel
       have HL := Lib.hid hL
       have A8 := Lib.hid (A0.out.on hL.2)
       have O8 := Lib.hid (O0.out.on hL.2)
       clear hL
       obtain ⟨c0, c1, c2, c3, c4, c5, c6, c7, c8, c9, c10⟩ := A8.out.all
       by_cases hlt : k < cn
       · obtain ⟨bk, off, x, ec, _, hx, hkl, q0, q1⟩ := pairs_cell O8.out.code.1 hlt
         simp only at ec
         subst ec
         have hki : (k : Int) < (cn : Int) := by omega
         have HS := Lib.hid (Fn.codes_succ hkl)
         have hx64 := HWf.out.code x (by rw [← hx]; simp [List.getD, hkl])
         have hkc : (Fn.codes (f.code.take k)).length ≤ 11 * k := by
           have := Fn.codes_len (l := f.code.take k) (fun p hp => HWf.out.code p (List.mem_of_mem_take hp))
           rw [List.length_take] at this
           omega
         rw [hx] at HS
         have HIn := Lib.hid (rinput_any x.1 x.2 wr hx64.2.1 hx64.2.2)
         have hil := In.bytes_len (op := x.1) hx64.2.1 hx64.2.2
         have HIb := Lib.hid (Fn.In_byte x.1 x.2)
         clear hx hkl hx64
         generalize Fn.codes (f.code.take k) = cs at *
         generalize In.bytes x.1 x.2 = ib at *
         go_wp2_with (go_at_call 53; go_must (refine HIn.out.mono ?_; rintro _ w10 ⟨v10, rfl, ho, hb⟩; refine Hid.out ?_))
         obtain ⟨u11, w11, r11, h11⟩ := HL.out.more ho hb HIb.out (by rw [List.length_append]; have := HB4.out; omega)
         have HR11 := Lib.hid (r11 27 rfl)
         have L11 := Lib.hid h11
         clear r11 h11 ho hb hkc hil
         refine Lib.hid ?_
         go_wp2_with (at_builtin; refine Lib.wpList_append_run _ rfl (.tmp 65) (.tmp 71) _ _ rfl _ _ rfl rfl _ _ HR11.out ?_)
         go_roundw
         case rel => exact ⟨k + 1, hlt, by go_num, by rw [HS.out, ← List.append_assoc]; exact L11.out⟩
         case measure => simp [intOf]; omega
       · obtain rfl : k = cn := by omega
         have hki : decide ((k : Int) < (k : Int)) = false := decide_eq_false (by omega)
         have L8 : Hid (Lies W0 f.l8 u3 wr) := Lib.hid (by
           have := HL.out
           rw [List.take_of_length_le (by have := HCl.out; omega)] at this
           exact this)
         clear HL
         go_wp2_with (go_at_call 54; go_must (refine (rrunsPut_any ia i_n ic f.lines _ O8.out.lines.1 (by have := O8.out.n_lines; simp only at this; have := HLi.out; omega) HWf.out.lines).mono ?_; rintro _ wb9 ⟨vb9, rfl, ho, hb⟩; refine Hid.out ?_))
         obtain ⟨u9, w9, r9, h9⟩ := L8.out.more (m := Ru.laid (Ru.of f.lines)) ho hb (Ru.laid_byte _) (by have := HB4.out; have := HP.out; omega)
         have HR9 := Lib.hid (r9 27 rfl)
         have L9 : Hid (Lies W0 f.l9 u9 w9) := Lib.hid (h9)
         clear r9 h9 ho hb
         have A9 := Lib.hid (A0.out.on L9.out.2)
         have O9 := Lib.hid (O0.out.on L9.out.2)
         obtain ⟨c0, c1, c2, c3, c4, c5, c6, c7, c8, c9, c10⟩ := A9.out.all
         have HBw := Lib.hid (HBa.out w9)
         refine Lib.hid ?_
         go_wp2_with (first
           | (at_builtin; refine Lib.wpList_append_run _ rfl (.tmp 73) (.tmp 76) _ _ rfl _ _ rfl rfl _ _ HR9.out ?_)
           | (go_at_call 51; go_must (refine HBw.out.mono ?_; rintro _ w12 ⟨rfl, hb12⟩; refine Hid.out ?_)))
         have L12 : Hid (Lies W0 f.l9 u9 w12) := Lib.hid (L9.out.on' hb12)
         clear hb12
         have A12 := Lib.hid (A0.out.on L12.out.2)
         have O12 := Lib.hid (O0.out.on L12.out.2)
         obtain ⟨c0, c1, c2, c3, c4, c5, c6, c7, c8, c9, c10⟩ := A12.out.all
         refine Lib.hid ?_
         go_wp2
         go_ret
         rw [HBy.out]
         have hB := B0.out
         rw [← HPP.out] at hB
         exact ⟨_, rfl, ownsRow_base L12.out.1 hB.size, hB.trans (L12.out.2.mono hB.size)⟩
   · subst h1
     rw [h2] at HBa
     have HMk : Hid (f.mark = 2) := Lib.hid (by unfold Fn.F.mark; rw [← HNI.out.2, h2]; rfl)
     have HBy : Hid (f.bytes = f.l12) := Lib.hid (by rw [HBb.out]; unfold Fn.F.laid; rw [h2, if_neg (by decide)])
     have HTb := Lib.hid (HTb'.out h2)
     have HTl := Lib.hid (HTl'.out h2)
     clear HTb' HTl' HBb h2
     have HBw2 := HBa.out wX
     go_wp2_with (go_at_call 51; go_must (refine HBw2.mono ?_; rintro _ w2b ⟨rfl, hb⟩; refine Hid.out ?_))
     have L2b := Lib.hid (L2.out.on' hb)
     clear hb
     obtain ⟨u3, w3, r3, h3⟩ := L2b.out.byte' 2 (by decide) (by rw [List.length_append, nats_length]; have := Uv.put_len_10 (n := nm.size) (by omega); omega)
     have HR3 := Lib.hid (r3 27 rfl)
     have L3 : Hid (Lies W0 f.l3 u3 w3) := Lib.hid (by unfold Fn.F.l3; rw [← HNI.out.2]; simp only [Bool.false_eq_true, if_false, List.append_nil]; unfold Fn.F.l2; rw [← HNI.out.1, HMk.out]; exact h3)
     clear r3 h3
     have A3 := Lib.hid (A0.out.on L3.out.2)
     have O3 := Lib.hid (O0.out.on L3.out.2)
     obtain ⟨c0, c1, c2, c3, c4, c5, c6, c7, c8, c9, c10⟩ := A3.out.all
     refine Lib.hid ?_
     go_wp2_with (first
       | (at_builtin; refine Lib.wpList_append_run _ rfl (.tmp 25) (.tmp 27) _ _ rfl _ _ rfl rfl _ _ HR3.out ?_)
       | (go_at_call 52; go_must (refine (rsiput_any pa pn pc f.params _ O3.out.params.1 (by have := HN.out; omega)).mono ?_; rintro _ wb4 ⟨vb4, rfl, ho, hb⟩; refine Hid.out ?_)))
     obtain ⟨u4, w4, r4, h4⟩ := L3.out.more (m := Si.bytes f.params) ho hb (Si.bytes_byte _) (by have := HB4.out; have := HP.out; omega)
     have HR4 := Lib.hid (r4 27 rfl)
     have L4 : Hid (Lies W0 f.l4 u4 w4) := Lib.hid (h4)
     clear r4 h4 ho hb
     have A4 := Lib.hid (A0.out.on L4.out.2)
     have O4 := Lib.hid (O0.out.on L4.out.2)
     obtain ⟨c0, c1, c2, c3, c4, c5, c6, c7, c8, c9, c10⟩ := A4.out.all
     refine Lib.hid ?_
     go_wp2_with (first
       | (at_builtin; refine Lib.wpList_append_run _ rfl (.tmp 36) (.tmp 39) _ _ rfl _ _ rfl rfl _ _ HR4.out ?_)
       | (go_at_call 52; go_must (refine (rsiput_any ra rn rc f.results _ O4.out.results.1 (by have := HN.out; omega)).mono ?_; rintro _ wb5 ⟨vb5, rfl, ho, hb⟩; refine Hid.out ?_)))
     obtain ⟨u5, w5, r5, h5⟩ := L4.out.more (m := Si.bytes f.results) ho hb (Si.bytes_byte _) (by have := HB4.out; have := HP.out; omega)
     have HR5 := Lib.hid (r5 27 rfl)
     have L5 : Hid (Lies W0 f.l5 u5 w5) := Lib.hid (h5)
     clear r5 h5 ho hb
     have A5 := Lib.hid (A0.out.on L5.out.2)
     have O5 := Lib.hid (O0.out.on L5.out.2)
     obtain ⟨c0, c1, c2, c3, c4, c5, c6, c7, c8, c9, c10⟩ := A5.out.all
     refine Lib.hid ?_
     go_wp2_with (first
       | (at_builtin; refine Lib.wpList_append_run _ rfl (.tmp 41) (.tmp 44) _ _ rfl _ _ rfl rfl _ _ HR5.out ?_)
       | (go_at_call 52; go_must (refine (rsiput_any la ln lc f.locals _ O5.out.locals.1 (by have := HN.out; omega)).mono ?_; rintro _ wb6 ⟨vb6, rfl, ho, hb⟩; refine Hid.out ?_)))
     obtain ⟨u6, w6, r6, h6⟩ := L5.out.more (m := Si.bytes f.locals) ho hb (Si.bytes_byte _) (by have := HB4.out; have := HP.out; omega)
     have HR6 := Lib.hid (r6 27 rfl)
     have L6 : Hid (Lies W0 f.l6 u6 w6) := Lib.hid (h6)
     clear r6 h6 ho hb
     have A6 := Lib.hid (A0.out.on L6.out.2)
     have O6 := Lib.hid (O0.out.on L6.out.2)
     obtain ⟨c0, c1, c2, c3, c4, c5, c6, c7, c8, c9, c10⟩ := A6.out.all
     have hcl : f.code.length = cn := O6.out.n_code
     have HCl := Lib.hid hcl
     refine Lib.hid ?_
     go_wp2_with (first
       | (at_builtin; refine Lib.wpList_append_run _ rfl (.tmp 46) (.tmp 49) _ _ rfl _ _ rfl rfl _ _ HR6.out ?_)
       | (go_at_call 22; go_must (refine (rput_any cn _ (by omega)).mono ?_; rintro _ wb7 ⟨vb7, rfl, ho, hb⟩; refine Hid.out ?_)))
     obtain ⟨u7, w7, r7, h7⟩ := L6.out.more (m := Uv.put cn) ho hb (Uv.put_byte _) (by have := HB4.out; have := Uv.put_len_10 (n := cn) (by omega); omega)
     have HR7 := Lib.hid (r7 27 rfl)
     have L7 : Hid (Lies W0 f.l7 u7 w7) := Lib.hid (by unfold Fn.F.l7; rw [hcl]; exact h7)
     clear r7 h7 ho hb
     have A7 := Lib.hid (A0.out.on L7.out.2)
     have O7 := Lib.hid (O0.out.on L7.out.2)
     obtain ⟨c0, c1, c2, c3, c4, c5, c6, c7, c8, c9, c10⟩ := A7.out.all
     clear hcl
     refine Lib.hid ?_
     go_wp2_with (at_builtin; refine Lib.wpList_append_run _ rfl (.tmp 51) (.tmp 56) _ _ rfl _ _ rfl rfl _ _ HR7.out ?_)
     go_loopw [3, 5] (fun u i wr => ∃ k : Nat, k ≤ cn ∧ i = .int .i64 (k : Int) ∧ Lies W0 (f.l7 ++ Fn.codes (f.code.take k)) u wr) (fun _ i _ => cn - (intOf i).toNat)
     case atStart => exact ⟨0, Nat.zero_le _, rfl, by simpa [Fn.codes] using L7.out⟩
     case round =>
       obtain ⟨k, hk, rfl, hL⟩ := hrel
       have HL := Lib.hid hL
       have A8 := Lib.hid (A0.out.on hL.2)
       have O8 := Lib.hid (O0.out.on hL.2)
       clear hL
       obtain ⟨c0, c1, c2, c3, c4, c5, c6, c7, c8, c9, c10⟩ := A8.out.all
       by_cases hlt : k < cn
       · obtain ⟨bk, off, x, ec, _, hx, hkl, q0, q1⟩ := pairs_cell O8.out.code.1 hlt
         simp only at ec
         subst ec
         have hki : (k : Int) < (cn : Int) := by omega
         have HS := Lib.hid (Fn.codes_succ hkl)
         have hx64 := HWf.out.code x (by rw [← hx]; simp [List.getD, hkl])
         have hkc : (Fn.codes (f.code.take k)).length ≤ 11 * k := by
           have := Fn.codes_len (l := f.code.take k) (fun p hp => HWf.out.code p (List.mem_of_mem_take hp))
           rw [List.length_take] at this
           omega
         rw [hx] at HS
         have HIn := Lib.hid (rinput_any x.1 x.2 wr hx64.2.1 hx64.2.2)
         have hil := In.bytes_len (op := x.1) hx64.2.1 hx64.2.2
         have HIb := Lib.hid (Fn.In_byte x.1 x.2)
         clear hx hkl hx64
         generalize Fn.codes (f.code.take k) = cs at *
         generalize In.bytes x.1 x.2 = ib at *
         go_wp2_with (go_at_call 53; go_must (refine HIn.out.mono ?_; rintro _ w10 ⟨v10, rfl, ho, hb⟩; refine Hid.out ?_))
         obtain ⟨u11, w11, r11, h11⟩ := HL.out.more ho hb HIb.out (by rw [List.length_append]; have := HB4.out; omega)
         have HR11 := Lib.hid (r11 27 rfl)
         have L11 := Lib.hid h11
         clear r11 h11 ho hb hkc hil
         refine Lib.hid ?_
         go_wp2_with (at_builtin; refine Lib.wpList_append_run _ rfl (.tmp 65) (.tmp 71) _ _ rfl _ _ rfl rfl _ _ HR11.out ?_)
         go_roundw
         case rel => exact ⟨k + 1, hlt, by go_num, by rw [HS.out, ← List.append_assoc]; exact L11.out⟩
         case measure => simp [intOf]; omega
       · obtain rfl : k = cn := by omega
         have hki : decide ((k : Int) < (k : Int)) = false := decide_eq_false (by omega)
         have L8 : Hid (Lies W0 f.l8 u3 wr) := Lib.hid (by
           have := HL.out
           rw [List.take_of_length_le (by have := HCl.out; omega)] at this
           exact this)
         clear HL
         go_wp2_with (go_at_call 54; go_must (refine (rrunsPut_any ia i_n ic f.lines _ O8.out.lines.1 (by have := O8.out.n_lines; simp only at this; have := HLi.out; omega) HWf.out.lines).mono ?_; rintro _ wb9 ⟨vb9, rfl, ho, hb⟩; refine Hid.out ?_))
         obtain ⟨u9, w9, r9, h9⟩ := L8.out.more (m := Ru.laid (Ru.of f.lines)) ho hb (Ru.laid_byte _) (by have := HB4.out; have := HP.out; omega)
         have HR9 := Lib.hid (r9 27 rfl)
         have L9 : Hid (Lies W0 f.l9 u9 w9) := Lib.hid (h9)
         clear r9 h9 ho hb
         have A9 := Lib.hid (A0.out.on L9.out.2)
         have O9 := Lib.hid (O0.out.on L9.out.2)
         obtain ⟨c0, c1, c2, c3, c4, c5, c6, c7, c8, c9, c10⟩ := A9.out.all
         have HBw := Lib.hid (HBa.out w9)
         refine Lib.hid ?_
         go_wp2_with (first
           | (at_builtin; refine Lib.wpList_append_run _ rfl (.tmp 73) (.tmp 76) _ _ rfl _ _ rfl rfl _ _ HR9.out ?_)
           | (go_at_call 51; go_must (refine HBw.out.mono ?_; rintro _ w12 ⟨rfl, hb12⟩; refine Hid.out ?_)))
         have L12 : Hid (Lies W0 f.l9 u9 w12) := Lib.hid (L9.out.on' hb12)
         clear hb12
         have A12 := Lib.hid (A0.out.on L12.out.2)
         have O12 := Lib.hid (O0.out.on L12.out.2)
         obtain ⟨c0, c1, c2, c3, c4, c5, c6, c7, c8, c9, c10⟩ := A12.out.all
         obtain ⟨t1, t2, t3⟩ := HTb.out
         obtain ⟨m1, m2, m3⟩ := HTl.out
         have hno := O12.out.n_nodes
         have hao := O12.out.n_at
         have hvo := O12.out.n_live
         simp only at hno hao hvo
         have hl10 : f.l10.length ≤ 200000 := by unfold Fn.F.l10; rw [List.length_append]; have := HB4.out; omega
         have hl11 : f.l11.length ≤ 250000 := by unfold Fn.F.l11; rw [List.length_append]; omega
         refine Lib.hid ?_
         go_wp2_with (go_at_call 55; go_must (refine (rtrput_any na nn nc f.nodes _ O12.out.nodes.1 (by omega) HWf.out.nodes).mono ?_; rintro _ wb13 ⟨vb13, rfl, ho, hb⟩; refine Hid.out ?_))
         obtain ⟨u13, w13, r13, h13⟩ := L12.out.more (m := Tr.bytes f.nodes) ho hb (Fn.tr_byte _) (by have := HB4.out; omega)
         have HR13 := Lib.hid (r13 27 rfl)
         have L13 : Hid (Lies W0 f.l10 u13 w13) := Lib.hid (h13)
         clear r13 h13 ho hb
         have A13 := Lib.hid (A0.out.on L13.out.2)
         have O13 := Lib.hid (O0.out.on L13.out.2)
         obtain ⟨c0, c1, c2, c3, c4, c5, c6, c7, c8, c9, c10⟩ := A13.out.all
         refine Lib.hid ?_
         go_wp2_with (first
           | (at_builtin; refine Lib.wpList_append_run _ rfl (.tmp 81) (.tmp 84) _ _ rfl _ _ rfl rfl _ _ HR13.out ?_)
           | (go_at_call 54; go_must (refine (rrunsPut_any ta tn tc f.at_ _ O13.out.at_.1 (by omega) HWf.out.at_).mono ?_; rintro _ wb14 ⟨vb14, rfl, ho, hb⟩; refine Hid.out ?_)))
         obtain ⟨u14, w14, r14, h14⟩ := L13.out.more (m := Ru.laid (Ru.of f.at_)) ho hb (Ru.laid_byte _) (by omega)
         have HR14 := Lib.hid (r14 27 rfl)
         have L14 : Hid (Lies W0 f.l11 u14 w14) := Lib.hid (h14)
         clear r14 h14 ho hb
         have A14 := Lib.hid (A0.out.on L14.out.2)
         have O14 := Lib.hid (O0.out.on L14.out.2)
         obtain ⟨c0, c1, c2, c3, c4, c5, c6, c7, c8, c9, c10⟩ := A14.out.all
         refine Lib.hid ?_
         go_wp2_with (first
           | (at_builtin; refine Lib.wpList_append_run _ rfl (.tmp 86) (.tmp 89) _ _ rfl _ _ rfl rfl _ _ HR14.out ?_)
           | (go_at_call 56; go_must (refine (rmpput_any va vn vc f.live _ O14.out.live.1 (by omega) HWf.out.live).mono ?_; rintro _ wb15 ⟨vb15, rfl, ho, hb⟩; refine Hid.out ?_)))
         obtain ⟨u15, w15, r15, h15⟩ := L14.out.more (m := Mp.bytes f.live) ho hb (Mp.bytes_byte _) (by omega)
         have HR15 := Lib.hid (r15 27 rfl)
         have L15 : Hid (Lies W0 f.l12 u15 w15) := Lib.hid (h15)
         clear r15 h15 ho hb
         have A15 := Lib.hid (A0.out.on L15.out.2)
         have O15 := Lib.hid (O0.out.on L15.out.2)
         obtain ⟨c0, c1, c2, c3, c4, c5, c6, c7, c8, c9, c10⟩ := A15.out.all
         refine Lib.hid ?_
         go_wp2_with (at_builtin; refine Lib.wpList_append_run _ rfl (.tmp 91) (.tmp 94) _ _ rfl _ _ rfl rfl _ _ HR15.out ?_)
         go_ret
         rw [HBy.out]
         have hB := B0.out
         rw [← HPP.out] at hB
         exact ⟨_, rfl, ownsRow_base L15.out.1 hB.size, hB.trans (L15.out.2.mono hB.size)⟩
end Go.Proofs.YtdopheoedpldiaaGreatDoor
