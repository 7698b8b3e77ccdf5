/-
  What fnc.Put lays behind a slice of the caller's own. Conditions: the function can be read; words of 64 bits; the library's table is laid; lengths within the reach.
-/
import Derived.Lib.AppendStr
import Derived.Test.YtifkoihhlhadhaaGreatDoorInPL
import Derived.Test.YtifkoihhlhadhaaGreatDoorFnCan
import Derived.Test.YtifkoihhlhadhaaGreatDoorSiRu
import Derived.Test.YtifkoihhlhadhaaGreatDoorTrP
import Derived.Test.YtifkoihhlhadhaaGreatDoorMpF
namespace Go.Proofs.YtifkoihhlhadhaaGreatDoor
open Go.RowKit

set_option maxRecDepth 100000 in
theorem fnmarks_any (v : FnV) (f : Fn.F) (w0 w : World) (B : Nat) (h : FnOk w0 B v f) : Calls Tryz.prog 33 #[.agg v.cells] w fun e w' => e = .returned (.int .u8 (f.mark : Int)) ∧ Below w.heap.size w w' := by
  have hb0 := (Below.refl w.heap.size w).alloc (Nat.le_refl _) (.cells v.cells 28)
  have A1 := Lib.hid (FnAt.new w v)
  have HBa := Lib.hid (fun (W : World) => fnbare_ok h W)
  have HM : Hid (f.mark = (if v.inner then 1 else 0) + (if f.bare then 0 else 2)) := Lib.hid (by unfold Fn.F.mark; rw [h.inner])
  have HB := Lib.hid hb0
  have c0 := A1.out.c0; have c1 := A1.out.c1; have c2 := A1.out.c2; have c3 := A1.out.c3; have c4 := A1.out.c4; have c5 := A1.out.c5; have c6 := A1.out.c6; have c7 := A1.out.c7; have c8 := A1.out.c8; have c9 := A1.out.c9; have c10 := A1.out.c10
  clear hb0 h
  generalize f.mark = mk at *
  generalize f.bare = b at *
  obtain ⟨nm, inn, ⟨oa, on, oc⟩, ⟨pa, pn, pc⟩, ⟨ra, rn, rc⟩, ⟨la, ln, lc⟩, ⟨ca, cn, cc⟩, ⟨ia, i_n, ic⟩, ⟨na, nn, nc⟩, ⟨ta, tn, tc⟩, ⟨va, vn, vc⟩⟩ := v
  rcases Bool.eq_false_or_eq_true inn with h1 | h1 <;> rcases Bool.eq_false_or_eq_true b with h2 | h2
  · subst h1 h2
    have HE : Hid (mk = 1) := Lib.hid HM.out
    go_enter Tryz.func33, Tryz.ntmps33
    go_wp2_with (go_at_call 9; go_must (refine (HBa.out _).mono ?_; rintro _ w1 ⟨rfl, hb⟩; have HB1 := Lib.hid hb; clear hb))
    go_ret
    exact ⟨by rw [HE.out]; rfl, below_self HB.out HB1.out⟩
  · subst h1 h2
    have HE : Hid (mk = 3) := Lib.hid HM.out
    go_enter Tryz.func33, Tryz.ntmps33
    go_wp2_with (go_at_call 9; go_must (refine (HBa.out _).mono ?_; rintro _ w1 ⟨rfl, hb⟩; have HB1 := Lib.hid hb; clear hb))
    go_ret
    exact ⟨by rw [HE.out]; rfl, below_self HB.out HB1.out⟩
  · subst h1 h2
    have HE : Hid (mk = 0) := Lib.hid HM.out
    go_enter Tryz.func33, Tryz.ntmps33
    go_wp2_with (go_at_call 9; go_must (refine (HBa.out _).mono ?_; rintro _ w1 ⟨rfl, hb⟩; have HB1 := Lib.hid hb; clear hb))
    go_ret
    exact ⟨by rw [HE.out]; rfl, below_self HB.out HB1.out⟩
  · subst h1 h2
    have HE : Hid (mk = 2) := Lib.hid HM.out
    go_enter Tryz.func33, Tryz.ntmps33
    go_wp2_with (go_at_call 9; go_must (refine (HBa.out _).mono ?_; rintro _ w1 ⟨rfl, hb⟩; have HB1 := Lib.hid hb; clear hb))
    go_ret
    exact ⟨by rw [HE.out]; rfl, below_self HB.out HB1.out⟩

set_option maxRecDepth 100000 in
/-- More bytes, behind what was laid. -/
theorem Lies.grow {w0 W W' : World} {l m : List Nat} {u v : Value} (h : Lies w0 l u W) (ho : W'.ownsRow w0.heap.size 5 1 v (l.length + m.length) (bs l ++ bs m)) (hg : W.grownBy W' u.ownBlock) : Lies w0 (l ++ m) v W' := by
  refine ⟨?_, h.2.grown hg h.2.size (fun k hk => (h.1.lt k hk).1)⟩
  rw [List.length_append, bs_append]
  exact ho
theorem Lies.on {w0 W W' : World} {l : List Nat} {u : Value} (h : Lies w0 l u W) (hb : Below W.heap.size W W') : Lies w0 l u W' := ⟨ownsRow_below h.1 hb, h.2.trans (hb.mono h.2.size)⟩
theorem str_cells (s : ByteArray) : Lib.strCells s = bs (nats s) := by
  unfold Lib.strCells bs nats
  rw [List.map_map]
  rfl
set_option maxRecDepth 100000 in
/-- append of a text. -/
theorem Lies.text {w0 W : World} {l : List Nat} {u : Value} (h : Lies w0 l u W) (s : ByteArray) (hl : l.length + s.size ≤ 140737488355328) :
    ∃ v W', (∀ ty, ty = 33 → (Builtin.append_ #[33, 9] ty #[u, .string s]).run Tryz.prog W = .ok v W') ∧ Lies w0 (l ++ nats s) v W' := by
  obtain ⟨i0, hi, hz0, hz1, hz2⟩ := info_parts info_u8
  obtain ⟨v, W', hr, ho, hg, _⟩ := Lib.run_append_own_string (P := Tryz.prog) W w0.heap.size 33 9 33 5 i0 Tryz.underlying33 Tryz.underlying9 hi hz0 hz1 hz2 u l.length (bs l) h.1 s (by unfold maxLen; omega) hl h.2.size
  refine ⟨v, W', fun ty hty => by rw [hty]; exact hr, h.grow ?_ hg⟩
  rw [nats_length, ← str_cells]
  exact ho
set_option maxRecDepth 100000 in
theorem bytes_new1 (w : World) (x : Nat) (h : x < 256) : BytesAt (w.alloc (.cells #[.int .u8 (x : Int)] 5)) (w.alloc (.cells #[.int .u8 (x : Int)] 5)).heap.size (some ⟨w.heap.size, 0, none⟩) 1 [x] := by
  refine ⟨rfl, fun c hc => by obtain rfl := List.mem_singleton.1 hc; exact h, fun _ => ⟨w.heap.size, 0, rfl, by simp, fun i hi => ?_⟩⟩
  obtain rfl : i = 0 := by omega
  exact cell_of_row _ _ 0 _ _ _ (heap_alloc_new w _)
set_option maxRecDepth 100000 in
/-- append of a byte. -/
theorem Lies.byte {w0 W : World} {l : List Nat} {u : Value} (h : Lies w0 l u W) (x : Nat) (hx : x < 256) (hl : l.length + 1 ≤ 140737488355328) :
    ∃ v W', (∀ ty, ty = 33 → (Builtin.append_ #[33, 33] ty #[u, .slice (some ⟨W.heap.size, 0, none⟩) 1 1]).run Tryz.prog (W.alloc (.cells #[.int .u8 (x : Int)] 5)) = .ok v W') ∧ Lies w0 (l ++ [x]) v W' := by
  have h1 : Lies w0 l u (W.alloc (.cells #[.int .u8 (x : Int)] 5)) := h.on ((Below.refl _ _).alloc (Nat.le_refl _) _)
  obtain ⟨v, W', hr, ho, hg⟩ := append_bytes (c := 1) h1.1 (bytes_new1 W x hx) (fun e => by cases e) h1.2.size hl
  exact ⟨v, W', hr, h1.grow ho hg⟩

set_option maxRecDepth 100000 in
set_option maxHeartbeats 16000000 in
theorem fnput_own (base : Nat) (b : Value) (m : Nat) (xs : List Value) (v : FnV) (f : Fn.F) (w : World) (h : FnOk w w.heap.size v f) (hl : v.Len) (hw : f.Wf) (hT : Tab w) (hg : 0 < w.heap.size) (hown : w.ownsRow base 5 1 b m xs) (hbase : base ≤ w.heap.size) (hm : m + 1000000 ≤ 140737488355328) :
    Calls Tryz.prog 11 #[b, .agg v.cells] w (OwnPost base w b (m + f.bytes.length) (xs ++ bs f.bytes)) := by
  have hb0 := (Below.refl w.heap.size w).alloc (Nat.le_refl _) (.cells v.cells 28)
  have A1 := Lib.hid (FnAt.new w v)
  have O1 := Lib.hid (h.on hb0)
  have B1 := Lib.hid hb0
  have HCan := fncan_any v f _ (h.on hb0) hl hw (tab_below hT hb0 hg) (Nat.lt_of_lt_of_le hg hb0.size)
  have HOw := Lib.hid hown
  have c0 := A1.out.c0; have c1 := A1.out.c1; have c2 := A1.out.c2; have c3 := A1.out.c3; have c4 := A1.out.c4; have c5 := A1.out.c5; have c6 := A1.out.c6; have c7 := A1.out.c7; have c8 := A1.out.c8; have c9 := A1.out.c9; have c10 := A1.out.c10
  clear hb0 hT hg hown
  by_cases hc : f.can = 0
  rotate_left
  · have HE : Hid (f.bytes = []) := Lib.hid (by unfold Fn.F.bytes; rw [if_neg hc])
    have hd : ((f.can : Int) != 0) = true := bne_iff_ne.2 (by omega)
    clear h hl hw O1
    obtain ⟨nm, inn, ⟨oa, on, oc⟩, ⟨pa, pn, pc⟩, ⟨ra, rn, rc⟩, ⟨la, ln, lc⟩, ⟨ca, cn, cc⟩, ⟨ia, i_n, ic⟩, ⟨na, nn, nc⟩, ⟨ta, tn, tc⟩, ⟨va, vn, vc⟩⟩ := v
    go_enter Tryz.func11, Tryz.ntmps11
    go_wp2_with (go_at_call 7; go_must (refine HCan.mono ?_; rintro _ w2 ⟨rfl, hb2⟩; have B2 := Lib.hid (B1.out.trans (hb2.mono B1.out.size)); clear hb2))
    go_ret
    rw [HE.out]
    refine ⟨b, rfl, ?_⟩
    have := own_later HOw.out B2.out
    simpa [bs] using this
  rw [hc] at HCan
  have HP := Lib.hid (Fn.parts_len hc hw)
  have HN : Hid (v.outer.n ≤ 4 ∧ v.params.n ≤ 8 ∧ v.results.n ≤ 4 ∧ v.locals.n ≤ 256) := Lib.hid (by
    have := Fn.can_len hc
    rw [h.n_outer, h.n_params, h.n_results, h.n_locals] at this
    exact ⟨this.2.1, this.2.2.1, this.2.2.2.1, this.2.2.2.2.1⟩)
  have hcn : v.code.n ≤ 2000 := by rw [← h.n_code]; exact (Fn.can_len hc).2.2.2.2.2.2.2.1
  have hns : v.name.size ≤ 12 := by rw [h.name]; exact (Fn.can_len hc).1
  have HB4 : Hid (f.l4.length ≤ 100000 ∧ f.l5.length ≤ 100000 ∧ f.l6.length ≤ 100000 ∧ f.l7.length ≤ 100000 ∧ f.l8.length ≤ 100000 ∧ f.l9.length ≤ 100000 ∧ f.l3.length ≤ 100000) := Lib.hid (by
    have h9 := Fn.l9_len hc hw
    unfold Fn.F.l9 at h9 ⊢
    unfold Fn.F.l8 at h9 ⊢
    unfold Fn.F.l7 at h9 ⊢
    unfold Fn.F.l6 at h9 ⊢
    unfold Fn.F.l5 at h9 ⊢
    unfold Fn.F.l4 at h9 ⊢
    simp only [List.length_append] at h9 ⊢
    omega)
  have HTb := Lib.hid (fun hb => Fn.tables_len hc hb hw)
  have HLd := Lib.hid (Fn.laid_len hc hw)
  have HBy : Hid (f.bytes = f.laid) := Lib.hid (by unfold Fn.F.bytes; rw [if_pos hc])
  have HWf := Lib.hid hw
  have HMk := Lib.hid (fun (W : World) => fnmarks_any v f _ W _ h)
  have HBa := Lib.hid (fun (W : World) => fnbare_ok h W)
  have HLi : Hid (f.lines.length ≤ 2000) := Lib.hid (by have := Fn.can_len hc; omega)
  have HTl : Hid (f.bare = false → f.nodes.length ≤ 120 ∧ f.at_.length ≤ 2000 ∧ f.live.length ≤ 2000) := Lib.hid (fun hb => by have h1 := Fn.can_len hc; have h2 := h1.2.2.2.2.2.2.2.2.2 hb; omega)
  have hni : v.name = f.name ∧ v.inner = f.inner := ⟨h.name, h.inner⟩
  have HNI := Lib.hid hni
  clear h hl hw hni
  obtain ⟨nm, inn, ⟨oa, on, oc⟩, ⟨pa, pn, pc⟩, ⟨ra, rn, rc⟩, ⟨la, ln, lc⟩, ⟨ca, cn, cc⟩, ⟨ia, i_n, ic⟩, ⟨na, nn, nc⟩, ⟨ta, tn, tc⟩, ⟨va, vn, vc⟩⟩ := v
  simp only at hcn hns HN HNI
  go_enter Tryz.func11, Tryz.ntmps11
  go_wp2_with (go_at_call 7; go_must (refine HCan.mono ?_; rintro _ W0 ⟨rfl, hb2⟩; refine Hid.out ?_))
  have A0 := Lib.hid (A1.out.on hb2)
  have O0 := Lib.hid (O1.out.on hb2)
  have B0 := Lib.hid (B1.out.trans (hb2.mono B1.out.size))
  clear c0 c1 c2 c3 c4 c5 c6 c7 c8 c9 c10
  have c0 := A0.out.c0; have c1 := A0.out.c1; have c2 := A0.out.c2; have c3 := A0.out.c3; have c4 := A0.out.c4; have c5 := A0.out.c5; have c6 := A0.out.c6; have c7 := A0.out.c7; have c8 := A0.out.c8; have c9 := A0.out.c9; have c10 := A0.out.c10
  clear hb2 A1 O1 B1 HCan
  have L0 := Lib.hid (Lies.nil W0)
  refine Lib.hid ?_
  go_wp2_with (go_at_call 32; go_must (refine (put_own W0.heap.size _ _ _ nm.size _ (by omega) L0.out.1 L0.out.2.size (by simp)).mono ?_; rintro _ w1 ⟨u1, rfl, hinv⟩; refine Hid.out ?_))
  have L1 := Lib.hid (L0.out.put hinv)
  clear hinv
  clear c0 c1 c2 c3 c4 c5 c6 c7 c8 c9 c10
  have A1 := Lib.hid (A0.out.on L1.out.2)
  have O1 := Lib.hid (O0.out.on L1.out.2)
  have c0 := A1.out.c0
  have c1 := A1.out.c1
  have c2 := A1.out.c2
  have c3 := A1.out.c3
  have c4 := A1.out.c4
  have c5 := A1.out.c5
  have c6 := A1.out.c6
  have c7 := A1.out.c7
  have c8 := A1.out.c8
  have c9 := A1.out.c9
  have c10 := A1.out.c10
  have h1l : (Uv.put nm.size).length ≤ 10 := Uv.put_len_10 (by omega)
  obtain ⟨u2, w2, r2, h2⟩ := L1.out.text nm (by simp; omega)
  have HR2 := Lib.hid (r2 33 rfl)
  have L2 := Lib.hid h2
  clear r2 h2
  have HMw := Lib.hid (HMk.out w2)
  have A2 := Lib.hid (A0.out.on L2.out.2)
  have O2 := Lib.hid (O0.out.on L2.out.2)
  have c0 := A2.out.c0
  have c1 := A2.out.c1
  have c2 := A2.out.c2
  have c3 := A2.out.c3
  have c4 := A2.out.c4
  have c5 := A2.out.c5
  have c6 := A2.out.c6
  have c7 := A2.out.c7
  have c8 := A2.out.c8
  have c9 := A2.out.c9
  have c10 := A2.out.c10
  refine Lib.hid ?_
  go_wp2_with (first
    | (at_builtin; refine Lib.wpList_append_run _ rfl (.tmp 17) (.tmp 19) _ _ rfl _ _ rfl rfl _ _ HR2.out ?_)
    | (go_at_call 33; go_must (refine HMw.out.mono ?_; rintro _ w2b ⟨rfl, hb⟩; refine Hid.out ?_)))
  have L2b := Lib.hid (L2.out.on hb)
  clear hb
  obtain ⟨u3, w3, r3, h3⟩ := L2b.out.byte f.mark (by have := Fn.mark_lt f; omega) (by simp [nats_length]; omega)
  have HR3 := Lib.hid (r3 33 rfl)
  have L3 : Hid (Lies W0 f.l2 u3 w3) := Lib.hid (by unfold Fn.F.l2; rw [← HNI.out.1]; exact h3)
  clear r3 h3
  have HLen3 : Hid ((f.l2).length ≤ 200000) := Lib.hid (by have := HP.out.1; omega)
  clear c0 c1 c2 c3 c4 c5 c6 c7 c8 c9 c10
  have A3 := Lib.hid (A0.out.on L3.out.2)
  have O3 := Lib.hid (O0.out.on L3.out.2)
  have c0 := A3.out.c0
  have c1 := A3.out.c1
  have c2 := A3.out.c2
  have c3 := A3.out.c3
  have c4 := A3.out.c4
  have c5 := A3.out.c5
  have c6 := A3.out.c6
  have c7 := A3.out.c7
  have c8 := A3.out.c8
  have c9 := A3.out.c9
  have c10 := A3.out.c10
  cases inn with
  | true =>
    have H3 : Hid (f.l3 = f.l2 ++ Si.bytes f.outer) := Lib.hid (by unfold Fn.F.l3; rw [← HNI.out.2]; rfl)
    refine Lib.hid ?_
    go_wp2_with (first
      | (at_builtin; refine Lib.wpList_append_run _ rfl (.tmp 21) (.tmp 24) _ _ rfl _ _ rfl rfl _ _ HR3.out ?_)
      | (go_at_call 34; go_must (refine (siput_own W0.heap.size _ _ _ oa on oc f.outer _ O3.out.outer.1 (by have := HN.out; omega) L3.out.1 L3.out.2.size (by have := HLen3.out; have := HN.out; omega)).mono ?_; rintro _ w33 ⟨u33, rfl, hinv⟩; refine Hid.out ?_)))
    have L33 := Lib.hid (L3.out.put hinv)
    clear hinv
    clear c0 c1 c2 c3 c4 c5 c6 c7 c8 c9 c10
    have A33 := Lib.hid (A0.out.on L33.out.2)
    have O33 := Lib.hid (O0.out.on L33.out.2)
    have c0 := A33.out.c0
    have c1 := A33.out.c1
    have c2 := A33.out.c2
    have c3 := A33.out.c3
    have c4 := A33.out.c4
    have c5 := A33.out.c5
    have c6 := A33.out.c6
    have c7 := A33.out.c7
    have c8 := A33.out.c8
    have c9 := A33.out.c9
    have c10 := A33.out.c10
    have L33' : Hid (Lies W0 f.l3 u33 w33) := Lib.hid (by rw [H3.out]; exact L33.out)
    clear L33
    have L33 := L33'
    clear L33'
    have HLen33 : Hid ((f.l3).length ≤ 200000) := Lib.hid (by have := HB4.out; omega)
    refine Lib.hid ?_
    go_wp2_with (go_at_call 34; go_must (refine (siput_own W0.heap.size _ _ _ pa pn pc f.params _ O33.out.params.1 (by have := HN.out; omega) L33.out.1 L33.out.2.size (by have := HLen33.out; have := HN.out; omega)).mono ?_; rintro _ w4 ⟨u4, rfl, hinv⟩; refine Hid.out ?_))
    have L4 := Lib.hid (L33.out.put hinv)
    clear hinv
    clear c0 c1 c2 c3 c4 c5 c6 c7 c8 c9 c10
    have A4 := Lib.hid (A0.out.on L4.out.2)
    have O4 := Lib.hid (O0.out.on L4.out.2)
    have c0 := A4.out.c0
    have c1 := A4.out.c1
    have c2 := A4.out.c2
    have c3 := A4.out.c3
    have c4 := A4.out.c4
    have c5 := A4.out.c5
    have c6 := A4.out.c6
    have c7 := A4.out.c7
    have c8 := A4.out.c8
    have c9 := A4.out.c9
    have c10 := A4.out.c10
    have L4' : Hid (Lies W0 f.l4 u4 w4) := Lib.hid (L4.out)
    clear L4
    have L4 := L4'
    clear L4'
    have HLen4 : Hid ((f.l4).length ≤ 200000) := Lib.hid (by have := HB4.out; omega)
    refine Lib.hid ?_
    go_wp2_with (go_at_call 34; go_must (refine (siput_own W0.heap.size _ _ _ ra rn rc f.results _ O4.out.results.1 (by have := HN.out; omega) L4.out.1 L4.out.2.size (by have := HLen4.out; have := HN.out; omega)).mono ?_; rintro _ w5 ⟨u5, rfl, hinv⟩; refine Hid.out ?_))
    have L5 := Lib.hid (L4.out.put hinv)
    clear hinv
    clear c0 c1 c2 c3 c4 c5 c6 c7 c8 c9 c10
    have A5 := Lib.hid (A0.out.on L5.out.2)
    have O5 := Lib.hid (O0.out.on L5.out.2)
    have c0 := A5.out.c0
    have c1 := A5.out.c1
    have c2 := A5.out.c2
    have c3 := A5.out.c3
    have c4 := A5.out.c4
    have c5 := A5.out.c5
    have c6 := A5.out.c6
    have c7 := A5.out.c7
    have c8 := A5.out.c8
    have c9 := A5.out.c9
    have c10 := A5.out.c10
    have L5' : Hid (Lies W0 f.l5 u5 w5) := Lib.hid (L5.out)
    clear L5
    have L5 := L5'
    clear L5'
    have HLen5 : Hid ((f.l5).length ≤ 200000) := Lib.hid (by have := HB4.out; omega)
    refine Lib.hid ?_
    go_wp2_with (go_at_call 34; go_must (refine (siput_own W0.heap.size _ _ _ la ln lc f.locals _ O5.out.locals.1 (by have := HN.out; omega) L5.out.1 L5.out.2.size (by have := HLen5.out; have := HN.out; omega)).mono ?_; rintro _ w6 ⟨u6, rfl, hinv⟩; refine Hid.out ?_))
    have L6 := Lib.hid (L5.out.put hinv)
    clear hinv
    clear c0 c1 c2 c3 c4 c5 c6 c7 c8 c9 c10
    have A6 := Lib.hid (A0.out.on L6.out.2)
    have O6 := Lib.hid (O0.out.on L6.out.2)
    have c0 := A6.out.c0
    have c1 := A6.out.c1
    have c2 := A6.out.c2
    have c3 := A6.out.c3
    have c4 := A6.out.c4
    have c5 := A6.out.c5
    have c6 := A6.out.c6
    have c7 := A6.out.c7
    have c8 := A6.out.c8
    have c9 := A6.out.c9
    have c10 := A6.out.c10
    have L6' : Hid (Lies W0 f.l6 u6 w6) := Lib.hid (L6.out)
    clear L6
    have L6 := L6'
    clear L6'
    have HLen6 : Hid ((f.l6).length ≤ 200000) := Lib.hid (by have := HB4.out; omega)
    refine Lib.hid ?_
    go_wp2_with (go_at_call 32; go_must (refine (put_own W0.heap.size _ _ _ cn _ (by have := hcn; omega) L6.out.1 L6.out.2.size (by have := HLen6.out; omega)).mono ?_; rintro _ w7 ⟨u7, rfl, hinv⟩; refine Hid.out ?_))
    have L7 := Lib.hid (L6.out.put hinv)
    clear hinv
    clear c0 c1 c2 c3 c4 c5 c6 c7 c8 c9 c10
    have A7 := Lib.hid (A0.out.on L7.out.2)
    have O7 := Lib.hid (O0.out.on L7.out.2)
    have c0 := A7.out.c0
    have c1 := A7.out.c1
    have c2 := A7.out.c2
    have c3 := A7.out.c3
    have c4 := A7.out.c4
    have c5 := A7.out.c5
    have c6 := A7.out.c6
    have c7 := A7.out.c7
    have c8 := A7.out.c8
    have c9 := A7.out.c9
    have c10 := A7.out.c10
    have hcl : f.code.length = cn := O7.out.n_code
    have HCl := Lib.hid hcl
    have L7' : Hid (Lies W0 f.l7 u7 w7) := Lib.hid (by have := L7.out; rw [← hcl] at this; exact this)
    clear L7
    have L7 := L7'
    clear L7'
    clear hcl
    refine Lib.hid ?_
    go_wp2
    go_loopw [5, 7, 53] (fun u _ i wr => ∃ k : Nat, k ≤ cn ∧ i = .int .i64 (k : Int) ∧ Lies W0 (f.l7 ++ Fn.codes (f.code.take k)) u wr) (fun _ _ i _ => cn - (intOf i).toNat)
    case atStart => exact ⟨0, Nat.zero_le _, rfl, by simpa [Fn.codes] using L7.out⟩
    case round =>
      obtain ⟨k, hk, rfl, hL⟩ := hrel
      have HL := Lib.hid hL
      have A8 := Lib.hid (A0.out.on hL.2)
      have O8 := Lib.hid (O0.out.on hL.2)
      clear hL
      have c0 := A8.out.c0
      have c1 := A8.out.c1
      have c2 := A8.out.c2
      have c3 := A8.out.c3
      have c4 := A8.out.c4
      have c5 := A8.out.c5
      have c6 := A8.out.c6
      have c7 := A8.out.c7
      have c8 := A8.out.c8
      have c9 := A8.out.c9
      have c10 := A8.out.c10
      by_cases hlt : k < cn
      · obtain ⟨bk, off, x, ec, _, hx, hkl, q0, q1⟩ := pairs_cell O8.out.code.1 hlt
        simp only at ec
        subst ec
        have hki : (k : Int) < (cn : Int) := by omega
        have HS := Lib.hid (Fn.codes_succ hkl)
        have hx64 := HWf.out.code x (by rw [← hx]; simp [List.getD, hkl])
        have hkc : (Fn.codes (f.code.take k)).length ≤ 11 * k := by
          have := Fn.codes_len (l := f.code.take k) (fun p hp => HWf.out.code p (List.mem_of_mem_take hp))
          rw [List.length_take] at this
          omega
        rw [hx] at HS
        have L9 := Lib.hid (HL.out.on ((Below.refl _ _).alloc (Nat.le_refl _) (.cells #[.int .i64 x.1, .int .i64 x.2] 46)))
        have HIn := Lib.hid (input_own W0.heap.size _ _ _ x.1 x.2 _ hx64.2.1 hx64.2.2 L9.out.1 L9.out.2.size (by rw [List.length_append]; have := HB4.out; omega))
        clear hx hkl hx64 hkc
        generalize Fn.codes (f.code.take k) = cs at *
        go_wp2_with (go_at_call 35; go_must (refine HIn.out.mono ?_; rintro _ w10 ⟨u10, rfl, hinv⟩; have L10 := Lib.hid (L9.out.put hinv); clear hinv))
        go_roundw
        case rel => exact ⟨k + 1, hlt, by go_num, by rw [HS.out, ← List.append_assoc]; exact L10.out⟩
        case measure => simp [intOf]; omega
      · obtain rfl : k = cn := by omega
        have hki : decide ((k : Int) < (k : Int)) = false := decide_eq_false (by omega)
        have hL8 : Lies W0 f.l8 u5 wr := by
          have := HL.out
          rw [List.take_of_length_le (by have := HCl.out; omega)] at this
          exact this
        have L8 := Lib.hid hL8
        clear hL8 HL
        have hz9 := HWf.out.lines
        have hzl := HP.out.2.2.2.2.2.2.2
        have hl8 := HB4.out.2.2.2.2.1
        have hl9 := HB4.out.2.2.2.2.2.1
        have hil : i_n ≤ 1000000 := by have := O8.out.n_lines; simp only at this; have := HLi.out; omega
        have HBw := Lib.hid (fun (W : World) => HBa.out W)
        have HLp := Lib.hid (liput_own W0.heap.size _ _ _ _ i_n ic f.lines _ L8.out.1 L8.out.2.size O8.out.lines.1 hil hz9 (by omega))
        clear hz9 hzl
        go_wp2_with (go_at_call 36; go_must (refine HLp.out.mono ?_; rintro _ w9 ⟨u9, rfl, hinv⟩; refine Hid.out ?_))
        have L9 := Lib.hid (L8.out.put hinv)
        clear hinv c0 c1 c2 c3 c4 c5 c6 c7 c8 c9 c10
        have L9' : Hid (Lies W0 f.l9 u9 w9) := Lib.hid (L9.out)
        clear L9
        have L9 := L9'
        clear L9'
        have A9 := Lib.hid (A0.out.on L9.out.2)
        have O9 := Lib.hid (O0.out.on L9.out.2)
        have c0 := A9.out.c0
        have c1 := A9.out.c1
        have c2 := A9.out.c2
        have c3 := A9.out.c3
        have c4 := A9.out.c4
        have c5 := A9.out.c5
        have c6 := A9.out.c6
        have c7 := A9.out.c7
        have c8 := A9.out.c8
        have c9 := A9.out.c9
        have c10 := A9.out.c10
        refine Lib.hid ?_
        obtain ⟨bb, hbb⟩ : ∃ bb, f.bare = bb := ⟨_, rfl⟩
        rw [hbb] at HBw
        have HBB := Lib.hid hbb
        clear hbb
        go_wp2_with (go_at_call 9; go_must (refine (HBw.out w9).mono ?_; rintro _ w11 ⟨rfl, hb11⟩; refine Hid.out ?_))
        have L11 : Hid (Lies W0 f.l9 u9 w11) := Lib.hid (L9.out.on hb11)
        clear hb11 c0 c1 c2 c3 c4 c5 c6 c7 c8 c9 c10
        have A11 := Lib.hid (A0.out.on L11.out.2)
        have O11 := Lib.hid (O0.out.on L11.out.2)
        have c0 := A11.out.c0
        have c1 := A11.out.c1
        have c2 := A11.out.c2
        have c3 := A11.out.c3
        have c4 := A11.out.c4
        have c5 := A11.out.c5
        have c6 := A11.out.c6
        have c7 := A11.out.c7
        have c8 := A11.out.c8
        have c9 := A11.out.c9
        have c10 := A11.out.c10
        cases bb with
        | true =>
          have HLa : Hid (f.laid = f.l9) := Lib.hid (by unfold Fn.F.laid; rw [HBB.out, if_pos rfl])
          have HLen11 : Hid (f.l9.length ≤ 200000) := Lib.hid (by omega)
          obtain ⟨A9, c9', hu9, hG9, hn9⟩ := own_bytes L11.out.1 Fn.l9_byte
          subst hu9
          have hb9 : Below w.heap.size w w11 := B0.out.trans (L11.out.2.mono B0.out.size)
          obtain ⟨v10, w10, r10, h10⟩ := append_bytes_at (c := c9') (own_later HOw.out hb9).1 hG9 hn9 (Nat.le_trans hbase hb9.size) (by have := HLen11.out; omega)
          have HR10 := Lib.hid (r10 33 rfl)
          have HI10 := Lib.hid (own_then hb9 h10)
          clear r10 h10 hG9 hn9 hb9
          refine Lib.hid ?_
          go_wp2_with (at_builtin; refine Lib.wpList_append_run _ rfl (.tmp 80) (.tmp 81) _ _ rfl _ _ rfl rfl _ _ HR10.out ?_)
          go_ret
          rw [HBy.out, HLa.out]
          exact ⟨v10, rfl, HI10.out⟩
        | false =>
          have HLa : Hid (f.laid = f.l12) := Lib.hid (by unfold Fn.F.laid; rw [HBB.out, if_neg (by decide)])
          obtain ⟨t1, t2, t3⟩ := HTb.out HBB.out
          obtain ⟨m1, m2, m3⟩ := HTl.out HBB.out
          have hno := O11.out.n_nodes
          have hao := O11.out.n_at
          have hvo := O11.out.n_live
          simp only at hno hao hvo
          have HTp := Lib.hid (trput_own W0.heap.size _ _ _ _ nn nc f.nodes _ O11.out.nodes.1 (by omega) HWf.out.nodes L11.out.1 L11.out.2.size (by omega))
          refine Lib.hid ?_
          go_wp2_with (go_at_call 37; go_must (refine HTp.out.mono ?_; rintro _ w12 ⟨u12, rfl, hinv⟩; refine Hid.out ?_))
          have L12 : Hid (Lies W0 f.l10 u12 w12) := Lib.hid (L11.out.put hinv)
          clear hinv c0 c1 c2 c3 c4 c5 c6 c7 c8 c9 c10
          have A12 := Lib.hid (A0.out.on L12.out.2)
          have O12 := Lib.hid (O0.out.on L12.out.2)
          have c0 := A12.out.c0
          have c1 := A12.out.c1
          have c2 := A12.out.c2
          have c3 := A12.out.c3
          have c4 := A12.out.c4
          have c5 := A12.out.c5
          have c6 := A12.out.c6
          have c7 := A12.out.c7
          have c8 := A12.out.c8
          have c9 := A12.out.c9
          have c10 := A12.out.c10
          have hl10 : f.l10.length ≤ 200000 := by unfold Fn.F.l10; rw [List.length_append]; omega
          have HRp := Lib.hid (runsPut_own W0.heap.size _ _ _ _ tn tc f.at_ _ L12.out.1 L12.out.2.size O12.out.at_.1 (by omega) HWf.out.at_ (by omega))
          refine Lib.hid ?_
          go_wp2_with (go_at_call 38; go_must (refine HRp.out.mono ?_; rintro _ w13 ⟨u13, rfl, hinv⟩; refine Hid.out ?_))
          have L13 : Hid (Lies W0 f.l11 u13 w13) := Lib.hid (L12.out.put hinv)
          clear hinv c0 c1 c2 c3 c4 c5 c6 c7 c8 c9 c10
          have A13 := Lib.hid (A0.out.on L13.out.2)
          have O13 := Lib.hid (O0.out.on L13.out.2)
          have c0 := A13.out.c0
          have c1 := A13.out.c1
          have c2 := A13.out.c2
          have c3 := A13.out.c3
          have c4 := A13.out.c4
          have c5 := A13.out.c5
          have c6 := A13.out.c6
          have c7 := A13.out.c7
          have c8 := A13.out.c8
          have c9 := A13.out.c9
          have c10 := A13.out.c10
          have hl11 : f.l11.length ≤ 250000 := by unfold Fn.F.l11; rw [List.length_append]; omega
          have HMp := Lib.hid (mpput_own W0.heap.size _ _ _ _ vn vc f.live _ O13.out.live.1 (by omega) HWf.out.live L13.out.1 L13.out.2.size (by omega))
          refine Lib.hid ?_
          go_wp2_with (go_at_call 39; go_must (refine HMp.out.mono ?_; rintro _ w14 ⟨u14, rfl, hinv⟩; refine Hid.out ?_))
          have L14 : Hid (Lies W0 f.l12 u14 w14) := Lib.hid (L13.out.put hinv)
          clear hinv
          have HLen14 : Hid (f.l12.length ≤ 400000) := Lib.hid (by unfold Fn.F.l12; rw [List.length_append]; omega)
          obtain ⟨A9, c9', hu9, hG9, hn9⟩ := own_bytes L14.out.1 (by have h := Fn.laid_byte (f := f); rw [HLa.out] at h; exact h)
          subst hu9
          have hb9 : Below w.heap.size w w14 := B0.out.trans (L14.out.2.mono B0.out.size)
          obtain ⟨v10, w10, r10, h10⟩ := append_bytes_at (c := c9') (own_later HOw.out hb9).1 hG9 hn9 (Nat.le_trans hbase hb9.size) (by have := HLen14.out; omega)
          have HR10 := Lib.hid (r10 33 rfl)
          have HI10 := Lib.hid (own_then hb9 h10)
          clear r10 h10 hG9 hn9 hb9
          refine Lib.hid ?_
          go_wp2_with (at_builtin; refine Lib.wpList_append_run _ rfl (.tmp 80) (.tmp 81) _ _ rfl _ _ rfl rfl _ _ HR10.out ?_)
          go_ret
          rw [HBy.out, HLa.out]
          exact ⟨v10, rfl, HI10.out⟩
  | false =>
    have H3 : Hid (f.l3 = f.l2) := Lib.hid (by unfold Fn.F.l3; rw [← HNI.out.2]; simp)
    have L3b : Hid (Lies W0 f.l3 u3 w3) := Lib.hid (by rw [H3.out]; exact L3.out)
    clear L3
    have L3 := L3b
    clear L3b HLen3
    have HLen3 : Hid ((f.l3).length ≤ 200000) := Lib.hid (by have := HB4.out; omega)
    refine Lib.hid ?_
    go_wp2_with (first
      | (at_builtin; refine Lib.wpList_append_run _ rfl (.tmp 21) (.tmp 24) _ _ rfl _ _ rfl rfl _ _ HR3.out ?_)
      | (go_at_call 34; go_must (refine (siput_own W0.heap.size _ _ _ pa pn pc f.params _ O3.out.params.1 (by have := HN.out; omega) L3.out.1 L3.out.2.size (by have := HLen3.out; have := HN.out; omega)).mono ?_; rintro _ w4 ⟨u4, rfl, hinv⟩; refine Hid.out ?_)))
    have L4 := Lib.hid (L3.out.put hinv)
    clear hinv
    clear c0 c1 c2 c3 c4 c5 c6 c7 c8 c9 c10
    have A4 := Lib.hid (A0.out.on L4.out.2)
    have O4 := Lib.hid (O0.out.on L4.out.2)
    have c0 := A4.out.c0
    have c1 := A4.out.c1
    have c2 := A4.out.c2
    have c3 := A4.out.c3
    have c4 := A4.out.c4
    have c5 := A4.out.c5
    have c6 := A4.out.c6
    have c7 := A4.out.c7
    have c8 := A4.out.c8
    have c9 := A4.out.c9
    have c10 := A4.out.c10
    have L4' : Hid (Lies W0 f.l4 u4 w4) := Lib.hid (L4.out)
    clear L4
    have L4 := L4'
    clear L4'
    have HLen4 : Hid ((f.l4).length ≤ 200000) := Lib.hid (by have := HB4.out; omega)
    refine Lib.hid ?_
    go_wp2_with (go_at_call 34; go_must (refine (siput_own W0.heap.size _ _ _ ra rn rc f.results _ O4.out.results.1 (by have := HN.out; omega) L4.out.1 L4.out.2.size (by have := HLen4.out; have := HN.out; omega)).mono ?_; rintro _ w5 ⟨u5, rfl, hinv⟩; refine Hid.out ?_))
    have L5 := Lib.hid (L4.out.put hinv)
    clear hinv
    clear c0 c1 c2 c3 c4 c5 c6 c7 c8 c9 c10
    have A5 := Lib.hid (A0.out.on L5.out.2)
    have O5 := Lib.hid (O0.out.on L5.out.2)
    have c0 := A5.out.c0
    have c1 := A5.out.c1
    have c2 := A5.out.c2
    have c3 := A5.out.c3
    have c4 := A5.out.c4
    have c5 := A5.out.c5
    have c6 := A5.out.c6
    have c7 := A5.out.c7
    have c8 := A5.out.c8
    have c9 := A5.out.c9
    have c10 := A5.out.c10
    have L5' : Hid (Lies W0 f.l5 u5 w5) := Lib.hid (L5.out)
    clear L5
    have L5 := L5'
    clear L5'
    have HLen5 : Hid ((f.l5).length ≤ 200000) := Lib.hid (by have := HB4.out; omega)
    refine Lib.hid ?_
    go_wp2_with (go_at_call 34; go_must (refine (siput_own W0.heap.size _ _ _ la ln lc f.locals _ O5.out.locals.1 (by have := HN.out; omega) L5.out.1 L5.out.2.size (by have := HLen5.out; have := HN.out; omega)).mono ?_; rintro _ w6 ⟨u6, rfl, hinv⟩; refine Hid.out ?_))
    have L6 := Lib.hid (L5.out.put hinv)
    clear hinv
    clear c0 c1 c2 c3 c4 c5 c6 c7 c8 c9 c10
    have A6 := Lib.hid (A0.out.on L6.out.2)
    have O6 := Lib.hid (O0.out.on L6.out.2)
    have c0 := A6.out.c0
    have c1 := A6.out.c1
    have c2 := A6.out.c2
    have c3 := A6.out.c3
    have c4 := A6.out.c4
    have c5 := A6.out.c5
    have c6 := A6.out.c6
    have c7 := A6.out.c7
    have c8 := A6.out.c8
    have c9 := A6.out.c9
    have c10 := A6.out.c10
    have L6' : Hid (Lies W0 f.l6 u6 w6) := Lib.hid (L6.out)
    clear L6
    have L6 := L6'
    clear L6'
    have HLen6 : Hid ((f.l6).length ≤ 200000) := Lib.hid (by have := HB4.out; omega)
    refine Lib.hid ?_
    go_wp2_with (go_at_call 32; go_must (refine (put_own W0.heap.size _ _ _ cn _ (by have := hcn; omega) L6.out.1 L6.out.2.size (by have := HLen6.out; omega)).mono ?_; rintro _ w7 ⟨u7, rfl, hinv⟩; refine Hid.out ?_))
    have L7 := Lib.hid (L6.out.put hinv)
    clear hinv
    clear c0 c1 c2 c3 c4 c5 c6 c7 c8 c9 c10
    have A7 := Lib.hid (A0.out.on L7.out.2)
    have O7 := Lib.hid (O0.out.on L7.out.2)
    have c0 := A7.out.c0
    have c1 := A7.out.c1
    have c2 := A7.out.c2
    have c3 := A7.out.c3
    have c4 := A7.out.c4
    have c5 := A7.out.c5
    have c6 := A7.out.c6
    have c7 := A7.out.c7
    have c8 := A7.out.c8
    have c9 := A7.out.c9
    have c10 := A7.out.c10
    have hcl : f.code.length = cn := O7.out.n_code
    have HCl := Lib.hid hcl
    have L7' : Hid (Lies W0 f.l7 u7 w7) := Lib.hid (by have := L7.out; rw [← hcl] at this; exact this)
    clear L7
    have L7 := L7'
    clear L7'
    clear hcl
    refine Lib.hid ?_
    go_wp2
    go_loopw [5, 7, 53] (fun u _ i wr => ∃ k : Nat, k ≤ cn ∧ i = .int .i64 (k : Int) ∧ Lies W0 (f.l7 ++ Fn.codes (f.code.take k)) u wr) (fun _ _ i _ => cn - (intOf i).toNat)
    case atStart => exact ⟨0, Nat.zero_le _, rfl, by simpa [Fn.codes] using L7.out⟩
    case round =>
      obtain ⟨k, hk, rfl, hL⟩ := hrel
      have HL := Lib.hid hL
      have A8 := Lib.hid (A0.out.on hL.2)
      have O8 := Lib.hid (O0.out.on hL.2)
      clear hL
      have c0 := A8.out.c0
      have c1 := A8.out.c1
      have c2 := A8.out.c2
      have c3 := A8.out.c3
      have c4 := A8.out.c4
      have c5 := A8.out.c5
      have c6 := A8.out.c6
      have c7 := A8.out.c7
      have c8 := A8.out.c8
      have c9 := A8.out.c9
      have c10 := A8.out.c10
      by_cases hlt : k < cn
      · obtain ⟨bk, off, x, ec, _, hx, hkl, q0, q1⟩ := pairs_cell O8.out.code.1 hlt
        simp only at ec
        subst ec
        have hki : (k : Int) < (cn : Int) := by omega
        have HS := Lib.hid (Fn.codes_succ hkl)
        have hx64 := HWf.out.code x (by rw [← hx]; simp [List.getD, hkl])
        have hkc : (Fn.codes (f.code.take k)).length ≤ 11 * k := by
          have := Fn.codes_len (l := f.code.take k) (fun p hp => HWf.out.code p (List.mem_of_mem_take hp))
          rw [List.length_take] at this
          omega
        rw [hx] at HS
        have L9 := Lib.hid (HL.out.on ((Below.refl _ _).alloc (Nat.le_refl _) (.cells #[.int .i64 x.1, .int .i64 x.2] 46)))
        have HIn := Lib.hid (input_own W0.heap.size _ _ _ x.1 x.2 _ hx64.2.1 hx64.2.2 L9.out.1 L9.out.2.size (by rw [List.length_append]; have := HB4.out; omega))
        clear hx hkl hx64 hkc
        generalize Fn.codes (f.code.take k) = cs at *
        go_wp2_with (go_at_call 35; go_must (refine HIn.out.mono ?_; rintro _ w10 ⟨u10, rfl, hinv⟩; have L10 := Lib.hid (L9.out.put hinv); clear hinv))
        go_roundw
        case rel => exact ⟨k + 1, hlt, by go_num, by rw [HS.out, ← List.append_assoc]; exact L10.out⟩
        case measure => simp [intOf]; omega
      · obtain rfl : k = cn := by omega
        have hki : decide ((k : Int) < (k : Int)) = false := decide_eq_false (by omega)
        have hL8 : Lies W0 f.l8 u5 wr := by
          have := HL.out
          rw [List.take_of_length_le (by have := HCl.out; omega)] at this
          exact this
        have L8 := Lib.hid hL8
        clear hL8 HL
        have hz9 := HWf.out.lines
        have hzl := HP.out.2.2.2.2.2.2.2
        have hl8 := HB4.out.2.2.2.2.1
        have hl9 := HB4.out.2.2.2.2.2.1
        have hil : i_n ≤ 1000000 := by have := O8.out.n_lines; simp only at this; have := HLi.out; omega
        have HBw := Lib.hid (fun (W : World) => HBa.out W)
        have HLp := Lib.hid (liput_own W0.heap.size _ _ _ _ i_n ic f.lines _ L8.out.1 L8.out.2.size O8.out.lines.1 hil hz9 (by omega))
        clear hz9 hzl
        go_wp2_with (go_at_call 36; go_must (refine HLp.out.mono ?_; rintro _ w9 ⟨u9, rfl, hinv⟩; refine Hid.out ?_))
        have L9 := Lib.hid (L8.out.put hinv)
        clear hinv c0 c1 c2 c3 c4 c5 c6 c7 c8 c9 c10
        have L9' : Hid (Lies W0 f.l9 u9 w9) := Lib.hid (L9.out)
        clear L9
        have L9 := L9'
        clear L9'
        have A9 := Lib.hid (A0.out.on L9.out.2)
        have O9 := Lib.hid (O0.out.on L9.out.2)
        have c0 := A9.out.c0
        have c1 := A9.out.c1
        have c2 := A9.out.c2
        have c3 := A9.out.c3
        have c4 := A9.out.c4
        have c5 := A9.out.c5
        have c6 := A9.out.c6
        have c7 := A9.out.c7
        have c8 := A9.out.c8
        have c9 := A9.out.c9
        have c10 := A9.out.c10
        refine Lib.hid ?_
        obtain ⟨bb, hbb⟩ : ∃ bb, f.bare = bb := ⟨_, rfl⟩
        rw [hbb] at HBw
        have HBB := Lib.hid hbb
        clear hbb
        go_wp2_with (go_at_call 9; go_must (refine (HBw.out w9).mono ?_; rintro _ w11 ⟨rfl, hb11⟩; refine Hid.out ?_))
        have L11 : Hid (Lies W0 f.l9 u9 w11) := Lib.hid (L9.out.on hb11)
        clear hb11 c0 c1 c2 c3 c4 c5 c6 c7 c8 c9 c10
        have A11 := Lib.hid (A0.out.on L11.out.2)
        have O11 := Lib.hid (O0.out.on L11.out.2)
        have c0 := A11.out.c0
        have c1 := A11.out.c1
        have c2 := A11.out.c2
        have c3 := A11.out.c3
        have c4 := A11.out.c4
        have c5 := A11.out.c5
        have c6 := A11.out.c6
        have c7 := A11.out.c7
        have c8 := A11.out.c8
        have c9 := A11.out.c9
        have c10 := A11.out.c10
        cases bb with
        | true =>
          have HLa : Hid (f.laid = f.l9) := Lib.hid (by unfold Fn.F.laid; rw [HBB.out, if_pos rfl])
          have HLen11 : Hid (f.l9.length ≤ 200000) := Lib.hid (by omega)
          obtain ⟨A9, c9', hu9, hG9, hn9⟩ := own_bytes L11.out.1 Fn.l9_byte
          subst hu9
          have hb9 : Below w.heap.size w w11 := B0.out.trans (L11.out.2.mono B0.out.size)
          obtain ⟨v10, w10, r10, h10⟩ := append_bytes_at (c := c9') (own_later HOw.out hb9).1 hG9 hn9 (Nat.le_trans hbase hb9.size) (by have := HLen11.out; omega)
          have HR10 := Lib.hid (r10 33 rfl)
          have HI10 := Lib.hid (own_then hb9 h10)
          clear r10 h10 hG9 hn9 hb9
          refine Lib.hid ?_
          go_wp2_with (at_builtin; refine Lib.wpList_append_run _ rfl (.tmp 80) (.tmp 81) _ _ rfl _ _ rfl rfl _ _ HR10.out ?_)
          go_ret
          rw [HBy.out, HLa.out]
          exact ⟨v10, rfl, HI10.out⟩
        | false =>
          have HLa : Hid (f.laid = f.l12) := Lib.hid (by unfold Fn.F.laid; rw [HBB.out, if_neg (by decide)])
          obtain ⟨t1, t2, t3⟩ := HTb.out HBB.out
          obtain ⟨m1, m2, m3⟩ := HTl.out HBB.out
          have hno := O11.out.n_nodes
          have hao := O11.out.n_at
          have hvo := O11.out.n_live
          simp only at hno hao hvo
          have HTp := Lib.hid (trput_own W0.heap.size _ _ _ _ nn nc f.nodes _ O11.out.nodes.1 (by omega) HWf.out.nodes L11.out.1 L11.out.2.size (by omega))
          refine Lib.hid ?_
          go_wp2_with (go_at_call 37; go_must (refine HTp.out.mono ?_; rintro _ w12 ⟨u12, rfl, hinv⟩; refine Hid.out ?_))
          have L12 : Hid (Lies W0 f.l10 u12 w12) := Lib.hid (L11.out.put hinv)
          clear hinv c0 c1 c2 c3 c4 c5 c6 c7 c8 c9 c10
          have A12 := Lib.hid (A0.out.on L12.out.2)
          have O12 := Lib.hid (O0.out.on L12.out.2)
          have c0 := A12.out.c0
          have c1 := A12.out.c1
          have c2 := A12.out.c2
          have c3 := A12.out.c3
          have c4 := A12.out.c4
          have c5 := A12.out.c5
          have c6 := A12.out.c6
          have c7 := A12.out.c7
          have c8 := A12.out.c8
          have c9 := A12.out.c9
          have c10 := A12.out.c10
          have hl10 : f.l10.length ≤ 200000 := by unfold Fn.F.l10; rw [List.length_append]; omega
          have HRp := Lib.hid (runsPut_own W0.heap.size _ _ _ _ tn tc f.at_ _ L12.out.1 L12.out.2.size O12.out.at_.1 (by omega) HWf.out.at_ (by omega))
          refine Lib.hid ?_
          go_wp2_with (go_at_call 38; go_must (refine HRp.out.mono ?_; rintro _ w13 ⟨u13, rfl, hinv⟩; refine Hid.out ?_))
          have L13 : Hid (Lies W0 f.l11 u13 w13) := Lib.hid (L12.out.put hinv)
          clear hinv c0 c1 c2 c3 c4 c5 c6 c7 c8 c9 c10
          have A13 := Lib.hid (A0.out.on L13.out.2)
          have O13 := Lib.hid (O0.out.on L13.out.2)
          have c0 := A13.out.c0
          have c1 := A13.out.c1
          have c2 := A13.out.c2
          have c3 := A13.out.c3
          have c4 := A13.out.c4
          have c5 := A13.out.c5
          have c6 := A13.out.c6
          have c7 := A13.out.c7
          have c8 := A13.out.c8
          have c9 := A13.out.c9
          have c10 := A13.out.c10
          have hl11 : f.l11.length ≤ 250000 := by unfold Fn.F.l11; rw [List.length_append]; omega
          have HMp := Lib.hid (mpput_own W0.heap.size _ _ _ _ vn vc f.live _ O13.out.live.1 (by omega) HWf.out.live L13.out.1 L13.out.2.size (by omega))
          refine Lib.hid ?_
          go_wp2_with (go_at_call 39; go_must (refine HMp.out.mono ?_; rintro _ w14 ⟨u14, rfl, hinv⟩; refine Hid.out ?_))
          have L14 : Hid (Lies W0 f.l12 u14 w14) := Lib.hid (L13.out.put hinv)
          clear hinv
          have HLen14 : Hid (f.l12.length ≤ 400000) := Lib.hid (by unfold Fn.F.l12; rw [List.length_append]; omega)
          obtain ⟨A9, c9', hu9, hG9, hn9⟩ := own_bytes L14.out.1 (by have h := Fn.laid_byte (f := f); rw [HLa.out] at h; exact h)
          subst hu9
          have hb9 : Below w.heap.size w w14 := B0.out.trans (L14.out.2.mono B0.out.size)
          obtain ⟨v10, w10, r10, h10⟩ := append_bytes_at (c := c9') (own_later HOw.out hb9).1 hG9 hn9 (Nat.le_trans hbase hb9.size) (by have := HLen14.out; omega)
          have HR10 := Lib.hid (r10 33 rfl)
          have HI10 := Lib.hid (own_then hb9 h10)
          clear r10 h10 hG9 hn9 hb9
          refine Lib.hid ?_
          go_wp2_with (at_builtin; refine Lib.wpList_append_run _ rfl (.tmp 80) (.tmp 81) _ _ rfl _ _ rfl rfl _ _ HR10.out ?_)
          go_ret
          rw [HBy.out, HLa.out]
          exact ⟨v10, rfl, HI10.out⟩
end Go.Proofs.YtifkoihhlhadhaaGreatDoor
