/-
  What runs.Put answers: the bytes of the slice that it is handed, and those of the row's runs behind them. Conditions: the slice is the caller's own; lengths within the reach.
-/
import Derived.Test.YtnfflddcekffeaaRuOf
import Derived.Test.YtnfflddcekffeaaAppendAt
namespace Go.Proofs.Ytnfflddcekffeaa
open Go.RowKit Go.Shelf

attribute [local go_sem] Oper.semAt_some

theorem laid_snoc (pre : List RunT) (x : RunT) : Ru.laid (vals (pre ++ [x])) = Ru.laid (vals pre) ++ Uv.put x.1.1.toNat ++ Uv.put (Uv.fold x.1.2) := by
  rw [vals_snoc, Ru.laid_append, Ru.laid_one, List.append_assoc]
theorem laid_vals_len (pre : List RunT) : (Ru.laid (vals pre)).length ≤ 20 * pre.length := by
  have := Ru.laid_len (r := vals pre) (fun p hp => by
    obtain ⟨q, _, rfl⟩ := List.mem_map.1 hp
    exact ⟨q.2.1.1, q.2.1.2, q.2.2.1, q.2.2.2⟩)
  rwa [vals_length] at this

set_option maxRecDepth 100000 in
/-- Behind a call that puts more: the box, the row, what is kept. -/
theorem boxed_put {W w1 : World} {n₀ B : Nat} {t : TypeId} {v v' : Value} {k m : Nat} {xs ys : List Value}
    (hv : Boxed W B t v) (hte : t ≠ 5) (hrow : W.ownsRow n₀ 5 1 v k xs) (hn₀ : n₀ ≤ W.heap.size) (hB : n₀ ≤ B) (h : OwnInv n₀ W v v' m ys w1) :
    Boxed w1 B t v ∧ Boxed (w1.setCell ⟨B, 0, none⟩ v') B t v' ∧ (w1.setCell ⟨B, 0, none⟩ v').ownsRow n₀ 5 1 v' m ys ∧ KeepsOthers W (w1.setCell ⟨B, 0, none⟩ v') ∧ Below n₀ W (w1.setCell ⟨B, 0, none⟩ v') := by
  obtain ⟨hown', hgrow, _⟩ := h
  have hv1 : Boxed w1 B t v := hv.kept hgrow (hv.not_row hte hrow)
  refine ⟨hv1, hv1.set v', hown'.kept (grownBy_setCell' w1 B v') (.inr (hv1.not_row hte hown').symm), ?_, ?_⟩
  · refine (KeepsOthers.of_grownBy hgrow fun j o ej hj => ?_).trans (KeepsOthers.setCell _ _ _)
    rcases hrow.2 with ⟨rfl, _⟩ | ⟨g, cap, cur, rfl, _, hgb, _⟩
    · simp [Value.ownBlock] at ej
    · obtain rfl : g = j := by simpa [Value.ownBlock] using ej
      rw [hgb] at hj; cases hj; rfl
  · exact ((Below.refl n₀ W).grown hgrow hn₀ fun j ej => (hrow.lt j ej).1).setCell (p := ⟨B, 0, none⟩) hB v'

theorem wpListIn_append_run {F : Fence} {n : Nat} {P : Program} (w : World) {ops : Array Oper} {rest : List Oper} {o : Oper} {a : Act} {Q : Exit → Act → World → Prop} (hgd : o.guard = none) (s x : Operand) (t tn : TypeId)
    (ho : o.op = .call { callee := .builtin .append, args := #[s, x], argTypes := #[t, tn] }) (vs vx : Value) (hs : a.eval s = vs) (hx : a.eval x = vx)
    (v' : Value) (w' : World) (hr : (Builtin.append_ #[t, tn] o.type #[vs, vx]).run P w = .ok v' w') (h : wpListIn F n P ops Q rest (a.put o.dst v') w') : wpListIn F n P ops Q (o :: rest) a w := by
  refine wpListIn_plain hgd fun K hK' => ?_
  unfold Oper.wpIn
  refine ⟨?_, ?_⟩
  · simp [Oper.about, ho, resolve, Target.leads, Sem.run_pure]
  · rw [Oper.semAt_plain F _ _ (by rw [ho]; intro c hc'; cases hc')]
    simp [execOp, ho, resolve, invoke, builtin, hs, hx, hr, Result.andThen]
    exact hK' _ _ h

theorem grown_back {w W w' : World} {row : Option Nat} {D : Nat} {o : Obj} (hB : Below w.heap.size w W) (hg : W.grownBy w' row) (hD : w.heap.size ≤ D) : w.grownBy (w'.putObj D o) row := by
  have h2 := grownBy_putObj' w' D o
  refine ⟨h2.os.trans (hg.os.trans hB.os), h2.tape.trans (hg.tape.trans hB.tape), h2.output.trans (hg.output.trans hB.output), Nat.le_trans hB.size (Nat.le_trans hg.size h2.size), fun k hk hne => ?_⟩
  have hkW := Nat.lt_of_lt_of_le hk hB.size
  rw [h2.block k (Nat.lt_of_lt_of_le hkW hg.size) (by intro e; injection e with e; omega), hg.block k hkW hne, hB.block k hk]

set_option maxRecDepth 100000 in
set_option maxHeartbeats 4000000 in
theorem runsPut_own (base : Nat) (b : Value) (nb : Nat) (xs0 : List Value) (a : Option Addr) (len cap : Nat) (xs : List Int) (w : World) (hown : w.ownsRow base 5 1 b nb xs0) (hbase : base ≤ w.heap.size)
    (h : IntsAt w w.heap.size a len xs) (hlen : len ≤ 1000000) (hz : ∀ z ∈ xs, -9223372036854775808 ≤ z ∧ z ≤ 9223372036854775807) (hl : nb + (Ru.laid (Ru.of xs)).length ≤ 140737488355328) :
    Calls Try.prog 22 #[b, .slice a len cap] w (OwnPost base w b (nb + (Ru.laid (Ru.of xs)).length) (xs0 ++ bs (Ru.laid (Ru.of xs)))) := by
  have HI := Lib.hid h
  have hxl := h.1
  have HZ := Lib.hid hz
  have HO := Lib.hid hown
  have HL := Lib.hid hl
  clear h hz hown hl
  refine (callsIn_wide (n := 5)).1 ?_
  refine callsIn_of_wp_marks Try.func22 rfl trivial ?_ rfl
  simp only [Try.ntmps22, List.size_toArray, List.length_cons, List.length_nil, Nat.reduceAdd, Nat.reduceSub, Array.replicate_succ, Array.replicate_zero, List.push_toArray, List.append_toArray, List.nil_append, List.cons_append]
  gi_wp2_with (refine ⟨trivial, ?_⟩; gi_at_call 33; refine (alike_in _ _ _ _ _).mono ?_; rintro e w' ⟨rfl, rfl⟩)
  have bO := Boxed.new w 33 (.slice none 0 0)
  have bN := Boxed.new (w.alloc (.cells #[.slice none 0 0] 33)) 22 (.slice a len cap)
  rw [World.size_alloc] at bN
  have hB0 : Below w.heap.size w ((w.alloc (.cells #[.slice none 0 0] 33)).alloc (.cells #[.slice a len cap] 22)) := ((Below.refl _ w).alloc (Nat.le_refl _) _).alloc (by simp) _
  refine wpIn_rangeFunc_ownF rfl (by omega) (gf := 42) (lb := #[.pointer (some ⟨w.heap.size + 1, 0, none⟩)]) rfl trivial (enters_of Try.func42 (by kernel_rfl) rfl)
    (alike_stops _ (by omega) (w.heap.size + 1) w.heap.size a len cap xs (by omega) HZ.out _ bN (HI.out.below hB0) (by simp; omega)) KpIt.trans (kpIt_b (by simp; omega) (by simp)) (Below.refl _ _) (fun _ => rfl)
    (fun pre W => (∃ v, Boxed W w.heap.size 33 v ∧ W.ownsRow w.heap.size 5 1 v (Ru.laid (vals pre)).length (bs (Ru.laid (vals pre))) ∧ True) ∧ Boxed W (w.heap.size + 1) 22 (.slice a len cap) ∧ Below w.heap.size w W)
    (fun _ _ _ => False)
    (OwnFrom.and (Own.from (holdsRow_own w.heap.size w.heap.size 33 5 1 (fun pre : List RunT => (Ru.laid (vals pre)).length) (fun pre => bs (Ru.laid (vals pre))) (fun _ _ => True)) _) (OwnFrom.and (Own.from (boxed_own _ _ _) _) (ownFrom_below (Nat.le_refl _) (by simp; omega))))
    (fun _ _ _ _ _ hs _ _ => hs)
    ⟨⟨_, bO.alloc _, World.ownsRow_nil _ _ _ _, trivial⟩, bN, hB0⟩
    (fun x => { tmps := #[b, .slice a len cap, undef, undef, .slice none 0 0, .pointer (some ⟨w.heap.size, 0, none⟩), .int .i64 x.1.1, .int .i64 x.1.2, .slice a len cap, .func (.func 42) #[] #[.pointer (some ⟨w.heap.size + 1, 0, none⟩)], .int .i64 x.1.1, .int .i64 x.1.2, undef, undef, undef, undef, undef, undef, undef, undef, undef, undef], defers := [] }) ?assign ?body ?done ?stop
  case assign =>
    intro l x W K hK
    gi_wp2
    exact hK
  case body =>
    rintro l pre x W ⟨⟨v, hv, hrow, _⟩, hbx, hB⟩ hlt
    have HS := Lib.hid (laid_snoc pre x)
    have hpl := laid_vals_len pre
    obtain ⟨⟨x1, x2⟩, ⟨hx0, hx1⟩, hx2, hx3⟩ := x
    simp only at hx0 hx1 hx2 hx3 HS
    obtain ⟨m, rfl⟩ := Int.eq_ofNat_of_zero_le hx0
    have hm : m < 18446744073709551616 := by omega
    have hp10 := Uv.put_len_10 hm
    have hc := hv.cell
    generalize hL : Ru.laid (vals pre) = L at *
    clear hL
    simp only [Int.toNat_natCast] at HS
    have HPut := Lib.hid (put_own w.heap.size v L.length (bs L) m W hm hrow hB.size (by omega))
    have hwm : IntKind.u64.wrap (m : Int) = (m : Int) := by rw [IntKind.wrap_u64]; omega
    have HBX := Lib.hid hbx
    have HB := Lib.hid hB
    have HV := Lib.hid hv
    have HR := Lib.hid hrow
    clear hbx hB hv hrow
    have hpos := Uv.put_len_pos m
    have hf10 := Uv.put_len_10 (Uv.fold_lt hx2 hx3)
    have hpos2 := Uv.put_len_pos (Uv.fold x2)
    gi_wp2_with (refine ⟨trivial, ?_⟩; gi_at_call 34; refine (CallsIn.inRound l (callsIn_wide.2 HPut.out)).mono ?_; rintro e w1 ⟨v1, rfl, hinv1⟩; obtain ⟨g1, cap1, rfl, _, _⟩ := hinv1.1.form (by omega); obtain ⟨hv1, hv2, hr2, hk2, hb2⟩ := boxed_put HV.out (by decide) HR.out HB.out.size (Nat.le_refl _) hinv1; have hbx2 := boxed_far (u := .slice (some ⟨g1, 0, none⟩) (L.length + (Uv.put m).length) cap1) (HBX.out.kept hinv1.2.1 (HBX.out.not_row (by decide) HR.out)) (B' := w.heap.size) (by omega); have hc1 := hv1.cell; have hf1 := hv1.frozen; have HBX2 := Lib.hid hbx2; have HV2 := Lib.hid hv2; have HR2 := Lib.hid hr2; have HK2 := Lib.hid hk2; have HB2 := Lib.hid hb2; clear hv1 hv2 hr2 hk2 hb2 hbx2 hinv1 HPut)
    have hs2 := Nat.le_trans HB.out.size HB2.out.size
    have HPut2 := Lib.hid (putInt_own w.heap.size _ _ _ x2 _ hx2 hx3 HR2.out hs2 (by omega))
    have hc2 := HV2.out.cell
    gi_wp2_with (refine ⟨trivial, ?_⟩; gi_at_call 35; refine (CallsIn.inRound l (callsIn_wide.2 HPut2.out)).mono ?_; rintro e w2 ⟨v2, rfl, hinv2⟩; obtain ⟨g2, cap2, rfl, _, _⟩ := hinv2.1.form (by omega); obtain ⟨hv1, hv2, hr2, hk2, hb2⟩ := boxed_put HV2.out (by decide) HR2.out hs2 (Nat.le_refl _) hinv2; have hbx2 := boxed_far (u := .slice (some ⟨g2, 0, none⟩) (L.length + (Uv.put m).length + (Uv.put (Uv.fold x2)).length) cap2) (HBX2.out.kept hinv2.2.1 (HBX2.out.not_row (by decide) HR2.out)) (B' := w.heap.size) (by omega); have hc3 := hv1.cell; have hf3 := hv1.frozen; have HBX3 := Lib.hid hbx2; have HV3 := Lib.hid hv2; have HR3 := Lib.hid hr2; have HK3 := Lib.hid hk2; have HB3 := Lib.hid hb2; clear hv1 hv2 hr2 hk2 hb2 hbx2 hinv2 HPut2)
    refine ⟨HK2.out.trans HK3.out, ⟨HB2.out.trans HB3.out, heap_box HBX.out HBX3.out⟩, ⟨_, HV3.out, ?_, trivial⟩, HBX3.out, HB.out.trans (HB2.out.trans HB3.out)⟩
    rw [HS.out, List.length_append, List.length_append, bs_append, bs_append]
    exact HR3.out
  case done =>
    rintro D ys W hD hys ⟨⟨v, hv, hrow, _⟩, hbx, hB⟩ hK
    rw [hys] at hrow
    have hc := hv.cell
    have HB := Lib.hid hB
    have HR := Lib.hid hrow
    have HLB := Lib.hid (Ru.laid_byte (Ru.of xs))
    clear hbx hB hv hrow hys
    generalize Ru.laid (Ru.of xs) = L at *
    have hOb := ownsRow_below HO.out HB.out
    obtain ⟨A, c, rfl, hba, hcn⟩ : ∃ A c, v = .slice A L.length c ∧ BytesAt W W.heap.size A L.length L ∧ (A = none → c = 0) := by
      rcases HR.out.2 with ⟨rfl, h0⟩ | ⟨g, cap', cur, rfl, _, hg, _, _, _, ht⟩
      · have : L = [] := List.eq_nil_of_length_eq_zero (by simpa using h0)
        subst this
        exact ⟨none, 0, rfl, ⟨rfl, by simp, by simp⟩, fun _ => rfl⟩
      · exact ⟨_, cap', rfl, bytesAt_own (cur := cur) hg rfl (by simpa using ht) HLB.out, fun h => by cases h⟩
    obtain ⟨v', w', hrun, hown', hgr, hat⟩ := append_bytes_at (c := c) hOb hba hcn (Nat.le_trans hbase HB.out.size) HL.out
    have HAT := Lib.hid hat
    have HRUN := Lib.hid (hrun 33 rfl)
    have HOW := Lib.hid hown'
    have HGR := Lib.hid hgr
    clear hrun hown' hgr hba hcn hOb hat
    have HBL : Hid (∀ k, b.ownBlock = some k → k < w.heap.size) := Lib.hid (fun k hk => (HO.out.lt k hk).2)
    gi_wp2_with (gi_at_builtin; refine wpListIn_append_run _ rfl (.tmp 19) (.tmp 20) _ _ rfl _ _ rfl rfl _ _ HRUN.out ?_)
    have hDw : w.heap.size ≤ D := by simp at hD; omega
    have hK' : w'.heap[D]? = some (.deferred (some [])) := (HGR.out.block D (Array.getElem?_eq_some_iff.1 hK).1 (fun e => by have := HBL.out D e.symm; omega)).trans hK
    refine ⟨by simp, .inl ⟨_, _, rfl, run_takeDeferred hK', ?_⟩⟩
    exact ⟨_, results_tmp rfl _ _ _, v', rfl, ownsRow_putObj HOW.out _ hK' rfl, grown_back HB.out HGR.out hDw, HAT.out.imp id (fun ⟨g, h1, h2⟩ => ⟨g, h1, Nat.le_trans HB.out.size h2⟩)⟩
  case stop =>
    rintro D c pre W _ _ h _
    exact h.elim

end Go.Proofs.Ytnfflddcekffeaa
