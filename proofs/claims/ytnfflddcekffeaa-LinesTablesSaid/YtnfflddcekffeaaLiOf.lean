/-
  What lines.Of answers: the spans of a line, in new memory. Conditions: lengths within the reach.
-/
import Derived.Maps.AppendAt
import Derived.Test.YtnfflddcekffeaaLiS
namespace Go.Proofs.Ytnfflddcekffeaa
open Go.RowKit Go.Shelf

attribute [local go_sem] Oper.semAt_some

set_option maxRecDepth 100000 in
theorem info_lspan : (Try.prog.info? 29).map (fun i => (i.zero, i.size, i.bytes)) = some (some (.agg #[.int .i64 0, .int .i64 0]), 2, 16) := by kernel_rfl

theorem kpLi_own {β : Type} {O : Nat} {w₀ : World} : OwnFrom w₀.heap.size (fun (_ : β) W => KpLi O w₀.heap.size w₀ W) := fun _ X Y row hs hg hr =>
  hs.trans ⟨hg.os, hg.tape, hg.output, hg.size, fun k hk _ => hg.block k (Nat.lt_of_lt_of_le hk hs.size) (fun e => by have := (hr k e.symm).1; omega)⟩

/-- A round's own box: one span. -/
def SpAt (W : World) (B : Nat) (x : SpanT) : Prop := W.heap[B]? = some (.cells #[.int .i64 x.1, .int .i64 x.2] 29 (0, 0))
set_option maxRecDepth 100000 in
theorem SpAt.new (W : World) (x : SpanT) : SpAt (W.alloc (.cells #[.int .i64 x.1, .int .i64 x.2] 29)) W.heap.size x := heap_alloc_new _ _
theorem SpAt.c0 {W : World} {B : Nat} {x : SpanT} (h : SpAt W B x) : W.cell? ⟨B, 0, none⟩ = some (.int .i64 x.1) := by unfold SpAt at h; simp [World.cell?, h]
theorem SpAt.c1 {W : World} {B : Nat} {x : SpanT} (h : SpAt W B x) : W.cell? ⟨B, 1, none⟩ = some (.int .i64 x.2) := by unfold SpAt at h; simp [World.cell?, h]
theorem spAt_own (B T : Nat) (x : SpanT) (p : Prop) : OwnFrom T (fun (_ : Unit) W => SpAt W B x ∧ p) := fun _ X Y row hs hg hr =>
  ⟨(hg.block B (Array.getElem?_eq_some_iff.1 hs.1).1 (fun e => by obtain ⟨_, o, ho, hc⟩ := hr B e.symm; rw [show X.heap[B]? = _ from hs.1] at ho; cases ho; cases hc)).trans hs.1, hs.2⟩

/-- What a round hands its body. -/
def LofAx (T : Array Value) (x : SpanT) (a' : Act) (W : World) : Prop := ∃ B, SpAt W B x ∧ a' = { tmps := (T.setIfInBounds 6 (.pointer (some ⟨B, 0, none⟩))).setIfInBounds 10 (.agg #[.int .i64 x.1, .int .i64 x.2]), defers := [] }
theorem lofAx_own (T : Array Value) (n : Nat) (x : SpanT) (a' : Act) : OwnFrom n (fun (_ : Unit) W => LofAx T x a' W) := fun u X Y row hs hg hr => by
  obtain ⟨B, h1, h2⟩ := hs
  exact ⟨B, spAt_own B n x _ u X Y row ⟨h1, h2⟩ hg hr⟩

set_option maxRecDepth 100000 in
set_option maxHeartbeats 4000000 in
theorem liof_any (a : Option Addr) (len cap : Nat) (xs : List Int) (line : Int) (w : World) (h : IntsAt w w.heap.size a len xs) (hlen : len ≤ 8796093022208) (hz : ∀ z ∈ xs, -9223372036854775808 ≤ z ∧ z ≤ 9223372036854775807) :
    Calls Try.prog 6 #[.slice a len cap, .int .i64 line] w (RunsP 29 (Li.of line xs) w) := by
  obtain ⟨i0, hi, hz0, hz1, hz2⟩ := info_parts info_lspan
  have hb0 := (Below.refl _ w).alloc (Nat.le_refl _) (.cells #[.slice none 0 0] 24)
  have HSP := Lib.hid (fun n => lispans_in n w.heap.size a len cap xs line (w.alloc (.cells #[.slice none 0 0] 24)) ((h.below hb0).more (by simp)) hlen hz (by simp))
  have hxl := h.1
  have HB0 := Lib.hid hb0
  have HBX := Lib.hid (Boxed.new w 24 (.slice none 0 0))
  clear h hz hb0
  refine (callsIn_wide (n := 5)).1 ?_
  refine callsIn_of_wp_marks Try.func6 rfl trivial ?_ rfl
  simp only [Try.ntmps6, List.size_toArray, List.length_cons, List.length_nil, Nat.reduceAdd, Nat.reduceSub, Array.replicate_succ, Array.replicate_zero, List.push_toArray, List.append_toArray, List.nil_append, List.cons_append]
  gi_wp2_with (refine ⟨trivial, ?_⟩; gi_at_call 19; refine (HSP.out _).mono ?_; rintro e w2 ⟨Bs, A, c, rfl, hb2, hbs, hbl, hrow⟩; have HB2 := Lib.hid hb2; have HBS := Lib.hid hbs; have HBL := Lib.hid hbl; have HRW := Lib.hid hrow; clear hb2 hbs hbl hrow)
  have hsw := HB2.out.size
  simp only [World.size_alloc] at hsw
  have bO : Boxed w2 w.heap.size 24 (.slice none 0 0) := (HB2.out.block _ (by simp)).trans HBX.out
  have hrl : (Ru.of xs).length ≤ 8796093022208 := Nat.le_trans (Ru.of_len xs) (by omega)
  refine wpIn_rangeFunc_ownH rfl (by omega) (gf := 31) (lb := #[.pointer (some ⟨Bs, 0, none⟩), .pointer (some ⟨w.heap.size + 1, 0, none⟩)]) rfl trivial (enters_of Try.func31 (by kernel_rfl) rfl)
    (spans_stops _ (by omega) Bs (w.heap.size + 1) w.heap.size A c line (Ru.of xs) (Ru.of_pos xs) (by rw [Li.total_of]; omega) hrl (by omega) w2 HBS.out (by have := HBL.out; simpa using this) HRW.out) (fun h k => h.trans k) (kpLi_b (Nat.le_refl _)) (Below.refl _ _) (fun _ => rfl)
    (fun pre W => (∃ v, Boxed W w.heap.size 24 v ∧ W.ownsRow w2.heap.size 29 2 v pre.length (ps pre) ∧ True) ∧ KpLi w.heap.size w2.heap.size w2 W)
    (fun _ _ _ => False)
    (OwnFrom.and (Own.from (holdsRow_own w2.heap.size w.heap.size 24 29 2 (fun pre : List SpanT => pre.length) (fun pre => ps pre) (fun _ _ => True)) _) kpLi_own)
    (fun _ _ _ _ _ hs _ _ => hs)
    ⟨⟨_, bO, World.ownsRow_nil _ _ _ _, trivial⟩, KpLi.refl _ _ _⟩
    (LofAx #[.slice a len cap, .int .i64 line, undef, undef, .slice none 0 0, .pointer (some ⟨w.heap.size, 0, none⟩), undef, .slice a len cap, .int .i64 line, .func (.func 31) #[] #[.pointer (some ⟨Bs, 0, none⟩), .pointer (some ⟨w.heap.size + 1, 0, none⟩)], undef, undef, undef, undef, undef, undef])
    (fun x a' => lofAx_own _ _ x a') ?assign ?body ?done ?stop
  case assign =>
    rintro l pre x W K ⟨⟨v, hv, hrow, _⟩, hKp⟩ hK
    have hk1 : KpLi w.heap.size w2.heap.size W (W.alloc (.cells #[.int .i64 x.1, .int .i64 x.2] 29)) := KpLi.of_below ((Below.refl _ W).alloc hKp.size _)
    gi_wp2
    exact hK _ _ ((KeepsOthers.alloc _ _).from _) hk1 ⟨⟨v, hv.alloc _, hrow.alloc _, trivial⟩, hKp.trans hk1⟩ ⟨W.heap.size, SpAt.new W x, rfl⟩
  case body =>
    rintro l pre ⟨x1, x2⟩ a' W hl _ ⟨⟨v, hv, hrow, _⟩, hKp⟩ ⟨Bx, hx, rfl⟩ hlt
    have hc := hv.cell
    have hx0 := hx.c0
    have hx1 := hx.c1
    have hsz := hKp.size
    have HKP := Lib.hid hKp
    have HV := Lib.hid hv
    have HR := Lib.hid hrow
    simp only at hx0 hx1
    clear hKp hv hrow hx
    simp only [List.setIfInBounds_toArray, List.set_cons_zero, List.set_cons_succ]
    gi_wp2_with (gi_at_builtin; refine wpListIn_append_own _ rfl _ _ 24 rfl w2.heap.size 29 i0 (.agg #[.int .i64 0, .int .i64 0]) 2 16 Try.underlying24 hi hz0 hz1 hz2 rfl (by decide) _ _ _ rfl (HR.out.alloc _) ⟨W.heap.size, 0, none⟩ 1 1 (ps [(x1, x2)]) rfl rfl (new_run _ _ _ _) (ps_one _) ?h1 ?h2 ?h3 ?_)
    case h1 => unfold maxLen; omega
    case h2 => omega
    case h3 => simp; omega
    intro v' w1 hown' hgrow _
    obtain ⟨g', cap', rfl⟩ := ownsRow_succ hown'
    obtain ⟨hv1, hv2, _, hk2, _⟩ := HV.out.appended (by decide) (ownsRow_base HR.out (show w.heap.size ≤ w2.heap.size by omega)) (by omega) (Nat.le_refl _) (ownsRow_base hown' (by omega)) hgrow
    have hr2 : (w1.setCell ⟨w.heap.size, 0, none⟩ (.slice (some ⟨g', 0, none⟩) (pre.length + 1) cap')).ownsRow w2.heap.size 29 2 (.slice (some ⟨g', 0, none⟩) (pre.length + 1) cap') (pre.length + 1) (ps pre ++ ps [(x1, x2)]) := hown'.kept (grownBy_setCell' w1 _ _) (.inr (hv1.not_row (by decide) hown').symm)
    have hkp : KpLi w.heap.size w2.heap.size W (w1.setCell ⟨w.heap.size, 0, none⟩ (.slice (some ⟨g', 0, none⟩) (pre.length + 1) cap')) := by
      have hbl := ((Below.refl w2.heap.size W).alloc hsz (.cells #[.int .i64 x1, .int .i64 x2] 29)).grown hgrow (by simp; omega) (fun k e => (HR.out.lt k e).1)
      exact ⟨hbl.os, hbl.tape, hbl.output, by have := hbl.size; simpa using this, fun k hk hO => (Below.heap_setCell w1 ⟨w.heap.size, 0, none⟩ _ k hO).trans (hbl.block k hk)⟩
    have hc1 := hv1.cell
    have hf1 := hv1.frozen
    have HV2 := Lib.hid hv2
    have HR2 := Lib.hid hr2
    have HK2 := Lib.hid hk2
    have HKP2 := Lib.hid hkp
    clear hv1 hv2 hr2 hk2 hkp hgrow hown'
    gi_wp2
    refine ⟨HK2.out.from _, HKP2.out, ⟨_, HV2.out, ?_, trivial⟩, HKP.out.trans HKP2.out⟩
    rw [List.length_append, ps_append]
    exact HR2.out
  case done =>
    rintro D ys W hD rfl ⟨⟨v, hv, hrow, _⟩, hKp⟩ hK
    have hc := hv.cell
    have HB : Hid (Below w.heap.size w W) := Lib.hid ((HB0.out.trans (HB2.out.mono (by simp))).trans (hKp.below (by omega)))
    have HR := Lib.hid hrow
    clear hv hrow hKp
    gi_wp2
    refine ⟨by simp, .inl ⟨_, _, rfl, run_takeDeferred hK, ?_⟩⟩
    exact ⟨_, results_tmp rfl _ _ _, v, rfl, ownsRow_base (ownsRow_putObj HR.out _ hK rfl) (by omega), HB.out.trans (belowK_b (w := w) (Nat.le_refl _) W D _ _ (by omega) hK rfl rfl)⟩
  case stop =>
    rintro D c pre W _ _ h _
    exact h.elim

end Go.Proofs.Ytnfflddcekffeaa
