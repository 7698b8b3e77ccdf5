/-
  What runs.Of answers: the runs of a row, in new memory. Conditions: lengths within the reach.
-/
import Derived.Maps.AppendAt
import Derived.Test.YtnfflddcekffeaaRuIt
namespace Go.Proofs.Ytnfflddcekffeaa
open Go.RowKit Go.Shelf

attribute [local go_sem] Oper.semAt_some

theorem heap_box {W : World} {B : Nat} {t : TypeId} {v : Value} {W' : World} (h : Boxed W B t v) (h' : Boxed W' B t v) : W'.heap[B]? = W.heap[B]? := Eq.trans (show W'.heap[B]? = _ from h') (show W.heap[B]? = _ from h).symm
theorem boxed_far {W : World} {B B' : Nat} {t : TypeId} {v u : Value} (h : Boxed W B t v) (hne : B ≠ B') : Boxed (W.setCell ⟨B', 0, none⟩ u) B t v := h.kept (grownBy_setCell' W B' u) (by intro e; injection e with e; exact hne e)

set_option maxRecDepth 100000 in
set_option maxHeartbeats 4000000 in
theorem of_any (a : Option Addr) (len cap : Nat) (xs : List Int) (w : World) (h : IntsAt w w.heap.size a len xs) (hlen : len ≤ 8796093022208) (hz : ∀ z ∈ xs, -9223372036854775808 ≤ z ∧ z ≤ 9223372036854775807) :
    Calls Try.prog 30 #[.slice a len cap] w (RunsP 71 (Ru.of xs) w) := by
  obtain ⟨i0, hi, hz0, hz1, hz2⟩ := info_parts info_run
  have HI := Lib.hid h
  have hxl := h.1
  have HZ := Lib.hid hz
  clear h hz
  refine (callsIn_wide (n := 5)).1 ?_
  refine callsIn_of_wp_marks Try.func30 rfl trivial ?_ rfl
  simp only [Try.ntmps30, List.size_toArray, List.length_cons, List.length_nil, Nat.reduceAdd, Nat.reduceSub, Array.replicate_succ, Array.replicate_zero, List.push_toArray, List.append_toArray, List.nil_append, List.cons_append]
  gi_wp2_with (refine ⟨trivial, ?_⟩; gi_at_call 33; refine (alike_in _ _ _ _ _).mono ?_; rintro e w' ⟨rfl, rfl⟩)
  have bO := Boxed.new w 68 (.slice none 0 0)
  have bN := Boxed.new (w.alloc (.cells #[.slice none 0 0] 68)) 22 (.slice a len cap)
  rw [World.size_alloc] at bN
  have hB0 : Below w.heap.size w ((w.alloc (.cells #[.slice none 0 0] 68)).alloc (.cells #[.slice a len cap] 22)) := ((Below.refl _ w).alloc (Nat.le_refl _) _).alloc (by simp) _
  refine wpIn_rangeFunc_ownF rfl (by omega) (gf := 42) (lb := #[.pointer (some ⟨w.heap.size + 1, 0, none⟩)]) rfl trivial (enters_of Try.func42 (by kernel_rfl) rfl)
    (alike_stops _ (by omega) (w.heap.size + 1) w.heap.size a len cap xs (by omega) HZ.out _ bN (HI.out.below hB0) (by simp; omega)) KpIt.trans (kpIt_b (by simp; omega) (by simp)) (Below.refl _ _) (fun _ => rfl)
    (fun pre W => (∃ v, Boxed W w.heap.size 68 v ∧ W.ownsRow w.heap.size 71 2 v pre.length (ps (vals pre)) ∧ True) ∧ Boxed W (w.heap.size + 1) 22 (.slice a len cap) ∧ Below w.heap.size w W)
    (fun _ _ _ => False)
    (OwnFrom.and (Own.from (holdsRow_own w.heap.size w.heap.size 68 71 2 (fun pre : List RunT => pre.length) (fun pre => ps (vals pre)) (fun _ _ => True)) _) (OwnFrom.and (Own.from (boxed_own _ _ _) _) (ownFrom_below (Nat.le_refl _) (by simp; omega))))
    (fun _ _ _ _ _ hs _ _ => hs)
    ⟨⟨_, bO.alloc _, World.ownsRow_nil _ _ _ _, trivial⟩, bN, hB0⟩
    (fun x => { tmps := #[.slice a len cap, undef, .slice none 0 0, .pointer (some ⟨w.heap.size, 0, none⟩), .int .i64 x.1.1, .int .i64 x.1.2, .slice a len cap, .func (.func 42) #[] #[.pointer (some ⟨w.heap.size + 1, 0, none⟩)], .int .i64 x.1.1, .int .i64 x.1.2, undef, undef, undef, undef, undef, undef, undef], defers := [] }) ?assign ?body ?done ?stop
  case assign =>
    intro l x W K hK
    gi_wp2
    exact hK
  case body =>
    rintro l pre x W ⟨⟨v, hv, hrow, _⟩, hbx, hB⟩ hlt
    obtain ⟨⟨x1, x2⟩, hxb⟩ := x
    have hc := hv.cell
    have HBX := Lib.hid hbx
    have HB := Lib.hid hB
    have HV := Lib.hid hv
    have HR := Lib.hid hrow
    clear hbx hB hv hrow
    gi_wp2_with (gi_at_builtin; refine wpListIn_append_own _ rfl _ _ 68 rfl w.heap.size 71 i0 (.agg #[.int .i64 0, .int .i64 0]) 2 16 Try.underlying68 hi hz0 hz1 hz2 rfl (by decide) _ _ _ rfl (HR.out.alloc _) ⟨W.heap.size, 0, none⟩ 1 1 (ps [(x1, x2)]) rfl rfl (new_run _ _ _ _) (ps_one _) ?h1 ?h2 ?h3 ?_)
    case h1 => unfold maxLen; omega
    case h2 => omega
    case h3 => have := HB.out.size; simp; omega
    intro v' w1 hown' hgrow _
    obtain ⟨g', cap', rfl⟩ := ownsRow_succ hown'
    obtain ⟨hv1, hv2, hr2, hk2, hb2⟩ := HV.out.appended (by decide) HR.out HB.out.size (Nat.le_refl _) hown' hgrow
    have hbx2 : Boxed (w1.setCell ⟨w.heap.size, 0, none⟩ (.slice (some ⟨g', 0, none⟩) (pre.length + 1) cap')) (w.heap.size + 1) 22 (.slice a len cap) := boxed_far ((HBX.out.alloc _).kept hgrow (HBX.out.not_row (by decide) HR.out)) (by omega)
    have hc1 := hv1.cell
    have hf1 := hv1.frozen
    have HBX2 := Lib.hid hbx2
    have HV2 := Lib.hid hv2
    have HR2 := Lib.hid hr2
    have HK2 := Lib.hid hk2
    have HB2 := Lib.hid hb2
    clear hv1 hv2 hr2 hk2 hb2 hbx2 hgrow hown'
    gi_wp2
    refine ⟨HK2.out, ⟨HB2.out, heap_box HBX.out HBX2.out⟩, ⟨_, HV2.out, ?_, trivial⟩, HBX2.out, HB.out.trans HB2.out⟩
    rw [List.length_append, vals_snoc, ps_append]
    exact HR2.out
  case done =>
    rintro D ys W hD hys ⟨⟨v, hv, hrow, _⟩, hbx, hB⟩ hK
    rw [← vals_length, hys] at hrow
    have hc := hv.cell
    have HB := Lib.hid hB
    have HR := Lib.hid hrow
    clear hbx hB hv hrow
    gi_wp2
    refine ⟨by simp, .inl ⟨_, _, rfl, run_takeDeferred hK, ?_⟩⟩
    exact ⟨_, results_tmp rfl _ _ _, v, rfl, ownsRow_putObj HR.out _ hK rfl, HB.out.trans (belowK_b (w := w) (Nat.le_refl _) W D _ _ (by simp at hD; omega) hK rfl rfl)⟩
  case stop =>
    rintro D c pre W _ _ h _
    exact h.elim

end Go.Proofs.Ytnfflddcekffeaa
