/-
  The way up from a node, told by tree.Up, by the document's Up, and by tree.Depth. Conditions: the nodes are a tree and can be read.
-/
import Derived.Maps.OwnSet
import Derived.WalkMore
import Derived.Test.YtngkjmghhoemgaaTrWR
import Derived.Laws.OwnMore
import Derived.Deep.AppendLies
import Derived.LoopTactic
namespace Go.Proofs.Ytngkjmghhoemgaa
open Go.RowKit Go.Maps

namespace Im
/-- A number as a key. -/
def key (x : Int) : Lit := .int .i64 x
theorem key_inj {x y : Int} (h : key x = key y) : x = y := by
  injection h
theorem key_ok (x : Int) : WideAt.IsKeyLit (key x) := by unfold key; exact trivial
/-- The set as read holds just those. -/
def Is (D : DataW Unit) (T : Int → Prop) : Prop := Tidy D ∧ ∀ x, Maps.has D (key x) = true ↔ T x
theorem Is.none : Is (.map []) (fun _ => False) := ⟨tidy_empty, fun x => by simp [Maps.has]⟩
theorem Is.put {D : DataW Unit} {T : Int → Prop} (h : Is D T) (x : Int) (d : DataW Unit) : Is (D.put (key x) d) (fun y => T y ∨ y = x) := by
  refine ⟨h.1.put (key_ok x) d, fun y => ?_⟩
  by_cases e : y = x
  · subst e
    rw [has_put_same h.1.isMap (key_ok _)]
    simp
  · rw [has_put_other (fun h => e (key_inj h)), h.2 y]
    simp [e]
theorem Is.iff {D : DataW Unit} {T T' : Int → Prop} (h : Is D T) (ht : ∀ x, T x ↔ T' x) : Is D T' := ⟨h.1, fun x => (h.2 x).trans (ht x)⟩
theorem Is.no {D : DataW Unit} {T : Int → Prop} (h : Is D T) {x : Int} (hx : ¬ T x) : Maps.has D (key x) = false := by
  rcases Bool.eq_false_or_eq_true (Maps.has D (key x)) with e | e
  · exact absurd ((h.2 x).1 e) hx
  · exact e
end Im

theorem int_wf {x : Int} (h0 : -9223372036854775808 ≤ x) (h1 : x ≤ 9223372036854775807) : (Lit.int .i64 x).wf = true := by
  show (decide (IntKind.i64.min ≤ x) && decide (x ≤ IntKind.i64.max)) = true
  rw [Bool.and_eq_true, decide_eq_true_eq, decide_eq_true_eq]
  exact ⟨h0, h1⟩
set_option maxRecDepth 100000 in
theorem keyed_int : Keyed Try.prog 3 := int_keyed Try.underlying3
set_option maxRecDepth 100000 in
theorem zero_unit13 (w : World) : (zeroValue 69).run Try.prog w = .ok (.agg #[]) w := by kernel_rfl

set_option maxRecDepth 100000 in
theorem map_kept {w w' : World} {b n : Nat} {D : DataW Unit} (h : w.ownsMap Try.prog 3 unitElem b n D) (he : w'.heap[b]? = w.heap[b]?) : w'.ownsMap Try.prog 3 unitElem b n D := by
  obtain ⟨es, clock, hb', r⟩ := h
  exact ⟨es, clock, by rw [he]; exact hb', r⟩

/-- Numbers are answered, in memory of the call's own. -/
def NewInts (l : List Int) (w : World) (e : Ending) (w' : World) : Prop :=
  ∃ A c, e = .returned (.slice A l.length c) ∧ IntsAt w' w'.heap.size A l.length l ∧ Below w.heap.size w w'
set_option maxRecDepth 100000 in
theorem newInts {w wr : World} {b : Nat} {v : Value} {l : List Int} (h : wr.ownsRow b 3 1 v l.length (vs l)) (hb : Below w.heap.size w wr) : NewInts l w (.returned v) wr := by
  rcases h.2 with ⟨rfl, hn⟩ | ⟨g, cap, cur, rfl, _⟩
  · have hi := ints_of_own h
    rw [← hn] at hi
    exact ⟨none, 0, by rw [hn], hi.2.1, hb⟩
  · exact ⟨_, cap, rfl, (ints_of_own h).2.1, hb⟩

/-- Between two rounds: pre is gone, cur is next. -/
structure UpI (l : List Tr.Nd) (n0 : Int) (w : World) (pre : List Int) (cur : Int) (way : Value) (D : DataW Unit) (wr : World) : Prop where
  sum : Tr.ups l n0 = pre ++ Tr.ups l cur
  above : ∀ x ∈ pre, cur < x
  low : cur < (l.length : Int) ∨ pre = []
  row : wr.ownsRow (w.heap.size + 1) 3 1 way pre.length (vs pre)
  map : wr.ownsMap Try.prog 3 unitElem w.heap.size pre.length D
  is : Im.Is D (fun x => x ∈ pre)
  below : Below w.heap.size w wr
def UpRel (l : List Tr.Nd) (n0 : Int) (w : World) (i way : Value) (wr : World) : Prop := ∃ pre cur D, i = .int .i64 cur ∧ UpI l n0 w pre cur way D wr
theorem UpI.len {l : List Tr.Nd} {n0 : Int} {w : World} {pre : List Int} {cur : Int} {way : Value} {D : DataW Unit} {wr : World} (h : UpI l n0 w pre cur way D wr) (hr : Tr.right l = true) : pre.length ≤ 120 := by
  have h1 := Tr.ups_len hr n0
  have h2 := (Tr.right_run hr).2.1
  rw [h.sum, List.length_append] at h1
  omega
theorem UpI.fresh {l : List Tr.Nd} {n0 : Int} {w : World} {pre : List Int} {cur : Int} {way : Value} {D : DataW Unit} {wr : World} (h : UpI l n0 w pre cur way D wr) : Maps.has D (Im.key cur) = false :=
  h.is.no (fun hm => by have := h.above _ hm; omega)

set_option maxHeartbeats 4000000 in
set_option maxRecDepth 100000 in
theorem trup_any (a : Option Addr) (n c : Nat) (l : List Tr.Nd) (x : Int) (w : World) (h : NodesAt w w.heap.size a n l) (hr : Tr.right l = true) (hx : -9223372036854775808 ≤ x ∧ x ≤ 9223372036854775807) :
    Calls Try.prog 38 #[.slice a n c, .int .i64 x] w (NewInts (Tr.ups l x) w) := by
  obtain ⟨i0, hi, hz0, hz1, hz2⟩ := info_parts info_int
  have hmm := @run_makeMap Try.prog
  have hl : l.length = n := h.1
  have hn120 := (Tr.right_run hr).2.1
  have HRt := Lib.hid hr
  have H := Lib.hid h
  have HL := Lib.hid (And.intro hl (And.intro hn120 hx))
  have HHas := Lib.hid (fun (y : Int) W => trhas_any a n c y W (by omega))
  clear h hl hr hn120 hx
  go_enter Try.func38, Try.ntmps38
  go_wp2
  go_step3
  go_wp2
  go_step3
  go_wp2
  go_loopw [1, 5, 7, 8] (fun i way _ _ wr => UpRel l x w i way wr) (fun i _ _ _ _ => (intOf i + 1).toNat)
  case atStart =>
    refine ⟨[], x, _, rfl, rfl, fun _ h => by simp at h, .inr rfl, World.ownsRow_nil _ _ _ _, World.ownsMap_made _ _ _ _, Im.Is.none.iff (fun x => by simp), (Below.refl _ _).alloc (Nat.le_refl _) _⟩
  case round =>
    obtain ⟨pre, cur, D, rfl, hU⟩ := hrel
    have HU := Lib.hid hU
    clear hU
    have HHc := HHas.out cur
    cases hd : decide (0 ≤ cur ∧ cur < (n : Int)) with
    | false =>
      rw [hd] at HHc
      go_wp2_with (go_at_call 49; refine (HHc _).mono ?_; rintro _ w1 ⟨rfl, he⟩; obtain rfl := he.symm)
      go_ret
      have hU := HU.out
      have e := hU.sum
      rw [Tr.ups_out (n := cur) (by rw [HL.out.1]; exact of_decide_eq_false hd), List.append_nil] at e
      rw [e]
      exact newInts hU.row hU.below
    | true =>
      rw [hd] at HHc
      have hc := of_decide_eq_true hd
      obtain ⟨k, rfl⟩ : ∃ k : Nat, cur = (k : Int) := ⟨cur.toNat, by omega⟩
      obtain ⟨b, off, y, rfl, hlt, hy, hky, d0, _⟩ := nodes_cell H.out (show k < n by omega)
      have hkn : k < n := by omega
      have HUp : Hid (Tr.ups l (k : Int) = (k : Int) :: Tr.ups l y.p) := Lib.hid (by rw [Tr.ups_in HRt.out ⟨by omega, by rw [HL.out.1]; omega⟩, Int.toNat_natCast, hy])
      have HPar : Hid (-1 ≤ y.p ∧ y.p < (k : Int)) := Lib.hid (by have := Tr.right_up HRt.out hky; rwa [hy] at this)
      have hkey : keyOf Try.prog 3 (.int .i64 (k : Int)) = some (Im.key (k : Int)) := keyOf_int_mk Try.underlying3 (int_wf (by omega) (by have := HL.out; omega))
      have hown := HU.out.map
      have hfr := HU.out.fresh
      have HLen := Lib.hid (HU.out.len HRt.out)
      clear hd hc hy hky
      have hlenk : pre.length ≤ 120 := HLen.out
      have hws : w.heap.size + 1 ≤ wr.heap.size := by have := HU.out.map.lt; omega
      have hrow := HU.out.row
      have hms : w.heap.size < wr.heap.size := HU.out.map.lt
      have hro : ∀ g, u5.ownBlock = some g → w.heap.size + 1 ≤ g ∧ g < wr.heap.size := fun g hg => hrow.lt g hg
      go_wp2_with (first
        | (go_at_call 49; refine (HHc _).mono ?_; rintro _ w1 ⟨rfl, he⟩; obtain rfl := he.symm)
        | (at_lookup; refine wpList_lookup_own_unit _ rfl _ _ 67 rfl 3 69 keyed_int Try.underlying67 (zero_unit13 _) w.heap.size pre.length D rfl hown _ _ rfl hkey ?_)
        | (at_mapUpdate; refine wpList_mapUpdate_own _ rfl _ _ _ 67 rfl 3 69 keyed_int Try.underlying67 (unitElem (H := Unit)) w.heap.size pre.length _ rfl (hown.alloc _) (by unfold maxLen; omega) _ _ _ rfl rfl hkey _ [] unitElem_mk ?_; intro w1 hown1 hgrow1; have HRow1 := Lib.hid (row_kept (hrow.alloc _) (fun g hg => hgrow1.block g (by simp; have := hro g hg; omega) (by intro e; injection e with e; have := hro g hg; omega))))
        | (at_builtin; refine wpList_append_lies _ rfl (.tmp 23) (.tmp 25) 24 rfl (w.heap.size + 1) 3 i0 (.int .i64 0) 1 8 Try.underlying24 hi hz0 hz1 hz2 rfl (by decide) u5 pre.length (vs pre) rfl (HRow1.out.alloc _) ⟨w1.heap.size, 0, none⟩ 1 1 (vs [(k : Int)]) rfl rfl ?c1 (vs_one _) (by decide) ?c3 ?c4 ?c5 (w1.heap.size + 1) ?c6 ?_))
      case c1 => exact new_one w1 _ _
      case c3 => unfold maxLen; omega
      case c4 => omega
      case c5 => have := hgrow1.size; simp at this ⊢; omega
      case c6 => simp
      intro g cap w2 hown2 hgrow2 hat2 _
      have HB1 := Lib.hid ((HU.out.below.alloc HU.out.below.size _).grown hgrow1 (by simp; omega) (fun j hj => by injection hj with hj; omega))
      have HB2 := Lib.hid ((HB1.out.alloc HB1.out.size _).grown hgrow2 (by have := HB1.out.size; simp; omega) (fun j hj => by have := hro j hj; omega))
      have HM2 := Lib.hid (map_kept hown1 ((hgrow2.block w.heap.size (by have := hgrow1.size; simp at this ⊢; omega) (fun e => by have := hro w.heap.size e.symm; omega)).trans (Below.heap_alloc w1 _ _ (by have := hgrow1.size; simp at this; omega))))
      have HO2 := Lib.hid hown2
      have e0 := (HB2.out.cell (p := ⟨b, off + k * 7, none⟩) hlt).trans d0
      clear hown2 hgrow2 hat2 hown1 hgrow1 d0 hfr hown hrow hro hws hms hlenk
      go_wp2
      go_roundw
      case rel =>
        have hU := HU.out
        refine ⟨pre ++ [(k : Int)], y.p, D.put (Im.key (k : Int)) (.agg []), rfl, ?_, ?_, ?_, ?_, ?_, ?_, HB2.out⟩
        · rw [hU.sum, HUp.out, List.append_assoc]; rfl
        · intro z hz
          have hp := HPar.out
          rcases List.mem_append.1 hz with hz | hz
          · have := hU.above z hz; omega
          · rw [List.mem_singleton] at hz; omega
        · have := HPar.out; have := HL.out.1; exact .inl (by omega)
        · rw [List.length_append, vs_append]; exact HO2.out
        · rw [List.length_append]; exact HM2.out
        · refine (hU.is.put _ _).iff (fun z => ?_)
          simp
      case measure => have := HPar.out; simp [intOf]; omega

/-- Between two rounds: pre is gone, cur is next. -/
def RupRel (l : List Tr.Nd) (n0 : Int) (w : World) (i out k : Value) (wr : World) : Prop :=
  ∃ pre cur, i = .int .i64 cur ∧ k = .int .i64 (pre.length : Int) ∧ Tr.ups l n0 = pre ++ Tr.ups l cur ∧ wr.ownsRow w.heap.size 3 1 out pre.length (vs pre) ∧ Below w.heap.size w wr

set_option maxHeartbeats 4000000 in
set_option maxRecDepth 100000 in
theorem rtrup_any (a : Option Addr) (n c : Nat) (l : List Tr.Nd) (x : Int) (w : World) (h : NodesAt w w.heap.size a n l) (hr : Tr.right l = true) :
    Calls Try.prog 35 #[.slice a n c, .int .i64 x] w (NewInts (Tr.ups l x) w) := by
  obtain ⟨i0, hi, hz0, hz1, hz2⟩ := info_parts info_int
  have hl : l.length = n := h.1
  have hn120 := (Tr.right_run hr).2.1
  have HRt := Lib.hid hr
  have H := Lib.hid h
  have HL := Lib.hid (And.intro hl hn120)
  clear h hl hr hn120
  go_enter Try.func35, Try.ntmps35
  go_wp2
  go_loopw [1, 5, 6] (fun i out k wr => RupRel l x w i out k wr) (fun i _ _ _ => (intOf i + 1).toNat)
  case atStart => exact ⟨[], x, rfl, rfl, rfl, World.ownsRow_nil _ _ _ _, Below.refl _ _⟩
  case round =>
    obtain ⟨pre, cur, rfl, rfl, hsum, hO, hB⟩ := hrel
    have HLen : Hid (pre.length + (Tr.ups l cur).length ≤ n ∧ n ≤ 120) := Lib.hid (by have h1 := Tr.ups_len HRt.out x; rw [hsum, List.length_append, HL.out.1] at h1; have h2 := HL.out.2; have h3 := HL.out.1; exact ⟨h1, by omega⟩)
    have HSum := Lib.hid hsum
    have HB := Lib.hid hB
    have HO := Lib.hid hO
    clear hsum hB hO
    have hle : ((pre.length : Nat) : Int) ≤ (n : Int) := by have := HLen.out.1; omega
    have hpl : pre.length ≤ 120 := by have := HLen.out; omega
    by_cases hc : 0 ≤ cur ∧ cur < (n : Int)
    · obtain ⟨k, rfl⟩ : ∃ k : Nat, cur = (k : Int) := ⟨cur.toNat, by omega⟩
      have hkn : (k : Int) < (n : Int) := hc.2
      obtain ⟨b, off, y, rfl, hlt, hy, hky, d0, _⟩ := nodes_cell H.out (show k < n by omega)
      have HUp : Hid (Tr.ups l (k : Int) = (k : Int) :: Tr.ups l y.p) := Lib.hid (by rw [Tr.ups_in HRt.out ⟨by omega, by rw [HL.out.1]; omega⟩, Int.toNat_natCast, hy])
      have HPar : Hid (-1 ≤ y.p ∧ y.p < (k : Int)) := Lib.hid (by have := Tr.right_up HRt.out hky; rwa [hy] at this)
      clear hc hy hky
      go_wp2_with (at_builtin; refine wpList_append_lies _ rfl (.tmp 23) (.tmp 25) 24 rfl w.heap.size 3 i0 (.int .i64 0) 1 8 Try.underlying24 hi hz0 hz1 hz2 rfl (by decide) u5 pre.length (vs pre) rfl (HO.out.alloc _) ⟨wr.heap.size, 0, none⟩ 1 1 (vs [(k : Int)]) rfl rfl ?c1 (vs_one _) (by decide) ?c3 ?c4 ?c5 (wr.heap.size + 1) ?c6 ?_)
      case c1 => exact new_one wr _ _
      case c3 => have := HLen.out; unfold maxLen; omega
      case c4 => have := HLen.out; omega
      case c5 => have := HB.out.size; simp; omega
      case c6 => simp
      intro g cap w2 hown2 hgrow2 hat2 _
      have HB2 := Lib.hid (own_grown HB.out HO.out hgrow2)
      have HO2 := Lib.hid hown2
      have e0 := (HB2.out.cell (p := ⟨b, off + k * 7, none⟩) hlt).trans d0
      clear hown2 hgrow2 hat2 d0
      go_wp2
      go_roundw
      case rel =>
        refine ⟨pre ++ [(k : Int)], y.p, rfl, by rw [List.length_append, List.length_singleton]; go_num, ?_, ?_, HB2.out⟩
        · rw [HSum.out, HUp.out, List.append_assoc]; rfl
        · rw [List.length_append, vs_append]; exact HO2.out
      case measure => have := HPar.out; simp [intOf]; omega
    · have HE : Hid (Tr.ups l x = pre) := Lib.hid (by rw [HSum.out, Tr.ups_out (n := cur) (by rw [HL.out.1]; exact hc), List.append_nil])
      by_cases h1 : 0 ≤ cur
      · have h2 : ¬ cur < (n : Int) := fun h => hc ⟨h1, h⟩
        have d1 : decide (0 ≤ cur) = true := decide_eq_true h1
        have d2 : decide (cur < (n : Int)) = false := decide_eq_false h2
        clear hc
        go_wp2
        go_ret
        rw [HE.out]
        exact newInts HO.out HB.out
      · have d1 : decide (0 ≤ cur) = false := decide_eq_false h1
        clear hc
        go_wp2
        go_ret
        rw [HE.out]
        exact newInts HO.out HB.out
end Go.Proofs.Ytngkjmghhoemgaa
