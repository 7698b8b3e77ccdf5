/-
  The walk of RunsOf. Conditions: the numbers and the bytes can be read; numbers of their type.
-/
import Derived.BigQuiet
import Derived.Test.YtkibbhkdeepnlaaRuLives
import Derived.Test.YtkibbhkdeepnlaaRuPut
import Derived.Test.YtkibbhkdeepnlaaRuRefPut
import Derived.Test.YtkibbhkdeepnlaaRuInts
import Derived.Test.YtkibbhkdeepnlaaRegionG
namespace Go.Proofs.Ytkibbhkdeepnlaa
open Go.RowKit

/-- What the last statement leaves open: the new list, the copy, what Put and the document's Put answer. -/
structure OfX where
  u0 : Value
  u2 : Value
  u4 : Value
  q : Value

def OfG (La B : Option Addr) (n c nb cb : Nat) (sA sL sP : ByteArray) (x : OfX) : Nat → Value → Prop
  | 0, w => w = x.u0
  | 1, w => w = .slice B nb cb
  | 2, w => w = x.u2
  | 3, w => w = .slice La n c
  | 4, w => w = x.u4
  | 5, w => w = .string sA
  | 6, w => w = .slice B nb cb
  | 7, w => w = .string sL
  | 8, w => w = .slice La n c
  | 9, w => w = x.q
  | 10, w => w = .string sP
  | 11, w => w = .string sA
  | 12, w => w = .bool true
  | 13, w => w = .bool true
  | 14, w => w = .bool true
  | 15, w => w = .bool true
  | _, w => w = .bool true

theorem ofg_0 {La B : Option Addr} {n c nb cb : Nat} {sA sL sP : ByteArray} {x : OfX} {D : Nat → Bool} {v : Value} (h : D 0 = false) : ∀ j w, D j = true → OfG La B n c nb cb sA sL sP x j w → OfG La B n c nb cb sA sL sP ⟨v, x.u2, x.u4, x.q⟩ j w
  | 1, _, _, h | 2, _, _, h | 3, _, _, h | 4, _, _, h | 5, _, _, h | 6, _, _, h | 7, _, _, h | 8, _, _, h | 9, _, _, h | 10, _, _, h | 11, _, _, h | 12, _, _, h | 13, _, _, h | 14, _, _, h | 15, _, _, h => h
  | 0, _, hj, _ => by rw [h] at hj; cases hj
  | _ + 16, _, _, h => h
theorem ofg_2 {La B : Option Addr} {n c nb cb : Nat} {sA sL sP : ByteArray} {x : OfX} {D : Nat → Bool} {v : Value} (h : D 2 = false) : ∀ j w, D j = true → OfG La B n c nb cb sA sL sP x j w → OfG La B n c nb cb sA sL sP ⟨x.u0, v, x.u4, x.q⟩ j w
  | 0, _, _, h | 1, _, _, h | 3, _, _, h | 4, _, _, h | 5, _, _, h | 6, _, _, h | 7, _, _, h | 8, _, _, h | 9, _, _, h | 10, _, _, h | 11, _, _, h | 12, _, _, h | 13, _, _, h | 14, _, _, h | 15, _, _, h => h
  | 2, _, hj, _ => by rw [h] at hj; cases hj
  | _ + 16, _, _, h => h
theorem ofg_4 {La B : Option Addr} {n c nb cb : Nat} {sA sL sP : ByteArray} {x : OfX} {D : Nat → Bool} {v : Value} (h : D 4 = false) : ∀ j w, D j = true → OfG La B n c nb cb sA sL sP x j w → OfG La B n c nb cb sA sL sP ⟨x.u0, x.u2, v, x.q⟩ j w
  | 0, _, _, h | 1, _, _, h | 2, _, _, h | 3, _, _, h | 5, _, _, h | 6, _, _, h | 7, _, _, h | 8, _, _, h | 9, _, _, h | 10, _, _, h | 11, _, _, h | 12, _, _, h | 13, _, _, h | 14, _, _, h | 15, _, _, h => h
  | 4, _, hj, _ => by rw [h] at hj; cases hj
  | _ + 16, _, _, h => h
theorem ofg_9 {La B : Option Addr} {n c nb cb : Nat} {sA sL sP : ByteArray} {x : OfX} {D : Nat → Bool} {v : Value} (h : D 9 = false) : ∀ j w, D j = true → OfG La B n c nb cb sA sL sP x j w → OfG La B n c nb cb sA sL sP ⟨x.u0, x.u2, x.u4, v⟩ j w
  | 0, _, _, h | 1, _, _, h | 2, _, _, h | 3, _, _, h | 4, _, _, h | 5, _, _, h | 6, _, _, h | 7, _, _, h | 8, _, _, h | 10, _, _, h | 11, _, _, h | 12, _, _, h | 13, _, _, h | 14, _, _, h | 15, _, _, h => h
  | 9, _, hj, _ => by rw [h] at hj; cases hj
  | _ + 16, _, _, h => h

/-- The world while the last statement runs. -/
structure OfC (w0 : World) (lb m : List Nat) (x : OfX) (D : Nat → Bool) (W : World) : Prop where
  own0 : D 0 = true → D 2 = false → W.ownsRow w0.heap.size 5 1 x.u0 0 []
  own2 : D 2 = true → D 4 = false → W.ownsRow w0.heap.size 5 1 x.u2 lb.length (bs lb)
  own4 : D 4 = true → W.ownsRow w0.heap.size 5 1 x.u4 (lb.length + m.length) (bs lb ++ bs m)
  ref : D 9 = true → W.ownsRow w0.heap.size 5 1 x.q m.length (bs m)
  ap0 : D 9 = true → D 0 = true → D 2 = false → x.q.ownBlock = none ∨ x.q.ownBlock ≠ x.u0.ownBlock
  ap2 : D 9 = true → D 2 = true → D 4 = false → x.q.ownBlock = none ∨ x.q.ownBlock ≠ x.u2.ownBlock
  row : Below w0.heap.size w0 W

section
variable {w0 W : World} {lb m : List Nat} {x : OfX} {D : Nat → Bool}
theorem OfC.up (h : OfC w0 lb m x D W) {i : Nat} (h0 : ((0 : Nat) == i) = false) (h2 : ((2 : Nat) == i) = false) (h4 : ((4 : Nat) == i) = false) (h9 : ((9 : Nat) == i) = false) : OfC w0 lb m x (add D i) W := by
  obtain ⟨a, b, c, d, e, f, g⟩ := h
  constructor
  · rw [up_other h0, up_other h2]; exact a
  · rw [up_other h2, up_other h4]; exact b
  · rw [up_other h4]; exact c
  · rw [up_other h9]; exact d
  · rw [up_other h9, up_other h0, up_other h2]; exact e
  · rw [up_other h9, up_other h2, up_other h4]; exact f
  · exact g
theorem OfC.kept (h : OfC w0 lb m x D W) {W' : World} (hb : Below W.heap.size W W') : OfC w0 lb m x D W' := by
  obtain ⟨a, b, c, d, e, f, g⟩ := h
  exact ⟨fun h1 h2 => ownsRow_below (a h1 h2) hb, fun h1 h2 => ownsRow_below (b h1 h2) hb, fun h1 => ownsRow_below (c h1) hb, fun h1 => ownsRow_below (d h1) hb, e, f, g.trans (hb.mono g.size)⟩
theorem OfC.born (h : OfC w0 lb m x D W) (h2 : D 2 = false) (h4 : D 4 = false) : OfC w0 lb m ⟨.slice (some ⟨W.heap.size, 0, none⟩) 0 0, x.u2, x.u4, x.q⟩ (add D 0) (W.alloc (.cells #[] 5)) := by
  have hb : Below W.heap.size W (W.alloc (.cells #[] 5)) := (Below.refl _ _).alloc (Nat.le_refl _) _
  refine ⟨fun _ _ => World.ownsRow_lit W #[] 0 h.row.size (by decide) rfl, ?_, ?_, ?_, ?_, ?_, h.row.trans (hb.mono h.row.size)⟩
  · rw [up_other rfl, h2]; intro e; cases e
  · rw [up_other rfl, h4]; intro e; cases e
  · rw [up_other rfl]; exact fun h9 => ownsRow_below (h.ref h9) hb
  · rw [up_other rfl]
    intro h9 _ _
    cases hq : x.q.ownBlock with
    | none => exact .inl rfl
    | some k =>
      refine .inr (fun e => ?_)
      have := ((h.ref h9).lt k hq).2
      simp [Value.ownBlock] at e
      omega
  · rw [up_other rfl, up_other rfl, h2]; intro _ e; cases e
theorem OfC.appends (h : OfC w0 lb m x D W) (h0 : D 0 = true) (h2 : D 2 = false) (h4 : D 4 = false) {B : Option Addr} {nb cb : Nat} (hB : BytesAt w0 w0.heap.size B nb lb) (hnil : B = none → cb = 0) (hnb : nb ≤ 140737488355328) :
    ∃ v' w', (∀ ty, ty = 23 → (Builtin.append_ #[23, 23] ty #[x.u0, .slice B nb cb]).run Try.prog W = .ok v' w') ∧ OfC w0 lb m ⟨x.u0, v', x.u4, x.q⟩ (add D 2) w' := by
  have hown := h.own0 h0 h2
  obtain ⟨v', w', hr, hinv⟩ := append_bytes_at (c := cb) hown (hB.below h.row) hnil h.row.size (by omega)
  refine ⟨v', w', hr, ?_⟩
  have hb := hinv.below hown h.row.size
  refine ⟨?_, ?_, ?_, ?_, ?_, ?_, h.row.trans hb⟩
  · rw [up_self]; intro _ e; cases e
  · intro _ _
    have := hinv.1
    rw [Nat.zero_add, List.nil_append, ← hB.1] at this
    exact this
  · rw [up_other rfl, h4]; intro e; cases e
  · rw [up_other rfl]; exact fun h9 => (h.ref h9).kept hinv.2.1 (h.ap0 h9 h0 h2)
  · rw [up_self]; intro _ _ e; cases e
  · rw [up_other rfl]
    intro h9 _ _
    rcases h.ap0 h9 h0 h2 with e | e
    · exact .inl e
    · rcases hinv.2.2 with h1 | ⟨g, h1, hg⟩
      · exact .inr (by rw [h1]; exact e)
      · refine .inr (fun e' => ?_)
        have := ((h.ref h9).lt g (e'.trans h1)).2
        omega
theorem OfC.put (h : OfC w0 lb m x D W) (h4 : D 4 = false) (h2 : D 2 = true) {v : Value} {W' : World} (hinv : OwnInv w0.heap.size W x.u2 v (lb.length + m.length) (bs lb ++ bs m) W') : OfC w0 lb m ⟨x.u0, x.u2, v, x.q⟩ (add D 4) W' := by
  have hown := h.own2 h2 h4
  refine ⟨?_, ?_, fun _ => hinv.1, ?_, ?_, ?_, h.row.trans (hinv.below hown h.row.size)⟩
  · rw [up_other rfl, up_other rfl, h2]; intro _ e; cases e
  · rw [up_self]; intro _ e; cases e
  · rw [up_other rfl]; exact fun h9 => (h.ref h9).kept hinv.2.1 (h.ap2 h9 h2 h4)
  · rw [up_other rfl, up_other rfl, up_other rfl, h2]; intro _ _ e; cases e
  · rw [up_self]; intro _ _ e; cases e
theorem OfC.ref9 (h : OfC w0 lb m x D W) {v : Value} {W' : World} (hown : W'.ownsRow W.heap.size 5 1 v m.length (bs m)) (hb : Below W.heap.size W W') : OfC w0 lb m ⟨x.u0, x.u2, x.u4, v⟩ (add D 9) W' := by
  have hk := h.kept hb
  have far : ∀ (u : Value) k ys, W.ownsRow w0.heap.size 5 1 u k ys → v.ownBlock = none ∨ v.ownBlock ≠ u.ownBlock := by
    intro u k ys hu
    cases hv : v.ownBlock with
    | none => exact .inl rfl
    | some g =>
      refine .inr (fun e => ?_)
      have h1 := (hown.lt g hv).1
      have h2 := (hu.lt g e.symm).2
      omega
  refine ⟨?_, ?_, ?_, fun _ => ownsRow_base hown h.row.size, ?_, ?_, hk.row⟩
  · rw [up_other rfl, up_other rfl]; exact hk.own0
  · rw [up_other rfl, up_other rfl]; exact hk.own2
  · rw [up_other rfl]; exact hk.own4
  · rw [up_other (i := 9) (j := 0) rfl, up_other (i := 9) (j := 2) rfl]; exact fun _ h0 h2 => far _ _ _ (h.own0 h0 h2)
  · rw [up_other (i := 9) (j := 2) rfl, up_other (i := 9) (j := 4) rfl]; exact fun _ h2 h4 => far _ _ _ (h.own2 h2 h4)
theorem conv_row {base k : Nat} {v : Value} {l : List Nat} (hl : l.length = k) (h : W.ownsRow base 5 1 v k (bs l)) (hb : ∀ c ∈ l, c < 256) : ∃ A k c, v = .slice A k c ∧ (convert 23 9 (.slice A k c)).run Try.prog W = .ok (.string (str l)) W := by
  subst hl
  rcases h.2 with ⟨rfl, h0⟩ | ⟨g, cap, cur, rfl, _, hg, _, _, _, ht⟩
  · have hl0 : l = [] := List.eq_nil_of_length_eq_zero h0
    subst hl0
    exact ⟨none, 0, 0, rfl, conv_nil W⟩
  · exact ⟨_, _, cap, rfl, conv_own (cur := cur) hg rfl (by simpa using ht)⟩
theorem OfC.convA (h : OfC w0 lb m x D W) (h4 : D 4 = true) (hb : ∀ c ∈ lb, c < 256) (hm : ∀ c ∈ m, c < 256) : ∃ A k c, x.u4 = .slice A k c ∧ (convert 23 9 (.slice A k c)).run Try.prog W = .ok (.string (str (lb ++ m))) W := by
  have := h.own4 h4
  rw [← bs_append] at this
  exact conv_row (by simp) this (fun c hc => (List.mem_append.1 hc).elim (hb c) (hm c))
theorem OfC.convP (h : OfC w0 lb m x D W) (h9 : D 9 = true) (hm : ∀ c ∈ m, c < 256) : ∃ A k c, x.q = .slice A k c ∧ (convert 23 9 (.slice A k c)).run Try.prog W = .ok (.string (str m)) W := conv_row rfl (h.ref h9) hm
theorem of_start (h : Below w0.heap.size w0 W) : OfC w0 lb m x (fun _ => false) W.drew := ⟨(fun e => by cases e), (fun e => by cases e), (fun e => by cases e), (fun e => by cases e), (fun e => by cases e), (fun e => by cases e), h.drew⟩
end

def OlRel (w : World) (n : Nat) (i : Value) (wr : World) : Prop := ∃ k : Nat, k ≤ n ∧ i = .int .i64 (k : Int) ∧ Below w.heap.size w wr

set_option maxHeartbeats 8000000 in
set_option maxRecDepth 100000 in
theorem of_walk (La : Option Addr) (n c : Nat) (l : List Int) (B : Option Addr) (nb cb : Nat) (lb : List Nat) (w0 : World) (h : IntsAt w0 w0.heap.size La n l) (hn : n ≤ 9223372036854775807) (hz : ∀ z ∈ l, -9223372036854775808 ≤ z ∧ z ≤ 9223372036854775807) (hB : BytesAt w0 w0.heap.size B nb lb) (hnb : nb ≤ 140737488351232) (hnil : B = none → cb = 0) :
    Calls Try.prog 3 #[.slice La n c, .slice B nb cb] w0 (BoolP true w0) := by
  by_cases h300 : 300 < n
  · have hi : (300 : Int) < (n : Int) := by omega
    clear h hz hB hnil
    go_enter Try.func3, Try.ntmps3
    go_wp2_with (go_at_call 7; refine (lives_any _).mono ?_; rintro e w1 ⟨rfl, hb1⟩)
    go_ret
    exact ⟨rfl, hb1⟩
  have hi : ¬ (300 : Int) < (n : Int) := by omega
  by_cases h50 : 50 < nb
  · have hi2 : (50 : Int) < (nb : Int) := by omega
    clear h hz hB hnil
    go_enter Try.func3, Try.ntmps3
    go_wp2_with (go_at_call 7; refine (lives_any _).mono ?_; rintro e w1 ⟨rfl, hb1⟩)
    go_ret
    exact ⟨rfl, hb1⟩
  have hi2 : ¬ (50 : Int) < (nb : Int) := by omega
  have hrl : (Ru.of l).length ≤ n := by have := Ru.of_len l; rwa [h.1] at this
  have hll : l.length ≤ 2000 := by rw [h.1]; omega
  have HI := Lib.hid h
  have HZ := Lib.hid hz
  have HBA := Lib.hid hB
  have HRL := Lib.hid hrl
  have HROW := Lib.hid (Ru.row_of hll)
  have HRT := Lib.hid (Ru.right_of hll)
  have HLL : Hid ((Ru.laid (Ru.of l)).length ≤ 20 * n) := Lib.hid (Nat.le_trans (Ru.laid_len (of_fits hz (by omega))) (Nat.mul_le_mul_left _ hrl))
  have HLB := Lib.hid (Ru.laid_byte (Ru.of l))
  have HPUT : Hid (∀ u W, W.ownsRow w0.heap.size 5 1 u lb.length (bs lb) → Below w0.heap.size w0 W → Calls Try.prog 13 #[u, .slice La n c] W (OwnPost w0.heap.size W u (lb.length + (Ru.laid (Ru.of l)).length) (bs lb ++ bs (Ru.laid (Ru.of l))))) := Lib.hid (fun u W hu hb => runsPut_own w0.heap.size u lb.length (bs lb) La n c l W hu hb.size ((h.below hb).more hb.size) (by omega) hz (by have := HLL.out; have := HBA.out.1; omega))
  have HREF : Hid (∀ W, Below w0.heap.size w0 W → Calls Try.prog 14 #[.slice La n c] W (NewPost (Ru.laid (Ru.of l)) W)) := Lib.hid (fun W hb => rrunsPut_any La n c l W ((h.below hb).more hb.size) (by omega) hz)
  have HOF := Lib.hid (of_any La n c l w0 h (by omega) hz)
  have HROF := Lib.hid (fun W (hb : Below w0.heap.size w0 W) => rof_any La n c l W ((h.below hb).more hb.size) (by omega))
  clear h hz hB hrl hll
  generalize Ru.laid (Ru.of l) = m at *
  generalize Ru.of l = r at *
  go_enter Try.func3, Try.ntmps3
  go_wp2_with fail
  refine HOF.out.mono ?_
  rintro e w1 ⟨v1, rfl, hown1, hb1⟩
  obtain ⟨A1, c1, rfl, hp1, hc1⟩ := runs_slice hown1
  have hcm1 := own_cap hown1
  have HP1 := Lib.hid hp1
  have HB1 := Lib.hid hb1
  clear hown1 hp1 hb1 HOF
  go_wp2_with fail
  refine (HROF.out _ HB1.out).mono ?_
  rintro e w2 ⟨v2, rfl, hown2, hb2⟩
  obtain ⟨A2, c2, rfl, hp2, _⟩ := runs_slice hown2
  have HP1b := Lib.hid ((HP1.out.below hb2).more hb2.size)
  have HP2 := Lib.hid hp2
  have HB2 := Lib.hid (HB1.out.trans (hb2.mono HB1.out.size))
  clear hown2 hp2 hb2 HROF HP1
  have HRow := Lib.hid (row_any A1 r.length c1 r w2 HP1b.out (by have := HRL.out; omega))
  rw [HROW.out] at HRow
  go_wp2_with fail
  refine HRow.out.mono ?_
  rintro e w3 ⟨v3, rfl, hown3, hb3⟩
  obtain ⟨A3, c3, rfl, hi3⟩ := nums_slice hown3
  have HB3 := Lib.hid (HB2.out.trans (hb3.mono HB2.out.size))
  have HP13 := Lib.hid ((HP1b.out.below hb3).more hb3.size)
  have HP23 := Lib.hid ((HP2.out.below hb3).more hb3.size)
  have HIN := Lib.hid (ints_any A3 _ c3 l La n c l w3 hi3 ((HI.out.below HB3.out).more HB3.out.size) (by rw [HI.out.1]; omega))
  rw [decide_eq_true rfl] at HIN
  clear hown3 hb3 hi3 HRow HP1b HP2
  go_wp2_with fail
  refine HIN.out.mono ?_
  rintro e w4 ⟨rfl, hb4⟩
  have HB4 := Lib.hid (HB3.out.trans (hb4.mono HB3.out.size))
  have HP14 := Lib.hid ((HP13.out.below hb4).more hb4.size)
  have HP24 := Lib.hid ((HP23.out.below hb4).more hb4.size)
  have HRG := Lib.hid (right_any A1 r.length c1 r w4 HP14.out hc1 hcm1)
  rw [HRT.out] at HRG
  clear hb4 HIN HP13 HP23
  go_wp2_with fail
  refine HRG.out.mono ?_
  rintro e w5 ⟨rfl, hb5⟩
  have HB5 := Lib.hid (HB4.out.trans (hb5.mono HB4.out.size))
  have HP15 := Lib.hid ((HP14.out.below hb5).more hb5.size)
  have HP25 := Lib.hid ((HP24.out.below hb5).more hb5.size)
  clear hb5 HRG HP14 HP24
  go_wp2
  go_loopw [7] (OlRel w5 r.length) (fun i _ => r.length - (intOf i).toNat)
  case atStart => exact ⟨0, Nat.zero_le _, rfl, Below.refl _ _⟩
  case round =>
    obtain ⟨k, hk, rfl, hb⟩ := hrel
    have HBr := Lib.hid hb
    have hrl := HRL.out
    by_cases hlt : k < r.length
    · obtain ⟨b1, o1, rfl, _, hc1'⟩ := (HP15.out.below hb).2 (by omega)
      obtain ⟨b2, o2, rfl, _, hc2'⟩ := (HP25.out.below hb).2 (by omega)
      obtain ⟨e10, e11⟩ := hc1' k hlt
      obtain ⟨e20, e21⟩ := hc2' k hlt
      clear hc1' hc2' hb
      generalize r.getD k (0, 0) = p at *
      obtain ⟨N, V⟩ := p
      simp only at e10 e11 e20 e21
      go_wp2
      go_quiet (fail)
      go_wp2
      go_roundw
      case rel => exact ⟨k + 1, by omega, by go_num, below_drewN HBr.out _⟩
      case measure => simp [intOf]; omega
    · have HBw := Lib.hid (HB5.out.trans (hb.mono HB5.out.size))
      obtain ⟨sA, hsA⟩ : ∃ s, s = str (lb ++ m) := ⟨_, rfl⟩
      obtain ⟨sL, hsL⟩ : ∃ s, s = str lb := ⟨_, rfl⟩
      obtain ⟨sP, hsP⟩ : ∃ s, s = str m := ⟨_, rfl⟩
      have hcat : sL ++ sP = sA := by rw [hsA, hsL, hsP, str_append]
      have hss : sL.size + sP.size ≤ 9223372036854775807 := by rw [hsL, hsP, str_size, str_size]; have := HLL.out; have := HBA.out.1; omega
      have HCB := Lib.hid (show ∀ W, Below w0.heap.size w0 W → (convert 23 9 (.slice B nb cb)).run Try.prog W = .ok (.string sL) W from fun W hW => by rw [hsL]; exact conv_bytes (HBA.out.below hW))
      have HSA := Lib.hid hsA
      have HSP := Lib.hid hsP
      have HCAT := Lib.hid hcat
      have HSS := Lib.hid hss
      have hby := HBA.out.2.1
      have hbm := HLB.out
      clear hb hsA hsL hsP hcat hss
      go_wp2_with fail
      refine region_g (⟨.slice none 0 0, .slice none 0 0, .slice none 0 0, .slice none 0 0⟩ : OfX) 84 [(0, .slice La n c), (1, .slice B nb cb)] (OfC w0 lb m) (OfG La B n c nb cb sA sL sP) (by kernel_rfl) (by kernel_rfl) (by kernel_rfl) rfl rfl (by intro p hp; simp only [List.mem_cons, List.not_mem_nil, or_false] at hp; rcases hp with rfl | rfl <;> rfl) (of_start HBw.out) ?_ ?_
      · refine ⟨?_, ?_, ?_, ?_, ?_, ?_, ?_, ?_, ?_, ?_, ?_, ?_, ?_, ?_, ?_, ?_, ?_, trivial⟩
        · intro x D a w hI hdep hD0 K hK
          have h2 := hI.not_up hD0 2 rfl
          exact ok_new (wanted_none rfl) (v := .slice (some ⟨w.heap.size, 0, none⟩) 0 0) (w' := w.alloc (.cells #[] 5)) (by go_simp) (hK ⟨.slice (some ⟨w.heap.size, 0, none⟩) 0 0, x.u2, x.u4, x.q⟩ _ _ (hI.world.born h2 (hI.not_up h2 4 rfl)) (ofg_0 hD0) rfl)
        · intro x D a w hI hdep hD0 K hK
          have e1 : a.eval (.tmp 1) = .slice B nb cb := hI.fast (1, .slice B nb cb) (by simp)
          refine ok_value (wanted_none rfl) (v := .slice B nb cb) ?_ (hK x _ _ (hI.world.up rfl rfl rfl rfl) (fun _ _ _ h => h) rfl)
          have ec : ∀ c, a.eval (.const c) = c := fun _ => rfl
          have ef : ∀ f, a.eval (.func f) = .func (.func f) #[] #[] := fun _ => rfl
          clear hI hdep hK
          generalize a.eval = ρ at e1 ec ef ⊢
          go_simp
        · intro x D a w hI hdep hD0 K hK
          have e68 : a.eval (.tmp 68) = x.u0 := hI.good 0 68 (dep_of hdep 0 rfl) rfl
          have e69 : a.eval (.tmp 69) = .slice B nb cb := hI.good 1 69 (dep_of hdep 1 rfl) rfl
          have h4 := hI.not_up hD0 4 rfl
          obtain ⟨v2, w2, hr, hC⟩ := hI.world.appends (dep_of hdep 0 rfl) hD0 h4 HBA.out hnil (by omega)
          exact ok_append (wanted_none rfl) (.tmp 68) (.tmp 69) 23 23 rfl (by rw [e68, e69]; exact hr _ rfl) (hK ⟨x.u0, v2, x.u4, x.q⟩ _ _ hC (ofg_2 hD0) rfl)
        · intro x D a w hI hdep hD0 K hK
          have e0 : a.eval (.tmp 0) = .slice La n c := hI.fast (0, .slice La n c) (by simp)
          refine ok_value (wanted_none rfl) (v := .slice La n c) ?_ (hK x _ _ (hI.world.up rfl rfl rfl rfl) (fun _ _ _ h => h) rfl)
          have ec : ∀ c, a.eval (.const c) = c := fun _ => rfl
          have ef : ∀ f, a.eval (.func f) = .func (.func f) #[] #[] := fun _ => rfl
          clear hI hdep hK
          generalize a.eval = ρ at e0 ec ef ⊢
          go_simp
        · intro x D a w hI hdep hD0 K hK
          have e70 : a.eval (.tmp 70) = x.u2 := hI.good 2 70 (dep_of hdep 2 rfl) rfl
          have e71 : a.eval (.tmp 71) = .slice La n c := hI.good 3 71 (dep_of hdep 3 rfl) rfl
          refine ok_call (wanted_none rfl) (f := 13) (args := #[x.u2, .slice La n c]) ?_ (HPUT.out x.u2 w (hI.world.own2 (dep_of hdep 2 rfl) hD0) hI.world.row) ?_
          · have ec : ∀ c, a.eval (.const c) = c := fun _ => rfl
            have ef : ∀ f, a.eval (.func f) = .func (.func f) #[] #[] := fun _ => rfl
            clear hI hdep hK
            generalize a.eval = ρ at e70 e71 ec ef ⊢
            go_simp
          · rintro e w2 ⟨v, rfl, hinv⟩
            exact ⟨_, rfl, hK ⟨x.u0, x.u2, v, x.q⟩ _ _ (hI.world.put hD0 (dep_of hdep 2 rfl) hinv) (ofg_4 hD0) rfl⟩
        · intro x D a w hI hdep hD0 K hK
          have e72 : a.eval (.tmp 72) = x.u4 := hI.good 4 72 (dep_of hdep 4 rfl) rfl
          obtain ⟨A4, k4, c4, h4, hc4⟩ := hI.world.convA (dep_of hdep 4 rfl) hby hbm
          rw [h4] at e72
          rw [← HSA.out] at hc4
          refine ok_value (wanted_none rfl) (v := .string sA) ?_ (hK x _ _ (hI.world.up rfl rfl rfl rfl) (fun _ _ _ h => h) rfl)
          have ec : ∀ c, a.eval (.const c) = c := fun _ => rfl
          have ef : ∀ f, a.eval (.func f) = .func (.func f) #[] #[] := fun _ => rfl
          clear hI hdep hK
          generalize a.eval = ρ at e72 ec ef ⊢
          go_simp
        · intro x D a w hI hdep hD0 K hK
          have e1 : a.eval (.tmp 1) = .slice B nb cb := hI.fast (1, .slice B nb cb) (by simp)
          refine ok_value (wanted_none rfl) (v := .slice B nb cb) ?_ (hK x _ _ (hI.world.up rfl rfl rfl rfl) (fun _ _ _ h => h) rfl)
          have ec : ∀ c, a.eval (.const c) = c := fun _ => rfl
          have ef : ∀ f, a.eval (.func f) = .func (.func f) #[] #[] := fun _ => rfl
          clear hI hdep hK
          generalize a.eval = ρ at e1 ec ef ⊢
          go_simp
        · intro x D a w hI hdep hD0 K hK
          have e74 : a.eval (.tmp 74) = .slice B nb cb := hI.good 6 74 (dep_of hdep 6 rfl) rfl
          have hc' := HCB.out w hI.world.row
          refine ok_value (wanted_none rfl) (v := .string sL) ?_ (hK x _ _ (hI.world.up rfl rfl rfl rfl) (fun _ _ _ h => h) rfl)
          have ec : ∀ c, a.eval (.const c) = c := fun _ => rfl
          have ef : ∀ f, a.eval (.func f) = .func (.func f) #[] #[] := fun _ => rfl
          clear hI hdep hK
          generalize a.eval = ρ at e74 ec ef ⊢
          go_simp
        · intro x D a w hI hdep hD0 K hK
          have e0 : a.eval (.tmp 0) = .slice La n c := hI.fast (0, .slice La n c) (by simp)
          refine ok_value (wanted_none rfl) (v := .slice La n c) ?_ (hK x _ _ (hI.world.up rfl rfl rfl rfl) (fun _ _ _ h => h) rfl)
          have ec : ∀ c, a.eval (.const c) = c := fun _ => rfl
          have ef : ∀ f, a.eval (.func f) = .func (.func f) #[] #[] := fun _ => rfl
          clear hI hdep hK
          generalize a.eval = ρ at e0 ec ef ⊢
          go_simp
        · intro x D a w hI hdep hD0 K hK
          have e76 : a.eval (.tmp 76) = .slice La n c := hI.good 8 76 (dep_of hdep 8 rfl) rfl
          refine ok_call (wanted_none rfl) (f := 14) (args := #[.slice La n c]) ?_ (HREF.out w hI.world.row) ?_
          · have ec : ∀ c, a.eval (.const c) = c := fun _ => rfl
            have ef : ∀ f, a.eval (.func f) = .func (.func f) #[] #[] := fun _ => rfl
            clear hI hdep hK
            generalize a.eval = ρ at e76 ec ef ⊢
            go_simp
          · rintro e w2 ⟨v, rfl, hown, hb⟩
            exact ⟨_, rfl, hK ⟨x.u0, x.u2, x.u4, v⟩ _ _ (hI.world.ref9 hown hb) (ofg_9 hD0) rfl⟩
        · intro x D a w hI hdep hD0 K hK
          have e77 : a.eval (.tmp 77) = x.q := hI.good 9 77 (dep_of hdep 9 rfl) rfl
          obtain ⟨A4, k4, c4, h4, hc4⟩ := hI.world.convP (dep_of hdep 9 rfl) hbm
          rw [h4] at e77
          rw [← HSP.out] at hc4
          refine ok_value (wanted_none rfl) (v := .string sP) ?_ (hK x _ _ (hI.world.up rfl rfl rfl rfl) (fun _ _ _ h => h) rfl)
          have ec : ∀ c, a.eval (.const c) = c := fun _ => rfl
          have ef : ∀ f, a.eval (.func f) = .func (.func f) #[] #[] := fun _ => rfl
          clear hI hdep hK
          generalize a.eval = ρ at e77 ec ef ⊢
          go_simp
        · intro x D a w hI hdep hD0 K hK
          have e75 : a.eval (.tmp 75) = .string sL := hI.good 7 75 (dep_of hdep 7 rfl) rfl
          have e78 : a.eval (.tmp 78) = .string sP := hI.good 10 78 (dep_of hdep 10 rfl) rfl
          have hcat := HCAT.out
          have hss := HSS.out
          refine ok_value (wanted_none rfl) (v := .string sA) ?_ (hK x _ _ (hI.world.up rfl rfl rfl rfl) (fun _ _ _ h => h) rfl)
          have ec : ∀ c, a.eval (.const c) = c := fun _ => rfl
          have ef : ∀ f, a.eval (.func f) = .func (.func f) #[] #[] := fun _ => rfl
          clear hI hdep hK
          generalize a.eval = ρ at e75 e78 ec ef ⊢
          go_simp
        · intro x D a w hI hdep hD0 K hK
          have e73 : a.eval (.tmp 73) = .string sA := hI.good 5 73 (dep_of hdep 5 rfl) rfl
          have e79 : a.eval (.tmp 79) = .string sA := hI.good 11 79 (dep_of hdep 11 rfl) rfl
          refine ok_value (wanted_none rfl) (v := .bool true) ?_ (hK x _ _ (hI.world.up rfl rfl rfl rfl) (fun _ _ _ h => h) rfl)
          have ec : ∀ c, a.eval (.const c) = c := fun _ => rfl
          have ef : ∀ f, a.eval (.func f) = .func (.func f) #[] #[] := fun _ => rfl
          clear hI hdep hK
          generalize a.eval = ρ at e73 e79 ec ef ⊢
          go_simp
        · intro x D a w hI hdep hD0 K hK
          have e80 : a.eval (.tmp 80) = .bool true := hI.good 12 80 (dep_of hdep 12 rfl) rfl
          refine ok_value (wanted_none rfl) (v := .bool true) ?_ (hK x _ _ (hI.world.up rfl rfl rfl rfl) (fun _ _ _ h => h) rfl)
          have ec : ∀ c, a.eval (.const c) = c := fun _ => rfl
          have ef : ∀ f, a.eval (.func f) = .func (.func f) #[] #[] := fun _ => rfl
          clear hI hdep hK
          generalize a.eval = ρ at e80 ec ef ⊢
          go_simp
        · intro x D a w hI hdep hD0 K hK
          have eg : a.eval (.tmp 81) = .bool true := hI.good 13 81 (dep_of hdep 13 rfl) rfl
          refine ok_call (wanted_is rfl rfl hI.size (by decide) eg) (f := 7) (args := #[]) (by go_simp) (lives_any w) ?_
          rintro e w2 ⟨rfl, hb2⟩
          exact ⟨_, rfl, hK x _ _ ((hI.world.kept hb2).up rfl rfl rfl rfl) (fun _ _ _ h => h) rfl⟩
        · intro x D a w hI hdep hD0 K hK
          have e81 : a.eval (.tmp 81) = .bool true := hI.good 13 81 (dep_of hdep 13 rfl) rfl
          have e82 : a.eval (.tmp 82) = .bool true := hI.good 14 82 (dep_of hdep 14 rfl) rfl
          refine ok_value (wanted_none rfl) (v := .bool true) ?_ (hK x _ _ (hI.world.up rfl rfl rfl rfl) (fun _ _ _ h => h) rfl)
          have ec : ∀ c, a.eval (.const c) = c := fun _ => rfl
          have ef : ∀ f, a.eval (.func f) = .func (.func f) #[] #[] := fun _ => rfl
          clear hI hdep hK
          generalize a.eval = ρ at e81 e82 ec ef ⊢
          go_simp
        · intro x D a w hI hdep hD0 K hK
          have e83 : a.eval (.tmp 83) = .bool true := hI.good 15 83 (dep_of hdep 15 rfl) rfl
          refine ok_value (wanted_none rfl) (v := .bool true) ?_ (hK x _ _ (hI.world.up rfl rfl rfl rfl) (fun _ _ _ h => h) rfl)
          have ec : ∀ c, a.eval (.const c) = c := fun _ => rfl
          have ef : ∀ f, a.eval (.func f) = .func (.func f) #[] #[] := fun _ => rfl
          clear hI hdep hK
          generalize a.eval = ρ at e83 ec ef ⊢
          go_simp
      · intro x D a' w' hI hD
        have e0 : a'.eval (.tmp 4) = .bool true := hI.good 16 4 (hD 16 (by decide)) rfl
        have hd := hI.defers
        have hBw := hI.world.row
        obtain ⟨tmps, defers⟩ := a'
        simp only at hd
        subst hd
        clear hI hD
        go_wp2
        go_ret
        exact ⟨congrArg Ending.returned e0, hBw⟩
end Go.Proofs.Ytkibbhkdeepnlaa
