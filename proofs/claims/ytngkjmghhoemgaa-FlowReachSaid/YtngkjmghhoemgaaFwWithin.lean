/-
  Whether each instruction that is told is there: the program's answer. Conditions: the function can be read, and laid; words of 64 bits; not more than a million instructions and nodes.
-/
import Derived.Test.YtngkjmghhoemgaaFwCatch
import Derived.Test.YtngkjmghhoemgaaFwNext
namespace Go.Proofs.Ytngkjmghhoemgaa
open Go.RowKit

set_option maxHeartbeats 1000000 in
set_option maxRecDepth 100000 in
theorem fwbeyond_any (q : Nat) (v : FnV) (f : Fn.F) (x : Int) (w : World) (hA : FnAt w q v) (hn : f.code.length = v.code.n) :
    Calls Try.prog 25 #[.int .i64 x, .pointer (some ⟨q, 0, none⟩)] w (BoolP (!Fw.has f x) w) := by
  have H := fwhas_any v x w
  rw [← hn] at H
  have HE : Hid (Fw.has f x = decide (0 ≤ x ∧ x < (f.code.length : Int))) := Lib.hid rfl
  rw [HE.out]
  have c0 := hA.c0; have c1 := hA.c1; have c2 := hA.c2; have c3 := hA.c3; have c4 := hA.c4; have c5 := hA.c5; have c6 := hA.c6; have c7 := hA.c7; have c8 := hA.c8; have c9 := hA.c9; have c10 := hA.c10
  clear hA HE hn
  generalize decide (0 ≤ x ∧ x < (f.code.length : Int)) = r at *
  obtain ⟨nm, inn, ⟨oa, on, oc⟩, ⟨pa, pn, pc⟩, ⟨ra, rn, rc⟩, ⟨la, ln, lc⟩, ⟨ca, cn, cc⟩, ⟨ia, i_n, ic⟩, ⟨na, nn, nc⟩, ⟨ta, tn, tc⟩, ⟨va, vn, vc⟩⟩ := v
  go_enter Try.func25, Try.ntmps25
  go_wp2_with (go_at_call 16; refine H.mono ?_; rintro _ w1 ⟨rfl, hb1⟩)
  go_ret
  exact ⟨rfl, hb1⟩

/-- Between two rounds: each of the first k is there. -/
def WiRel (f : Fn.F) (n : Nat) (l : List Int) (w : World) (i : Value) (wr : World) : Prop :=
  ∃ k : Nat, k ≤ n ∧ i = .int .i64 (k : Int) ∧ Below w.heap.size w wr ∧ (l.take k).all (Fw.has f) = true
theorem all_snoc {p : Int → Bool} {l : List Int} {k : Nat} (h : k < l.length) : (l.take (k + 1)).all p = ((l.take k).all p && p (l.getD k 0)) := by
  rw [take_snoc l k h, List.all_append]
  simp
theorem all_not {p : Int → Bool} {l : List Int} {k : Nat} (h : k < l.length) (hb : p (l.getD k 0) = false) : l.all p = false := by
  rw [List.all_eq_false]
  refine ⟨l[k], List.getElem_mem h, ?_⟩
  have : l.getD k 0 = l[k] := by simp [List.getD, h]
  rw [this] at hb
  rw [hb]
  decide

set_option maxHeartbeats 2000000 in
set_option maxRecDepth 100000 in
theorem fwindex_any (q : Nat) (v : FnV) (f : Fn.F) (a : Option Addr) (n c : Nat) (l : List Int) (w : World) (h : IntsAt w w.heap.size a n l) (hn : n ≤ 100000000) (hA : FnAt w q v) (hc : f.code.length = v.code.n) :
    Calls Try.prog 40 #[.slice a n c, .func (.func 25) #[] #[.pointer (some ⟨q, 0, none⟩)]] w fun e w' => (∃ i : Int, e = .returned (.int .i64 i) ∧ decide (0 ≤ i) = !l.all (Fw.has f)) ∧ Below w.heap.size w w' := by
  have H := Lib.hid h
  have HL := Lib.hid h.1
  have HC := Lib.hid (fun (W : World) (hb : Below w.heap.size w W) (x : Int) => fwbeyond_any q v f x W (hA.on hb) hc)
  clear h hA hc
  go_enter Try.func40, Try.ntmps40
  go_wp2
  go_loopw [5, 8] (fun _ i wr => WiRel f n l w i wr) (fun _ i _ => n - (intOf i).toNat)
  case atStart => exact ⟨0, Nat.zero_le _, rfl, Below.refl _ _, rfl⟩
  case round =>
    obtain ⟨k, hk, rfl, hB, hW⟩ := hrel
    have HB := Lib.hid hB
    by_cases hlt : k < n
    · obtain ⟨b, off, y, rfl, _, c0, hy, hky⟩ := ints_cell (H.out.below hB) hlt
      have HS := Lib.hid (all_snoc (p := Fw.has f) hky)
      have HBad := Lib.hid (fun hb => all_not (p := Fw.has f) hky hb)
      rw [hy, hW] at HS
      rw [hy] at HBad
      have HR := Lib.hid (HC.out wr hB y)
      clear hW hy hky hB
      cases hm : Fw.has f y with
      | false =>
        rw [hm] at HR
        have HE := Lib.hid (HBad.out hm)
        clear HS HBad hm
        go_wp2_with (go_at_call 25; refine HR.out.mono ?_; rintro _ w1 ⟨rfl, hb1⟩)
        go_ret
        exact ⟨⟨_, rfl, by rw [HE.out]; simp⟩, below_self HB.out hb1⟩
      | true =>
        rw [hm] at HR HS
        clear HBad hm
        go_wp2_with (go_at_call 25; refine HR.out.mono ?_; rintro _ w1 ⟨rfl, hb1⟩)
        go_roundw
        case rel => exact ⟨k + 1, hlt, by go_num, below_self HB.out hb1, HS.out⟩
        case measure => simp [intOf]; omega
    · have HE : Hid (l.all (Fw.has f) = true) := Lib.hid (by rw [← hW, List.take_of_length_le (by rw [HL.out]; omega)])
      clear hW hB
      go_wp2
      go_ret
      exact ⟨⟨_, rfl, by rw [HE.out]; rfl⟩, HB.out⟩

set_option maxRecDepth 100000 in
theorem fwcontains_any (q : Nat) (v : FnV) (f : Fn.F) (a : Option Addr) (n c : Nat) (l : List Int) (w : World) (h : IntsAt w w.heap.size a n l) (hn : n ≤ 100000000) (hA : FnAt w q v) (hc : f.code.length = v.code.n) :
    Calls Try.prog 26 #[.slice a n c, .func (.func 25) #[] #[.pointer (some ⟨q, 0, none⟩)]] w (BoolP (!l.all (Fw.has f)) w) := by
  have H := fwindex_any q v f a n c l w h hn hA hc
  clear h hA hc
  generalize (!l.all (Fw.has f)) = r at *
  go_enter Try.func26, Try.ntmps26
  go_wp2_with (go_at_call 40; refine H.mono ?_; rintro _ w1 ⟨⟨i, rfl, hi⟩, hb1⟩)
  go_ret
  exact ⟨rfl, hb1⟩

set_option maxRecDepth 100000 in
set_option maxHeartbeats 8000000 in
theorem fwwithin_any (v : FnV) (f : Fn.F) (w : World) (h : FnOk w w.heap.size v f) (hw : f.Wf) (hcan : f.can = 0) (hk2 : v.code.n ≤ 1000000) (hnn : v.nodes.n ≤ 1000000) :
    Calls Try.prog 11 #[.agg v.cells] w (BoolP (Fw.within f) w) := by
  have hb := (Below.refl w.heap.size w).alloc (Nat.le_refl _) (.cells v.cells 28)
  have HB := Lib.hid hb
  have hA := FnAt.new w v
  have c0 := hA.c0; have c1 := hA.c1; have c2 := hA.c2; have c3 := hA.c3; have c4 := hA.c4; have c5 := hA.c5; have c6 := hA.c6; have c7 := hA.c7; have c8 := hA.c8; have c9 := hA.c9; have c10 := hA.c10
  have HNx := Lib.hid (fun (k : Nat) (hk : k < v.code.n) (W : World) (hx : Below w.heap.size w W) => fwnext_any v f k W (h.on hx) hk hk2)
  have HCt := Lib.hid (fun (k : Nat) (hk : k < v.code.n) (W : World) (hx : Below w.heap.size w W) => fwcatch_any v f k W (h.on hx) hw hcan hk hnn)
  have HCont := Lib.hid (fun (l : List Int) (a : Option Addr) (c : Nat) (W : World) (hi : IntsAt W W.heap.size a l.length l) (hl : l.length ≤ 100000000) (hx : Below (w.alloc (.cells v.cells 28)).heap.size (w.alloc (.cells v.cells 28)) W) => fwcontains_any w.heap.size v f a l.length c l W hi hl (hA.on hx) h.n_code)
  have HN : Hid (f.code.length = v.code.n ∧ v.code.n ≤ 1000000) := Lib.hid ⟨h.n_code, hk2⟩
  have HCl := Lib.hid (fun j => show (Fw.catch_ f j).length ≤ 100000000 by
    have h2 := Fw.catch_len (f := f) j
    have h4 := h.n_nodes
    omega)
  clear h hw hcan hnn hb hA hk2
  obtain ⟨nm, inn, ⟨oa, on, oc⟩, ⟨pa, pn, pc⟩, ⟨ra, rn, rc⟩, ⟨la, ln, lc⟩, ⟨ca, cn, cc⟩, ⟨ia, i_n, ic⟩, ⟨na, nn, nc⟩, ⟨ta, tn, tc⟩, ⟨va, vn, vc⟩⟩ := v
  have HC := Lib.hid (And.intro c0 (And.intro c1 (And.intro c2 (And.intro c3 (And.intro c4 (And.intro c5 (And.intro c6 (And.intro c7 (And.intro c8 (And.intro c9 c10))))))))))
  clear c0 c1 c2 c3 c4 c5 c7 c8 c9 c10
  go_enter Try.func11, Try.ntmps11
  go_wp2
  go_loopw [9] (fun i wr => ∃ j : Nat, i = .int .i64 (j : Int) ∧ j ≤ cn ∧ Below (w.heap.size + 1) (w.alloc (.cells (FnV.cells ⟨nm, inn, ⟨oa, on, oc⟩, ⟨pa, pn, pc⟩, ⟨ra, rn, rc⟩, ⟨la, ln, lc⟩, ⟨ca, cn, cc⟩, ⟨ia, i_n, ic⟩, ⟨na, nn, nc⟩, ⟨ta, tn, tc⟩, ⟨va, vn, vc⟩⟩) 28)) wr ∧ ∀ t, t < j → Fw.good f t = true) (fun i _ => cn - (intOf i).toNat)
  case atStart => exact ⟨0, rfl, Nat.zero_le _, Below.refl _ _, fun t ht => absurd ht (Nat.not_lt_zero _)⟩
  case round =>
    obtain ⟨j, rfl, hj, hB, hG⟩ := hrel
    rw [← World.size_alloc w (.cells (FnV.cells ⟨nm, inn, ⟨oa, on, oc⟩, ⟨pa, pn, pc⟩, ⟨ra, rn, rc⟩, ⟨la, ln, lc⟩, ⟨ca, cn, cc⟩, ⟨ia, i_n, ic⟩, ⟨na, nn, nc⟩, ⟨ta, tn, tc⟩, ⟨va, vn, vc⟩⟩) 28)] at hB
    have HB5 := Lib.hid hB
    have HG := Lib.hid hG
    clear hG hB
    by_cases hjl : j < cn
    · have hb6 := HB5.out
      obtain ⟨c0, c1, c2, c3, c4, c5, c6, c7, c8, c9, c10⟩ := HC.out
      have k0 := (hb6.cell (p := ⟨w.heap.size, 0, none⟩) (by simp)).trans c0; have k1 := (hb6.cell (p := ⟨w.heap.size, 1, none⟩) (by simp)).trans c1; have k2 := (hb6.cell (p := ⟨w.heap.size, 2, none⟩) (by simp)).trans c2; have k3 := (hb6.cell (p := ⟨w.heap.size, 3, none⟩) (by simp)).trans c3; have k4 := (hb6.cell (p := ⟨w.heap.size, 4, none⟩) (by simp)).trans c4; have k5 := (hb6.cell (p := ⟨w.heap.size, 5, none⟩) (by simp)).trans c5; have k6 := (hb6.cell (p := ⟨w.heap.size, 6, none⟩) (by simp)).trans c6; have k7 := (hb6.cell (p := ⟨w.heap.size, 7, none⟩) (by simp)).trans c7; have k8 := (hb6.cell (p := ⟨w.heap.size, 8, none⟩) (by simp)).trans c8; have k9 := (hb6.cell (p := ⟨w.heap.size, 9, none⟩) (by simp)).trans c9; have k10 := (hb6.cell (p := ⟨w.heap.size, 10, none⟩) (by simp)).trans c10
      have HJ := Lib.hid hjl
      have hjb : j ≤ 1000000 := by have := HN.out; omega
      have HCl1 := Lib.hid (HCl.out j)
      clear HCl
      have HCl := HCl1
      have hji : (j : Int) < (cn : Int) := by omega
      have HGd : Hid (Fw.good f j = ((Fw.next f j).all (Fw.has f) && (Fw.catch_ f j).all (Fw.has f))) := Lib.hid List.all_append
      have HIn : Hid (j < f.code.length) := Lib.hid (by have := HN.out; omega)
      clear hb6 c0 c1 c2 c3 c4 c5 c6 c7 c8 c9 c10 hj hjl
      have HK0 := fun (a : Option Addr) (c : Nat) (W : World) hi hl hx => HCont.out (Fw.next f j) a c W hi hl hx
      have HK1 := fun (a : Option Addr) (c : Nat) (W : World) hi hl hx => HCont.out (Fw.catch_ f j) a c W hi hl hx
      clear HCont
      cases h1 : (Fw.next f j).all (Fw.has f) with
      | false =>
        have HE : Hid (Fw.within f = false) := Lib.hid (Fw.within_bad HIn.out (by rw [HGd.out, h1]; rfl))
        rw [h1] at HK0
        have HK0 := Lib.hid HK0
        clear h1 HK1
        go_wp2_with (first
          | (go_at_call 15; refine (HNx.out j HJ.out _ (HB.out.trans (HB5.out.mono (by simp)))).mono ?_; rintro _ w6 ⟨u, rfl, hu, hb6⟩; obtain ⟨A2, cA2, rfl, hi2, _⟩ := hu.ints; have HB6 := Lib.hid (below_self HB5.out hb6); have HCo := Lib.hid (HK0.out A2 cA2 w6 hi2 (by have := Fw.next_len (f := f) j; omega) HB6.out); clear hu hi2 hb6)
          | (go_at_call 26; refine HCo.out.mono ?_; rintro _ w7 ⟨rfl, hb7⟩; have HB7 := Lib.hid (below_self HB6.out hb7); clear hb7 HCo))
        go_ret
        rw [HE.out]
        exact ⟨rfl, HB.out.trans (HB7.out.mono (by simp))⟩
      | true =>
        rw [h1] at HK0
        have HK0 := Lib.hid HK0
        cases h2 : (Fw.catch_ f j).all (Fw.has f) with
        | false =>
          have HE : Hid (Fw.within f = false) := Lib.hid (Fw.within_bad HIn.out (by rw [HGd.out, h2, Bool.and_false]))
          rw [h2] at HK1
          have HK1 := Lib.hid HK1
          clear h1 h2
          go_wp2_with (first
            | (go_at_call 15; refine (HNx.out j HJ.out _ (HB.out.trans (HB5.out.mono (by simp)))).mono ?_; rintro _ w6 ⟨u, rfl, hu, hb6⟩; obtain ⟨A2, cA2, rfl, hi2, _⟩ := hu.ints; have HB6 := Lib.hid (below_self HB5.out hb6); have HCo := Lib.hid (HK0.out A2 cA2 w6 hi2 (by have := Fw.next_len (f := f) j; omega) HB6.out); clear hu hi2 hb6)
            | (go_at_call 22; refine (HCt.out j HJ.out _ (HB.out.trans (HB7.out.mono (by simp)))).mono ?_; rintro _ w8 ⟨u, rfl, hu, hb8⟩; obtain ⟨A3, cA3, rfl, hi3, _⟩ := hu.ints; have HB8 := Lib.hid (below_self HB7.out hb8); have HCp := Lib.hid (HK1.out A3 cA3 w8 hi3 HCl.out HB8.out); clear hu hi3 hb8)
            | (go_at_call 26; refine HCo.out.mono ?_; rintro _ w7 ⟨rfl, hb7⟩; have HB7 := Lib.hid (below_self HB6.out hb7); clear hb7 HCo; have hb6 := HB7.out; obtain ⟨c0, c1, c2, c3, c4, c5, c6, c7, c8, c9, c10⟩ := HC.out; have m0 := (hb6.cell (p := ⟨w.heap.size, 0, none⟩) (by simp)).trans c0; have m1 := (hb6.cell (p := ⟨w.heap.size, 1, none⟩) (by simp)).trans c1; have m2 := (hb6.cell (p := ⟨w.heap.size, 2, none⟩) (by simp)).trans c2; have m3 := (hb6.cell (p := ⟨w.heap.size, 3, none⟩) (by simp)).trans c3; have m4 := (hb6.cell (p := ⟨w.heap.size, 4, none⟩) (by simp)).trans c4; have m5 := (hb6.cell (p := ⟨w.heap.size, 5, none⟩) (by simp)).trans c5; have m6 := (hb6.cell (p := ⟨w.heap.size, 6, none⟩) (by simp)).trans c6; have m7 := (hb6.cell (p := ⟨w.heap.size, 7, none⟩) (by simp)).trans c7; have m8 := (hb6.cell (p := ⟨w.heap.size, 8, none⟩) (by simp)).trans c8; have m9 := (hb6.cell (p := ⟨w.heap.size, 9, none⟩) (by simp)).trans c9; have m10 := (hb6.cell (p := ⟨w.heap.size, 10, none⟩) (by simp)).trans c10; clear hb6 k0 k1 k2 k3 k4 k5 k6 k7 k8 k9 k10 c0 c1 c2 c3 c4 c5 c6 c7 c8 c9 c10)
            | (go_at_call 26; refine HCp.out.mono ?_; rintro _ w9 ⟨rfl, hb9⟩; have HB9 := Lib.hid (below_self HB8.out hb9); clear hb9 HCp))
          go_ret
          rw [HE.out]
          exact ⟨rfl, HB.out.trans (HB9.out.mono (by simp))⟩
        | true =>
          have HGj : Hid (Fw.good f j = true) := Lib.hid (by rw [HGd.out, h1, h2]; rfl)
          rw [h2] at HK1
          have HK1 := Lib.hid HK1
          clear h1 h2
          go_wp2_with (first
            | (go_at_call 15; refine (HNx.out j HJ.out _ (HB.out.trans (HB5.out.mono (by simp)))).mono ?_; rintro _ w6 ⟨u, rfl, hu, hb6⟩; obtain ⟨A2, cA2, rfl, hi2, _⟩ := hu.ints; have HB6 := Lib.hid (below_self HB5.out hb6); have HCo := Lib.hid (HK0.out A2 cA2 w6 hi2 (by have := Fw.next_len (f := f) j; omega) HB6.out); clear hu hi2 hb6)
            | (go_at_call 22; refine (HCt.out j HJ.out _ (HB.out.trans (HB7.out.mono (by simp)))).mono ?_; rintro _ w8 ⟨u, rfl, hu, hb8⟩; obtain ⟨A3, cA3, rfl, hi3, _⟩ := hu.ints; have HB8 := Lib.hid (below_self HB7.out hb8); have HCp := Lib.hid (HK1.out A3 cA3 w8 hi3 HCl.out HB8.out); clear hu hi3 hb8)
            | (go_at_call 26; refine HCo.out.mono ?_; rintro _ w7 ⟨rfl, hb7⟩; have HB7 := Lib.hid (below_self HB6.out hb7); clear hb7 HCo; have hb6 := HB7.out; obtain ⟨c0, c1, c2, c3, c4, c5, c6, c7, c8, c9, c10⟩ := HC.out; have m0 := (hb6.cell (p := ⟨w.heap.size, 0, none⟩) (by simp)).trans c0; have m1 := (hb6.cell (p := ⟨w.heap.size, 1, none⟩) (by simp)).trans c1; have m2 := (hb6.cell (p := ⟨w.heap.size, 2, none⟩) (by simp)).trans c2; have m3 := (hb6.cell (p := ⟨w.heap.size, 3, none⟩) (by simp)).trans c3; have m4 := (hb6.cell (p := ⟨w.heap.size, 4, none⟩) (by simp)).trans c4; have m5 := (hb6.cell (p := ⟨w.heap.size, 5, none⟩) (by simp)).trans c5; have m6 := (hb6.cell (p := ⟨w.heap.size, 6, none⟩) (by simp)).trans c6; have m7 := (hb6.cell (p := ⟨w.heap.size, 7, none⟩) (by simp)).trans c7; have m8 := (hb6.cell (p := ⟨w.heap.size, 8, none⟩) (by simp)).trans c8; have m9 := (hb6.cell (p := ⟨w.heap.size, 9, none⟩) (by simp)).trans c9; have m10 := (hb6.cell (p := ⟨w.heap.size, 10, none⟩) (by simp)).trans c10; clear hb6 k0 k1 k2 k3 k4 k5 k6 k7 k8 k9 k10 c0 c1 c2 c3 c4 c5 c6 c7 c8 c9 c10)
            | (go_at_call 26; refine HCp.out.mono ?_; rintro _ w9 ⟨rfl, hb9⟩; have HB9 := Lib.hid (below_self HB8.out hb9); clear hb9 HCp))
          go_roundw
          case rel =>
            refine ⟨j + 1, by go_num, HJ.out, ?_, fun t ht => ?_⟩
            · have := HB9.out
              rwa [World.size_alloc] at this
            · rcases Nat.lt_succ_iff_lt_or_eq.1 ht with h | rfl
              · exact HG.out t h
              · exact HGj.out
          case measure => have := HJ.out; simp [intOf]; omega
    · have HE : Hid (Fw.within f = true) := Lib.hid (Fw.within_true (fun t ht => HG.out t (by have := HN.out; omega)))
      obtain rfl : j = cn := by omega
      clear hj hjl
      go_wp2
      go_ret
      rw [HE.out]
      exact ⟨rfl, HB.out.trans (HB5.out.mono (by simp))⟩
end Go.Proofs.Ytngkjmghhoemgaa
