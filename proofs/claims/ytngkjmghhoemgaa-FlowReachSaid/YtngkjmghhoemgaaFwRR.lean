/-
  Which instructions are reached: the document's answer. Conditions: the function can be read, and laid; few of everything but the types.
-/
import Derived.Test.YtngkjmghhoemgaaFwRC
import Derived.Test.YtngkjmghhoemgaaFwRS
import Derived.Test.YtngkjmghhoemgaaFwQ
namespace Go.Proofs.Ytngkjmghhoemgaa
open Go.RowKit

theorem len_app {l k : List Int} {n m : Nat} (h : l.length ≤ n) (hk : k.length ≤ m) : (l ++ k).length ≤ n + m := by
  rw [List.length_append]
  exact Nat.add_le_add h hk

set_option maxRecDepth 100000 in
set_option maxHeartbeats 16000000 in
theorem rfwreach_any (v : FnV) (f : Fn.F) (w0 : World) (R : List Bool) (h : FnOk w0 w0.heap.size v f) (hf : v.Few) (hcan : f.can = 0) (hk2 : v.code.n ≤ 1000) (hnn : v.nodes.n ≤ 1000) (hR : Fw.Runs f (List.replicate v.code.n false) [0] R) :
    Calls Try.prog 7 #[.agg v.cells] w0 (NewBools R w0) := by
  obtain ⟨ib, hib, hbz0, hbz1, hbz2⟩ := info_parts info_bool
  have hb := (Below.refl w0.heap.size w0).alloc (Nat.le_refl _) (.cells v.cells 28)
  have HB := Lib.hid hb
  have hA := FnAt.new w0 v
  have c0 := hA.c0; have c1 := hA.c1; have c2 := hA.c2; have c3 := hA.c3; have c4 := hA.c4; have c5 := hA.c5; have c6 := hA.c6; have c7 := hA.c7; have c8 := hA.c8; have c9 := hA.c9; have c10 := hA.c10
  have HNx := Lib.hid (fun (k : Nat) (hk : k < v.code.n) (W : World) (hx : Below w0.heap.size w0 W) => rfwnext_any v f k W (h.on hx) hk (by omega))
  have HCt := Lib.hid (fun (k : Nat) (hk : k < v.code.n) (W : World) (hx : Below w0.heap.size w0 W) => rfwcatch_any v f k W (h.on hx) hf hcan hk (by omega))
  have HOp := Lib.hid (fun (k : Nat) (hk : k < v.code.n) (W : World) (hx : Below w0.heap.size w0 W) => rfwopens_any v f k W (h.on hx) hk)
  have HN : Hid (f.code.length = v.code.n ∧ v.code.n ≤ 1000 ∧ f.nodes.length ≤ 1000) := Lib.hid ⟨h.n_code, hk2, by have := h.n_nodes; omega⟩
  have HRun := Lib.hid hR
  clear h hf hcan hnn hb hA hk2 hR
  obtain ⟨nm, inn, ⟨oa, on, oc⟩, ⟨pa, pn, pc⟩, ⟨ra, rn, rc⟩, ⟨la, ln, lc⟩, ⟨ca, cn, cc⟩, ⟨ia, i_n, ic⟩, ⟨na, nn, nc⟩, ⟨ta, tn, tc⟩, ⟨va, vn, vc⟩⟩ := v
  have HN : Hid (f.code.length = cn ∧ cn ≤ 1000 ∧ f.nodes.length ≤ 1000) := HN
  have HC := Lib.hid (And.intro c0 (And.intro c1 (And.intro c2 (And.intro c3 (And.intro c4 (And.intro c5 (And.intro c6 (And.intro c7 (And.intro c8 (And.intro c9 c10))))))))))
  have HCn : Hid (cn ≤ 1000) := Lib.hid HN.out.2.1
  go_enter Try.func7, Try.ntmps7
  go_wp2_with (at_make; refine wpList_make_full _ rfl _ _ 31 rfl (w0.heap.size + 1) 4 ib (.bool false) 1 Try.underlying31 hib hbz0 hbz1 .i64 .i64 _ _ cn rfl rfl rfl rfl (by have := HCn.out; rw [hbz2]; omega) (by have := HCn.out; unfold maxLen; omega) (by simp) ?_; intro w2 hown2 hgrow2; have HG2 := Lib.hid hgrow2; have HQ2 := Lib.hid (Bq.made hown2); clear hown2 hgrow2)
  have hq2 := HQ2.out
  rw [World.size_alloc] at hq2
  have hb2 : Below (w0.heap.size + 1) (w0.alloc (.cells (FnV.cells ⟨nm, inn, ⟨oa, on, oc⟩, ⟨pa, pn, pc⟩, ⟨ra, rn, rc⟩, ⟨la, ln, lc⟩, ⟨ca, cn, cc⟩, ⟨ia, i_n, ic⟩, ⟨na, nn, nc⟩, ⟨ta, tn, tc⟩, ⟨va, vn, vc⟩⟩) 28)) w2 := (Below.refl _ _).grown HG2.out (by simp) (fun k hk => by cases hk)
  obtain ⟨w1, hw1⟩ : ∃ W, W = w0.alloc (.cells (FnV.cells ⟨nm, inn, ⟨oa, on, oc⟩, ⟨pa, pn, pc⟩, ⟨ra, rn, rc⟩, ⟨la, ln, lc⟩, ⟨ca, cn, cc⟩, ⟨ia, i_n, ic⟩, ⟨na, nn, nc⟩, ⟨ta, tn, tc⟩, ⟨va, vn, vc⟩⟩) 28) := ⟨_, rfl⟩
  have hs1 : w1.heap.size = w0.heap.size + 1 := by rw [hw1, World.size_alloc]
  rw [← hw1] at hb2 HB HC
  have HSz := Lib.hid (fun (W : World) (hx : Below (w0.heap.size + 1) w1 W) => show w0.heap.size + 1 ≤ W.heap.size by have := hx.size; omega)
  have HBz := Lib.hid (fun (W : World) (hx : Below (w0.heap.size + 1) w1 W) => show Below w0.heap.size w0 W from HB.out.trans (hx.mono (Nat.le_succ _)))
  have HQ2 := Lib.hid hq2
  have HB2 := Lib.hid hb2
  clear hw1 hs1 HG2 hq2 hb2 c0 c1 c2 c3 c4 c5 c6 c7 c8 c9 c10
  go_loopw [4] (fun tv wr => ∃ (out : List Bool) (todo : List Int), Rq wr (w0.heap.size + 1 + 1) tv todo ∧ Bq wr (w0.heap.size + 1) out ∧ out.length = cn ∧ Below (w0.heap.size + 1) w1 wr ∧ Fw.Runs f out todo R ∧ Fw.falses out * (f.nodes.length + 5) + todo.length ≤ 100000000) (fun tv wr => fal wr (w0.heap.size + 1) * (f.nodes.length + 5) + lenS tv)
  case atStart =>
    refine ⟨List.replicate cn false, [0], Rq.lit w2 _ [0] HQ2.out.lt, HQ2.out.below ((Below.refl _ _).alloc (Nat.le_refl _) _), by simp, HB2.out.alloc (HSz.out _ HB2.out) _, HRun.out, ?_⟩
    have := HN.out
    have e : Fw.falses (List.replicate cn false) = cn := by simp [Fw.falses, List.countP_replicate]
    rw [e]
    have : cn * (f.nodes.length + 5) ≤ 1000 * 1005 := Nat.mul_le_mul (by omega) (by omega)
    simp
    omega
  case round =>
    rename World => wo
    obtain ⟨out, todo, hq, hbq, hol, hbw, hrn, hm⟩ := hrel
    obtain ⟨A, n, cA, rfl, hn, hi⟩ := hq.named
    have HQo := Lib.hid hq
    have HQbo := Lib.hid hbq
    have HOl := Lib.hid hol
    have HBo := Lib.hid hbw
    have HRn := Lib.hid hrn
    have HM := Lib.hid hm
    have HNn := Lib.hid hn
    have HI := Lib.hid hi
    obtain ⟨c0, c1, c2, c3, c4, c5, c6, c7, c8, c9, c10⟩ := HC.out
    have k0 := (HBo.out.cell (p := ⟨w0.heap.size, 0, none⟩) (Nat.lt_succ_self _)).trans c0
    have k1 := (HBo.out.cell (p := ⟨w0.heap.size, 1, none⟩) (Nat.lt_succ_self _)).trans c1
    have k2 := (HBo.out.cell (p := ⟨w0.heap.size, 2, none⟩) (Nat.lt_succ_self _)).trans c2
    have k3 := (HBo.out.cell (p := ⟨w0.heap.size, 3, none⟩) (Nat.lt_succ_self _)).trans c3
    have k4 := (HBo.out.cell (p := ⟨w0.heap.size, 4, none⟩) (Nat.lt_succ_self _)).trans c4
    have k5 := (HBo.out.cell (p := ⟨w0.heap.size, 5, none⟩) (Nat.lt_succ_self _)).trans c5
    have k6 := (HBo.out.cell (p := ⟨w0.heap.size, 6, none⟩) (Nat.lt_succ_self _)).trans c6
    have k7 := (HBo.out.cell (p := ⟨w0.heap.size, 7, none⟩) (Nat.lt_succ_self _)).trans c7
    have k8 := (HBo.out.cell (p := ⟨w0.heap.size, 8, none⟩) (Nat.lt_succ_self _)).trans c8
    have k9 := (HBo.out.cell (p := ⟨w0.heap.size, 9, none⟩) (Nat.lt_succ_self _)).trans c9
    have k10 := (HBo.out.cell (p := ⟨w0.heap.size, 10, none⟩) (Nat.lt_succ_self _)).trans c10
    clear c0 c1 c2 c3 c4 c5 c6 c7 c8 c9 c10
    clear hq hbq hol hbw hrn hm hi
    cases todo with
    | nil =>
      obtain rfl : n = 0 := hn
      have HE := Lib.hid (Fw.runs_end HRn.out)
      go_wp2
      go_ret
      rw [HE.out]
      exact ⟨w0.heap.size + 1, by rw [HOl.out]; rfl, Nat.le_succ _, HQbo.out, HBz.out _ HBo.out⟩
    | cons x r =>
      have hn0 : 0 < n := by rw [hn]; simp
      have hn0i : (0 : Int) < (n : Int) := by omega
      obtain ⟨b2, off2, x1, rfl, hlt2, x0, hx, _⟩ := ints_cell HI.out hn0
      obtain rfl : x = x1 := by simpa [List.getD] using hx
      rw [Nat.add_zero] at x0
      have HL1 : Hid (1 ≤ (x :: r).length) := Lib.hid (by simp)
      have HNl : Hid (n = r.length + 1) := Lib.hid (by rw [hn]; rfl)
      have HTl : Hid (r.length ≤ 100000000) := Lib.hid (by have := HM.out; rw [List.length_cons] at this; omega)
      clear hn hx hlt2 hn0
      have hn0 : 0 < n := by have := HNl.out; omega
      by_cases h0 : x < 0
      · have d0 : decide (x < 0) = true := decide_eq_true h0
        have HR2 := Lib.hid (Fw.runs_skip HRn.out (.inl (decide_eq_false (by omega))))
        clear h0
        go_wp2_with (with_reducible refine wpList_slice_q rfl rfl (.tmp 17) (.const (.int .i64 1)) rfl (base := w0.heap.size + 1 + 1) rfl HQo.out (i := 1) rfl HL1.out ?_; intro v5 hq5; obtain ⟨A5, n5, cA5, rfl, hn5, hi5⟩ := hq5.named; have HNn5 := Lib.hid hn5; have HQ5 := Lib.hid hq5; clear hq5 hn5 hi5)
        go_roundw
        case rel => exact ⟨out, r, HQ5.out, HQbo.out, HOl.out, HBo.out, HR2.out, by have := HM.out; rw [List.length_cons] at this; omega⟩
        case measure =>
          have h1 := HNn5.out
          have h2 := HNl.out
          simp only [List.drop_succ_cons, List.drop_zero] at h1
          simp [lenS]
          omega
      by_cases h1 : (cn : Int) ≤ x
      · have d0 : decide (x < 0) = false := decide_eq_false h0
        have d1 : decide ((cn : Int) ≤ x) = true := decide_eq_true h1
        have HR2 := Lib.hid (Fw.runs_skip HRn.out (.inl (decide_eq_false (by have := HN.out; omega))))
        clear h0 h1
        go_wp2_with (with_reducible refine wpList_slice_q rfl rfl (.tmp 17) (.const (.int .i64 1)) rfl (base := w0.heap.size + 1 + 1) rfl HQo.out (i := 1) rfl HL1.out ?_; intro v5 hq5; obtain ⟨A5, n5, cA5, rfl, hn5, hi5⟩ := hq5.named; have HNn5 := Lib.hid hn5; have HQ5 := Lib.hid hq5; clear hq5 hn5 hi5)
        go_roundw
        case rel => exact ⟨out, r, HQ5.out, HQbo.out, HOl.out, HBo.out, HR2.out, by have := HM.out; rw [List.length_cons] at this; omega⟩
        case measure =>
          have h1 := HNn5.out
          have h2 := HNl.out
          simp only [List.drop_succ_cons, List.drop_zero] at h1
          simp [lenS]
          omega
      obtain ⟨k, rfl⟩ : ∃ k : Nat, x = (k : Int) := ⟨x.toNat, by omega⟩
      have dn : decide ((k : Int) < 0) = false := decide_eq_false h0
      have hkc : k < cn := by omega
      have hkci : (k : Int) < (cn : Int) := by omega
      have dk : decide (cn ≤ k) = false := decide_eq_false (by omega)
      have dki : decide ((cn : Int) ≤ (k : Int)) = false := decide_eq_false h1
      have hko : k < out.length := by have := HOl.out; omega
      have z1 := HQbo.out.cell hko
      have z2 := HQbo.out.frozen k
      clear h0 h1
      cases ho : out.getD k false with
      | true =>
        rw [ho] at z1
        have HR2 := Lib.hid (Fw.runs_skip HRn.out (.inr (by rw [Int.toNat_natCast]; exact ho)))
        clear ho hko
        go_wp2_with (with_reducible refine wpList_slice_q rfl rfl (.tmp 17) (.const (.int .i64 1)) rfl (base := w0.heap.size + 1 + 1) rfl HQo.out (i := 1) rfl HL1.out ?_; intro v5 hq5; obtain ⟨A5, n5, cA5, rfl, hn5, hi5⟩ := hq5.named; have HNn5 := Lib.hid hn5; have HQ5 := Lib.hid hq5; clear hq5 hn5 hi5)
        go_roundw
        case rel => exact ⟨out, r, HQ5.out, HQbo.out, HOl.out, HBo.out, HR2.out, by have := HM.out; rw [List.length_cons] at this; omega⟩
        case measure =>
          have h1 := HNn5.out
          have h2 := HNl.out
          simp only [List.drop_succ_cons, List.drop_zero] at h1
          simp [lenS]
          omega
      | false =>
        rw [ho] at z1
        have HR2 := Lib.hid (Fw.runs_go HRn.out (by have := HN.out; omega) ho)
        have HFl := Lib.hid (Fw.falses_set hko ho)
        have HK := Lib.hid hkc
        have HQb6 := Lib.hid (HQbo.out.set k true)
        have HB6 := Lib.hid (HBo.out.setCell (p := ⟨w0.heap.size + 1, k, none⟩) (Nat.le_refl _) (.bool true))
        have HLb : Hid ((Fw.next f k).length ≤ 2 ∧ (Fw.catch_ f k).length ≤ 1001 ∧ (Fw.opens f k).length ≤ 1) := Lib.hid (by have h1 := Fw.next_len (f := f) k; have h2 := Fw.catch_len (f := f) k; have h3 := Fw.opens_len (f := f) k; have := HN.out; omega)
        have HLe : Hid (r ++ Fw.leads f k = r ++ Fw.next f k ++ Fw.catch_ f k ++ Fw.opens f k) := Lib.hid (by unfold Fw.leads; simp [List.append_assoc])
        have HLv6 := HTl
        have HMu : Hid (Fw.falses (out.set k true) * (f.nodes.length + 5) + (r ++ Fw.leads f k).length < Fw.falses out * (f.nodes.length + 5) + ((k : Int) :: r).length) := Lib.hid (by
          have h1 := Fw.leads_len (f := f) k
          have h2 := HFl.out
          have e : (Fw.falses (out.set k true) + 1) * (f.nodes.length + 5) = Fw.falses (out.set k true) * (f.nodes.length + 5) + (f.nodes.length + 5) := by rw [Nat.add_mul, Nat.one_mul]
          rw [h2] at e
          rw [List.length_append, List.length_cons]
          omega)
        obtain ⟨c0, c1, c2, c3, c4, c5, c6, c7, c8, c9, c10⟩ := HC.out
        have m0 := (HB6.out.cell (p := ⟨w0.heap.size, 0, none⟩) (Nat.lt_succ_self _)).trans c0
        have m1 := (HB6.out.cell (p := ⟨w0.heap.size, 1, none⟩) (Nat.lt_succ_self _)).trans c1
        have m2 := (HB6.out.cell (p := ⟨w0.heap.size, 2, none⟩) (Nat.lt_succ_self _)).trans c2
        have m3 := (HB6.out.cell (p := ⟨w0.heap.size, 3, none⟩) (Nat.lt_succ_self _)).trans c3
        have m4 := (HB6.out.cell (p := ⟨w0.heap.size, 4, none⟩) (Nat.lt_succ_self _)).trans c4
        have m5 := (HB6.out.cell (p := ⟨w0.heap.size, 5, none⟩) (Nat.lt_succ_self _)).trans c5
        have m6 := (HB6.out.cell (p := ⟨w0.heap.size, 6, none⟩) (Nat.lt_succ_self _)).trans c6
        have m7 := (HB6.out.cell (p := ⟨w0.heap.size, 7, none⟩) (Nat.lt_succ_self _)).trans c7
        have m8 := (HB6.out.cell (p := ⟨w0.heap.size, 8, none⟩) (Nat.lt_succ_self _)).trans c8
        have m9 := (HB6.out.cell (p := ⟨w0.heap.size, 9, none⟩) (Nat.lt_succ_self _)).trans c9
        have m10 := (HB6.out.cell (p := ⟨w0.heap.size, 10, none⟩) (Nat.lt_succ_self _)).trans c10
        clear c0 c1 c2 c3 c4 c5 c6 c7 c8 c9 c10
        clear ho hko hkc
        have hkc := HK.out
        go_wp2_with (first
          | (with_reducible refine wpList_slice_q rfl rfl (.tmp 17) (.const (.int .i64 1)) rfl (base := w0.heap.size + 1 + 1) rfl HQo.out (i := 1) rfl HL1.out ?_; intro v5 hq5; obtain ⟨A5, n5, cA5, rfl, hn5, hi5⟩ := hq5.named; have HNn5 := Lib.hid hn5; have HQ6 := Lib.hid (show Rq (wo.setCell ⟨w0.heap.size + 1, k, none⟩ (.bool true)) (w0.heap.size + 1 + 1) (.slice A5 n5 cA5) r from hq5.kept (fun z hz => Below.heap_setCell wo ⟨w0.heap.size + 1, k, none⟩ _ z (fun e => by have := (hq5.lt z hz).1; simp only at e; omega))); clear hq5 hn5 hi5)
          | (go_at_call 18; refine (HNx.out k HK.out _ (HBz.out _ HB6.out)).mono ?_; rintro _ w7 ⟨u, rfl, hu, hb⟩; obtain ⟨Au, nu, cu, rfl, hnu, hiu⟩ := hu.named; have HNu7 := Lib.hid hnu; have HI7 := Lib.hid hiu; have HQ7 := Lib.hid (HQ6.out.below hb); have HB7 := Lib.hid (HB6.out.trans (hb.mono (HSz.out _ HB6.out))); have HQb7 := Lib.hid (HQb6.out.below hb); clear hu hnu hiu hb)
          | (at_builtin; refine wpList_append_q rfl rfl (.tmp 37) (.tmp 40) rfl (base := w0.heap.size + 1 + 1) rfl HQ7.out rfl HI7.out HQb7.out.lt (by have := HLb.out; have := HLv6.out; have := HNu7.out; omega) ?_; intro v8 w8 hq7 hg7 _; obtain ⟨A8, n8, cA8, rfl, hn8, hi7⟩ := hq7.named; have HNn8 := Lib.hid hn8; have HQ8 := Lib.hid hq7; have hlt := HQ7.out.lt; have HB8 := Lib.hid (HB7.out.grown hg7 (HSz.out _ HB7.out) (fun z hz => by have := (hlt z hz).1; omega)); have HQb8 := Lib.hid (HQb7.out.kept (hg7.block _ HQb7.out.lt (fun e => by have := (hlt _ e.symm).1; omega))); have HLv8 := Lib.hid (len_app HLv6.out HLb.out.1); obtain ⟨c0, c1, c2, c3, c4, c5, c6, c7, c8, c9, c10⟩ := HC.out; have pa0 := (HB8.out.cell (p := ⟨w0.heap.size, 0, none⟩) (Nat.lt_succ_self _)).trans c0; have pa1 := (HB8.out.cell (p := ⟨w0.heap.size, 1, none⟩) (Nat.lt_succ_self _)).trans c1; have pa2 := (HB8.out.cell (p := ⟨w0.heap.size, 2, none⟩) (Nat.lt_succ_self _)).trans c2; have pa3 := (HB8.out.cell (p := ⟨w0.heap.size, 3, none⟩) (Nat.lt_succ_self _)).trans c3; have pa4 := (HB8.out.cell (p := ⟨w0.heap.size, 4, none⟩) (Nat.lt_succ_self _)).trans c4; have pa5 := (HB8.out.cell (p := ⟨w0.heap.size, 5, none⟩) (Nat.lt_succ_self _)).trans c5; have pa6 := (HB8.out.cell (p := ⟨w0.heap.size, 6, none⟩) (Nat.lt_succ_self _)).trans c6; have pa7 := (HB8.out.cell (p := ⟨w0.heap.size, 7, none⟩) (Nat.lt_succ_self _)).trans c7; have pa8 := (HB8.out.cell (p := ⟨w0.heap.size, 8, none⟩) (Nat.lt_succ_self _)).trans c8; have pa9 := (HB8.out.cell (p := ⟨w0.heap.size, 9, none⟩) (Nat.lt_succ_self _)).trans c9; have pa10 := (HB8.out.cell (p := ⟨w0.heap.size, 10, none⟩) (Nat.lt_succ_self _)).trans c10; clear c0 c1 c2 c3 c4 c5 c6 c7 c8 c9 c10; clear hq7 hg7 hi7 hn8 hlt)
          | (go_at_call 19; refine (HCt.out k HK.out _ (HBz.out _ HB8.out)).mono ?_; rintro _ w9 ⟨u, rfl, hu, hb⟩; obtain ⟨Au, nu, cu, rfl, hnu, hiu⟩ := hu.named; have HNu9 := Lib.hid hnu; have HI9 := Lib.hid hiu; have HQ9 := Lib.hid (HQ8.out.below hb); have HB9 := Lib.hid (HB8.out.trans (hb.mono (HSz.out _ HB8.out))); have HQb9 := Lib.hid (HQb8.out.below hb); clear hu hnu hiu hb)
          | (at_builtin; refine wpList_append_q rfl rfl (.tmp 42) (.tmp 45) rfl (base := w0.heap.size + 1 + 1) rfl HQ9.out rfl HI9.out HQb9.out.lt (by have := HLb.out; have := HLv8.out; have := HNu9.out; omega) ?_; intro v10 w10 hq7 hg7 _; obtain ⟨A10, n10, cA10, rfl, hn10, hi7⟩ := hq7.named; have HNn10 := Lib.hid hn10; have HQ10 := Lib.hid hq7; have hlt := HQ9.out.lt; have HB10 := Lib.hid (HB9.out.grown hg7 (HSz.out _ HB9.out) (fun z hz => by have := (hlt z hz).1; omega)); have HQb10 := Lib.hid (HQb9.out.kept (hg7.block _ HQb9.out.lt (fun e => by have := (hlt _ e.symm).1; omega))); have HLv10 := Lib.hid (len_app HLv8.out HLb.out.2.1); obtain ⟨c0, c1, c2, c3, c4, c5, c6, c7, c8, c9, c10⟩ := HC.out; have pb0 := (HB10.out.cell (p := ⟨w0.heap.size, 0, none⟩) (Nat.lt_succ_self _)).trans c0; have pb1 := (HB10.out.cell (p := ⟨w0.heap.size, 1, none⟩) (Nat.lt_succ_self _)).trans c1; have pb2 := (HB10.out.cell (p := ⟨w0.heap.size, 2, none⟩) (Nat.lt_succ_self _)).trans c2; have pb3 := (HB10.out.cell (p := ⟨w0.heap.size, 3, none⟩) (Nat.lt_succ_self _)).trans c3; have pb4 := (HB10.out.cell (p := ⟨w0.heap.size, 4, none⟩) (Nat.lt_succ_self _)).trans c4; have pb5 := (HB10.out.cell (p := ⟨w0.heap.size, 5, none⟩) (Nat.lt_succ_self _)).trans c5; have pb6 := (HB10.out.cell (p := ⟨w0.heap.size, 6, none⟩) (Nat.lt_succ_self _)).trans c6; have pb7 := (HB10.out.cell (p := ⟨w0.heap.size, 7, none⟩) (Nat.lt_succ_self _)).trans c7; have pb8 := (HB10.out.cell (p := ⟨w0.heap.size, 8, none⟩) (Nat.lt_succ_self _)).trans c8; have pb9 := (HB10.out.cell (p := ⟨w0.heap.size, 9, none⟩) (Nat.lt_succ_self _)).trans c9; have pb10 := (HB10.out.cell (p := ⟨w0.heap.size, 10, none⟩) (Nat.lt_succ_self _)).trans c10; clear c0 c1 c2 c3 c4 c5 c6 c7 c8 c9 c10; clear hq7 hg7 hi7 hn10 hlt)
          | (go_at_call 20; refine (HOp.out k HK.out _ (HBz.out _ HB10.out)).mono ?_; rintro _ w11 ⟨u, rfl, hu, hb⟩; obtain ⟨Au, nu, cu, rfl, hnu, hiu⟩ := hu.named; have HNu11 := Lib.hid hnu; have HI11 := Lib.hid hiu; have HQ11 := Lib.hid (HQ10.out.below hb); have HB11 := Lib.hid (HB10.out.trans (hb.mono (HSz.out _ HB10.out))); have HQb11 := Lib.hid (HQb10.out.below hb); clear hu hnu hiu hb)
          | (at_builtin; refine wpList_append_q rfl rfl (.tmp 47) (.tmp 50) rfl (base := w0.heap.size + 1 + 1) rfl HQ11.out rfl HI11.out HQb11.out.lt (by have := HLb.out; have := HLv10.out; have := HNu11.out; omega) ?_; intro v12 w12 hq7 hg7 _; obtain ⟨A12, n12, cA12, rfl, hn12, hi7⟩ := hq7.named; have HNn12 := Lib.hid hn12; have HQ12 := Lib.hid hq7; have hlt := HQ11.out.lt; have HB12 := Lib.hid (HB11.out.grown hg7 (HSz.out _ HB11.out) (fun z hz => by have := (hlt z hz).1; omega)); have HQb12 := Lib.hid (HQb11.out.kept (hg7.block _ HQb11.out.lt (fun e => by have := (hlt _ e.symm).1; omega))); have HLv12 := Lib.hid (len_app HLv10.out HLb.out.2.2); clear hq7 hg7 hi7 hn12 hlt))
        go_roundw
        case rel =>
          refine ⟨out.set k true, r ++ Fw.leads f k, ?_, HQb12.out, by rw [List.length_set]; exact HOl.out, HB12.out, HR2.out, ?_⟩
          · rw [HLe.out]; exact HQ12.out
          · have := HMu.out; have := HM.out; omega
        case measure =>
          have h1 := HNn12.out
          have h2 := HNl.out
          have h3 := HMu.out
          rw [← HLe.out] at h1
          rw [fal_of HQb12.out, fal_of HQbo.out]
          simp only [lenS, List.length_cons] at h3 ⊢
          omega
end Go.Proofs.Ytngkjmghhoemgaa
