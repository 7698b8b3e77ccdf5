/-
  What runs.Take answers. Conditions: at most 2^31 - 1 numbers are asked for.
-/
import Derived.OwnWalk
import Derived.Test.YtnfflddcekffeaaRuTakeRun
import Derived.Test.YtnfflddcekffeaaRuRow
import Derived.Test.YtnfflddcekffeaaRuRef
namespace Go.Proofs.Ytnfflddcekffeaa
open Go.RowKit

/-- A row of the call's own is answered; what the cursor is; of what was there only its block has turned. -/
def TakeP (o : List Int × (List Nat × Nat)) (g : Nat) (w : World) (e : Ending) (w' : World) : Prop :=
  ∃ v, e = .returned v ∧ w'.ownsRow w.heap.size 3 1 v o.1.length (vs o.1) ∧ Cur w' g o.2 ∧ w.grownBy w' (some g)

def TkRel (w : World) (g N : Nat) (low high : Int) (s0 : List Nat × Nat) (u l : Value) (wr : World) : Prop :=
  ∃ (r : Ru.Runs) (s : List Nat × Nat) (f : Nat) (z : Int), l = .int .i64 z ∧ z = (N : Int) - ((Ru.flat r).length : Int) ∧ (Ru.flat r).length ≤ N ∧ wr.ownsRow w.heap.size 71 2 u r.length (ps r) ∧ (∀ p ∈ r, 1 ≤ p.1) ∧ Cur wr g s ∧ w.grownBy wr (some g) ∧
    takeL N low high f s (Ru.flat r) = takeL N low high (N + 1) s0 [] ∧ N - (Ru.flat r).length < f
def RwIn (w : World) (r : Ru.Runs) (u i : Value) (wr : World) : Prop :=
  ∃ k : Nat, k ≤ r.length ∧ i = .int .i64 (k : Int) ∧ wr.ownsRow w.heap.size 3 1 u (Ru.flat (r.take k)).length (vs (Ru.flat (r.take k))) ∧ Below w.heap.size w wr

theorem own_far {w : World} {base g n k c : Nat} {e : TypeId} {size : Nat} {A : Option Addr} {xs : List Value} (h : w.ownsRow base e size (.slice A k c) n xs) (hg : g < base) : ∀ x, A = some x → x.block ≠ g := by
  intro x hx
  rcases h.2 with ⟨hv, _⟩ | ⟨g', cap, cur, hv, hb, _⟩
  · injection hv with h1
    rw [h1] at hx
    cases hx
  · injection hv with h1
    rw [h1] at hx
    injection hx with hx
    subst hx
    show g' ≠ g
    omega
theorem own_grownG {w : World} {base g n : Nat} {e : TypeId} {size : Nat} {u : Value} {xs : List Value} (h : w.ownsRow base e size u n xs) {w' : World} (hg : w.grownBy w' (some g)) (hlt : g < base) : w'.ownsRow base e size u n xs := by
  refine h.kept hg ?_
  cases hu : u.ownBlock with
  | none => exact .inl rfl
  | some k =>
    refine .inr (fun e' => ?_)
    injection e' with e'
    have := (h.lt k hu).1
    omega
theorem grown_more {w wr w2 : World} {g : Nat} {e : TypeId} {size k : Nat} {u : Value} {xs : List Value} (h : w.grownBy wr (some g)) (hO : wr.ownsRow w.heap.size e size u k xs) (hg : wr.grownBy w2 u.ownBlock) : w.grownBy w2 (some g) := by
  refine ⟨hg.os.trans h.os, hg.tape.trans h.tape, hg.output.trans h.output, Nat.le_trans h.size hg.size, fun j hj hne => ?_⟩
  rw [hg.block j (Nat.lt_of_lt_of_le hj h.size) (fun e' => by have := (hO.lt j e'.symm).1; omega), h.block j hj hne]
theorem grown_below {w wr w2 : World} {g B : Nat} (h : w.grownBy wr (some g)) (hb : Below B wr w2) (hB : w.heap.size ≤ B) : w.grownBy w2 (some g) := by
  refine ⟨hb.os.trans h.os, hb.tape.trans h.tape, hb.output.trans h.output, Nat.le_trans h.size hb.size, fun j hj hne => ?_⟩
  rw [hb.block j (by omega), h.block j hj hne]
theorem cur_below {w w2 : World} {g B : Nat} {s : List Nat × Nat} (h : Cur w g s) (hb : Below B w w2) (hB : g < B) : Cur w2 g s := by
  obtain ⟨A, n, c, m, e0, h1, h2, h3⟩ := h
  exact ⟨A, n, c, m, e0, (hb.block g hB).trans h1, h2.below (hb.mono (Nat.le_of_lt hB)), h3⟩

theorem wrap_small {b : Nat} {z : Int} (h : ¬ z < (b : Int)) (hz : z ≤ 2147483647) : wrap64 (b : Int) = (b : Int) := by
  unfold wrap64
  omega
theorem flat_len {r : Ru.Runs} (h : ∀ p ∈ r, 1 ≤ p.1) : r.length ≤ (Ru.flat r).length := by
  induction r with
  | nil => simp
  | cons p r ih =>
    have h1 := h p (by simp)
    have h2 := ih (fun q hq => h q (by simp [hq]))
    have e : Ru.flat (p :: r) = Ru.flat [p] ++ Ru.flat r := Ru.flat_append [p] r
    rw [e, Ru.flat_one, List.length_append, List.length_replicate, List.length_cons]
    omega
theorem flat_take_le (r : Ru.Runs) (k : Nat) : (Ru.flat (r.take k)).length ≤ (Ru.flat r).length := by
  have e : Ru.flat r = Ru.flat (r.take k) ++ Ru.flat (r.drop k) := by rw [← Ru.flat_append, List.take_append_drop]
  rw [e, List.length_append]
  omega

set_option maxHeartbeats 8000000 in
set_option maxRecDepth 100000 in
theorem take_cur (g : Nat) (s0 : List Nat × Nat) (n low high : Int) (w : World) (h : Cur w g s0) (hn : n ≤ 2147483647) :
    Calls Try.prog 28 #[.pointer (some ⟨g, 0, none⟩), .int .i64 n, .int .i64 low, .int .i64 high] w (TakeP (takeA s0 n low high) g w) := by
  by_cases hn1 : n < 1
  · rw [takeA_none hn1]
    have H := Lib.hid h
    clear h
    go_enter Try.func28, Try.ntmps28
    go_wp2
    go_ret
    exact ⟨_, rfl, World.ownsRow_nil _ _ _ _, H.out, World.grownBy.refl _ _⟩
  obtain ⟨N, rfl⟩ := Int.eq_ofNat_of_zero_le (show 0 ≤ n by omega)
  obtain ⟨i0, hi, hz0, hz1, hz2⟩ := info_parts info_run
  obtain ⟨j0, hj, hy0, hy1, hy2⟩ := info_parts info_int
  have hgl := h.lt
  have H := Lib.hid h
  have HT : Hid (takeA s0 (N : Int) low high = takeL N low high (N + 1) s0 []) := Lib.hid (by unfold takeA; rw [Int.toNat_natCast])
  rw [HT.out]
  clear h
  go_enter Try.func28, Try.ntmps28
  go_wp2
  go_loopw [9, 10] (TkRel w g N low high s0) (fun _ l _ => (intOf l).toNat)
  case atStart => exact ⟨[], s0, N + 1, (N : Int), rfl, by simp [Ru.flat], by simp [Ru.flat], World.ownsRow_nil _ _ _ _, by simp, H.out, World.grownBy.refl _ _, by simp [Ru.flat], by simp [Ru.flat]⟩
  case round =>
    obtain ⟨r, s, f, z, rfl, hz, hzl, hO, hpos, hC, hG, hT, hf⟩ := hrel
    obtain ⟨A, cc, rfl, hPA, _⟩ := runs_slice hO
    have hgs := hG.size
    have hrN : r.length ≤ (Ru.flat r).length := flat_len hpos
    have HO := Lib.hid hO
    have HC := Lib.hid hC
    have HG := Lib.hid hG
    have HTT := Lib.hid hT
    have HPOS := Lib.hid hpos
    have HRN := Lib.hid hrN
    have HZ := Lib.hid hz
    have HZL := Lib.hid hzl
    have HFU := Lib.hid hf
    have hz0' : 0 ≤ z := by omega
    have hzN : z ≤ 2147483647 := by omega
    by_cases hz0l : 0 < z
    · have HRUN := Lib.hid (takeRun_cur g s A r.length cc r z low high wr hC hPA (fun _ => own_far hO hgl) (by omega) hz0l (by omega))
      have hcl : Clean s := hC.nil
      have HCL := Lib.hid hcl
      have hzz : ((N - (Ru.flat r).length : Nat) : Int) = z := by omega
      have hlast := flat_last r hpos
      have HGO := Lib.hid (takeL_go (n := N) (f := f) (low := low) (high := high) (s := s) (out := Ru.flat r) (by omega) hf)
      have HER := Lib.hid (takeL_err (n := N) (f := f) (low := low) (high := high) (s := s) (out := Ru.flat r) (by omega) hf)
      rw [hzz, hlast] at HGO HER
      have HNO := Lib.hid (fun he => run_none (s := s) (last := lastV r) (left := z) (low := low) (high := high) hcl he)
      clear hO hC hG hT hpos hPA hrN hz hzl hf hcl hzz hlast
      generalize runS s (lastV r) z low high = s1 at *
      go_wp2_with fail
      refine HRUN.out.mono ?_
      rintro e w1 ⟨rfl, hc1, hg1⟩
      have HC1 := Lib.hid (hc1.kept (World.grownBy_alloc w1 (.cells #[.int .i64 (wrap64 ((bitsA s).1 : Int)), .int .i64 (intA (formS s z)).1] 71) none) (by simp))
      have HO1 := Lib.hid (own_grownG HO.out hg1 hgl)
      have HG1 := Lib.hid (Lib.grownBy_trans HG.out hg1)
      have hs1 := HG1.out.size
      clear hg1 hc1 HRUN HO
      by_cases he : s1.2 = 0
      · obtain ⟨n1, n2, n3, _, _, n6⟩ := HNO.out he
        obtain ⟨f', hf', hgo⟩ := HGO.out he
        have hform : formS s z = (bitsA s).2 := form_ok n1
        rw [hform] at HC1 ⊢
        have hbw : wrap64 ((bitsA s).1 : Int) = ((bitsA s).1 : Int) := wrap_small (not_or.1 n1).2 hzN
        rw [hbw] at HC1 ⊢
        have HGO2 := Lib.hid hgo
        have HF' := Lib.hid hf'
        have HB1 : Hid (1 ≤ (bitsA s).1 ∧ ((bitsA s).1 : Int) ≤ z) := Lib.hid ⟨Nat.le_of_not_lt (not_or.1 n1).1, Int.not_lt.1 (not_or.1 n1).2⟩
        have HE := Lib.hid he
        clear hbw hgo hf' hform n1 n2 n3 n6 HGO HER HNO
        generalize (bitsA s).1 = b at *
        generalize (intA (bitsA s).2).1 = v at *
        have hb1 := HB1.out.1
        have hbz := HB1.out.2
        have HERR := Lib.hid (err_cur g s1 _ HC1.out)
        rw [he] at HERR
        clear he
        go_wp2_with fail
        refine HERR.out.mono ?_
        rintro e w' ⟨rfl, rfl⟩
        clear HERR
        have HO2 : Hid (((w1.alloc (.cells #[.int .i64 (b : Int), .int .i64 v] 71)).alloc (.cells #[.int .i64 (b : Int), .int .i64 v] 71)).ownsRow w.heap.size 71 2 (.slice A r.length cc) r.length (ps r)) := Lib.hid ((HO1.out.alloc _).alloc _)
        go_wp2_with (at_builtin; refine wpList_append_lies _ rfl (.tmp 29) (.tmp 31) 68 rfl w.heap.size 71 i0 (.agg #[.int .i64 0, .int .i64 0]) 2 16 Try.underlying68 hi hz0 hz1 hz2 rfl (by decide) (.slice A r.length cc) r.length (ps r) rfl HO2.out ⟨w1.heap.size + 1, 0, none⟩ 1 1 (ps [((b : Int), v)]) rfl rfl ?c1 (ps_one _) (by decide) ?c3 ?c4 ?c5 (w1.heap.size + 1 + 1) ?c6 ?_)
        case c1 => have := new_run (w1.alloc (.cells #[.int .i64 (b : Int), .int .i64 v] 71)) 71 (b : Int) v; simpa only [World.size_alloc] using this
        case c3 => have := HRN.out; have := HZL.out; unfold maxLen; omega
        case c4 => have := HRN.out; have := HZL.out; omega
        case c5 => simp; omega
        case c6 => simp
        intro g3 cap3 w3 hown3 hgrow3 hat3 _
        have hb0 : w3.cell? ⟨w1.heap.size, 0, none⟩ = some (.int .i64 (b : Int)) := by
          refine hgrow3.cell ?_ (fun e' => ?_)
          · have h1 : ((w1.alloc (.cells #[.int .i64 (b : Int), .int .i64 v] 71)).alloc (.cells #[.int .i64 (b : Int), .int .i64 v] 71)).heap[w1.heap.size]? = some (.cells #[.int .i64 (b : Int), .int .i64 v] 71 (0, 0)) := (Below.heap_alloc _ _ _ (by simp)).trans (heap_alloc_new w1 _)
            exact cell_of_row _ _ 0 _ _ _ h1
          · have h9 : w1.heap.size < w1.heap.size := (HO1.out.lt _ e'.symm).2
            exact absurd h9 (Nat.lt_irrefl _)
        have HC3 : Hid (Cur w3 g s1) := Lib.hid ((HC1.out.kept (World.grownBy_alloc _ _ none) (by simp)).kept hgrow3 (fun k hk => by have := (HO1.out.lt k hk).1; omega))
        have HG3 := Lib.hid (grown_more (Lib.grownBy_allocR (Lib.grownBy_allocR HG1.out _) _) HO2.out hgrow3)
        have HO3 := Lib.hid hown3
        clear hown3 hgrow3 hat3
        go_wp2
        go_roundw
        case rel =>
          have hfl : (Ru.flat (r ++ [((b : Int), v)])) = Ru.flat r ++ List.replicate b v := by rw [Ru.flat_append, Ru.flat_one]; simp
          refine ⟨r ++ [((b : Int), v)], s1, f', _, rfl, ?_, ?_, ?_, ?_, HC3.out, HG3.out, ?_, ?_⟩
          · rw [hfl, HZ.out]; simp; omega
          · rw [hfl]; have := HZ.out; have := HZL.out; simp; omega
          · rw [List.length_append, ps_append]; exact HO3.out
          · intro p hp
            rcases List.mem_append.1 hp with hp | hp
            · exact HPOS.out p hp
            · rw [List.mem_singleton] at hp
              subst hp
              show 1 ≤ (b : Int)
              omega
          · rw [hfl, ← HGO2.out]; exact HTT.out
          · rw [hfl]; have := HFU.out; have := HF'.out; have := HZ.out; have := HZL.out; simp; omega
        case measure => simp [intOf]; omega
      · have hER := HER.out he
        have HEE := Lib.hid (HTT.out.symm.trans hER)
        have HERR := Lib.hid (err_cur g s1 _ HC1.out)
        have hbe : ((s1.2 : Int) != 0) = true := by rw [bne_iff_ne]; omega
        clear hER HGO HER HNO he
        generalize wrap64 ((bitsA s).1 : Int) = b at *
        generalize (intA (formS s z)).1 = v at *
        go_wp2_with fail
        refine HERR.out.mono ?_
        rintro e w' ⟨rfl, rfl⟩
        go_wp2
        go_ret
        rw [HEE.out]
        exact ⟨_, rfl, World.ownsRow_nil _ _ _ _, HC1.out, Lib.grownBy_allocR HG1.out _⟩
    · have hzero : z = 0 := by omega
      have HEE : Hid (takeL N low high (N + 1) s0 [] = (Ru.flat r, s)) := Lib.hid (by rw [← hT]; exact takeL_end (by omega))
      have hnb : ¬ (2147483647 : Int) < (N : Int) := by omega
      have HPA := Lib.hid hPA
      clear hO hC hG hT hpos hPA hrN hz hzl hf
      subst hzero
      go_wp2_with (at_make; refine wpList_make_own _ rfl _ _ 22 rfl wr.heap.size 3 j0 (.int .i64 0) 1 Try.underlying22 hj hy0 hy1 .i64 .i64 _ N rfl rfl rfl ?m1 ?m2 (Nat.le_refl _) ?_)
      case m1 => omega
      case m2 => unfold maxLen; omega
      intro w2 hown2 hgrow2
      have hb2 : Below wr.heap.size wr w2 := ⟨hgrow2.os, hgrow2.tape, hgrow2.output, hgrow2.size, fun k hk => hgrow2.block k hk (by simp)⟩
      have HB2 := Lib.hid hb2
      have HO2 := Lib.hid hown2
      have hrl := HRN.out
      have hfl := HZL.out
      clear hown2 hgrow2 hb2
      obtain ⟨wo, rfl⟩ : ∃ wo : World, wo = wr := ⟨_, rfl⟩
      go_wp2
      go_loopw [12, 45] (RwIn wo r) (fun _ i _ => r.length - (intOf i).toNat)
      case atStart => exact ⟨0, Nat.zero_le _, rfl, by simpa [Ru.flat, vs] using HO2.out, HB2.out⟩
      case round =>
        obtain ⟨k, hk, rfl, hO3, hB3⟩ := hrel
        have HO3 := Lib.hid hO3
        have HB3 := Lib.hid hB3
        have hs3 := hB3.size
        by_cases hlt : k < r.length
        · obtain ⟨b, off, rfl, hlb, hc⟩ := (HPA.out.below hB3).2 (by omega)
          obtain ⟨hc0, hc1⟩ := hc k hlt
          have hp1 : 1 ≤ (r.getD k (0, 0)).1 := by
            have e : r.getD k (0, 0) = r[k] := by simp [List.getD, hlt]
            rw [e]
            exact HPOS.out _ (List.getElem_mem hlt)
          have hfk := flat_take_le r (k + 1)
          have hFT : Ru.flat (r.take (k + 1)) = Ru.flat (r.take k) ++ List.replicate (r.getD k (0, 0)).1.toNat (r.getD k (0, 0)).2 := by rw [Ru.taken hlt (0, 0), Ru.flat_append, Ru.flat_one]
          rw [hFT, List.length_append, List.length_replicate] at hfk
          have HFT := Lib.hid hFT
          have HFK := Lib.hid hfk
          clear hc hO3 hB3 hFT hfk
          generalize r.getD k (0, 0) = p at *
          obtain ⟨x, y⟩ := p
          simp only at hc0 hc1 hp1 HFT HFK
          generalize Ru.flat (r.take k) = o at *
          have HBH := Lib.hid (fun W (hW : W.ownsRow wo.heap.size 3 1 u12 o.length (vs o)) (hw : wo.heap.size ≤ W.heap.size) => behind_own wo.heap.size u12 o x y W hW hw (by have := HFK.out; omega))
          go_wp2_with (go_at_call 41; refine (HBH.out _ (HO3.out.alloc _) (by simp; omega)).mono ?_; rintro e w4 ⟨u4, rfl, hI4⟩; have HI4 := Lib.hid hI4; clear hI4)
          go_roundw
          case rel => exact ⟨k + 1, by omega, by go_num, by rw [HFT.out]; exact HI4.out.1, (HB3.out.alloc hs3 _).trans (HI4.out.below (HO3.out.alloc _) (by simp; omega))⟩
          case measure => simp [intOf]; omega
        · have HE : Hid (r.take k = r) := Lib.hid (List.take_of_length_le (by omega))
          clear hO3 hB3
          go_wp2
          go_ret
          rw [HEE.out]
          refine ⟨_, rfl, ?_, cur_below HC.out HB3.out HC.out.lt, grown_below HG.out HB3.out hgs⟩
          have h2 := HO3.out
          rw [HE.out] at h2
          exact ownsRow_base h2 hgs

end Go.Proofs.Ytnfflddcekffeaa
