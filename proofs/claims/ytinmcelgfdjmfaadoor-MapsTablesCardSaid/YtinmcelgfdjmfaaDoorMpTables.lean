/-
  The walk of MapsTables. Conditions: the table can be read; words of 64 bits; the table of math/bits is laid.
-/
import Derived.Test.YtinmcelgfdjmfaaDoorMpL
import Derived.Test.YtinmcelgfdjmfaaDoorMpC
import Derived.Test.YtinmcelgfdjmfaaDoorMpD
import Derived.Test.YtinmcelgfdjmfaaDoorMpG
import Derived.Test.YtinmcelgfdjmfaaDoorSlG
import Derived.Test.YtinmcelgfdjmfaaDoorRegionK
namespace Go.Proofs.YtinmcelgfdjmfaaDoor
open Go.RowKit

/-- The world while the law's last statement runs: a byte that was made, Put behind it; another, and what the document's Put told. -/
structure MtC (m : Nat) (pb : List Nat) (w1 : World) (u : Value × Value × Value × Value) (D : Nat → Bool) (W : World) : Prop where
  base : Below w1.heap.size w1 W
  o1 : D 17 = true → D 19 = false → W.ownsRow w1.heap.size 5 1 u.1 1 (bs [1])
  o2 : D 19 = true → W.ownsRow w1.heap.size 5 1 u.2.1 (1 + m) (bs ([1] ++ pb))
  o3 : D 21 = true → W.ownsRow w1.heap.size 5 1 u.2.2.1 1 (bs [1])
  o4 : D 24 = true → W.ownsRow w1.heap.size 5 1 u.2.2.2 m (bs pb)
  a3 : D 17 = true → D 19 = false → D 21 = true → u.2.2.1.ownBlock ≠ u.1.ownBlock
  a4 : D 17 = true → D 19 = false → D 24 = true → u.2.2.2.ownBlock = none ∨ u.2.2.2.ownBlock ≠ u.1.ownBlock
section
variable {m : Nat} {pb : List Nat} {w1 : World} {u : Value × Value × Value × Value} {D : Nat → Bool} {W : World}
theorem MtC.up (h : MtC m pb w1 u D W) {i : Nat} (h1 : (17 == i) = false) (h2 : (19 == i) = false) (h3 : (21 == i) = false) (h4 : (24 == i) = false) : MtC m pb w1 u (add D i) W :=
  ⟨h.base, by rw [up_other h1, up_other h2]; exact h.o1, by rw [up_other h2]; exact h.o2, by rw [up_other h3]; exact h.o3, by rw [up_other h4]; exact h.o4, by rw [up_other h1, up_other h2, up_other h3]; exact h.a3, by rw [up_other h1, up_other h2, up_other h4]; exact h.a4⟩
theorem MtC.below (h : MtC m pb w1 u D W) {W' : World} (hb : Below W.heap.size W W') : MtC m pb w1 u D W' :=
  ⟨h.base.trans (hb.mono h.base.size), fun x y => ownsRow_below (h.o1 x y) hb, fun x => ownsRow_below (h.o2 x) hb, fun x => ownsRow_below (h.o3 x) hb, fun x => ownsRow_below (h.o4 x) hb, h.a3, h.a4⟩
set_option maxRecDepth 100000 in
theorem block_ne14 {v : Value} {n : Nat} {xs : List Value} (h : W.ownsRow w1.heap.size 5 1 v n xs) : v.ownBlock ≠ some W.heap.size := fun e => absurd (h.lt _ e).2 (Nat.lt_irrefl _)
set_option maxRecDepth 100000 in
theorem MtC.new17 (h : MtC m pb w1 u D W) : MtC m pb w1 (.slice (some ⟨W.heap.size, 0, none⟩) 1 1, u.2) (add D 17) (W.alloc (.cells #[.int .u8 1] 5)) := by
  have hb := (Below.refl W.heap.size W).alloc (Nat.le_refl _) (.cells #[.int .u8 1] 5)
  have k := h.below hb
  refine ⟨k.base, fun _ _ => World.ownsRow_lit W #[.int .u8 1] 1 h.base.size (by decide) rfl, ?_, ?_, ?_, ?_, ?_⟩
  · rw [up_other rfl]; exact k.o2
  · rw [up_other rfl]; exact k.o3
  · rw [up_other rfl]; exact k.o4
  · rw [up_other (j := 21) rfl]
    exact fun _ _ e => block_ne14 (h.o3 e)
  · rw [up_other (j := 24) rfl]
    exact fun _ _ e => .inr (block_ne14 (h.o4 e))
set_option maxRecDepth 100000 in
theorem MtC.new21 (h : MtC m pb w1 u D W) : MtC m pb w1 (u.1, u.2.1, .slice (some ⟨W.heap.size, 0, none⟩) 1 1, u.2.2.2) (add D 21) (W.alloc (.cells #[.int .u8 1] 5)) := by
  have hb := (Below.refl W.heap.size W).alloc (Nat.le_refl _) (.cells #[.int .u8 1] 5)
  have k := h.below hb
  refine ⟨k.base, ?_, ?_, fun _ => World.ownsRow_lit W #[.int .u8 1] 1 h.base.size (by decide) rfl, ?_, ?_, ?_⟩
  · rw [up_other rfl, up_other rfl]; exact k.o1
  · rw [up_other rfl]; exact k.o2
  · rw [up_other rfl]; exact k.o4
  · rw [up_other (j := 17) rfl, up_other (j := 19) rfl]
    exact fun e1 e2 _ => Ne.symm (block_ne14 (h.o1 e1 e2))
  · rw [up_other rfl, up_other rfl, up_other rfl]; exact k.a4
set_option maxRecDepth 100000 in
theorem MtC.new24 (h : MtC m pb w1 u D W) {v : Value} {W' : World} (hown : W'.ownsRow W.heap.size 5 1 v m (bs pb)) (hb : Below W.heap.size W W') : MtC m pb w1 (u.1, u.2.1, u.2.2.1, v) (add D 24) W' := by
  have k := h.below hb
  refine ⟨k.base, ?_, ?_, ?_, fun _ => ownsRow_base hown h.base.size, ?_, ?_⟩
  · rw [up_other rfl, up_other rfl]; exact k.o1
  · rw [up_other rfl]; exact k.o2
  · rw [up_other rfl]; exact k.o3
  · rw [up_other rfl, up_other rfl, up_other rfl]; exact k.a3
  · rw [up_other (j := 17) rfl, up_other (j := 19) rfl]
    intro e1 e2 _
    refine .inr (fun e => ?_)
    rcases hv : v.ownBlock with _ | g
    · obtain ⟨g', cap, e', _, _⟩ := (h.o1 e1 e2).form (by decide)
      have e'' : u.1.ownBlock = some g' := by rw [e']; rfl
      rw [show ((u.1, u.2.1, u.2.2.1, v) : Value × Value × Value × Value).2.2.2.ownBlock = none from hv] at e
      rw [show ((u.1, u.2.1, u.2.2.1, v) : Value × Value × Value × Value).1.ownBlock = some g' from e''] at e
      cases e
    · have h1 := (hown.lt g hv).1
      have h2 := ((h.o1 e1 e2).lt g (e.symm.trans hv)).2
      omega
theorem MtC.put (h : MtC m pb w1 u D W) (h1 : D 17 = true) (h2 : D 19 = false) {v : Value} {W' : World} (hinv : OwnInv w1.heap.size W u.1 v (1 + m) (bs [1] ++ bs pb) W') : MtC m pb w1 (u.1, v, u.2.2) (add D 19) W' := by
  refine ⟨h.base.trans (hinv.below (h.o1 h1 h2) h.base.size), (by rw [up_self]; intro _ e; cases e), (fun _ => by rw [bs_append]; exact hinv.1), ?_, ?_, (by rw [up_self]; intro _ e; cases e), (by rw [up_self]; intro _ e; cases e)⟩
  · rw [up_other rfl]
    exact fun e => (h.o3 e).kept hinv.2.1 (.inr (h.a3 h1 h2 e))
  · rw [up_other rfl]
    exact fun e => (h.o4 e).kept hinv.2.1 (h.a4 h1 h2 e)
end

def MtG (La : Option Addr) (n c : Nat) (x y : Int) (sa : Sl.Four) (sA sL sP : ByteArray) (r : Bool) (u : Value × Value × Value × Value) : Nat → Value → Prop
  | 0, v => v = .slice La n c
  | 1, v => v = .int .i64 x
  | 2, v => v = .bool r
  | 3, v => v = .slice La n c
  | 4, v => v = .int .i64 x
  | 5, v => v = .bool r
  | 6, v => v = .bool true
  | 7, v => v = .bool true
  | 8, v => v = .slice La n c
  | 9, v => v = .int .i64 y
  | 10, v => v = setV sa
  | 11, v => v = .slice La n c
  | 12, v => v = .int .i64 y
  | 13, v => v = setV sa
  | 14, v => v = .bool true
  | 15, v => v = .bool true
  | 16, v => v = .bool true
  | 17, v => v = u.1
  | 18, v => v = .slice La n c
  | 19, v => v = u.2.1
  | 20, v => v = .string sA
  | 21, v => v = u.2.2.1
  | 22, v => v = .string sL
  | 23, v => v = .slice La n c
  | 24, v => v = u.2.2.2
  | 25, v => v = .string sP
  | 26, v => v = .string sA
  | 27, v => v = .bool true
  | 28, v => v = .bool true
  | 29, v => v = .bool true
  | 30, v => v = .bool true
  | 31, v => v = .bool true
  | 32, v => v = .bool true
  | _, _ => True

theorem MtG_17 {La : Option Addr} {n c : Nat} {x y : Int} {sa : Sl.Four} {sA sL sP : ByteArray} {r : Bool} {u : Value × Value × Value × Value} {v z : Value} {D : Nat → Bool} {j : Nat} (hD0 : D 17 = false) (hj : D j = true) (h : MtG La n c x y sa sA sL sP r u j z) : MtG La n c x y sa sA sL sP r (v, u.2) j z := by
  by_cases e : j = 17
  · subst e
    rw [hD0] at hj
    cases hj
  · unfold MtG at h ⊢
    split at h <;> first | exact h | exact absurd rfl e

theorem MtG_19 {La : Option Addr} {n c : Nat} {x y : Int} {sa : Sl.Four} {sA sL sP : ByteArray} {r : Bool} {u : Value × Value × Value × Value} {v z : Value} {D : Nat → Bool} {j : Nat} (hD0 : D 19 = false) (hj : D j = true) (h : MtG La n c x y sa sA sL sP r u j z) : MtG La n c x y sa sA sL sP r (u.1, v, u.2.2) j z := by
  by_cases e : j = 19
  · subst e
    rw [hD0] at hj
    cases hj
  · unfold MtG at h ⊢
    split at h <;> first | exact h | exact absurd rfl e

theorem MtG_21 {La : Option Addr} {n c : Nat} {x y : Int} {sa : Sl.Four} {sA sL sP : ByteArray} {r : Bool} {u : Value × Value × Value × Value} {v z : Value} {D : Nat → Bool} {j : Nat} (hD0 : D 21 = false) (hj : D j = true) (h : MtG La n c x y sa sA sL sP r u j z) : MtG La n c x y sa sA sL sP r (u.1, u.2.1, v, u.2.2.2) j z := by
  by_cases e : j = 21
  · subst e
    rw [hD0] at hj
    cases hj
  · unfold MtG at h ⊢
    split at h <;> first | exact h | exact absurd rfl e

theorem MtG_24 {La : Option Addr} {n c : Nat} {x y : Int} {sa : Sl.Four} {sA sL sP : ByteArray} {r : Bool} {u : Value × Value × Value × Value} {v z : Value} {D : Nat → Bool} {j : Nat} (hD0 : D 24 = false) (hj : D j = true) (h : MtG La n c x y sa sA sL sP r u j z) : MtG La n c x y sa sA sL sP r (u.1, u.2.1, u.2.2.1, v) j z := by
  by_cases e : j = 24
  · subst e
    rw [hD0] at hj
    cases hj
  · unfold MtG at h ⊢
    split at h <;> first | exact h | exact absurd rfl e

theorem mp_move_at {l : List Sl.Four} {k : Nat} (d : Int) (h : k < l.length) : (Mp.move l d).getD k Sl.no = (l.getD k Sl.no).move d := by
  simp [Mp.move, List.getD, h]

set_option maxHeartbeats 8000000 in
set_option maxRecDepth 100000 in
theorem mapsTables_walk (La : Option Addr) (n c : Nat) (l : List Sl.Four) (x y : Int) (w : World) (h : SetsAt w w.heap.size La n l) (hn : n ≤ 9223372036854775807) (ho : ∀ s ∈ l, s.ok) (hT : Tab w) (hw : 0 < w.heap.size) :
    Calls Tryd.prog 3 #[.slice La n c, .int .i64 x, .int .i64 y] w (BoolP true w) := by
  have HLvs := Lib.hid (fun (W : World) (hb : Below w.heap.size w W) => lives14_any W (tab_below hT hb hw) (Nat.lt_of_lt_of_le hw hb.size))
  by_cases h100 : 100 < n
  · have hi : (100 : Int) < (n : Int) := by omega
    have HLv := Lib.hid (HLvs.out w (Below.refl _ _))
    clear h ho hT hw
    go_enter Tryd.func3, Tryd.ntmps3
    go_wp2_with (go_at_call 5; refine HLv.out.mono ?_; rintro e w1 ⟨rfl, hb1⟩)
    go_ret
    exact ⟨rfl, hb1⟩
  have hi : ¬ (100 : Int) < (n : Int) := by omega
  have HL := Lib.hid h.1
  have hml : (Mp.move l y).length = n := by unfold Mp.move; rw [List.length_map, h.1]
  have HMv := mpmove_any La n c l y w h (by omega) ho hT hw
  unfold SetsP at HMv
  rw [hml] at HMv
  have HMk := Lib.hid (fun k (hk : k < n) => mp_move_at (l := l) y (show k < l.length by rw [h.1]; exact hk))
  have HMr := Lib.hid (fun (s : Sl.Four) (W : World) => rmove_any s y W)
  have HRs := Lib.hid (fun (W : World) (hb : Below w.heap.size w W) => mpright_any La n c l x W (h.on hb) hn ho (tab_below hT hb hw) (Nat.lt_of_lt_of_le hw hb.size))
  have HR2 := Lib.hid (fun (W : World) (hN : SetsAt W W.heap.size La n l) => rmpright_any La n c l x W hN hn ho)
  have HA1 := Lib.hid (fun (W : World) (hN : SetsAt W W.heap.size La n l) => mpat_any La n c l y W hN)
  have HA2 := Lib.hid (fun (W : World) (hN : SetsAt W W.heap.size La n l) => rmpat_any La n c l y W hN)
  obtain ⟨r, hr⟩ : ∃ r, Mp.right l x = r := ⟨_, rfl⟩
  rw [hr] at HRs HR2
  unfold BoolP at HRs HR2
  have hrr : (r == r) = true := by cases r <;> rfl
  obtain ⟨sa, hsa⟩ : ∃ s, Mp.at_ l y = s := ⟨_, rfl⟩
  rw [hsa] at HA1 HA2
  unfold SetP at HA1 HA2
  obtain ⟨pb, hpb⟩ : ∃ p, Mp.bytes l = p := ⟨_, rfl⟩
  have HPB := Lib.hid hpb
  obtain ⟨sA, hsA⟩ : ∃ t, str ([1] ++ pb) = t := ⟨_, rfl⟩
  obtain ⟨sL, hsL⟩ : ∃ t, str [1] = t := ⟨_, rfl⟩
  obtain ⟨sP, hsP⟩ : ∃ t, str pb = t := ⟨_, rfl⟩
  have HSA := Lib.hid hsA
  have HSL := Lib.hid hsL
  have HSP := Lib.hid hsP
  have hcat : sL ++ sP = sA := by rw [← hsA, ← hsL, ← hsP, str_append]
  have hzL : sL.size ≤ 1 := by rw [← hsL, str_size]; exact Nat.le_refl 1
  have hzP : sP.size ≤ 5000 := by
    rw [← hsP, str_size, ← hpb]
    have h1 := Mp.bytes_len ho (by rw [h.1]; omega)
    rw [h.1] at h1
    omega
  have hsd : (sA.toList == sA.toList) = true := beq_self_eq_true _
  have HN0 := Lib.hid h
  have HOk := Lib.hid ho
  have HMM := Lib.hid HMv
  generalize hq : Mp.move l y = q at *
  clear hr hsa hsA hsL hsP hpb h ho hT hml HMv hq
  go_enter Tryd.func3, Tryd.ntmps3
  go_wp2_with (go_at_call 6; go_must (refine HMM.out.mono ?_; rintro _ w1 ⟨A, c1, rfl, hA, _, _, hb1⟩; have HA := Lib.hid hA; have HB1 := Lib.hid hb1; clear hA hb1))
  clear HMM
  go_loopw [8] (fun i wr => ∃ k : Nat, k ≤ n ∧ i = .int .i64 (k : Int) ∧ Below w1.heap.size w1 wr) (fun i _ => n - (intOf i).toNat)
  case atStart => exact ⟨0, Nat.zero_le _, rfl, Below.refl _ _⟩
  case round =>
    obtain ⟨k, hk, rfl, hB⟩ := hrel
    have HB := Lib.hid hB
    have HBw := Lib.hid (HB1.out.trans (hB.mono HB1.out.size))
    clear hB
    by_cases hlt : k < n
    · obtain ⟨b1, off1, z, rfl, hbl1, hz, _, c0, c1', c2, c3⟩ := sets_cell (HA.out.on HB.out) hlt
      obtain ⟨b2, off2, s, rfl, hbl2, hs, _, d0, d1, d2, d3⟩ := sets_cell (HN0.out.on HBw.out) hlt
      have hzs : z = s.move y := by rw [← hz, ← hs]; exact HMk.out k hlt
      have HC := Lib.hid (HMr.out s)
      rw [← hzs] at HC
      have eqs := eq_sets z z
      rw [Mp.same_self] at eqs
      obtain ⟨K, hK, f, HF, HBe, HU⟩ := worlds_of wr
      have q0 := cell_q HBe.out hbl1 c0
      have q1 := cell_q HBe.out hbl1 c1'
      have q2 := cell_q HBe.out hbl1 c2
      have q3 := cell_q HBe.out hbl1 c3
      have p0 := cell_q HBe.out hbl2 d0
      have p1 := cell_q HBe.out hbl2 d1
      have p2 := cell_q HBe.out hbl2 d2
      have p3 := cell_q HBe.out hbl2 d3
      have hki : (k : Int) < (n : Int) := by omega
      clear c0 c1' c2 c3 d0 d1 d2 d3 hz hs hzs
      go_wp2
      refine region_q f HF.out (by kernel_rfl) (by kernel_rfl) ?_
      repeat (go_big_quiet_step (first | (go_at_call 7; refine Calls.q HU.out (HC.out _))))
      refine wpQuiet_nil ?_
      rintro _ ⟨nq, rfl⟩
      go_wp2
      go_roundw
      case rel => exact ⟨k + 1, hlt, by go_num, HB.out.trans ((HBe.out nq).mono HB.out.size)⟩
      case measure => simp [intOf]; omega
    · have HN1 := Lib.hid (HN0.out.on HBw.out)
      have HR1 := Lib.hid (fun (W : World) (hb : Below wr.heap.size wr W) => HRs.out W (below_self HBw.out hb))
      have HLv := Lib.hid (fun (W : World) (hb : Below wr.heap.size wr W) => HLvs.out W (below_self HBw.out hb))
      have hki : decide ((k : Int) < (n : Int)) = false := decide_eq_false (by omega)
      clear HRs HLvs HB HA
      go_wp2
      have hS : MtC pb.length pb wr (undef, undef, undef, undef) (fun _ => false) wr.drew := ⟨(Below.refl _ _).drew, (fun e => by cases e), (fun e => by cases e), (fun e => by cases e), (fun e => by cases e), (fun e => by cases e), (fun e => by cases e)⟩
      generalize hw1 : wr = w1 at *
      refine region_k (undef, undef, undef, undef) 70 (fun u D W => MtC pb.length pb w1 u D W) (MtG La n c x y sa sA sL sP r) (by kernel_rfl) (by kernel_rfl) (by kernel_rfl) rfl rfl hS ?_ ?_
      · refine ⟨?_, ?_, ?_, ?_, ?_, ?_, ?_, ?_, ?_, ?_, ?_, ?_, ?_, ?_, ?_, ?_, ?_, ?_, ?_, ?_, ?_, ?_, ?_, ?_, ?_, ?_, ?_, ?_, ?_, ?_, ?_, ?_, ?_, trivial⟩
        · intro u D a w hI hdep hD0 K hK
          have e0 : a.eval (.tmp 0) = .slice La n c := hI.read 0 rfl
          refine ok_value (wanted_none rfl) (v := .slice La n c) ?_ (hK u _ _ (hI.world.up rfl rfl rfl rfl) (fun _ _ _ h => h) rfl)
          have ec : ∀ c, a.eval (.const c) = c := fun _ => rfl
          have ef : ∀ f, a.eval (.func f) = .func (.func f) #[] #[] := fun _ => rfl
          clear hI hdep hK
          generalize a.eval = ρ at e0 ec ef ⊢
          go_simp
        · intro u D a w hI hdep hD0 K hK
          have e1 : a.eval (.tmp 1) = .int .i64 x := hI.read 1 rfl
          refine ok_value (wanted_none rfl) (v := .int .i64 x) ?_ (hK u _ _ (hI.world.up rfl rfl rfl rfl) (fun _ _ _ h => h) rfl)
          have ec : ∀ c, a.eval (.const c) = c := fun _ => rfl
          have ef : ∀ f, a.eval (.func f) = .func (.func f) #[] #[] := fun _ => rfl
          clear hI hdep hK
          generalize a.eval = ρ at e1 ec ef ⊢
          go_simp
        · intro u D a w hI hdep hD0 K hK
          have e38 : a.eval (.tmp 38) = .slice La n c := hI.good 0 38 (dep_of hdep 0 rfl) rfl
          have e39 : a.eval (.tmp 39) = .int .i64 x := hI.good 1 39 (dep_of hdep 1 rfl) rfl
          refine ok_call (wanted_none rfl) (f := 8) (args := #[.slice La n c, .int .i64 x]) ?_ (HR1.out w hI.world.base) ?_
          · have ec : ∀ c, a.eval (.const c) = c := fun _ => rfl
            have ef : ∀ f, a.eval (.func f) = .func (.func f) #[] #[] := fun _ => rfl
            clear hI hdep hK
            generalize a.eval = ρ at e38 e39 ec ef ⊢
            go_simp
          · rintro e w2 ⟨rfl, hb2⟩
            exact ⟨_, rfl, hK u _ _ (((hI.world.up rfl rfl rfl rfl)).below hb2) (fun _ _ _ h => h) rfl⟩
        · intro u D a w hI hdep hD0 K hK
          have e0 : a.eval (.tmp 0) = .slice La n c := hI.read 0 rfl
          refine ok_value (wanted_none rfl) (v := .slice La n c) ?_ (hK u _ _ (hI.world.up rfl rfl rfl rfl) (fun _ _ _ h => h) rfl)
          have ec : ∀ c, a.eval (.const c) = c := fun _ => rfl
          have ef : ∀ f, a.eval (.func f) = .func (.func f) #[] #[] := fun _ => rfl
          clear hI hdep hK
          generalize a.eval = ρ at e0 ec ef ⊢
          go_simp
        · intro u D a w hI hdep hD0 K hK
          have e1 : a.eval (.tmp 1) = .int .i64 x := hI.read 1 rfl
          refine ok_value (wanted_none rfl) (v := .int .i64 x) ?_ (hK u _ _ (hI.world.up rfl rfl rfl rfl) (fun _ _ _ h => h) rfl)
          have ec : ∀ c, a.eval (.const c) = c := fun _ => rfl
          have ef : ∀ f, a.eval (.func f) = .func (.func f) #[] #[] := fun _ => rfl
          clear hI hdep hK
          generalize a.eval = ρ at e1 ec ef ⊢
          go_simp
        · intro u D a w hI hdep hD0 K hK
          have e41 : a.eval (.tmp 41) = .slice La n c := hI.good 3 41 (dep_of hdep 3 rfl) rfl
          have e42 : a.eval (.tmp 42) = .int .i64 x := hI.good 4 42 (dep_of hdep 4 rfl) rfl
          refine ok_call (wanted_none rfl) (f := 9) (args := #[.slice La n c, .int .i64 x]) ?_ (HR2.out w (HN1.out.on hI.world.base)) ?_
          · have ec : ∀ c, a.eval (.const c) = c := fun _ => rfl
            have ef : ∀ f, a.eval (.func f) = .func (.func f) #[] #[] := fun _ => rfl
            clear hI hdep hK
            generalize a.eval = ρ at e41 e42 ec ef ⊢
            go_simp
          · rintro e w2 ⟨rfl, hb2⟩
            exact ⟨_, rfl, hK u _ _ (((hI.world.up rfl rfl rfl rfl)).below hb2) (fun _ _ _ h => h) rfl⟩
        · intro u D a w hI hdep hD0 K hK
          have e40 : a.eval (.tmp 40) = .bool r := hI.good 2 40 (dep_of hdep 2 rfl) rfl
          have e43 : a.eval (.tmp 43) = .bool r := hI.good 5 43 (dep_of hdep 5 rfl) rfl
          refine ok_value (wanted_none rfl) (v := .bool true) ?_ (hK u _ _ (hI.world.up rfl rfl rfl rfl) (fun _ _ _ h => h) rfl)
          have ec : ∀ c, a.eval (.const c) = c := fun _ => rfl
          have ef : ∀ f, a.eval (.func f) = .func (.func f) #[] #[] := fun _ => rfl
          clear hI hdep hK
          generalize a.eval = ρ at e40 e43 ec ef ⊢
          go_simp
        · intro u D a w hI hdep hD0 K hK
          have e44 : a.eval (.tmp 44) = .bool true := hI.good 6 44 (dep_of hdep 6 rfl) rfl
          refine ok_value (wanted_none rfl) (v := .bool true) ?_ (hK u _ _ (hI.world.up rfl rfl rfl rfl) (fun _ _ _ h => h) rfl)
          have ec : ∀ c, a.eval (.const c) = c := fun _ => rfl
          have ef : ∀ f, a.eval (.func f) = .func (.func f) #[] #[] := fun _ => rfl
          clear hI hdep hK
          generalize a.eval = ρ at e44 ec ef ⊢
          go_simp
        · intro u D a w hI hdep hD0 K hK
          have eg : a.eval (.tmp 45) = .bool true := hI.good 7 45 (dep_of hdep 7 rfl) rfl
          have e0 : a.eval (.tmp 0) = .slice La n c := hI.read 0 rfl
          refine ok_value (wanted_is rfl rfl hI.size (by simp) eg) (v := .slice La n c) ?_ (hK u _ _ (hI.world.up rfl rfl rfl rfl) (fun _ _ _ h => h) rfl)
          have ec : ∀ c, a.eval (.const c) = c := fun _ => rfl
          have ef : ∀ f, a.eval (.func f) = .func (.func f) #[] #[] := fun _ => rfl
          clear hI hdep hK
          generalize a.eval = ρ at eg e0 ec ef ⊢
          go_simp
        · intro u D a w hI hdep hD0 K hK
          have eg : a.eval (.tmp 45) = .bool true := hI.good 7 45 (dep_of hdep 7 rfl) rfl
          have e2 : a.eval (.tmp 2) = .int .i64 y := hI.read 2 rfl
          refine ok_value (wanted_is rfl rfl hI.size (by simp) eg) (v := .int .i64 y) ?_ (hK u _ _ (hI.world.up rfl rfl rfl rfl) (fun _ _ _ h => h) rfl)
          have ec : ∀ c, a.eval (.const c) = c := fun _ => rfl
          have ef : ∀ f, a.eval (.func f) = .func (.func f) #[] #[] := fun _ => rfl
          clear hI hdep hK
          generalize a.eval = ρ at eg e2 ec ef ⊢
          go_simp
        · intro u D a w hI hdep hD0 K hK
          have eg : a.eval (.tmp 45) = .bool true := hI.good 7 45 (dep_of hdep 7 rfl) rfl
          have e46 : a.eval (.tmp 46) = .slice La n c := hI.good 8 46 (dep_of hdep 8 rfl) rfl
          have e47 : a.eval (.tmp 47) = .int .i64 y := hI.good 9 47 (dep_of hdep 9 rfl) rfl
          refine ok_call (wanted_is rfl rfl hI.size (by simp) eg) (f := 10) (args := #[.slice La n c, .int .i64 y]) ?_ (HA1.out w (HN1.out.on hI.world.base)) ?_
          · have ec : ∀ c, a.eval (.const c) = c := fun _ => rfl
            have ef : ∀ f, a.eval (.func f) = .func (.func f) #[] #[] := fun _ => rfl
            clear hI hdep hK
            generalize a.eval = ρ at eg e46 e47 ec ef ⊢
            go_simp
          · rintro e w2 ⟨rfl, hb2⟩
            exact ⟨_, rfl, hK u _ _ (((hI.world.up rfl rfl rfl rfl)).below hb2) (fun _ _ _ h => h) rfl⟩
        · intro u D a w hI hdep hD0 K hK
          have eg : a.eval (.tmp 45) = .bool true := hI.good 7 45 (dep_of hdep 7 rfl) rfl
          have e0 : a.eval (.tmp 0) = .slice La n c := hI.read 0 rfl
          refine ok_value (wanted_is rfl rfl hI.size (by simp) eg) (v := .slice La n c) ?_ (hK u _ _ (hI.world.up rfl rfl rfl rfl) (fun _ _ _ h => h) rfl)
          have ec : ∀ c, a.eval (.const c) = c := fun _ => rfl
          have ef : ∀ f, a.eval (.func f) = .func (.func f) #[] #[] := fun _ => rfl
          clear hI hdep hK
          generalize a.eval = ρ at eg e0 ec ef ⊢
          go_simp
        · intro u D a w hI hdep hD0 K hK
          have eg : a.eval (.tmp 45) = .bool true := hI.good 7 45 (dep_of hdep 7 rfl) rfl
          have e2 : a.eval (.tmp 2) = .int .i64 y := hI.read 2 rfl
          refine ok_value (wanted_is rfl rfl hI.size (by simp) eg) (v := .int .i64 y) ?_ (hK u _ _ (hI.world.up rfl rfl rfl rfl) (fun _ _ _ h => h) rfl)
          have ec : ∀ c, a.eval (.const c) = c := fun _ => rfl
          have ef : ∀ f, a.eval (.func f) = .func (.func f) #[] #[] := fun _ => rfl
          clear hI hdep hK
          generalize a.eval = ρ at eg e2 ec ef ⊢
          go_simp
        · intro u D a w hI hdep hD0 K hK
          have eg : a.eval (.tmp 45) = .bool true := hI.good 7 45 (dep_of hdep 7 rfl) rfl
          have e49 : a.eval (.tmp 49) = .slice La n c := hI.good 11 49 (dep_of hdep 11 rfl) rfl
          have e50 : a.eval (.tmp 50) = .int .i64 y := hI.good 12 50 (dep_of hdep 12 rfl) rfl
          refine ok_call (wanted_is rfl rfl hI.size (by simp) eg) (f := 11) (args := #[.slice La n c, .int .i64 y]) ?_ (HA2.out w (HN1.out.on hI.world.base)) ?_
          · have ec : ∀ c, a.eval (.const c) = c := fun _ => rfl
            have ef : ∀ f, a.eval (.func f) = .func (.func f) #[] #[] := fun _ => rfl
            clear hI hdep hK
            generalize a.eval = ρ at eg e49 e50 ec ef ⊢
            go_simp
          · rintro e w2 ⟨rfl, hb2⟩
            exact ⟨_, rfl, hK u _ _ (((hI.world.up rfl rfl rfl rfl)).below hb2) (fun _ _ _ h => h) rfl⟩
        · intro u D a w hI hdep hD0 K hK
          have eg : a.eval (.tmp 45) = .bool true := hI.good 7 45 (dep_of hdep 7 rfl) rfl
          have e48 : a.eval (.tmp 48) = setV sa := hI.good 10 48 (dep_of hdep 10 rfl) rfl
          have e51 : a.eval (.tmp 51) = setV sa := hI.good 13 51 (dep_of hdep 13 rfl) rfl
          have eq := eq_same sa
          refine ok_value (wanted_is rfl rfl hI.size (by simp) eg) (v := .bool true) ?_ (hK u _ _ (hI.world.up rfl rfl rfl rfl) (fun _ _ _ h => h) rfl)
          have ec : ∀ c, a.eval (.const c) = c := fun _ => rfl
          have ef : ∀ f, a.eval (.func f) = .func (.func f) #[] #[] := fun _ => rfl
          clear hI hdep hK
          generalize a.eval = ρ at eg e48 e51 ec ef ⊢
          go_simp
        · intro u D a w hI hdep hD0 K hK
          have e45 : a.eval (.tmp 45) = .bool true := hI.good 7 45 (dep_of hdep 7 rfl) rfl
          have e52 : a.eval (.tmp 52) = .bool true := hI.good 14 52 (dep_of hdep 14 rfl) rfl
          refine ok_value (wanted_none rfl) (v := .bool true) ?_ (hK u _ _ (hI.world.up rfl rfl rfl rfl) (fun _ _ _ h => h) rfl)
          have ec : ∀ c, a.eval (.const c) = c := fun _ => rfl
          have ef : ∀ f, a.eval (.func f) = .func (.func f) #[] #[] := fun _ => rfl
          clear hI hdep hK
          generalize a.eval = ρ at e45 e52 ec ef ⊢
          go_simp
        · intro u D a w hI hdep hD0 K hK
          have e53 : a.eval (.tmp 53) = .bool true := hI.good 15 53 (dep_of hdep 15 rfl) rfl
          refine ok_value (wanted_none rfl) (v := .bool true) ?_ (hK u _ _ (hI.world.up rfl rfl rfl rfl) (fun _ _ _ h => h) rfl)
          have ec : ∀ c, a.eval (.const c) = c := fun _ => rfl
          have ef : ∀ f, a.eval (.func f) = .func (.func f) #[] #[] := fun _ => rfl
          clear hI hdep hK
          generalize a.eval = ρ at e53 ec ef ⊢
          go_simp
        · intro u D a w hI hdep hD0 K hK
          have eg : a.eval (.tmp 54) = .bool true := hI.good 16 54 (dep_of hdep 16 rfl) rfl
          refine ok_new (wanted_is rfl rfl hI.size (by simp) eg) (v := .slice (some ⟨w.heap.size, 0, none⟩) 1 1) (w' := w.alloc (.cells #[.int .u8 1] 5)) (by have ec : ∀ c, a.eval (.const c) = c := fun _ => rfl; generalize a.eval = ρ at ec ⊢; go_simp) ?_
          exact hK (.slice (some ⟨w.heap.size, 0, none⟩) 1 1, u.2) _ _ (hI.world.new17) (fun j z hj h => MtG_17 hD0 hj h) rfl
        · intro u D a w hI hdep hD0 K hK
          have eg : a.eval (.tmp 54) = .bool true := hI.good 16 54 (dep_of hdep 16 rfl) rfl
          have e0 : a.eval (.tmp 0) = .slice La n c := hI.read 0 rfl
          refine ok_value (wanted_is rfl rfl hI.size (by simp) eg) (v := .slice La n c) ?_ (hK u _ _ (hI.world.up rfl rfl rfl rfl) (fun _ _ _ h => h) rfl)
          have ec : ∀ c, a.eval (.const c) = c := fun _ => rfl
          have ef : ∀ f, a.eval (.func f) = .func (.func f) #[] #[] := fun _ => rfl
          clear hI hdep hK
          generalize a.eval = ρ at eg e0 ec ef ⊢
          go_simp
        · intro u D a w hI hdep hD0 K hK
          have eg : a.eval (.tmp 54) = .bool true := hI.good 16 54 (dep_of hdep 16 rfl) rfl
          have e55 := hI.good 17 55 (dep_of hdep 17 rfl) rfl
          have e56 : a.eval (.tmp 56) = .slice La n c := hI.good 18 56 (dep_of hdep 18 rfl) rfl
          have h0 := dep_of hdep 17 rfl
          have hown := hI.world.o1 h0 hD0
          rw [← show a.eval (.tmp 55) = u.1 from e55] at hown
          refine ok_call (wanted_is rfl rfl hI.size (by simp) eg) (f := 12) (args := #[a.eval (.tmp 55), .slice La n c]) ?_ (mpput_own w1.heap.size (a.eval (.tmp 55)) 1 (bs [1]) La n c l w (HN1.out.on hI.world.base) (by omega) HOk.out hown hI.world.base.size (by omega)) ?_
          · have ec : ∀ c, a.eval (.const c) = c := fun _ => rfl
            have ef : ∀ f, a.eval (.func f) = .func (.func f) #[] #[] := fun _ => rfl
            clear hI hdep hK
            generalize a.eval = ρ at eg e55 e56 ec ef ⊢
            go_simp
          · rw [HPB.out]
            rintro e w2 ⟨v2, rfl, hinv⟩
            rw [show a.eval (.tmp 55) = u.1 from e55] at hown hinv
            exact ⟨_, rfl, hK (u.1, v2, u.2.2) _ _ (hI.world.put h0 hD0 hinv) (fun j z hj h => MtG_19 hD0 hj h) rfl⟩
        · intro u D a w hI hdep hD0 K hK
          have eg : a.eval (.tmp 54) = .bool true := hI.good 16 54 (dep_of hdep 16 rfl) rfl
          have e57 := hI.good 19 57 (dep_of hdep 19 rfl) rfl
          have e57 : a.eval (.tmp 57) = u.2.1 := e57
          have hx := dep_of hdep 19 rfl
          have hc' := own_conv (hI.world.o2 hx)
          rw [HSA.out] at hc'
          refine ok_value (wanted_is rfl rfl hI.size (by simp) eg) (v := .string sA) ?_ (hK u _ _ (hI.world.up rfl rfl rfl rfl) (fun _ _ _ h => h) rfl)
          have ec : ∀ c, a.eval (.const c) = c := fun _ => rfl
          have ef : ∀ f, a.eval (.func f) = .func (.func f) #[] #[] := fun _ => rfl
          clear hI hdep hK
          generalize a.eval = ρ at eg e57 ec ef ⊢
          go_simp
        · intro u D a w hI hdep hD0 K hK
          have eg : a.eval (.tmp 54) = .bool true := hI.good 16 54 (dep_of hdep 16 rfl) rfl
          refine ok_new (wanted_is rfl rfl hI.size (by simp) eg) (v := .slice (some ⟨w.heap.size, 0, none⟩) 1 1) (w' := w.alloc (.cells #[.int .u8 1] 5)) (by have ec : ∀ c, a.eval (.const c) = c := fun _ => rfl; generalize a.eval = ρ at ec ⊢; go_simp) ?_
          exact hK (u.1, u.2.1, .slice (some ⟨w.heap.size, 0, none⟩) 1 1, u.2.2.2) _ _ (hI.world.new21) (fun j z hj h => MtG_21 hD0 hj h) rfl
        · intro u D a w hI hdep hD0 K hK
          have eg : a.eval (.tmp 54) = .bool true := hI.good 16 54 (dep_of hdep 16 rfl) rfl
          have e59 := hI.good 21 59 (dep_of hdep 21 rfl) rfl
          have e59 : a.eval (.tmp 59) = u.2.2.1 := e59
          have hx := dep_of hdep 21 rfl
          have hc' := own_conv (hI.world.o3 hx)
          rw [HSL.out] at hc'
          refine ok_value (wanted_is rfl rfl hI.size (by simp) eg) (v := .string sL) ?_ (hK u _ _ (hI.world.up rfl rfl rfl rfl) (fun _ _ _ h => h) rfl)
          have ec : ∀ c, a.eval (.const c) = c := fun _ => rfl
          have ef : ∀ f, a.eval (.func f) = .func (.func f) #[] #[] := fun _ => rfl
          clear hI hdep hK
          generalize a.eval = ρ at eg e59 ec ef ⊢
          go_simp
        · intro u D a w hI hdep hD0 K hK
          have eg : a.eval (.tmp 54) = .bool true := hI.good 16 54 (dep_of hdep 16 rfl) rfl
          have e0 : a.eval (.tmp 0) = .slice La n c := hI.read 0 rfl
          refine ok_value (wanted_is rfl rfl hI.size (by simp) eg) (v := .slice La n c) ?_ (hK u _ _ (hI.world.up rfl rfl rfl rfl) (fun _ _ _ h => h) rfl)
          have ec : ∀ c, a.eval (.const c) = c := fun _ => rfl
          have ef : ∀ f, a.eval (.func f) = .func (.func f) #[] #[] := fun _ => rfl
          clear hI hdep hK
          generalize a.eval = ρ at eg e0 ec ef ⊢
          go_simp
        · intro u D a w hI hdep hD0 K hK
          have eg : a.eval (.tmp 54) = .bool true := hI.good 16 54 (dep_of hdep 16 rfl) rfl
          have e61 : a.eval (.tmp 61) = .slice La n c := hI.good 23 61 (dep_of hdep 23 rfl) rfl
          refine ok_call (wanted_is rfl rfl hI.size (by simp) eg) (f := 13) (args := #[.slice La n c]) ?_ (rmpput_any La n c l w (HN1.out.on hI.world.base) (by omega) HOk.out) ?_
          · have ec : ∀ c, a.eval (.const c) = c := fun _ => rfl
            have ef : ∀ f, a.eval (.func f) = .func (.func f) #[] #[] := fun _ => rfl
            clear hI hdep hK
            generalize a.eval = ρ at eg e61 ec ef ⊢
            go_simp
          · rw [HPB.out]
            rintro e w2 ⟨v2, rfl, hown, hb⟩
            exact ⟨_, rfl, hK (u.1, u.2.1, u.2.2.1, v2) _ _ (hI.world.new24 hown hb) (fun j z hj h => MtG_24 hD0 hj h) rfl⟩
        · intro u D a w hI hdep hD0 K hK
          have eg : a.eval (.tmp 54) = .bool true := hI.good 16 54 (dep_of hdep 16 rfl) rfl
          have e62 := hI.good 24 62 (dep_of hdep 24 rfl) rfl
          have e62 : a.eval (.tmp 62) = u.2.2.2 := e62
          have hx := dep_of hdep 24 rfl
          have hc' := own_conv (hI.world.o4 hx)
          rw [HSP.out] at hc'
          refine ok_value (wanted_is rfl rfl hI.size (by simp) eg) (v := .string sP) ?_ (hK u _ _ (hI.world.up rfl rfl rfl rfl) (fun _ _ _ h => h) rfl)
          have ec : ∀ c, a.eval (.const c) = c := fun _ => rfl
          have ef : ∀ f, a.eval (.func f) = .func (.func f) #[] #[] := fun _ => rfl
          clear hI hdep hK
          generalize a.eval = ρ at eg e62 ec ef ⊢
          go_simp
        · intro u D a w hI hdep hD0 K hK
          have eg : a.eval (.tmp 54) = .bool true := hI.good 16 54 (dep_of hdep 16 rfl) rfl
          have e60 : a.eval (.tmp 60) = .string sL := hI.good 22 60 (dep_of hdep 22 rfl) rfl
          have e63 : a.eval (.tmp 63) = .string sP := hI.good 25 63 (dep_of hdep 25 rfl) rfl
          refine ok_value (wanted_is rfl rfl hI.size (by simp) eg) (v := .string sA) ?_ (hK u _ _ (hI.world.up rfl rfl rfl rfl) (fun _ _ _ h => h) rfl)
          have ec : ∀ c, a.eval (.const c) = c := fun _ => rfl
          have ef : ∀ f, a.eval (.func f) = .func (.func f) #[] #[] := fun _ => rfl
          clear hI hdep hK
          generalize a.eval = ρ at eg e60 e63 ec ef ⊢
          go_simp
          omega
        · intro u D a w hI hdep hD0 K hK
          have eg : a.eval (.tmp 54) = .bool true := hI.good 16 54 (dep_of hdep 16 rfl) rfl
          have e58 : a.eval (.tmp 58) = .string sA := hI.good 20 58 (dep_of hdep 20 rfl) rfl
          have e64 : a.eval (.tmp 64) = .string sA := hI.good 26 64 (dep_of hdep 26 rfl) rfl
          refine ok_value (wanted_is rfl rfl hI.size (by simp) eg) (v := .bool true) ?_ (hK u _ _ (hI.world.up rfl rfl rfl rfl) (fun _ _ _ h => h) rfl)
          have ec : ∀ c, a.eval (.const c) = c := fun _ => rfl
          have ef : ∀ f, a.eval (.func f) = .func (.func f) #[] #[] := fun _ => rfl
          clear hI hdep hK
          generalize a.eval = ρ at eg e58 e64 ec ef ⊢
          go_simp
        · intro u D a w hI hdep hD0 K hK
          have e54 : a.eval (.tmp 54) = .bool true := hI.good 16 54 (dep_of hdep 16 rfl) rfl
          have e65 : a.eval (.tmp 65) = .bool true := hI.good 27 65 (dep_of hdep 27 rfl) rfl
          refine ok_value (wanted_none rfl) (v := .bool true) ?_ (hK u _ _ (hI.world.up rfl rfl rfl rfl) (fun _ _ _ h => h) rfl)
          have ec : ∀ c, a.eval (.const c) = c := fun _ => rfl
          have ef : ∀ f, a.eval (.func f) = .func (.func f) #[] #[] := fun _ => rfl
          clear hI hdep hK
          generalize a.eval = ρ at e54 e65 ec ef ⊢
          go_simp
        · intro u D a w hI hdep hD0 K hK
          have e66 : a.eval (.tmp 66) = .bool true := hI.good 28 66 (dep_of hdep 28 rfl) rfl
          refine ok_value (wanted_none rfl) (v := .bool true) ?_ (hK u _ _ (hI.world.up rfl rfl rfl rfl) (fun _ _ _ h => h) rfl)
          have ec : ∀ c, a.eval (.const c) = c := fun _ => rfl
          have ef : ∀ f, a.eval (.func f) = .func (.func f) #[] #[] := fun _ => rfl
          clear hI hdep hK
          generalize a.eval = ρ at e66 ec ef ⊢
          go_simp
        · intro u D a w hI hdep hD0 K hK
          have eg : a.eval (.tmp 67) = .bool true := hI.good 29 67 (dep_of hdep 29 rfl) rfl
          refine ok_call (wanted_is rfl rfl hI.size (by simp) eg) (f := 5) (args := #[]) ?_ (HLv.out w hI.world.base) ?_
          · have ec : ∀ c, a.eval (.const c) = c := fun _ => rfl
            have ef : ∀ f, a.eval (.func f) = .func (.func f) #[] #[] := fun _ => rfl
            clear hI hdep hK
            generalize a.eval = ρ at eg ec ef ⊢
            go_simp
          · rintro e w2 ⟨rfl, hb2⟩
            exact ⟨_, rfl, hK u _ _ (((hI.world.up rfl rfl rfl rfl)).below hb2) (fun _ _ _ h => h) rfl⟩
        · intro u D a w hI hdep hD0 K hK
          have e67 : a.eval (.tmp 67) = .bool true := hI.good 29 67 (dep_of hdep 29 rfl) rfl
          have e68 : a.eval (.tmp 68) = .bool true := hI.good 30 68 (dep_of hdep 30 rfl) rfl
          refine ok_value (wanted_none rfl) (v := .bool true) ?_ (hK u _ _ (hI.world.up rfl rfl rfl rfl) (fun _ _ _ h => h) rfl)
          have ec : ∀ c, a.eval (.const c) = c := fun _ => rfl
          have ef : ∀ f, a.eval (.func f) = .func (.func f) #[] #[] := fun _ => rfl
          clear hI hdep hK
          generalize a.eval = ρ at e67 e68 ec ef ⊢
          go_simp
        · intro u D a w hI hdep hD0 K hK
          have e69 : a.eval (.tmp 69) = .bool true := hI.good 31 69 (dep_of hdep 31 rfl) rfl
          refine ok_value (wanted_none rfl) (v := .bool true) ?_ (hK u _ _ (hI.world.up rfl rfl rfl rfl) (fun _ _ _ h => h) rfl)
          have ec : ∀ c, a.eval (.const c) = c := fun _ => rfl
          have ef : ∀ f, a.eval (.func f) = .func (.func f) #[] #[] := fun _ => rfl
          clear hI hdep hK
          generalize a.eval = ρ at e69 ec ef ⊢
          go_simp
      · intro u D a w2 hI hD
        have hvs : ∀ p ∈ ([(38, .slice La n c), (39, .int .i64 x), (40, .bool r), (41, .slice La n c), (42, .int .i64 x), (43, .bool r), (44, .bool true), (45, .bool true), (46, .slice La n c), (47, .int .i64 y), (48, setV sa), (49, .slice La n c), (50, .int .i64 y), (51, setV sa), (52, .bool true), (53, .bool true), (54, .bool true), (55, u.1), (56, .slice La n c), (57, u.2.1), (58, .string sA), (59, u.2.2.1), (60, .string sL), (61, .slice La n c), (62, u.2.2.2), (63, .string sP), (64, .string sA), (65, .bool true), (66, .bool true), (67, .bool true), (68, .bool true), (69, .bool true), (6, .bool true)] : List (Nat × Value)), a.eval (.tmp p.1) = p.2 := (all_cons (hI.good 0 38 (hD 0 (by decide)) rfl) (all_cons (hI.good 1 39 (hD 1 (by decide)) rfl) (all_cons (hI.good 2 40 (hD 2 (by decide)) rfl) (all_cons (hI.good 3 41 (hD 3 (by decide)) rfl) (all_cons (hI.good 4 42 (hD 4 (by decide)) rfl) (all_cons (hI.good 5 43 (hD 5 (by decide)) rfl) (all_cons (hI.good 6 44 (hD 6 (by decide)) rfl) (all_cons (hI.good 7 45 (hD 7 (by decide)) rfl) (all_cons (hI.good 8 46 (hD 8 (by decide)) rfl) (all_cons (hI.good 9 47 (hD 9 (by decide)) rfl) (all_cons (hI.good 10 48 (hD 10 (by decide)) rfl) (all_cons (hI.good 11 49 (hD 11 (by decide)) rfl) (all_cons (hI.good 12 50 (hD 12 (by decide)) rfl) (all_cons (hI.good 13 51 (hD 13 (by decide)) rfl) (all_cons (hI.good 14 52 (hD 14 (by decide)) rfl) (all_cons (hI.good 15 53 (hD 15 (by decide)) rfl) (all_cons (hI.good 16 54 (hD 16 (by decide)) rfl) (all_cons (hI.good 17 55 (hD 17 (by decide)) rfl) (all_cons (hI.good 18 56 (hD 18 (by decide)) rfl) (all_cons (hI.good 19 57 (hD 19 (by decide)) rfl) (all_cons (hI.good 20 58 (hD 20 (by decide)) rfl) (all_cons (hI.good 21 59 (hD 21 (by decide)) rfl) (all_cons (hI.good 22 60 (hD 22 (by decide)) rfl) (all_cons (hI.good 23 61 (hD 23 (by decide)) rfl) (all_cons (hI.good 24 62 (hD 24 (by decide)) rfl) (all_cons (hI.good 25 63 (hD 25 (by decide)) rfl) (all_cons (hI.good 26 64 (hD 26 (by decide)) rfl) (all_cons (hI.good 27 65 (hD 27 (by decide)) rfl) (all_cons (hI.good 28 66 (hD 28 (by decide)) rfl) (all_cons (hI.good 29 67 (hD 29 (by decide)) rfl) (all_cons (hI.good 30 68 (hD 30 (by decide)) rfl) (all_cons (hI.good 31 69 (hD 31 (by decide)) rfl) (all_cons (hI.good 32 6 (hD 32 (by decide)) rfl) all_nil)))))))))))))))))))))))))))))))))
        have hfr := hI.frame _ hvs rfl
        clear hvs
        have hW := hI.world
        clear hI
        subst hfr
        simp only [List.foldl_cons, List.foldl_nil, List.setIfInBounds_toArray, List.set_cons_succ, List.set_cons_zero]
        have HB2 := Lib.hid hW.base
        generalize u.1 = u1 at *
        generalize u.2.1 = u2 at *
        generalize u.2.2.1 = u3 at *
        generalize u.2.2.2 = u4 at *
        clear hW hD hS
        go_wp2
        go_ret
        exact ⟨rfl, below_self HBw.out HB2.out⟩
end Go.Proofs.YtinmcelgfdjmfaaDoor
