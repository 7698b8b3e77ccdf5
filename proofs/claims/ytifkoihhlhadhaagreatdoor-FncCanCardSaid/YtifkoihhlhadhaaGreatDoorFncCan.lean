/-
  The walk of FncCan. Conditions: the function can be read; words of 64 bits; the table of math/bits is laid.
-/
import Derived.Test.YtifkoihhlhadhaaGreatDoorFnL
import Derived.Test.YtifkoihhlhadhaaGreatDoorFnPut
import Derived.Test.YtifkoihhlhadhaaGreatDoorFnRput
import Derived.Test.YtifkoihhlhadhaaGreatDoorReg
namespace Go.Proofs.YtifkoihhlhadhaaGreatDoor
open Go.RowKit

/-- The world while the law's last statement runs: a byte that was made, Put behind it; another, and what the document's Put told. -/
structure FcC (m : Nat) (pb : List Nat) (w1 : World) (u : Value × Value × Value × Value) (D : Nat → Bool) (W : World) : Prop where
  base : Below w1.heap.size w1 W
  o1 : D 13 = true → D 15 = false → W.ownsRow w1.heap.size 5 1 u.1 1 (bs [1])
  o2 : D 15 = true → W.ownsRow w1.heap.size 5 1 u.2.1 (1 + m) (bs ([1] ++ pb))
  o3 : D 17 = true → W.ownsRow w1.heap.size 5 1 u.2.2.1 1 (bs [1])
  o4 : D 20 = true → W.ownsRow w1.heap.size 5 1 u.2.2.2 m (bs pb)
  a3 : D 13 = true → D 15 = false → D 17 = true → u.2.2.1.ownBlock ≠ u.1.ownBlock
  a4 : D 13 = true → D 15 = false → D 20 = true → u.2.2.2.ownBlock = none ∨ u.2.2.2.ownBlock ≠ u.1.ownBlock
section
variable {m : Nat} {pb : List Nat} {w1 : World} {u : Value × Value × Value × Value} {D : Nat → Bool} {W : World}
theorem FcC.up (h : FcC m pb w1 u D W) {i : Nat} (h1 : (13 == i) = false) (h2 : (15 == i) = false) (h3 : (17 == i) = false) (h4 : (20 == i) = false) : FcC m pb w1 u (add D i) W :=
  ⟨h.base, by rw [up_other h1, up_other h2]; exact h.o1, by rw [up_other h2]; exact h.o2, by rw [up_other h3]; exact h.o3, by rw [up_other h4]; exact h.o4, by rw [up_other h1, up_other h2, up_other h3]; exact h.a3, by rw [up_other h1, up_other h2, up_other h4]; exact h.a4⟩
theorem FcC.below (h : FcC m pb w1 u D W) {W' : World} (hb : Below W.heap.size W W') : FcC m pb w1 u D W' :=
  ⟨h.base.trans (hb.mono h.base.size), fun x y => ownsRow_below (h.o1 x y) hb, fun x => ownsRow_below (h.o2 x) hb, fun x => ownsRow_below (h.o3 x) hb, fun x => ownsRow_below (h.o4 x) hb, h.a3, h.a4⟩
set_option maxRecDepth 100000 in
theorem block_ne15 {v : Value} {n : Nat} {xs : List Value} (h : W.ownsRow w1.heap.size 5 1 v n xs) : v.ownBlock ≠ some W.heap.size := fun e => absurd (h.lt _ e).2 (Nat.lt_irrefl _)
set_option maxRecDepth 100000 in
theorem FcC.new13 (h : FcC m pb w1 u D W) : FcC m pb w1 (.slice (some ⟨W.heap.size, 0, none⟩) 1 1, u.2) (add D 13) (W.alloc (.cells #[.int .u8 1] 5)) := by
  have hb := (Below.refl W.heap.size W).alloc (Nat.le_refl _) (.cells #[.int .u8 1] 5)
  have k := h.below hb
  refine ⟨k.base, fun _ _ => World.ownsRow_lit W #[.int .u8 1] 1 h.base.size (by decide) rfl, ?_, ?_, ?_, ?_, ?_⟩
  · rw [up_other rfl]; exact k.o2
  · rw [up_other rfl]; exact k.o3
  · rw [up_other rfl]; exact k.o4
  · rw [up_other (j := 17) rfl]
    exact fun _ _ e => block_ne15 (h.o3 e)
  · rw [up_other (j := 20) rfl]
    exact fun _ _ e => .inr (block_ne15 (h.o4 e))
set_option maxRecDepth 100000 in
theorem FcC.new17 (h : FcC m pb w1 u D W) : FcC m pb w1 (u.1, u.2.1, .slice (some ⟨W.heap.size, 0, none⟩) 1 1, u.2.2.2) (add D 17) (W.alloc (.cells #[.int .u8 1] 5)) := by
  have hb := (Below.refl W.heap.size W).alloc (Nat.le_refl _) (.cells #[.int .u8 1] 5)
  have k := h.below hb
  refine ⟨k.base, ?_, ?_, fun _ => World.ownsRow_lit W #[.int .u8 1] 1 h.base.size (by decide) rfl, ?_, ?_, ?_⟩
  · rw [up_other rfl, up_other rfl]; exact k.o1
  · rw [up_other rfl]; exact k.o2
  · rw [up_other rfl]; exact k.o4
  · rw [up_other (j := 13) rfl, up_other (j := 15) rfl]
    exact fun e1 e2 _ => Ne.symm (block_ne15 (h.o1 e1 e2))
  · rw [up_other rfl, up_other rfl, up_other rfl]; exact k.a4
set_option maxRecDepth 100000 in
theorem FcC.new20 (h : FcC m pb w1 u D W) {v : Value} {W' : World} (hown : W'.ownsRow W.heap.size 5 1 v m (bs pb)) (hb : Below W.heap.size W W') : FcC m pb w1 (u.1, u.2.1, u.2.2.1, v) (add D 20) W' := by
  have k := h.below hb
  refine ⟨k.base, ?_, ?_, ?_, fun _ => ownsRow_base hown h.base.size, ?_, ?_⟩
  · rw [up_other rfl, up_other rfl]; exact k.o1
  · rw [up_other rfl]; exact k.o2
  · rw [up_other rfl]; exact k.o3
  · rw [up_other rfl, up_other rfl, up_other rfl]; exact k.a3
  · rw [up_other (j := 13) rfl, up_other (j := 15) rfl]
    intro e1 e2 _
    refine .inr (fun e => ?_)
    rcases hv : v.ownBlock with _ | g
    · obtain ⟨g', cap, e', _, _⟩ := (h.o1 e1 e2).form (by decide)
      have e'' : u.1.ownBlock = some g' := by rw [e']; rfl
      rw [show ((u.1, u.2.1, u.2.2.1, v) : Value × Value × Value × Value).2.2.2.ownBlock = none from hv] at e
      rw [show ((u.1, u.2.1, u.2.2.1, v) : Value × Value × Value × Value).1.ownBlock = some g' from e''] at e
      cases e
    · have h1 := (hown.lt g hv).1
      have h2 := ((h.o1 e1 e2).lt g (e.symm.trans hv)).2
      omega
theorem FcC.put (h : FcC m pb w1 u D W) (h1 : D 13 = true) (h2 : D 15 = false) {v : Value} {W' : World} (hinv : OwnInv w1.heap.size W u.1 v (1 + m) (bs [1] ++ bs pb) W') : FcC m pb w1 (u.1, v, u.2.2) (add D 15) W' := by
  refine ⟨h.base.trans (hinv.below (h.o1 h1 h2) h.base.size), (by rw [up_self]; intro _ e; cases e), (fun _ => by rw [bs_append]; exact hinv.1), ?_, ?_, (by rw [up_self]; intro _ e; cases e), (by rw [up_self]; intro _ e; cases e)⟩
  · rw [up_other rfl]
    exact fun e => (h.o3 e).kept hinv.2.1 (.inr (h.a3 h1 h2 e))
  · rw [up_other rfl]
    exact fun e => (h.o4 e).kept hinv.2.1 (h.a4 h1 h2 e)
end

def FcG (vf : FnV) (cn0 : Nat) (bb : Bool) (sA sL sP : ByteArray) (u : Value × Value × Value × Value) : Nat → Value → Prop
  | 0, v => v = .agg #[.string vf.name, .bool vf.inner, .slice vf.outer.a vf.outer.n vf.outer.c, .slice vf.params.a vf.params.n vf.params.c, .slice vf.results.a vf.results.n vf.results.c, .slice vf.locals.a vf.locals.n vf.locals.c, .slice vf.code.a vf.code.n vf.code.c, .slice vf.lines.a vf.lines.n vf.lines.c, .slice vf.nodes.a vf.nodes.n vf.nodes.c, .slice vf.at_.a vf.at_.n vf.at_.c, .slice vf.live.a vf.live.n vf.live.c]
  | 1, v => v = .int .i64 (cn0 : Int)
  | 2, v => v = .agg #[.string vf.name, .bool vf.inner, .slice vf.outer.a vf.outer.n vf.outer.c, .slice vf.params.a vf.params.n vf.params.c, .slice vf.results.a vf.results.n vf.results.c, .slice vf.locals.a vf.locals.n vf.locals.c, .slice vf.code.a vf.code.n vf.code.c, .slice vf.lines.a vf.lines.n vf.lines.c, .slice vf.nodes.a vf.nodes.n vf.nodes.c, .slice vf.at_.a vf.at_.n vf.at_.c, .slice vf.live.a vf.live.n vf.live.c]
  | 3, v => v = .int .i64 (cn0 : Int)
  | 4, v => v = .bool true
  | 5, v => v = .bool true
  | 6, v => v = .agg #[.string vf.name, .bool vf.inner, .slice vf.outer.a vf.outer.n vf.outer.c, .slice vf.params.a vf.params.n vf.params.c, .slice vf.results.a vf.results.n vf.results.c, .slice vf.locals.a vf.locals.n vf.locals.c, .slice vf.code.a vf.code.n vf.code.c, .slice vf.lines.a vf.lines.n vf.lines.c, .slice vf.nodes.a vf.nodes.n vf.nodes.c, .slice vf.at_.a vf.at_.n vf.at_.c, .slice vf.live.a vf.live.n vf.live.c]
  | 7, v => v = .bool bb
  | 8, v => v = .agg #[.string vf.name, .bool vf.inner, .slice vf.outer.a vf.outer.n vf.outer.c, .slice vf.params.a vf.params.n vf.params.c, .slice vf.results.a vf.results.n vf.results.c, .slice vf.locals.a vf.locals.n vf.locals.c, .slice vf.code.a vf.code.n vf.code.c, .slice vf.lines.a vf.lines.n vf.lines.c, .slice vf.nodes.a vf.nodes.n vf.nodes.c, .slice vf.at_.a vf.at_.n vf.at_.c, .slice vf.live.a vf.live.n vf.live.c]
  | 9, v => v = .bool bb
  | 10, v => v = .bool true
  | 11, v => v = .bool true
  | 12, v => v = .bool true
  | 13, v => v = u.1
  | 14, v => v = .agg #[.string vf.name, .bool vf.inner, .slice vf.outer.a vf.outer.n vf.outer.c, .slice vf.params.a vf.params.n vf.params.c, .slice vf.results.a vf.results.n vf.results.c, .slice vf.locals.a vf.locals.n vf.locals.c, .slice vf.code.a vf.code.n vf.code.c, .slice vf.lines.a vf.lines.n vf.lines.c, .slice vf.nodes.a vf.nodes.n vf.nodes.c, .slice vf.at_.a vf.at_.n vf.at_.c, .slice vf.live.a vf.live.n vf.live.c]
  | 15, v => v = u.2.1
  | 16, v => v = .string sA
  | 17, v => v = u.2.2.1
  | 18, v => v = .string sL
  | 19, v => v = .agg #[.string vf.name, .bool vf.inner, .slice vf.outer.a vf.outer.n vf.outer.c, .slice vf.params.a vf.params.n vf.params.c, .slice vf.results.a vf.results.n vf.results.c, .slice vf.locals.a vf.locals.n vf.locals.c, .slice vf.code.a vf.code.n vf.code.c, .slice vf.lines.a vf.lines.n vf.lines.c, .slice vf.nodes.a vf.nodes.n vf.nodes.c, .slice vf.at_.a vf.at_.n vf.at_.c, .slice vf.live.a vf.live.n vf.live.c]
  | 20, v => v = u.2.2.2
  | 21, v => v = .string sP
  | 22, v => v = .string sA
  | 23, v => v = .bool true
  | 24, v => v = .bool true
  | 25, v => v = .bool true
  | 26, v => v = .bool true
  | 27, v => v = .bool true
  | 28, v => v = .bool true
  | _, _ => True

theorem FcG_13 {vf : FnV} {cn0 : Nat} {bb : Bool} {sA sL sP : ByteArray} {u : Value × Value × Value × Value} {v1 z : Value} {D : Nat → Bool} {j : Nat} (hD0 : D 13 = false) (hj : D j = true) (h : FcG vf cn0 bb sA sL sP u j z) : FcG vf cn0 bb sA sL sP (v1, u.2) j z := by
  by_cases e : j = 13
  · subst e
    rw [hD0] at hj
    cases hj
  · unfold FcG at h ⊢
    split at h <;> first | exact h | exact absurd rfl e

theorem FcG_15 {vf : FnV} {cn0 : Nat} {bb : Bool} {sA sL sP : ByteArray} {u : Value × Value × Value × Value} {v1 z : Value} {D : Nat → Bool} {j : Nat} (hD0 : D 15 = false) (hj : D j = true) (h : FcG vf cn0 bb sA sL sP u j z) : FcG vf cn0 bb sA sL sP (u.1, v1, u.2.2) j z := by
  by_cases e : j = 15
  · subst e
    rw [hD0] at hj
    cases hj
  · unfold FcG at h ⊢
    split at h <;> first | exact h | exact absurd rfl e

theorem FcG_17 {vf : FnV} {cn0 : Nat} {bb : Bool} {sA sL sP : ByteArray} {u : Value × Value × Value × Value} {v1 z : Value} {D : Nat → Bool} {j : Nat} (hD0 : D 17 = false) (hj : D j = true) (h : FcG vf cn0 bb sA sL sP u j z) : FcG vf cn0 bb sA sL sP (u.1, u.2.1, v1, u.2.2.2) j z := by
  by_cases e : j = 17
  · subst e
    rw [hD0] at hj
    cases hj
  · unfold FcG at h ⊢
    split at h <;> first | exact h | exact absurd rfl e

theorem FcG_20 {vf : FnV} {cn0 : Nat} {bb : Bool} {sA sL sP : ByteArray} {u : Value × Value × Value × Value} {v1 z : Value} {D : Nat → Bool} {j : Nat} (hD0 : D 20 = false) (hj : D j = true) (h : FcG vf cn0 bb sA sL sP u j z) : FcG vf cn0 bb sA sL sP (u.1, u.2.1, u.2.2.1, v1) j z := by
  by_cases e : j = 20
  · subst e
    rw [hD0] at hj
    cases hj
  · unfold FcG at h ⊢
    split at h <;> first | exact h | exact absurd rfl e

set_option maxHeartbeats 8000000 in
set_option maxRecDepth 100000 in
theorem fncCan_walk (vf : FnV) (f : Fn.F) (w : World) (h : FnOk w w.heap.size vf f) (hl : vf.Len) (hw : f.Wf) (hT : Tab w) (hgT : 0 < w.heap.size) :
    Calls Tryz.prog 3 #[.agg vf.cells] w (BoolP true w) := by
  have b0 := (Below.refl w.heap.size w).alloc (Nat.le_refl _) (.cells vf.cells 28)
  have A1 := Lib.hid (FnAt.new w vf)
  have O1 := Lib.hid (h.on b0)
  have B1 := Lib.hid b0
  have T1 := Lib.hid (tab_below hT b0 hgT)
  have G1 := Lib.hid (show 0 < (w.alloc (.cells vf.cells 28)).heap.size from Nat.lt_of_lt_of_le hgT b0.size)
  have HSm := small15_any vf (w.alloc (.cells vf.cells 28))
  have HCn := Lib.hid (fun (W : World) (o : FnOk W W.heap.size vf f) (t : Tab W) g => fncan_any vf f W o hl hw t g)
  have HCr := Lib.hid (fun (hf : vf.Few) (W : World) (o : FnOk W W.heap.size vf f) => rfncan_any vf f W o hl hw hf)
  have HBa := Lib.hid (fun (W : World) => fnbare_ok h W)
  have HBr := Lib.hid (fun (hf : vf.Few) (W : World) => rfnbare_any vf hf W)
  rw [h.bare] at HBr
  have HPt := Lib.hid (fun (W : World) base b m xs (o : FnOk W W.heap.size vf f) (t : Tab W) g ho hb hm => fnput_own base b m xs vf f W o hl hw t g ho hb hm)
  have HPr := Lib.hid (fun (hf : vf.Few) (W : World) (o : FnOk W W.heap.size vf f) => rfnput_any vf f W o hl hw hf)
  obtain ⟨pb, hpb⟩ : ∃ p, f.bytes = p := ⟨_, rfl⟩
  have HPB := Lib.hid hpb
  obtain ⟨cn0, hcn0⟩ : ∃ c, f.can = c := ⟨_, rfl⟩
  rw [hcn0] at HCn HCr
  obtain ⟨bb, hbb⟩ : ∃ b, f.bare = b := ⟨_, rfl⟩
  rw [hbb] at HBa HBr
  obtain ⟨sA, hsA⟩ : ∃ t, str ([1] ++ pb) = t := ⟨_, rfl⟩
  obtain ⟨sL, hsL⟩ : ∃ t, str [1] = t := ⟨_, rfl⟩
  obtain ⟨sP, hsP⟩ : ∃ t, str pb = t := ⟨_, rfl⟩
  have HSA := Lib.hid hsA
  have HSL := Lib.hid hsL
  have HSP := Lib.hid hsP
  have hcat : sL ++ sP = sA := by rw [← hsA, ← hsL, ← hsP, str_append]
  have hzL : sL.size ≤ 1 := by rw [← hsL, str_size]; exact Nat.le_refl 1
  have hzP : sP.size ≤ 300000 := by
    rw [← hsP, str_size, ← hpb]
    unfold Fn.F.bytes
    split
    · rename_i hc
      exact Fn.laid_len hc hw
    · exact Nat.zero_le _
  have hsd : (sA.toList == sA.toList) = true := beq_self_eq_true _
  have hbd : (bb == bb) = true := by cases bb <;> rfl
  have hcd : ((cn0 : Int) == (cn0 : Int)) = true := beq_self_eq_true _
  have c0 := A1.out.c0; have c1 := A1.out.c1; have c2 := A1.out.c2; have c3 := A1.out.c3; have c4 := A1.out.c4; have c5 := A1.out.c5; have c6 := A1.out.c6; have c7 := A1.out.c7; have c8 := A1.out.c8; have c9 := A1.out.c9; have c10 := A1.out.c10
  clear b0 h hl hw hT hgT hpb hcn0 hbb hsA hsL hsP
  unfold ErrP at HCn HCr
  unfold BoolP at HBa HBr
  go_enter Tryz.func3, Tryz.ntmps3
  go_wp2_with (go_at_call 5; refine HSm.mono ?_; rintro _ w1 ⟨s1, rfl, hs1, hb2⟩; clear HSm; refine Hid.out ?_)
  have A2 := Lib.hid (A1.out.on hb2)
  have O2 := Lib.hid (O1.out.on hb2)
  have B2 := Lib.hid (B1.out.trans (hb2.mono B1.out.size))
  have T2 := Lib.hid (tab_below T1.out hb2 G1.out)
  have G2 := Lib.hid (Nat.lt_of_lt_of_le G1.out hb2.size)
  clear hb2 c0 c1 c2 c3 c4 c5 c6 c7 c8 c9 c10
  have c0 := A2.out.c0; have c1 := A2.out.c1; have c2 := A2.out.c2; have c3 := A2.out.c3; have c4 := A2.out.c4; have c5 := A2.out.c5; have c6 := A2.out.c6; have c7 := A2.out.c7; have c8 := A2.out.c8; have c9 := A2.out.c9; have c10 := A2.out.c10
  cases s1 with
  | false =>
    have HLv := lives15_any w1 T2.out G2.out
    refine Lib.hid ?_
    go_wp2_with (go_at_call 6; go_must (refine HLv.mono ?_; rintro _ w3 ⟨rfl, hb3⟩; have B3 := Lib.hid (B2.out.trans (hb3.mono B2.out.size)); clear hb3))
    go_ret
    exact ⟨rfl, B3.out⟩
  | true =>
  have hfew := hs1 rfl
  have HCr := Lib.hid (HCr.out hfew)
  have HBr := Lib.hid (HBr.out hfew)
  have HPr := Lib.hid (HPr.out hfew)
  clear hs1 hfew A1 O1 B1 T1 G1
  refine Lib.hid ?_
  go_wp2
  generalize hpx : w.heap.size = pbx at *
  have hS : FcC pb.length pb w1 (undef, undef, undef, undef) (fun _ => false) w1.drew := ⟨(Below.refl _ _).drew, (fun e => by cases e), (fun e => by cases e), (fun e => by cases e), (fun e => by cases e), (fun e => by cases e), (fun e => by cases e)⟩
  have HPX := Lib.hid hpx
  clear hpx
  refine region_k (undef, undef, undef, undef) 35 (fun u D W => FcC pb.length pb w1 u D W) (FcG vf cn0 bb sA sL sP) (by kernel_rfl) (by kernel_rfl) (by kernel_rfl) rfl rfl hS ?_ ?_
  · refine ⟨?_, ?_, ?_, ?_, ?_, ?_, ?_, ?_, ?_, ?_, ?_, ?_, ?_, ?_, ?_, ?_, ?_, ?_, ?_, ?_, ?_, ?_, ?_, ?_, ?_, ?_, ?_, ?_, ?_, trivial⟩
    · intro u D a w hI hdep hD0 K hK
      have e1 : a.eval (.tmp 1) = .pointer (some ⟨pbx, 0, none⟩) := hI.read 1 rfl
      have hA := A2.out.on hI.world.base
      have k0 := hA.c0
      have k1 := hA.c1
      have k2 := hA.c2
      have k3 := hA.c3
      have k4 := hA.c4
      have k5 := hA.c5
      have k6 := hA.c6
      have k7 := hA.c7
      have k8 := hA.c8
      have k9 := hA.c9
      have k10 := hA.c10
      refine ok_value (wanted_none rfl) (v := .agg #[.string vf.name, .bool vf.inner, .slice vf.outer.a vf.outer.n vf.outer.c, .slice vf.params.a vf.params.n vf.params.c, .slice vf.results.a vf.results.n vf.results.c, .slice vf.locals.a vf.locals.n vf.locals.c, .slice vf.code.a vf.code.n vf.code.c, .slice vf.lines.a vf.lines.n vf.lines.c, .slice vf.nodes.a vf.nodes.n vf.nodes.c, .slice vf.at_.a vf.at_.n vf.at_.c, .slice vf.live.a vf.live.n vf.live.c]) ?_ (hK u _ _ (hI.world.up rfl rfl rfl rfl) (fun _ _ _ h => h) rfl)
      clear hA
      have ec : ∀ c, a.eval (.const c) = c := fun _ => rfl
      have ef : ∀ f, a.eval (.func f) = .func (.func f) #[] #[] := fun _ => rfl
      clear hI hdep hK
      generalize a.eval = ρ at e1 ec ef ⊢
      go_simp
    · intro u D a w hI hdep hD0 K hK
      have e7 : a.eval (.tmp 7) = .agg #[.string vf.name, .bool vf.inner, .slice vf.outer.a vf.outer.n vf.outer.c, .slice vf.params.a vf.params.n vf.params.c, .slice vf.results.a vf.results.n vf.results.c, .slice vf.locals.a vf.locals.n vf.locals.c, .slice vf.code.a vf.code.n vf.code.c, .slice vf.lines.a vf.lines.n vf.lines.c, .slice vf.nodes.a vf.nodes.n vf.nodes.c, .slice vf.at_.a vf.at_.n vf.at_.c, .slice vf.live.a vf.live.n vf.live.c] := hI.good 0 7 (dep_of hdep 0 rfl) rfl
      refine ok_call (wanted_none rfl) (f := 7) (args := #[.agg #[.string vf.name, .bool vf.inner, .slice vf.outer.a vf.outer.n vf.outer.c, .slice vf.params.a vf.params.n vf.params.c, .slice vf.results.a vf.results.n vf.results.c, .slice vf.locals.a vf.locals.n vf.locals.c, .slice vf.code.a vf.code.n vf.code.c, .slice vf.lines.a vf.lines.n vf.lines.c, .slice vf.nodes.a vf.nodes.n vf.nodes.c, .slice vf.at_.a vf.at_.n vf.at_.c, .slice vf.live.a vf.live.n vf.live.c]]) ?_ (HCn.out w (O2.out.on hI.world.base) (tab_below T2.out hI.world.base G2.out) (Nat.lt_of_lt_of_le G2.out hI.world.base.size)) ?_
      · have ec : ∀ c, a.eval (.const c) = c := fun _ => rfl
        have ef : ∀ f, a.eval (.func f) = .func (.func f) #[] #[] := fun _ => rfl
        clear hI hdep hK
        generalize a.eval = ρ at e7 ec ef ⊢
        go_simp
      · rintro e w2 ⟨rfl, hb2⟩
        exact ⟨_, rfl, hK u _ _ (((hI.world.up rfl rfl rfl rfl)).below hb2) (fun _ _ _ h => h) rfl⟩
    · intro u D a w hI hdep hD0 K hK
      have e1 : a.eval (.tmp 1) = .pointer (some ⟨pbx, 0, none⟩) := hI.read 1 rfl
      have hA := A2.out.on hI.world.base
      have k0 := hA.c0
      have k1 := hA.c1
      have k2 := hA.c2
      have k3 := hA.c3
      have k4 := hA.c4
      have k5 := hA.c5
      have k6 := hA.c6
      have k7 := hA.c7
      have k8 := hA.c8
      have k9 := hA.c9
      have k10 := hA.c10
      refine ok_value (wanted_none rfl) (v := .agg #[.string vf.name, .bool vf.inner, .slice vf.outer.a vf.outer.n vf.outer.c, .slice vf.params.a vf.params.n vf.params.c, .slice vf.results.a vf.results.n vf.results.c, .slice vf.locals.a vf.locals.n vf.locals.c, .slice vf.code.a vf.code.n vf.code.c, .slice vf.lines.a vf.lines.n vf.lines.c, .slice vf.nodes.a vf.nodes.n vf.nodes.c, .slice vf.at_.a vf.at_.n vf.at_.c, .slice vf.live.a vf.live.n vf.live.c]) ?_ (hK u _ _ (hI.world.up rfl rfl rfl rfl) (fun _ _ _ h => h) rfl)
      clear hA
      have ec : ∀ c, a.eval (.const c) = c := fun _ => rfl
      have ef : ∀ f, a.eval (.func f) = .func (.func f) #[] #[] := fun _ => rfl
      clear hI hdep hK
      generalize a.eval = ρ at e1 ec ef ⊢
      go_simp
    · intro u D a w hI hdep hD0 K hK
      have e9 : a.eval (.tmp 9) = .agg #[.string vf.name, .bool vf.inner, .slice vf.outer.a vf.outer.n vf.outer.c, .slice vf.params.a vf.params.n vf.params.c, .slice vf.results.a vf.results.n vf.results.c, .slice vf.locals.a vf.locals.n vf.locals.c, .slice vf.code.a vf.code.n vf.code.c, .slice vf.lines.a vf.lines.n vf.lines.c, .slice vf.nodes.a vf.nodes.n vf.nodes.c, .slice vf.at_.a vf.at_.n vf.at_.c, .slice vf.live.a vf.live.n vf.live.c] := hI.good 2 9 (dep_of hdep 2 rfl) rfl
      refine ok_call (wanted_none rfl) (f := 8) (args := #[.agg #[.string vf.name, .bool vf.inner, .slice vf.outer.a vf.outer.n vf.outer.c, .slice vf.params.a vf.params.n vf.params.c, .slice vf.results.a vf.results.n vf.results.c, .slice vf.locals.a vf.locals.n vf.locals.c, .slice vf.code.a vf.code.n vf.code.c, .slice vf.lines.a vf.lines.n vf.lines.c, .slice vf.nodes.a vf.nodes.n vf.nodes.c, .slice vf.at_.a vf.at_.n vf.at_.c, .slice vf.live.a vf.live.n vf.live.c]]) ?_ (HCr.out w (O2.out.on hI.world.base)) ?_
      · have ec : ∀ c, a.eval (.const c) = c := fun _ => rfl
        have ef : ∀ f, a.eval (.func f) = .func (.func f) #[] #[] := fun _ => rfl
        clear hI hdep hK
        generalize a.eval = ρ at e9 ec ef ⊢
        go_simp
      · rintro e w2 ⟨rfl, hb2⟩
        exact ⟨_, rfl, hK u _ _ (((hI.world.up rfl rfl rfl rfl)).below hb2) (fun _ _ _ h => h) rfl⟩
    · intro u D a w hI hdep hD0 K hK
      have e8 : a.eval (.tmp 8) = .int .i64 (cn0 : Int) := hI.good 1 8 (dep_of hdep 1 rfl) rfl
      have e10 : a.eval (.tmp 10) = .int .i64 (cn0 : Int) := hI.good 3 10 (dep_of hdep 3 rfl) rfl
      refine ok_value (wanted_none rfl) (v := .bool true) ?_ (hK u _ _ (hI.world.up rfl rfl rfl rfl) (fun _ _ _ h => h) rfl)
      have ec : ∀ c, a.eval (.const c) = c := fun _ => rfl
      have ef : ∀ f, a.eval (.func f) = .func (.func f) #[] #[] := fun _ => rfl
      clear hI hdep hK
      generalize a.eval = ρ at e8 e10 ec ef ⊢
      go_simp
    · intro u D a w hI hdep hD0 K hK
      have e11 : a.eval (.tmp 11) = .bool true := hI.good 4 11 (dep_of hdep 4 rfl) rfl
      refine ok_value (wanted_none rfl) (v := .bool true) ?_ (hK u _ _ (hI.world.up rfl rfl rfl rfl) (fun _ _ _ h => h) rfl)
      have ec : ∀ c, a.eval (.const c) = c := fun _ => rfl
      have ef : ∀ f, a.eval (.func f) = .func (.func f) #[] #[] := fun _ => rfl
      clear hI hdep hK
      generalize a.eval = ρ at e11 ec ef ⊢
      go_simp
    · intro u D a w hI hdep hD0 K hK
      have eg : a.eval (.tmp 12) = .bool true := hI.good 5 12 (dep_of hdep 5 rfl) rfl
      have e1 : a.eval (.tmp 1) = .pointer (some ⟨pbx, 0, none⟩) := hI.read 1 rfl
      have hA := A2.out.on hI.world.base
      have k0 := hA.c0
      have k1 := hA.c1
      have k2 := hA.c2
      have k3 := hA.c3
      have k4 := hA.c4
      have k5 := hA.c5
      have k6 := hA.c6
      have k7 := hA.c7
      have k8 := hA.c8
      have k9 := hA.c9
      have k10 := hA.c10
      refine ok_value (wanted_is rfl rfl hI.size (by simp) eg) (v := .agg #[.string vf.name, .bool vf.inner, .slice vf.outer.a vf.outer.n vf.outer.c, .slice vf.params.a vf.params.n vf.params.c, .slice vf.results.a vf.results.n vf.results.c, .slice vf.locals.a vf.locals.n vf.locals.c, .slice vf.code.a vf.code.n vf.code.c, .slice vf.lines.a vf.lines.n vf.lines.c, .slice vf.nodes.a vf.nodes.n vf.nodes.c, .slice vf.at_.a vf.at_.n vf.at_.c, .slice vf.live.a vf.live.n vf.live.c]) ?_ (hK u _ _ (hI.world.up rfl rfl rfl rfl) (fun _ _ _ h => h) rfl)
      clear hA
      have ec : ∀ c, a.eval (.const c) = c := fun _ => rfl
      have ef : ∀ f, a.eval (.func f) = .func (.func f) #[] #[] := fun _ => rfl
      clear hI hdep hK
      generalize a.eval = ρ at eg e1 ec ef ⊢
      go_simp
    · intro u D a w hI hdep hD0 K hK
      have eg : a.eval (.tmp 12) = .bool true := hI.good 5 12 (dep_of hdep 5 rfl) rfl
      have e13 : a.eval (.tmp 13) = .agg #[.string vf.name, .bool vf.inner, .slice vf.outer.a vf.outer.n vf.outer.c, .slice vf.params.a vf.params.n vf.params.c, .slice vf.results.a vf.results.n vf.results.c, .slice vf.locals.a vf.locals.n vf.locals.c, .slice vf.code.a vf.code.n vf.code.c, .slice vf.lines.a vf.lines.n vf.lines.c, .slice vf.nodes.a vf.nodes.n vf.nodes.c, .slice vf.at_.a vf.at_.n vf.at_.c, .slice vf.live.a vf.live.n vf.live.c] := hI.good 6 13 (dep_of hdep 6 rfl) rfl
      refine ok_call (wanted_is rfl rfl hI.size (by simp) eg) (f := 9) (args := #[.agg #[.string vf.name, .bool vf.inner, .slice vf.outer.a vf.outer.n vf.outer.c, .slice vf.params.a vf.params.n vf.params.c, .slice vf.results.a vf.results.n vf.results.c, .slice vf.locals.a vf.locals.n vf.locals.c, .slice vf.code.a vf.code.n vf.code.c, .slice vf.lines.a vf.lines.n vf.lines.c, .slice vf.nodes.a vf.nodes.n vf.nodes.c, .slice vf.at_.a vf.at_.n vf.at_.c, .slice vf.live.a vf.live.n vf.live.c]]) ?_ (HBa.out w) ?_
      · have ec : ∀ c, a.eval (.const c) = c := fun _ => rfl
        have ef : ∀ f, a.eval (.func f) = .func (.func f) #[] #[] := fun _ => rfl
        clear hI hdep hK
        generalize a.eval = ρ at eg e13 ec ef ⊢
        go_simp
      · rintro e w2 ⟨rfl, hb2⟩
        exact ⟨_, rfl, hK u _ _ (((hI.world.up rfl rfl rfl rfl)).below hb2) (fun _ _ _ h => h) rfl⟩
    · intro u D a w hI hdep hD0 K hK
      have eg : a.eval (.tmp 12) = .bool true := hI.good 5 12 (dep_of hdep 5 rfl) rfl
      have e1 : a.eval (.tmp 1) = .pointer (some ⟨pbx, 0, none⟩) := hI.read 1 rfl
      have hA := A2.out.on hI.world.base
      have k0 := hA.c0
      have k1 := hA.c1
      have k2 := hA.c2
      have k3 := hA.c3
      have k4 := hA.c4
      have k5 := hA.c5
      have k6 := hA.c6
      have k7 := hA.c7
      have k8 := hA.c8
      have k9 := hA.c9
      have k10 := hA.c10
      refine ok_value (wanted_is rfl rfl hI.size (by simp) eg) (v := .agg #[.string vf.name, .bool vf.inner, .slice vf.outer.a vf.outer.n vf.outer.c, .slice vf.params.a vf.params.n vf.params.c, .slice vf.results.a vf.results.n vf.results.c, .slice vf.locals.a vf.locals.n vf.locals.c, .slice vf.code.a vf.code.n vf.code.c, .slice vf.lines.a vf.lines.n vf.lines.c, .slice vf.nodes.a vf.nodes.n vf.nodes.c, .slice vf.at_.a vf.at_.n vf.at_.c, .slice vf.live.a vf.live.n vf.live.c]) ?_ (hK u _ _ (hI.world.up rfl rfl rfl rfl) (fun _ _ _ h => h) rfl)
      clear hA
      have ec : ∀ c, a.eval (.const c) = c := fun _ => rfl
      have ef : ∀ f, a.eval (.func f) = .func (.func f) #[] #[] := fun _ => rfl
      clear hI hdep hK
      generalize a.eval = ρ at eg e1 ec ef ⊢
      go_simp
    · intro u D a w hI hdep hD0 K hK
      have eg : a.eval (.tmp 12) = .bool true := hI.good 5 12 (dep_of hdep 5 rfl) rfl
      have e15 : a.eval (.tmp 15) = .agg #[.string vf.name, .bool vf.inner, .slice vf.outer.a vf.outer.n vf.outer.c, .slice vf.params.a vf.params.n vf.params.c, .slice vf.results.a vf.results.n vf.results.c, .slice vf.locals.a vf.locals.n vf.locals.c, .slice vf.code.a vf.code.n vf.code.c, .slice vf.lines.a vf.lines.n vf.lines.c, .slice vf.nodes.a vf.nodes.n vf.nodes.c, .slice vf.at_.a vf.at_.n vf.at_.c, .slice vf.live.a vf.live.n vf.live.c] := hI.good 8 15 (dep_of hdep 8 rfl) rfl
      refine ok_call (wanted_is rfl rfl hI.size (by simp) eg) (f := 10) (args := #[.agg #[.string vf.name, .bool vf.inner, .slice vf.outer.a vf.outer.n vf.outer.c, .slice vf.params.a vf.params.n vf.params.c, .slice vf.results.a vf.results.n vf.results.c, .slice vf.locals.a vf.locals.n vf.locals.c, .slice vf.code.a vf.code.n vf.code.c, .slice vf.lines.a vf.lines.n vf.lines.c, .slice vf.nodes.a vf.nodes.n vf.nodes.c, .slice vf.at_.a vf.at_.n vf.at_.c, .slice vf.live.a vf.live.n vf.live.c]]) ?_ (HBr.out w) ?_
      · have ec : ∀ c, a.eval (.const c) = c := fun _ => rfl
        have ef : ∀ f, a.eval (.func f) = .func (.func f) #[] #[] := fun _ => rfl
        clear hI hdep hK
        generalize a.eval = ρ at eg e15 ec ef ⊢
        go_simp
      · rintro e w2 ⟨rfl, hb2⟩
        exact ⟨_, rfl, hK u _ _ (((hI.world.up rfl rfl rfl rfl)).below hb2) (fun _ _ _ h => h) rfl⟩
    · intro u D a w hI hdep hD0 K hK
      have eg : a.eval (.tmp 12) = .bool true := hI.good 5 12 (dep_of hdep 5 rfl) rfl
      have e14 : a.eval (.tmp 14) = .bool bb := hI.good 7 14 (dep_of hdep 7 rfl) rfl
      have e16 : a.eval (.tmp 16) = .bool bb := hI.good 9 16 (dep_of hdep 9 rfl) rfl
      refine ok_value (wanted_is rfl rfl hI.size (by simp) eg) (v := .bool true) ?_ (hK u _ _ (hI.world.up rfl rfl rfl rfl) (fun _ _ _ h => h) rfl)
      have ec : ∀ c, a.eval (.const c) = c := fun _ => rfl
      have ef : ∀ f, a.eval (.func f) = .func (.func f) #[] #[] := fun _ => rfl
      clear hI hdep hK
      generalize a.eval = ρ at eg e14 e16 ec ef ⊢
      go_simp
    · intro u D a w hI hdep hD0 K hK
      have e12 : a.eval (.tmp 12) = .bool true := hI.good 5 12 (dep_of hdep 5 rfl) rfl
      have e17 : a.eval (.tmp 17) = .bool true := hI.good 10 17 (dep_of hdep 10 rfl) rfl
      refine ok_value (wanted_none rfl) (v := .bool true) ?_ (hK u _ _ (hI.world.up rfl rfl rfl rfl) (fun _ _ _ h => h) rfl)
      have ec : ∀ c, a.eval (.const c) = c := fun _ => rfl
      have ef : ∀ f, a.eval (.func f) = .func (.func f) #[] #[] := fun _ => rfl
      clear hI hdep hK
      generalize a.eval = ρ at e12 e17 ec ef ⊢
      go_simp
    · intro u D a w hI hdep hD0 K hK
      have e18 : a.eval (.tmp 18) = .bool true := hI.good 11 18 (dep_of hdep 11 rfl) rfl
      refine ok_value (wanted_none rfl) (v := .bool true) ?_ (hK u _ _ (hI.world.up rfl rfl rfl rfl) (fun _ _ _ h => h) rfl)
      have ec : ∀ c, a.eval (.const c) = c := fun _ => rfl
      have ef : ∀ f, a.eval (.func f) = .func (.func f) #[] #[] := fun _ => rfl
      clear hI hdep hK
      generalize a.eval = ρ at e18 ec ef ⊢
      go_simp
    · intro u D a w hI hdep hD0 K hK
      have eg : a.eval (.tmp 19) = .bool true := hI.good 12 19 (dep_of hdep 12 rfl) rfl
      refine ok_new (wanted_is rfl rfl hI.size (by simp) eg) (v := .slice (some ⟨w.heap.size, 0, none⟩) 1 1) (w' := w.alloc (.cells #[.int .u8 1] 5)) (by have ec : ∀ c, a.eval (.const c) = c := fun _ => rfl; generalize a.eval = ρ at ec ⊢; go_simp) ?_
      exact hK (.slice (some ⟨w.heap.size, 0, none⟩) 1 1, u.2) _ _ (hI.world.new13) (fun j z hj h => FcG_13 hD0 hj h) rfl
    · intro u D a w hI hdep hD0 K hK
      have eg : a.eval (.tmp 19) = .bool true := hI.good 12 19 (dep_of hdep 12 rfl) rfl
      have e1 : a.eval (.tmp 1) = .pointer (some ⟨pbx, 0, none⟩) := hI.read 1 rfl
      have hA := A2.out.on hI.world.base
      have k0 := hA.c0
      have k1 := hA.c1
      have k2 := hA.c2
      have k3 := hA.c3
      have k4 := hA.c4
      have k5 := hA.c5
      have k6 := hA.c6
      have k7 := hA.c7
      have k8 := hA.c8
      have k9 := hA.c9
      have k10 := hA.c10
      refine ok_value (wanted_is rfl rfl hI.size (by simp) eg) (v := .agg #[.string vf.name, .bool vf.inner, .slice vf.outer.a vf.outer.n vf.outer.c, .slice vf.params.a vf.params.n vf.params.c, .slice vf.results.a vf.results.n vf.results.c, .slice vf.locals.a vf.locals.n vf.locals.c, .slice vf.code.a vf.code.n vf.code.c, .slice vf.lines.a vf.lines.n vf.lines.c, .slice vf.nodes.a vf.nodes.n vf.nodes.c, .slice vf.at_.a vf.at_.n vf.at_.c, .slice vf.live.a vf.live.n vf.live.c]) ?_ (hK u _ _ (hI.world.up rfl rfl rfl rfl) (fun _ _ _ h => h) rfl)
      clear hA
      have ec : ∀ c, a.eval (.const c) = c := fun _ => rfl
      have ef : ∀ f, a.eval (.func f) = .func (.func f) #[] #[] := fun _ => rfl
      clear hI hdep hK
      generalize a.eval = ρ at eg e1 ec ef ⊢
      go_simp
    · intro u D a w hI hdep hD0 K hK
      have eg : a.eval (.tmp 19) = .bool true := hI.good 12 19 (dep_of hdep 12 rfl) rfl
      have e20 := hI.good 13 20 (dep_of hdep 13 rfl) rfl
      have e21 : a.eval (.tmp 21) = .agg #[.string vf.name, .bool vf.inner, .slice vf.outer.a vf.outer.n vf.outer.c, .slice vf.params.a vf.params.n vf.params.c, .slice vf.results.a vf.results.n vf.results.c, .slice vf.locals.a vf.locals.n vf.locals.c, .slice vf.code.a vf.code.n vf.code.c, .slice vf.lines.a vf.lines.n vf.lines.c, .slice vf.nodes.a vf.nodes.n vf.nodes.c, .slice vf.at_.a vf.at_.n vf.at_.c, .slice vf.live.a vf.live.n vf.live.c] := hI.good 14 21 (dep_of hdep 14 rfl) rfl
      have h0 := dep_of hdep 13 rfl
      have hown := hI.world.o1 h0 hD0
      rw [← show a.eval (.tmp 20) = u.1 from e20] at hown
      refine ok_call (wanted_is rfl rfl hI.size (by simp) eg) (f := 11) (args := #[a.eval (.tmp 20), .agg #[.string vf.name, .bool vf.inner, .slice vf.outer.a vf.outer.n vf.outer.c, .slice vf.params.a vf.params.n vf.params.c, .slice vf.results.a vf.results.n vf.results.c, .slice vf.locals.a vf.locals.n vf.locals.c, .slice vf.code.a vf.code.n vf.code.c, .slice vf.lines.a vf.lines.n vf.lines.c, .slice vf.nodes.a vf.nodes.n vf.nodes.c, .slice vf.at_.a vf.at_.n vf.at_.c, .slice vf.live.a vf.live.n vf.live.c]]) ?_ (HPt.out w w1.heap.size (a.eval (.tmp 20)) 1 (bs [1]) (O2.out.on hI.world.base) (tab_below T2.out hI.world.base G2.out) (Nat.lt_of_lt_of_le G2.out hI.world.base.size) hown hI.world.base.size (by omega)) ?_
      · have ec : ∀ c, a.eval (.const c) = c := fun _ => rfl
        have ef : ∀ f, a.eval (.func f) = .func (.func f) #[] #[] := fun _ => rfl
        clear hI hdep hK
        generalize a.eval = ρ at eg e20 e21 ec ef ⊢
        go_simp
      · rw [HPB.out]
        rintro e w2 ⟨v2, rfl, hinv⟩
        rw [show a.eval (.tmp 20) = u.1 from e20] at hown hinv
        exact ⟨_, rfl, hK (u.1, v2, u.2.2) _ _ (hI.world.put h0 hD0 hinv) (fun j z hj h => FcG_15 hD0 hj h) rfl⟩
    · intro u D a w hI hdep hD0 K hK
      have eg : a.eval (.tmp 19) = .bool true := hI.good 12 19 (dep_of hdep 12 rfl) rfl
      have e22 := hI.good 15 22 (dep_of hdep 15 rfl) rfl
      have e22 : a.eval (.tmp 22) = u.2.1 := e22
      have hx := dep_of hdep 15 rfl
      have hc' := own_conv (hI.world.o2 hx)
      rw [HSA.out] at hc'
      refine ok_value (wanted_is rfl rfl hI.size (by simp) eg) (v := .string sA) ?_ (hK u _ _ (hI.world.up rfl rfl rfl rfl) (fun _ _ _ h => h) rfl)
      have ec : ∀ c, a.eval (.const c) = c := fun _ => rfl
      have ef : ∀ f, a.eval (.func f) = .func (.func f) #[] #[] := fun _ => rfl
      clear hI hdep hK
      generalize a.eval = ρ at eg e22 ec ef ⊢
      go_simp
    · intro u D a w hI hdep hD0 K hK
      have eg : a.eval (.tmp 19) = .bool true := hI.good 12 19 (dep_of hdep 12 rfl) rfl
      refine ok_new (wanted_is rfl rfl hI.size (by simp) eg) (v := .slice (some ⟨w.heap.size, 0, none⟩) 1 1) (w' := w.alloc (.cells #[.int .u8 1] 5)) (by have ec : ∀ c, a.eval (.const c) = c := fun _ => rfl; generalize a.eval = ρ at ec ⊢; go_simp) ?_
      exact hK (u.1, u.2.1, .slice (some ⟨w.heap.size, 0, none⟩) 1 1, u.2.2.2) _ _ (hI.world.new17) (fun j z hj h => FcG_17 hD0 hj h) rfl
    · intro u D a w hI hdep hD0 K hK
      have eg : a.eval (.tmp 19) = .bool true := hI.good 12 19 (dep_of hdep 12 rfl) rfl
      have e24 := hI.good 17 24 (dep_of hdep 17 rfl) rfl
      have e24 : a.eval (.tmp 24) = u.2.2.1 := e24
      have hx := dep_of hdep 17 rfl
      have hc' := own_conv (hI.world.o3 hx)
      rw [HSL.out] at hc'
      refine ok_value (wanted_is rfl rfl hI.size (by simp) eg) (v := .string sL) ?_ (hK u _ _ (hI.world.up rfl rfl rfl rfl) (fun _ _ _ h => h) rfl)
      have ec : ∀ c, a.eval (.const c) = c := fun _ => rfl
      have ef : ∀ f, a.eval (.func f) = .func (.func f) #[] #[] := fun _ => rfl
      clear hI hdep hK
      generalize a.eval = ρ at eg e24 ec ef ⊢
      go_simp
    · intro u D a w hI hdep hD0 K hK
      have eg : a.eval (.tmp 19) = .bool true := hI.good 12 19 (dep_of hdep 12 rfl) rfl
      have e1 : a.eval (.tmp 1) = .pointer (some ⟨pbx, 0, none⟩) := hI.read 1 rfl
      have hA := A2.out.on hI.world.base
      have k0 := hA.c0
      have k1 := hA.c1
      have k2 := hA.c2
      have k3 := hA.c3
      have k4 := hA.c4
      have k5 := hA.c5
      have k6 := hA.c6
      have k7 := hA.c7
      have k8 := hA.c8
      have k9 := hA.c9
      have k10 := hA.c10
      refine ok_value (wanted_is rfl rfl hI.size (by simp) eg) (v := .agg #[.string vf.name, .bool vf.inner, .slice vf.outer.a vf.outer.n vf.outer.c, .slice vf.params.a vf.params.n vf.params.c, .slice vf.results.a vf.results.n vf.results.c, .slice vf.locals.a vf.locals.n vf.locals.c, .slice vf.code.a vf.code.n vf.code.c, .slice vf.lines.a vf.lines.n vf.lines.c, .slice vf.nodes.a vf.nodes.n vf.nodes.c, .slice vf.at_.a vf.at_.n vf.at_.c, .slice vf.live.a vf.live.n vf.live.c]) ?_ (hK u _ _ (hI.world.up rfl rfl rfl rfl) (fun _ _ _ h => h) rfl)
      clear hA
      have ec : ∀ c, a.eval (.const c) = c := fun _ => rfl
      have ef : ∀ f, a.eval (.func f) = .func (.func f) #[] #[] := fun _ => rfl
      clear hI hdep hK
      generalize a.eval = ρ at eg e1 ec ef ⊢
      go_simp
    · intro u D a w hI hdep hD0 K hK
      have eg : a.eval (.tmp 19) = .bool true := hI.good 12 19 (dep_of hdep 12 rfl) rfl
      have e26 : a.eval (.tmp 26) = .agg #[.string vf.name, .bool vf.inner, .slice vf.outer.a vf.outer.n vf.outer.c, .slice vf.params.a vf.params.n vf.params.c, .slice vf.results.a vf.results.n vf.results.c, .slice vf.locals.a vf.locals.n vf.locals.c, .slice vf.code.a vf.code.n vf.code.c, .slice vf.lines.a vf.lines.n vf.lines.c, .slice vf.nodes.a vf.nodes.n vf.nodes.c, .slice vf.at_.a vf.at_.n vf.at_.c, .slice vf.live.a vf.live.n vf.live.c] := hI.good 19 26 (dep_of hdep 19 rfl) rfl
      refine ok_call (wanted_is rfl rfl hI.size (by simp) eg) (f := 12) (args := #[.agg #[.string vf.name, .bool vf.inner, .slice vf.outer.a vf.outer.n vf.outer.c, .slice vf.params.a vf.params.n vf.params.c, .slice vf.results.a vf.results.n vf.results.c, .slice vf.locals.a vf.locals.n vf.locals.c, .slice vf.code.a vf.code.n vf.code.c, .slice vf.lines.a vf.lines.n vf.lines.c, .slice vf.nodes.a vf.nodes.n vf.nodes.c, .slice vf.at_.a vf.at_.n vf.at_.c, .slice vf.live.a vf.live.n vf.live.c]]) ?_ (HPr.out w (O2.out.on hI.world.base)) ?_
      · have ec : ∀ c, a.eval (.const c) = c := fun _ => rfl
        have ef : ∀ f, a.eval (.func f) = .func (.func f) #[] #[] := fun _ => rfl
        clear hI hdep hK
        generalize a.eval = ρ at eg e26 ec ef ⊢
        go_simp
      · rw [HPB.out]
        rintro e w2 ⟨v2, rfl, hown, hb⟩
        exact ⟨_, rfl, hK (u.1, u.2.1, u.2.2.1, v2) _ _ (hI.world.new20 hown hb) (fun j z hj h => FcG_20 hD0 hj h) rfl⟩
    · intro u D a w hI hdep hD0 K hK
      have eg : a.eval (.tmp 19) = .bool true := hI.good 12 19 (dep_of hdep 12 rfl) rfl
      have e27 := hI.good 20 27 (dep_of hdep 20 rfl) rfl
      have e27 : a.eval (.tmp 27) = u.2.2.2 := e27
      have hx := dep_of hdep 20 rfl
      have hc' := own_conv (hI.world.o4 hx)
      rw [HSP.out] at hc'
      refine ok_value (wanted_is rfl rfl hI.size (by simp) eg) (v := .string sP) ?_ (hK u _ _ (hI.world.up rfl rfl rfl rfl) (fun _ _ _ h => h) rfl)
      have ec : ∀ c, a.eval (.const c) = c := fun _ => rfl
      have ef : ∀ f, a.eval (.func f) = .func (.func f) #[] #[] := fun _ => rfl
      clear hI hdep hK
      generalize a.eval = ρ at eg e27 ec ef ⊢
      go_simp
    · intro u D a w hI hdep hD0 K hK
      have eg : a.eval (.tmp 19) = .bool true := hI.good 12 19 (dep_of hdep 12 rfl) rfl
      have e25 : a.eval (.tmp 25) = .string sL := hI.good 18 25 (dep_of hdep 18 rfl) rfl
      have e28 : a.eval (.tmp 28) = .string sP := hI.good 21 28 (dep_of hdep 21 rfl) rfl
      refine ok_value (wanted_is rfl rfl hI.size (by simp) eg) (v := .string sA) ?_ (hK u _ _ (hI.world.up rfl rfl rfl rfl) (fun _ _ _ h => h) rfl)
      have ec : ∀ c, a.eval (.const c) = c := fun _ => rfl
      have ef : ∀ f, a.eval (.func f) = .func (.func f) #[] #[] := fun _ => rfl
      clear hI hdep hK
      generalize a.eval = ρ at eg e25 e28 ec ef ⊢
      go_simp
      omega
    · intro u D a w hI hdep hD0 K hK
      have eg : a.eval (.tmp 19) = .bool true := hI.good 12 19 (dep_of hdep 12 rfl) rfl
      have e23 : a.eval (.tmp 23) = .string sA := hI.good 16 23 (dep_of hdep 16 rfl) rfl
      have e29 : a.eval (.tmp 29) = .string sA := hI.good 22 29 (dep_of hdep 22 rfl) rfl
      refine ok_value (wanted_is rfl rfl hI.size (by simp) eg) (v := .bool true) ?_ (hK u _ _ (hI.world.up rfl rfl rfl rfl) (fun _ _ _ h => h) rfl)
      have ec : ∀ c, a.eval (.const c) = c := fun _ => rfl
      have ef : ∀ f, a.eval (.func f) = .func (.func f) #[] #[] := fun _ => rfl
      clear hI hdep hK
      generalize a.eval = ρ at eg e23 e29 ec ef ⊢
      go_simp
    · intro u D a w hI hdep hD0 K hK
      have e19 : a.eval (.tmp 19) = .bool true := hI.good 12 19 (dep_of hdep 12 rfl) rfl
      have e30 : a.eval (.tmp 30) = .bool true := hI.good 23 30 (dep_of hdep 23 rfl) rfl
      refine ok_value (wanted_none rfl) (v := .bool true) ?_ (hK u _ _ (hI.world.up rfl rfl rfl rfl) (fun _ _ _ h => h) rfl)
      have ec : ∀ c, a.eval (.const c) = c := fun _ => rfl
      have ef : ∀ f, a.eval (.func f) = .func (.func f) #[] #[] := fun _ => rfl
      clear hI hdep hK
      generalize a.eval = ρ at e19 e30 ec ef ⊢
      go_simp
    · intro u D a w hI hdep hD0 K hK
      have e31 : a.eval (.tmp 31) = .bool true := hI.good 24 31 (dep_of hdep 24 rfl) rfl
      refine ok_value (wanted_none rfl) (v := .bool true) ?_ (hK u _ _ (hI.world.up rfl rfl rfl rfl) (fun _ _ _ h => h) rfl)
      have ec : ∀ c, a.eval (.const c) = c := fun _ => rfl
      have ef : ∀ f, a.eval (.func f) = .func (.func f) #[] #[] := fun _ => rfl
      clear hI hdep hK
      generalize a.eval = ρ at e31 ec ef ⊢
      go_simp
    · intro u D a w hI hdep hD0 K hK
      have eg : a.eval (.tmp 32) = .bool true := hI.good 25 32 (dep_of hdep 25 rfl) rfl
      refine ok_call (wanted_is rfl rfl hI.size (by simp) eg) (f := 6) (args := #[]) ?_ (lives15_any w (tab_below T2.out hI.world.base G2.out) (Nat.lt_of_lt_of_le G2.out hI.world.base.size)) ?_
      · have ec : ∀ c, a.eval (.const c) = c := fun _ => rfl
        have ef : ∀ f, a.eval (.func f) = .func (.func f) #[] #[] := fun _ => rfl
        clear hI hdep hK
        generalize a.eval = ρ at eg ec ef ⊢
        go_simp
      · rintro e w2 ⟨rfl, hb2⟩
        exact ⟨_, rfl, hK u _ _ (((hI.world.up rfl rfl rfl rfl)).below hb2) (fun _ _ _ h => h) rfl⟩
    · intro u D a w hI hdep hD0 K hK
      have e32 : a.eval (.tmp 32) = .bool true := hI.good 25 32 (dep_of hdep 25 rfl) rfl
      have e33 : a.eval (.tmp 33) = .bool true := hI.good 26 33 (dep_of hdep 26 rfl) rfl
      refine ok_value (wanted_none rfl) (v := .bool true) ?_ (hK u _ _ (hI.world.up rfl rfl rfl rfl) (fun _ _ _ h => h) rfl)
      have ec : ∀ c, a.eval (.const c) = c := fun _ => rfl
      have ef : ∀ f, a.eval (.func f) = .func (.func f) #[] #[] := fun _ => rfl
      clear hI hdep hK
      generalize a.eval = ρ at e32 e33 ec ef ⊢
      go_simp
    · intro u D a w hI hdep hD0 K hK
      have e34 : a.eval (.tmp 34) = .bool true := hI.good 27 34 (dep_of hdep 27 rfl) rfl
      refine ok_value (wanted_none rfl) (v := .bool true) ?_ (hK u _ _ (hI.world.up rfl rfl rfl rfl) (fun _ _ _ h => h) rfl)
      have ec : ∀ c, a.eval (.const c) = c := fun _ => rfl
      have ef : ∀ f, a.eval (.func f) = .func (.func f) #[] #[] := fun _ => rfl
      clear hI hdep hK
      generalize a.eval = ρ at e34 ec ef ⊢
      go_simp
  · intro u D a w2 hI hD
    have hfr := hI.frame [(7, .agg #[.string vf.name, .bool vf.inner, .slice vf.outer.a vf.outer.n vf.outer.c, .slice vf.params.a vf.params.n vf.params.c, .slice vf.results.a vf.results.n vf.results.c, .slice vf.locals.a vf.locals.n vf.locals.c, .slice vf.code.a vf.code.n vf.code.c, .slice vf.lines.a vf.lines.n vf.lines.c, .slice vf.nodes.a vf.nodes.n vf.nodes.c, .slice vf.at_.a vf.at_.n vf.at_.c, .slice vf.live.a vf.live.n vf.live.c]), (8, .int .i64 (cn0 : Int)), (9, .agg #[.string vf.name, .bool vf.inner, .slice vf.outer.a vf.outer.n vf.outer.c, .slice vf.params.a vf.params.n vf.params.c, .slice vf.results.a vf.results.n vf.results.c, .slice vf.locals.a vf.locals.n vf.locals.c, .slice vf.code.a vf.code.n vf.code.c, .slice vf.lines.a vf.lines.n vf.lines.c, .slice vf.nodes.a vf.nodes.n vf.nodes.c, .slice vf.at_.a vf.at_.n vf.at_.c, .slice vf.live.a vf.live.n vf.live.c]), (10, .int .i64 (cn0 : Int)), (11, .bool true), (12, .bool true), (13, .agg #[.string vf.name, .bool vf.inner, .slice vf.outer.a vf.outer.n vf.outer.c, .slice vf.params.a vf.params.n vf.params.c, .slice vf.results.a vf.results.n vf.results.c, .slice vf.locals.a vf.locals.n vf.locals.c, .slice vf.code.a vf.code.n vf.code.c, .slice vf.lines.a vf.lines.n vf.lines.c, .slice vf.nodes.a vf.nodes.n vf.nodes.c, .slice vf.at_.a vf.at_.n vf.at_.c, .slice vf.live.a vf.live.n vf.live.c]), (14, .bool bb), (15, .agg #[.string vf.name, .bool vf.inner, .slice vf.outer.a vf.outer.n vf.outer.c, .slice vf.params.a vf.params.n vf.params.c, .slice vf.results.a vf.results.n vf.results.c, .slice vf.locals.a vf.locals.n vf.locals.c, .slice vf.code.a vf.code.n vf.code.c, .slice vf.lines.a vf.lines.n vf.lines.c, .slice vf.nodes.a vf.nodes.n vf.nodes.c, .slice vf.at_.a vf.at_.n vf.at_.c, .slice vf.live.a vf.live.n vf.live.c]), (16, .bool bb), (17, .bool true), (18, .bool true), (19, .bool true), (20, u.1), (21, .agg #[.string vf.name, .bool vf.inner, .slice vf.outer.a vf.outer.n vf.outer.c, .slice vf.params.a vf.params.n vf.params.c, .slice vf.results.a vf.results.n vf.results.c, .slice vf.locals.a vf.locals.n vf.locals.c, .slice vf.code.a vf.code.n vf.code.c, .slice vf.lines.a vf.lines.n vf.lines.c, .slice vf.nodes.a vf.nodes.n vf.nodes.c, .slice vf.at_.a vf.at_.n vf.at_.c, .slice vf.live.a vf.live.n vf.live.c]), (22, u.2.1), (23, .string sA), (24, u.2.2.1), (25, .string sL), (26, .agg #[.string vf.name, .bool vf.inner, .slice vf.outer.a vf.outer.n vf.outer.c, .slice vf.params.a vf.params.n vf.params.c, .slice vf.results.a vf.results.n vf.results.c, .slice vf.locals.a vf.locals.n vf.locals.c, .slice vf.code.a vf.code.n vf.code.c, .slice vf.lines.a vf.lines.n vf.lines.c, .slice vf.nodes.a vf.nodes.n vf.nodes.c, .slice vf.at_.a vf.at_.n vf.at_.c, .slice vf.live.a vf.live.n vf.live.c]), (27, u.2.2.2), (28, .string sP), (29, .string sA), (30, .bool true), (31, .bool true), (32, .bool true), (33, .bool true), (34, .bool true), (2, .bool true)] (all_cons (hI.good 0 7 (hD 0 (by decide)) rfl) (all_cons (hI.good 1 8 (hD 1 (by decide)) rfl) (all_cons (hI.good 2 9 (hD 2 (by decide)) rfl) (all_cons (hI.good 3 10 (hD 3 (by decide)) rfl) (all_cons (hI.good 4 11 (hD 4 (by decide)) rfl) (all_cons (hI.good 5 12 (hD 5 (by decide)) rfl) (all_cons (hI.good 6 13 (hD 6 (by decide)) rfl) (all_cons (hI.good 7 14 (hD 7 (by decide)) rfl) (all_cons (hI.good 8 15 (hD 8 (by decide)) rfl) (all_cons (hI.good 9 16 (hD 9 (by decide)) rfl) (all_cons (hI.good 10 17 (hD 10 (by decide)) rfl) (all_cons (hI.good 11 18 (hD 11 (by decide)) rfl) (all_cons (hI.good 12 19 (hD 12 (by decide)) rfl) (all_cons (hI.good 13 20 (hD 13 (by decide)) rfl) (all_cons (hI.good 14 21 (hD 14 (by decide)) rfl) (all_cons (hI.good 15 22 (hD 15 (by decide)) rfl) (all_cons (hI.good 16 23 (hD 16 (by decide)) rfl) (all_cons (hI.good 17 24 (hD 17 (by decide)) rfl) (all_cons (hI.good 18 25 (hD 18 (by decide)) rfl) (all_cons (hI.good 19 26 (hD 19 (by decide)) rfl) (all_cons (hI.good 20 27 (hD 20 (by decide)) rfl) (all_cons (hI.good 21 28 (hD 21 (by decide)) rfl) (all_cons (hI.good 22 29 (hD 22 (by decide)) rfl) (all_cons (hI.good 23 30 (hD 23 (by decide)) rfl) (all_cons (hI.good 24 31 (hD 24 (by decide)) rfl) (all_cons (hI.good 25 32 (hD 25 (by decide)) rfl) (all_cons (hI.good 26 33 (hD 26 (by decide)) rfl) (all_cons (hI.good 27 34 (hD 27 (by decide)) rfl) (all_cons (hI.good 28 2 (hD 28 (by decide)) rfl) all_nil))))))))))))))))))))))))))))) rfl
    have hW := hI.world
    clear hI
    subst hfr
    simp only [List.foldl_cons, List.foldl_nil, List.setIfInBounds_toArray, List.set_cons_succ, List.set_cons_zero]
    have HB3 := Lib.hid hW.base
    generalize u.1 = u1 at *
    generalize u.2.1 = u2 at *
    generalize u.2.2.1 = u3 at *
    generalize u.2.2.2 = u4 at *
    clear hW hD hS
    go_wp2
    go_ret
    have hB := B2.out
    rw [← HPX.out] at hB
    exact ⟨rfl, hB.trans (HB3.out.mono hB.size)⟩
end Go.Proofs.YtifkoihhlhadhaaGreatDoor
