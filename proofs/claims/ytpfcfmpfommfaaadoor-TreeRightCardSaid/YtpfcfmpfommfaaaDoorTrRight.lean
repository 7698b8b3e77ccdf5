/-
  The walk of TreeRight. Conditions: the nodes can be read; numbers of their type; the table of powers of ten is laid.
-/
import Derived.Test.YtpfcfmpfommfaaaDoorTrL
import Derived.Test.YtpfcfmpfommfaaaDoorTrRr
import Derived.Test.YtpfcfmpfommfaaaDoorTrPr
import Derived.Test.YtpfcfmpfommfaaaDoorRegionK
namespace Go.Proofs.YtpfcfmpfommfaaaDoor
open Go.RowKit

/-- The world while the law's last statement runs: a byte that was made, Put behind it; another, and what the document's Put told. -/
structure TgC (m : Nat) (pb : List Nat) (w1 : World) (u : Value × Value × Value × Value) (D : Nat → Bool) (W : World) : Prop where
  base : Below w1.heap.size w1 W
  o1 : D 6 = true → D 8 = false → W.ownsRow w1.heap.size 5 1 u.1 1 (bs [1])
  o2 : D 8 = true → W.ownsRow w1.heap.size 5 1 u.2.1 (1 + m) (bs ([1] ++ pb))
  o3 : D 10 = true → W.ownsRow w1.heap.size 5 1 u.2.2.1 1 (bs [1])
  o4 : D 13 = true → W.ownsRow w1.heap.size 5 1 u.2.2.2 m (bs pb)
  a3 : D 6 = true → D 8 = false → D 10 = true → u.2.2.1.ownBlock ≠ u.1.ownBlock
  a4 : D 6 = true → D 8 = false → D 13 = true → u.2.2.2.ownBlock = none ∨ u.2.2.2.ownBlock ≠ u.1.ownBlock
section
variable {m : Nat} {pb : List Nat} {w1 : World} {u : Value × Value × Value × Value} {D : Nat → Bool} {W : World}
theorem TgC.up (h : TgC m pb w1 u D W) {i : Nat} (h1 : (6 == i) = false) (h2 : (8 == i) = false) (h3 : (10 == i) = false) (h4 : (13 == i) = false) : TgC m pb w1 u (add D i) W :=
  ⟨h.base, by rw [up_other h1, up_other h2]; exact h.o1, by rw [up_other h2]; exact h.o2, by rw [up_other h3]; exact h.o3, by rw [up_other h4]; exact h.o4, by rw [up_other h1, up_other h2, up_other h3]; exact h.a3, by rw [up_other h1, up_other h2, up_other h4]; exact h.a4⟩
theorem TgC.below (h : TgC m pb w1 u D W) {W' : World} (hb : Below W.heap.size W W') : TgC m pb w1 u D W' :=
  ⟨h.base.trans (hb.mono h.base.size), fun x y => ownsRow_below (h.o1 x y) hb, fun x => ownsRow_below (h.o2 x) hb, fun x => ownsRow_below (h.o3 x) hb, fun x => ownsRow_below (h.o4 x) hb, h.a3, h.a4⟩
set_option maxRecDepth 100000 in
theorem block_ne13 {v : Value} {n : Nat} {xs : List Value} (h : W.ownsRow w1.heap.size 5 1 v n xs) : v.ownBlock ≠ some W.heap.size := fun e => absurd (h.lt _ e).2 (Nat.lt_irrefl _)
set_option maxRecDepth 100000 in
theorem TgC.new6 (h : TgC m pb w1 u D W) : TgC m pb w1 (.slice (some ⟨W.heap.size, 0, none⟩) 1 1, u.2) (add D 6) (W.alloc (.cells #[.int .u8 1] 5)) := by
  have hb := (Below.refl W.heap.size W).alloc (Nat.le_refl _) (.cells #[.int .u8 1] 5)
  have k := h.below hb
  refine ⟨k.base, fun _ _ => World.ownsRow_lit W #[.int .u8 1] 1 h.base.size (by decide) rfl, ?_, ?_, ?_, ?_, ?_⟩
  · rw [up_other rfl]; exact k.o2
  · rw [up_other rfl]; exact k.o3
  · rw [up_other rfl]; exact k.o4
  · rw [up_other (j := 10) rfl]
    exact fun _ _ e => block_ne13 (h.o3 e)
  · rw [up_other (j := 13) rfl]
    exact fun _ _ e => .inr (block_ne13 (h.o4 e))
set_option maxRecDepth 100000 in
theorem TgC.new10 (h : TgC m pb w1 u D W) : TgC m pb w1 (u.1, u.2.1, .slice (some ⟨W.heap.size, 0, none⟩) 1 1, u.2.2.2) (add D 10) (W.alloc (.cells #[.int .u8 1] 5)) := by
  have hb := (Below.refl W.heap.size W).alloc (Nat.le_refl _) (.cells #[.int .u8 1] 5)
  have k := h.below hb
  refine ⟨k.base, ?_, ?_, fun _ => World.ownsRow_lit W #[.int .u8 1] 1 h.base.size (by decide) rfl, ?_, ?_, ?_⟩
  · rw [up_other rfl, up_other rfl]; exact k.o1
  · rw [up_other rfl]; exact k.o2
  · rw [up_other rfl]; exact k.o4
  · rw [up_other (j := 6) rfl, up_other (j := 8) rfl]
    exact fun e1 e2 _ => Ne.symm (block_ne13 (h.o1 e1 e2))
  · rw [up_other rfl, up_other rfl, up_other rfl]; exact k.a4
set_option maxRecDepth 100000 in
theorem TgC.new13 (h : TgC m pb w1 u D W) {v : Value} {W' : World} (hown : W'.ownsRow W.heap.size 5 1 v m (bs pb)) (hb : Below W.heap.size W W') : TgC m pb w1 (u.1, u.2.1, u.2.2.1, v) (add D 13) W' := by
  have k := h.below hb
  refine ⟨k.base, ?_, ?_, ?_, fun _ => ownsRow_base hown h.base.size, ?_, ?_⟩
  · rw [up_other rfl, up_other rfl]; exact k.o1
  · rw [up_other rfl]; exact k.o2
  · rw [up_other rfl]; exact k.o3
  · rw [up_other rfl, up_other rfl, up_other rfl]; exact k.a3
  · rw [up_other (j := 6) rfl, up_other (j := 8) rfl]
    intro e1 e2 _
    refine .inr (fun e => ?_)
    rcases hv : v.ownBlock with _ | g
    · obtain ⟨g', cap, e', _, _⟩ := (h.o1 e1 e2).form (by decide)
      have e'' : u.1.ownBlock = some g' := by rw [e']; rfl
      rw [show ((u.1, u.2.1, u.2.2.1, v) : Value × Value × Value × Value).2.2.2.ownBlock = none from hv] at e
      rw [show ((u.1, u.2.1, u.2.2.1, v) : Value × Value × Value × Value).1.ownBlock = some g' from e''] at e
      cases e
    · have h1 := (hown.lt g hv).1
      have h2 := ((h.o1 e1 e2).lt g (e.symm.trans hv)).2
      omega
theorem TgC.put (h : TgC m pb w1 u D W) (h1 : D 6 = true) (h2 : D 8 = false) {v : Value} {W' : World} (hinv : OwnInv w1.heap.size W u.1 v (1 + m) (bs [1] ++ bs pb) W') : TgC m pb w1 (u.1, v, u.2.2) (add D 8) W' := by
  refine ⟨h.base.trans (hinv.below (h.o1 h1 h2) h.base.size), (by rw [up_self]; intro _ e; cases e), (fun _ => by rw [bs_append]; exact hinv.1), ?_, ?_, (by rw [up_self]; intro _ e; cases e), (by rw [up_self]; intro _ e; cases e)⟩
  · rw [up_other rfl]
    exact fun e => (h.o3 e).kept hinv.2.1 (.inr (h.a3 h1 h2 e))
  · rw [up_other rfl]
    exact fun e => (h.o4 e).kept hinv.2.1 (h.a4 h1 h2 e)
end

def TgG (La : Option Addr) (n c : Nat) (sA sL sP : ByteArray) (r : Bool) (u : Value × Value × Value × Value) : Nat → Value → Prop
  | 0, v => v = .slice La n c
  | 1, v => v = .bool r
  | 2, v => v = .slice La n c
  | 3, v => v = .bool r
  | 4, v => v = .bool true
  | 5, v => v = .bool true
  | 6, v => v = u.1
  | 7, v => v = .slice La n c
  | 8, v => v = u.2.1
  | 9, v => v = .string sA
  | 10, v => v = u.2.2.1
  | 11, v => v = .string sL
  | 12, v => v = .slice La n c
  | 13, v => v = u.2.2.2
  | 14, v => v = .string sP
  | 15, v => v = .string sA
  | 16, v => v = .bool true
  | 17, v => v = .bool true
  | 18, v => v = .bool true
  | 19, v => v = .bool true
  | 20, v => v = .bool true
  | 21, v => v = .bool true
  | _, _ => True

theorem TgG_6 {La : Option Addr} {n c : Nat} {sA sL sP : ByteArray} {r : Bool} {u : Value × Value × Value × Value} {v z : Value} {D : Nat → Bool} {j : Nat} (hD0 : D 6 = false) (hj : D j = true) (h : TgG La n c sA sL sP r u j z) : TgG La n c sA sL sP r (v, u.2) j z := by
  by_cases e : j = 6
  · subst e
    rw [hD0] at hj
    cases hj
  · unfold TgG at h ⊢
    split at h <;> first | exact h | exact absurd rfl e

theorem TgG_8 {La : Option Addr} {n c : Nat} {sA sL sP : ByteArray} {r : Bool} {u : Value × Value × Value × Value} {v z : Value} {D : Nat → Bool} {j : Nat} (hD0 : D 8 = false) (hj : D j = true) (h : TgG La n c sA sL sP r u j z) : TgG La n c sA sL sP r (u.1, v, u.2.2) j z := by
  by_cases e : j = 8
  · subst e
    rw [hD0] at hj
    cases hj
  · unfold TgG at h ⊢
    split at h <;> first | exact h | exact absurd rfl e

theorem TgG_10 {La : Option Addr} {n c : Nat} {sA sL sP : ByteArray} {r : Bool} {u : Value × Value × Value × Value} {v z : Value} {D : Nat → Bool} {j : Nat} (hD0 : D 10 = false) (hj : D j = true) (h : TgG La n c sA sL sP r u j z) : TgG La n c sA sL sP r (u.1, u.2.1, v, u.2.2.2) j z := by
  by_cases e : j = 10
  · subst e
    rw [hD0] at hj
    cases hj
  · unfold TgG at h ⊢
    split at h <;> first | exact h | exact absurd rfl e

theorem TgG_13 {La : Option Addr} {n c : Nat} {sA sL sP : ByteArray} {r : Bool} {u : Value × Value × Value × Value} {v z : Value} {D : Nat → Bool} {j : Nat} (hD0 : D 13 = false) (hj : D j = true) (h : TgG La n c sA sL sP r u j z) : TgG La n c sA sL sP r (u.1, u.2.1, u.2.2.1, v) j z := by
  by_cases e : j = 13
  · subst e
    rw [hD0] at hj
    cases hj
  · unfold TgG at h ⊢
    split at h <;> first | exact h | exact absurd rfl e

set_option maxHeartbeats 8000000 in
set_option maxRecDepth 100000 in
theorem treeRight_walk (La : Option Addr) (n c : Nat) (l : List Tr.Nd) (w : World) (h : NodesAt w w.heap.size La n l) (hn : n ≤ 9223372036854775807) (hwf : ∀ nd ∈ l, nd.wf) (hp : Pow w) :
    Calls Tryd.prog 3 #[.slice La n c] w (BoolP true w) := by
  by_cases h200 : 200 < n
  · have hi : (200 : Int) < (n : Int) := by omega
    have HLv := Lib.hid (lives13_any w hp)
    clear h hp hwf
    go_enter Tryd.func3, Tryd.ntmps3
    go_wp2_with (go_at_call 7; refine HLv.out.mono ?_; rintro e w1 ⟨rfl, hb1⟩)
    go_ret
    exact ⟨rfl, hb1⟩
  have hi : ¬ (200 : Int) < (n : Int) := by omega
  have HP := Lib.hid hp
  have HN1 := Lib.hid h
  have HWf := Lib.hid hwf
  have HR1 := Lib.hid (fun (W : World) (h : NodesAt W W.heap.size La n l) => trright_any La n c l W h hn)
  have HR2 := Lib.hid (fun (W : World) (h : NodesAt W W.heap.size La n l) => rtrright_any La n c l W h hn)
  obtain ⟨r, hr⟩ : ∃ r, Tr.right l = r := ⟨_, rfl⟩
  rw [hr] at HR1 HR2
  unfold BoolP at HR1 HR2
  have hrr : (r == r) = true := by cases r <;> rfl
  obtain ⟨pb, hpb⟩ : ∃ p, Tr.bytes l = p := ⟨_, rfl⟩
  have HPB := Lib.hid hpb
  obtain ⟨sA, hsA⟩ : ∃ t, str ([1] ++ pb) = t := ⟨_, rfl⟩
  obtain ⟨sL, hsL⟩ : ∃ t, str [1] = t := ⟨_, rfl⟩
  obtain ⟨sP, hsP⟩ : ∃ t, str pb = t := ⟨_, rfl⟩
  have HSA := Lib.hid hsA
  have HSL := Lib.hid hsL
  have HSP := Lib.hid hsP
  have hcat : sL ++ sP = sA := by rw [← hsA, ← hsL, ← hsP, str_append]
  have hzL : sL.size ≤ 1 := by rw [← hsL, str_size]; exact Nat.le_refl 1
  have hzP : sP.size ≤ 14010 := by
    rw [← hsP, str_size, ← hpb]
    have h1 := Tr.bytes_len hwf (by rw [h.1]; omega)
    rw [h.1] at h1
    omega
  have hsd : (sA.toList == sA.toList) = true := beq_self_eq_true _
  clear hr hsA hsL hsP hpb h hp hwf
  go_enter Tryd.func3, Tryd.ntmps3
  go_wp2
  have hS : TgC pb.length pb w (undef, undef, undef, undef) (fun _ => false) w.drew := ⟨(Below.refl _ _).drew, (fun e => by cases e), (fun e => by cases e), (fun e => by cases e), (fun e => by cases e), (fun e => by cases e), (fun e => by cases e)⟩
  generalize w = w1 at *
  refine region_k (undef, undef, undef, undef) 28 (fun u D W => TgC pb.length pb w1 u D W) (TgG La n c sA sL sP r) (by kernel_rfl) (by kernel_rfl) (by kernel_rfl) rfl rfl hS ?_ ?_
  · refine ⟨?_, ?_, ?_, ?_, ?_, ?_, ?_, ?_, ?_, ?_, ?_, ?_, ?_, ?_, ?_, ?_, ?_, ?_, ?_, ?_, ?_, ?_, trivial⟩
    · intro u D a w hI hdep hD0 K hK
      have e0 : a.eval (.tmp 0) = .slice La n c := hI.read 0 rfl
      refine ok_value (wanted_none rfl) (v := .slice La n c) ?_ (hK u _ _ (hI.world.up rfl rfl rfl rfl) (fun _ _ _ h => h) rfl)
      have ec : ∀ c, a.eval (.const c) = c := fun _ => rfl
      have ef : ∀ f, a.eval (.func f) = .func (.func f) #[] #[] := fun _ => rfl
      clear hI hdep hK
      generalize a.eval = ρ at e0 ec ef ⊢
      go_simp
    · intro u D a w hI hdep hD0 K hK
      have e7 : a.eval (.tmp 7) = .slice La n c := hI.good 0 7 (dep_of hdep 0 rfl) rfl
      refine ok_call (wanted_none rfl) (f := 8) (args := #[.slice La n c]) ?_ (HR1.out w (HN1.out.on hI.world.base)) ?_
      · have ec : ∀ c, a.eval (.const c) = c := fun _ => rfl
        have ef : ∀ f, a.eval (.func f) = .func (.func f) #[] #[] := fun _ => rfl
        clear hI hdep hK
        generalize a.eval = ρ at e7 ec ef ⊢
        go_simp
      · rintro e w2 ⟨rfl, hb2⟩
        exact ⟨_, rfl, hK u _ _ (((hI.world.up rfl rfl rfl rfl)).below hb2) (fun _ _ _ h => h) rfl⟩
    · intro u D a w hI hdep hD0 K hK
      have e0 : a.eval (.tmp 0) = .slice La n c := hI.read 0 rfl
      refine ok_value (wanted_none rfl) (v := .slice La n c) ?_ (hK u _ _ (hI.world.up rfl rfl rfl rfl) (fun _ _ _ h => h) rfl)
      have ec : ∀ c, a.eval (.const c) = c := fun _ => rfl
      have ef : ∀ f, a.eval (.func f) = .func (.func f) #[] #[] := fun _ => rfl
      clear hI hdep hK
      generalize a.eval = ρ at e0 ec ef ⊢
      go_simp
    · intro u D a w hI hdep hD0 K hK
      have e9 : a.eval (.tmp 9) = .slice La n c := hI.good 2 9 (dep_of hdep 2 rfl) rfl
      refine ok_call (wanted_none rfl) (f := 9) (args := #[.slice La n c]) ?_ (HR2.out w (HN1.out.on hI.world.base)) ?_
      · have ec : ∀ c, a.eval (.const c) = c := fun _ => rfl
        have ef : ∀ f, a.eval (.func f) = .func (.func f) #[] #[] := fun _ => rfl
        clear hI hdep hK
        generalize a.eval = ρ at e9 ec ef ⊢
        go_simp
      · rintro e w2 ⟨rfl, hb2⟩
        exact ⟨_, rfl, hK u _ _ (((hI.world.up rfl rfl rfl rfl)).below hb2) (fun _ _ _ h => h) rfl⟩
    · intro u D a w hI hdep hD0 K hK
      have e8 : a.eval (.tmp 8) = .bool r := hI.good 1 8 (dep_of hdep 1 rfl) rfl
      have e10 : a.eval (.tmp 10) = .bool r := hI.good 3 10 (dep_of hdep 3 rfl) rfl
      refine ok_value (wanted_none rfl) (v := .bool true) ?_ (hK u _ _ (hI.world.up rfl rfl rfl rfl) (fun _ _ _ h => h) rfl)
      have ec : ∀ c, a.eval (.const c) = c := fun _ => rfl
      have ef : ∀ f, a.eval (.func f) = .func (.func f) #[] #[] := fun _ => rfl
      clear hI hdep hK
      generalize a.eval = ρ at e8 e10 ec ef ⊢
      go_simp
    · intro u D a w hI hdep hD0 K hK
      have e11 : a.eval (.tmp 11) = .bool true := hI.good 4 11 (dep_of hdep 4 rfl) rfl
      refine ok_value (wanted_none rfl) (v := .bool true) ?_ (hK u _ _ (hI.world.up rfl rfl rfl rfl) (fun _ _ _ h => h) rfl)
      have ec : ∀ c, a.eval (.const c) = c := fun _ => rfl
      have ef : ∀ f, a.eval (.func f) = .func (.func f) #[] #[] := fun _ => rfl
      clear hI hdep hK
      generalize a.eval = ρ at e11 ec ef ⊢
      go_simp
    · intro u D a w hI hdep hD0 K hK
      have eg : a.eval (.tmp 12) = .bool true := hI.good 5 12 (dep_of hdep 5 rfl) rfl
      refine ok_new (wanted_is rfl rfl hI.size (by simp) eg) (v := .slice (some ⟨w.heap.size, 0, none⟩) 1 1) (w' := w.alloc (.cells #[.int .u8 1] 5)) (by have ec : ∀ c, a.eval (.const c) = c := fun _ => rfl; generalize a.eval = ρ at ec ⊢; go_simp) ?_
      exact hK (.slice (some ⟨w.heap.size, 0, none⟩) 1 1, u.2) _ _ (hI.world.new6) (fun j z hj h => TgG_6 hD0 hj h) rfl
    · intro u D a w hI hdep hD0 K hK
      have eg : a.eval (.tmp 12) = .bool true := hI.good 5 12 (dep_of hdep 5 rfl) rfl
      have e0 : a.eval (.tmp 0) = .slice La n c := hI.read 0 rfl
      refine ok_value (wanted_is rfl rfl hI.size (by simp) eg) (v := .slice La n c) ?_ (hK u _ _ (hI.world.up rfl rfl rfl rfl) (fun _ _ _ h => h) rfl)
      have ec : ∀ c, a.eval (.const c) = c := fun _ => rfl
      have ef : ∀ f, a.eval (.func f) = .func (.func f) #[] #[] := fun _ => rfl
      clear hI hdep hK
      generalize a.eval = ρ at eg e0 ec ef ⊢
      go_simp
    · intro u D a w hI hdep hD0 K hK
      have eg : a.eval (.tmp 12) = .bool true := hI.good 5 12 (dep_of hdep 5 rfl) rfl
      have e13 := hI.good 6 13 (dep_of hdep 6 rfl) rfl
      have e14 : a.eval (.tmp 14) = .slice La n c := hI.good 7 14 (dep_of hdep 7 rfl) rfl
      have h0 := dep_of hdep 6 rfl
      have hown := hI.world.o1 h0 hD0
      rw [← show a.eval (.tmp 13) = u.1 from e13] at hown
      refine ok_call (wanted_is rfl rfl hI.size (by simp) eg) (f := 10) (args := #[a.eval (.tmp 13), .slice La n c]) ?_ (trput_own w1.heap.size (a.eval (.tmp 13)) 1 (bs [1]) La n c l w (HN1.out.on hI.world.base) (by omega) HWf.out hown hI.world.base.size (by omega)) ?_
      · have ec : ∀ c, a.eval (.const c) = c := fun _ => rfl
        have ef : ∀ f, a.eval (.func f) = .func (.func f) #[] #[] := fun _ => rfl
        clear hI hdep hK
        generalize a.eval = ρ at eg e13 e14 ec ef ⊢
        go_simp
      · rw [HPB.out]
        rintro e w2 ⟨v2, rfl, hinv⟩
        rw [show a.eval (.tmp 13) = u.1 from e13] at hown hinv
        exact ⟨_, rfl, hK (u.1, v2, u.2.2) _ _ (hI.world.put h0 hD0 hinv) (fun j z hj h => TgG_8 hD0 hj h) rfl⟩
    · intro u D a w hI hdep hD0 K hK
      have eg : a.eval (.tmp 12) = .bool true := hI.good 5 12 (dep_of hdep 5 rfl) rfl
      have e15 := hI.good 8 15 (dep_of hdep 8 rfl) rfl
      have e15 : a.eval (.tmp 15) = u.2.1 := e15
      have hx := dep_of hdep 8 rfl
      have hc' := own_conv (hI.world.o2 hx)
      rw [HSA.out] at hc'
      refine ok_value (wanted_is rfl rfl hI.size (by simp) eg) (v := .string sA) ?_ (hK u _ _ (hI.world.up rfl rfl rfl rfl) (fun _ _ _ h => h) rfl)
      have ec : ∀ c, a.eval (.const c) = c := fun _ => rfl
      have ef : ∀ f, a.eval (.func f) = .func (.func f) #[] #[] := fun _ => rfl
      clear hI hdep hK
      generalize a.eval = ρ at eg e15 ec ef ⊢
      go_simp
    · intro u D a w hI hdep hD0 K hK
      have eg : a.eval (.tmp 12) = .bool true := hI.good 5 12 (dep_of hdep 5 rfl) rfl
      refine ok_new (wanted_is rfl rfl hI.size (by simp) eg) (v := .slice (some ⟨w.heap.size, 0, none⟩) 1 1) (w' := w.alloc (.cells #[.int .u8 1] 5)) (by have ec : ∀ c, a.eval (.const c) = c := fun _ => rfl; generalize a.eval = ρ at ec ⊢; go_simp) ?_
      exact hK (u.1, u.2.1, .slice (some ⟨w.heap.size, 0, none⟩) 1 1, u.2.2.2) _ _ (hI.world.new10) (fun j z hj h => TgG_10 hD0 hj h) rfl
    · intro u D a w hI hdep hD0 K hK
      have eg : a.eval (.tmp 12) = .bool true := hI.good 5 12 (dep_of hdep 5 rfl) rfl
      have e17 := hI.good 10 17 (dep_of hdep 10 rfl) rfl
      have e17 : a.eval (.tmp 17) = u.2.2.1 := e17
      have hx := dep_of hdep 10 rfl
      have hc' := own_conv (hI.world.o3 hx)
      rw [HSL.out] at hc'
      refine ok_value (wanted_is rfl rfl hI.size (by simp) eg) (v := .string sL) ?_ (hK u _ _ (hI.world.up rfl rfl rfl rfl) (fun _ _ _ h => h) rfl)
      have ec : ∀ c, a.eval (.const c) = c := fun _ => rfl
      have ef : ∀ f, a.eval (.func f) = .func (.func f) #[] #[] := fun _ => rfl
      clear hI hdep hK
      generalize a.eval = ρ at eg e17 ec ef ⊢
      go_simp
    · intro u D a w hI hdep hD0 K hK
      have eg : a.eval (.tmp 12) = .bool true := hI.good 5 12 (dep_of hdep 5 rfl) rfl
      have e0 : a.eval (.tmp 0) = .slice La n c := hI.read 0 rfl
      refine ok_value (wanted_is rfl rfl hI.size (by simp) eg) (v := .slice La n c) ?_ (hK u _ _ (hI.world.up rfl rfl rfl rfl) (fun _ _ _ h => h) rfl)
      have ec : ∀ c, a.eval (.const c) = c := fun _ => rfl
      have ef : ∀ f, a.eval (.func f) = .func (.func f) #[] #[] := fun _ => rfl
      clear hI hdep hK
      generalize a.eval = ρ at eg e0 ec ef ⊢
      go_simp
    · intro u D a w hI hdep hD0 K hK
      have eg : a.eval (.tmp 12) = .bool true := hI.good 5 12 (dep_of hdep 5 rfl) rfl
      have e19 : a.eval (.tmp 19) = .slice La n c := hI.good 12 19 (dep_of hdep 12 rfl) rfl
      refine ok_call (wanted_is rfl rfl hI.size (by simp) eg) (f := 11) (args := #[.slice La n c]) ?_ (rtrput_any La n c l w (HN1.out.on hI.world.base) (by omega) HWf.out) ?_
      · have ec : ∀ c, a.eval (.const c) = c := fun _ => rfl
        have ef : ∀ f, a.eval (.func f) = .func (.func f) #[] #[] := fun _ => rfl
        clear hI hdep hK
        generalize a.eval = ρ at eg e19 ec ef ⊢
        go_simp
      · rw [HPB.out]
        rintro e w2 ⟨v2, rfl, hown, hb⟩
        exact ⟨_, rfl, hK (u.1, u.2.1, u.2.2.1, v2) _ _ (hI.world.new13 hown hb) (fun j z hj h => TgG_13 hD0 hj h) rfl⟩
    · intro u D a w hI hdep hD0 K hK
      have eg : a.eval (.tmp 12) = .bool true := hI.good 5 12 (dep_of hdep 5 rfl) rfl
      have e20 := hI.good 13 20 (dep_of hdep 13 rfl) rfl
      have e20 : a.eval (.tmp 20) = u.2.2.2 := e20
      have hx := dep_of hdep 13 rfl
      have hc' := own_conv (hI.world.o4 hx)
      rw [HSP.out] at hc'
      refine ok_value (wanted_is rfl rfl hI.size (by simp) eg) (v := .string sP) ?_ (hK u _ _ (hI.world.up rfl rfl rfl rfl) (fun _ _ _ h => h) rfl)
      have ec : ∀ c, a.eval (.const c) = c := fun _ => rfl
      have ef : ∀ f, a.eval (.func f) = .func (.func f) #[] #[] := fun _ => rfl
      clear hI hdep hK
      generalize a.eval = ρ at eg e20 ec ef ⊢
      go_simp
    · intro u D a w hI hdep hD0 K hK
      have eg : a.eval (.tmp 12) = .bool true := hI.good 5 12 (dep_of hdep 5 rfl) rfl
      have e18 : a.eval (.tmp 18) = .string sL := hI.good 11 18 (dep_of hdep 11 rfl) rfl
      have e21 : a.eval (.tmp 21) = .string sP := hI.good 14 21 (dep_of hdep 14 rfl) rfl
      refine ok_value (wanted_is rfl rfl hI.size (by simp) eg) (v := .string sA) ?_ (hK u _ _ (hI.world.up rfl rfl rfl rfl) (fun _ _ _ h => h) rfl)
      have ec : ∀ c, a.eval (.const c) = c := fun _ => rfl
      have ef : ∀ f, a.eval (.func f) = .func (.func f) #[] #[] := fun _ => rfl
      clear hI hdep hK
      generalize a.eval = ρ at eg e18 e21 ec ef ⊢
      go_simp
      omega
    · intro u D a w hI hdep hD0 K hK
      have eg : a.eval (.tmp 12) = .bool true := hI.good 5 12 (dep_of hdep 5 rfl) rfl
      have e16 : a.eval (.tmp 16) = .string sA := hI.good 9 16 (dep_of hdep 9 rfl) rfl
      have e22 : a.eval (.tmp 22) = .string sA := hI.good 15 22 (dep_of hdep 15 rfl) rfl
      refine ok_value (wanted_is rfl rfl hI.size (by simp) eg) (v := .bool true) ?_ (hK u _ _ (hI.world.up rfl rfl rfl rfl) (fun _ _ _ h => h) rfl)
      have ec : ∀ c, a.eval (.const c) = c := fun _ => rfl
      have ef : ∀ f, a.eval (.func f) = .func (.func f) #[] #[] := fun _ => rfl
      clear hI hdep hK
      generalize a.eval = ρ at eg e16 e22 ec ef ⊢
      go_simp
    · intro u D a w hI hdep hD0 K hK
      have e12 : a.eval (.tmp 12) = .bool true := hI.good 5 12 (dep_of hdep 5 rfl) rfl
      have e23 : a.eval (.tmp 23) = .bool true := hI.good 16 23 (dep_of hdep 16 rfl) rfl
      refine ok_value (wanted_none rfl) (v := .bool true) ?_ (hK u _ _ (hI.world.up rfl rfl rfl rfl) (fun _ _ _ h => h) rfl)
      have ec : ∀ c, a.eval (.const c) = c := fun _ => rfl
      have ef : ∀ f, a.eval (.func f) = .func (.func f) #[] #[] := fun _ => rfl
      clear hI hdep hK
      generalize a.eval = ρ at e12 e23 ec ef ⊢
      go_simp
    · intro u D a w hI hdep hD0 K hK
      have e24 : a.eval (.tmp 24) = .bool true := hI.good 17 24 (dep_of hdep 17 rfl) rfl
      refine ok_value (wanted_none rfl) (v := .bool true) ?_ (hK u _ _ (hI.world.up rfl rfl rfl rfl) (fun _ _ _ h => h) rfl)
      have ec : ∀ c, a.eval (.const c) = c := fun _ => rfl
      have ef : ∀ f, a.eval (.func f) = .func (.func f) #[] #[] := fun _ => rfl
      clear hI hdep hK
      generalize a.eval = ρ at e24 ec ef ⊢
      go_simp
    · intro u D a w hI hdep hD0 K hK
      have eg : a.eval (.tmp 25) = .bool true := hI.good 18 25 (dep_of hdep 18 rfl) rfl
      refine ok_call (wanted_is rfl rfl hI.size (by simp) eg) (f := 7) (args := #[]) ?_ (lives13_any w (HP.out.below hI.world.base)) ?_
      · have ec : ∀ c, a.eval (.const c) = c := fun _ => rfl
        have ef : ∀ f, a.eval (.func f) = .func (.func f) #[] #[] := fun _ => rfl
        clear hI hdep hK
        generalize a.eval = ρ at eg ec ef ⊢
        go_simp
      · rintro e w2 ⟨rfl, hb2⟩
        exact ⟨_, rfl, hK u _ _ (((hI.world.up rfl rfl rfl rfl)).below hb2) (fun _ _ _ h => h) rfl⟩
    · intro u D a w hI hdep hD0 K hK
      have e25 : a.eval (.tmp 25) = .bool true := hI.good 18 25 (dep_of hdep 18 rfl) rfl
      have e26 : a.eval (.tmp 26) = .bool true := hI.good 19 26 (dep_of hdep 19 rfl) rfl
      refine ok_value (wanted_none rfl) (v := .bool true) ?_ (hK u _ _ (hI.world.up rfl rfl rfl rfl) (fun _ _ _ h => h) rfl)
      have ec : ∀ c, a.eval (.const c) = c := fun _ => rfl
      have ef : ∀ f, a.eval (.func f) = .func (.func f) #[] #[] := fun _ => rfl
      clear hI hdep hK
      generalize a.eval = ρ at e25 e26 ec ef ⊢
      go_simp
    · intro u D a w hI hdep hD0 K hK
      have e27 : a.eval (.tmp 27) = .bool true := hI.good 20 27 (dep_of hdep 20 rfl) rfl
      refine ok_value (wanted_none rfl) (v := .bool true) ?_ (hK u _ _ (hI.world.up rfl rfl rfl rfl) (fun _ _ _ h => h) rfl)
      have ec : ∀ c, a.eval (.const c) = c := fun _ => rfl
      have ef : ∀ f, a.eval (.func f) = .func (.func f) #[] #[] := fun _ => rfl
      clear hI hdep hK
      generalize a.eval = ρ at e27 ec ef ⊢
      go_simp
  · intro u D a w2 hI hD
    have hfr := hI.frame [(7, .slice La n c), (8, .bool r), (9, .slice La n c), (10, .bool r), (11, .bool true), (12, .bool true), (13, u.1), (14, .slice La n c), (15, u.2.1), (16, .string sA), (17, u.2.2.1), (18, .string sL), (19, .slice La n c), (20, u.2.2.2), (21, .string sP), (22, .string sA), (23, .bool true), (24, .bool true), (25, .bool true), (26, .bool true), (27, .bool true), (2, .bool true)] (all_cons (hI.good 0 7 (hD 0 (by decide)) rfl) (all_cons (hI.good 1 8 (hD 1 (by decide)) rfl) (all_cons (hI.good 2 9 (hD 2 (by decide)) rfl) (all_cons (hI.good 3 10 (hD 3 (by decide)) rfl) (all_cons (hI.good 4 11 (hD 4 (by decide)) rfl) (all_cons (hI.good 5 12 (hD 5 (by decide)) rfl) (all_cons (hI.good 6 13 (hD 6 (by decide)) rfl) (all_cons (hI.good 7 14 (hD 7 (by decide)) rfl) (all_cons (hI.good 8 15 (hD 8 (by decide)) rfl) (all_cons (hI.good 9 16 (hD 9 (by decide)) rfl) (all_cons (hI.good 10 17 (hD 10 (by decide)) rfl) (all_cons (hI.good 11 18 (hD 11 (by decide)) rfl) (all_cons (hI.good 12 19 (hD 12 (by decide)) rfl) (all_cons (hI.good 13 20 (hD 13 (by decide)) rfl) (all_cons (hI.good 14 21 (hD 14 (by decide)) rfl) (all_cons (hI.good 15 22 (hD 15 (by decide)) rfl) (all_cons (hI.good 16 23 (hD 16 (by decide)) rfl) (all_cons (hI.good 17 24 (hD 17 (by decide)) rfl) (all_cons (hI.good 18 25 (hD 18 (by decide)) rfl) (all_cons (hI.good 19 26 (hD 19 (by decide)) rfl) (all_cons (hI.good 20 27 (hD 20 (by decide)) rfl) (all_cons (hI.good 21 2 (hD 21 (by decide)) rfl) all_nil)))))))))))))))))))))) rfl
    have hW := hI.world
    clear hI
    subst hfr
    simp only [List.foldl_cons, List.foldl_nil, List.setIfInBounds_toArray, List.set_cons_succ, List.set_cons_zero]
    have HB2 := Lib.hid hW.base
    generalize u.1 = u1 at *
    generalize u.2.1 = u2 at *
    generalize u.2.2.1 = u3 at *
    generalize u.2.2.2 = u4 at *
    clear hW hD hS
    go_wp2
    go_ret
    exact ⟨rfl, HB2.out⟩
end Go.Proofs.YtpfcfmpfommfaaaDoor
