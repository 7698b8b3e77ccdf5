/-
  The walk of SigTexts. Conditions: the lists can be read.
-/
import Derived.Test.YtialigkmckpjnaaSiL
import Derived.Test.YtialigkmckpjnaaSiD
import Derived.Test.YtialigkmckpjnaaRegionK
namespace Go.Proofs.Ytialigkmckpjnaa
open Go.RowKit

/-- The world while the law's last statement runs: a byte that was made, Put behind it; another, and what the document's Put told. -/
structure StC (m : Nat) (pb : List Nat) (w1 : World) (u : Value × Value × Value × Value) (D : Nat → Bool) (W : World) : Prop where
  base : Below w1.heap.size w1 W
  o1 : D 24 = true → D 26 = false → W.ownsRow w1.heap.size 5 1 u.1 1 (bs [7])
  o2 : D 26 = true → W.ownsRow w1.heap.size 5 1 u.2.1 (1 + m) (bs ([7] ++ pb))
  o3 : D 28 = true → W.ownsRow w1.heap.size 5 1 u.2.2.1 1 (bs [7])
  o4 : D 31 = true → W.ownsRow w1.heap.size 5 1 u.2.2.2 m (bs pb)
  a3 : D 24 = true → D 26 = false → D 28 = true → u.2.2.1.ownBlock ≠ u.1.ownBlock
  a4 : D 24 = true → D 26 = false → D 31 = true → u.2.2.2.ownBlock = none ∨ u.2.2.2.ownBlock ≠ u.1.ownBlock
section
variable {m : Nat} {pb : List Nat} {w1 : World} {u : Value × Value × Value × Value} {D : Nat → Bool} {W : World}
theorem StC.up (h : StC m pb w1 u D W) {i : Nat} (h1 : (24 == i) = false) (h2 : (26 == i) = false) (h3 : (28 == i) = false) (h4 : (31 == i) = false) : StC m pb w1 u (add D i) W :=
  ⟨h.base, by rw [up_other h1, up_other h2]; exact h.o1, by rw [up_other h2]; exact h.o2, by rw [up_other h3]; exact h.o3, by rw [up_other h4]; exact h.o4, by rw [up_other h1, up_other h2, up_other h3]; exact h.a3, by rw [up_other h1, up_other h2, up_other h4]; exact h.a4⟩
theorem StC.below (h : StC m pb w1 u D W) {W' : World} (hb : Below W.heap.size W W') : StC m pb w1 u D W' :=
  ⟨h.base.trans (hb.mono h.base.size), fun x y => ownsRow_below (h.o1 x y) hb, fun x => ownsRow_below (h.o2 x) hb, fun x => ownsRow_below (h.o3 x) hb, fun x => ownsRow_below (h.o4 x) hb, h.a3, h.a4⟩
theorem block_ne {v : Value} {n : Nat} {xs : List Value} (h : W.ownsRow w1.heap.size 5 1 v n xs) : v.ownBlock ≠ some W.heap.size := fun e => absurd (h.lt _ e).2 (Nat.lt_irrefl _)
theorem StC.new24 (h : StC m pb w1 u D W) : StC m pb w1 (.slice (some ⟨W.heap.size, 0, none⟩) 1 1, u.2) (add D 24) (W.alloc (.cells #[.int .u8 7] 5)) := by
  have hb := (Below.refl W.heap.size W).alloc (Nat.le_refl _) (.cells #[.int .u8 7] 5)
  have k := h.below hb
  refine ⟨k.base, fun _ _ => World.ownsRow_lit W #[.int .u8 7] 1 h.base.size (by decide) rfl, ?_, ?_, ?_, ?_, ?_⟩
  · rw [up_other rfl]; exact k.o2
  · rw [up_other rfl]; exact k.o3
  · rw [up_other rfl]; exact k.o4
  · rw [up_other (j := 28) rfl]
    exact fun _ _ e => block_ne (h.o3 e)
  · rw [up_other (j := 31) rfl]
    exact fun _ _ e => .inr (block_ne (h.o4 e))
theorem StC.new28 (h : StC m pb w1 u D W) : StC m pb w1 (u.1, u.2.1, .slice (some ⟨W.heap.size, 0, none⟩) 1 1, u.2.2.2) (add D 28) (W.alloc (.cells #[.int .u8 7] 5)) := by
  have hb := (Below.refl W.heap.size W).alloc (Nat.le_refl _) (.cells #[.int .u8 7] 5)
  have k := h.below hb
  refine ⟨k.base, ?_, ?_, fun _ => World.ownsRow_lit W #[.int .u8 7] 1 h.base.size (by decide) rfl, ?_, ?_, ?_⟩
  · rw [up_other rfl, up_other rfl]; exact k.o1
  · rw [up_other rfl]; exact k.o2
  · rw [up_other rfl]; exact k.o4
  · rw [up_other (j := 24) rfl, up_other (j := 26) rfl]
    exact fun e1 e2 _ => Ne.symm (block_ne (h.o1 e1 e2))
  · rw [up_other rfl, up_other rfl, up_other rfl]; exact k.a4
theorem StC.new31 (h : StC m pb w1 u D W) {v : Value} {W' : World} (hown : W'.ownsRow W.heap.size 5 1 v m (bs pb)) (hb : Below W.heap.size W W') : StC m pb w1 (u.1, u.2.1, u.2.2.1, v) (add D 31) W' := by
  have k := h.below hb
  refine ⟨k.base, ?_, ?_, ?_, fun _ => ownsRow_base hown h.base.size, ?_, ?_⟩
  · rw [up_other rfl, up_other rfl]; exact k.o1
  · rw [up_other rfl]; exact k.o2
  · rw [up_other rfl]; exact k.o3
  · rw [up_other rfl, up_other rfl, up_other rfl]; exact k.a3
  · rw [up_other (j := 24) rfl, up_other (j := 26) rfl]
    intro e1 e2 _
    refine .inr (fun e => ?_)
    rcases hv : v.ownBlock with _ | g
    · obtain ⟨g', cap, e', _, _⟩ := (h.o1 e1 e2).form (by decide)
      have e'' : u.1.ownBlock = some g' := by rw [e']; rfl
      rw [show ((u.1, u.2.1, u.2.2.1, v) : Value × Value × Value × Value).2.2.2.ownBlock = none from hv] at e
      rw [show ((u.1, u.2.1, u.2.2.1, v) : Value × Value × Value × Value).1.ownBlock = some g' from e''] at e
      cases e
    · have h1 := (hown.lt g hv).1
      have h2 := ((h.o1 e1 e2).lt g (e.symm.trans hv)).2
      omega
theorem StC.put (h : StC m pb w1 u D W) (h1 : D 24 = true) (h2 : D 26 = false) {v : Value} {W' : World} (hinv : OwnInv w1.heap.size W u.1 v (1 + m) (bs [7] ++ bs pb) W') : StC m pb w1 (u.1, v, u.2.2) (add D 26) W' := by
  refine ⟨h.base.trans (hinv.below (h.o1 h1 h2) h.base.size), (by rw [up_self]; intro _ e; cases e), (fun _ => by rw [bs_append]; exact hinv.1), ?_, ?_, (by rw [up_self]; intro _ e; cases e), (by rw [up_self]; intro _ e; cases e)⟩
  · rw [up_other rfl]
    exact fun e => (h.o3 e).kept hinv.2.1 (.inr (h.a3 h1 h2 e))
  · rw [up_other rfl]
    exact fun e => (h.o4 e).kept hinv.2.1 (h.a4 h1 h2 e)
end

def StG (a1 : Option Addr) (n1 c1 : Nat) (a2 : Option Addr) (n2 c2 : Nat) (mo : Int) (tx sA sL sP : ByteArray) (r q : Bool) (u : Value × Value × Value × Value) : Nat → Value → Prop
  | 0, v => v = .slice a1 n1 c1
  | 1, v => v = .string tx
  | 2, v => v = .slice a1 n1 c1
  | 3, v => v = .string tx
  | 4, v => v = .bool true
  | 5, v => v = .bool true
  | 6, v => v = .slice a1 n1 c1
  | 7, v => v = .int .i64 mo
  | 8, v => v = .bool r
  | 9, v => v = .slice a1 n1 c1
  | 10, v => v = .int .i64 mo
  | 11, v => v = .bool r
  | 12, v => v = .bool true
  | 13, v => v = .bool true
  | 14, v => v = .bool true
  | 15, v => v = .slice a1 n1 c1
  | 16, v => v = .slice a2 n2 c2
  | 17, v => v = .bool q
  | 18, v => v = .slice a1 n1 c1
  | 19, v => v = .slice a2 n2 c2
  | 20, v => v = .bool q
  | 21, v => v = .bool true
  | 22, v => v = .bool true
  | 23, v => v = .bool true
  | 24, v => v = u.1
  | 25, v => v = .slice a1 n1 c1
  | 26, v => v = u.2.1
  | 27, v => v = .string sA
  | 28, v => v = u.2.2.1
  | 29, v => v = .string sL
  | 30, v => v = .slice a1 n1 c1
  | 31, v => v = u.2.2.2
  | 32, v => v = .string sP
  | 33, v => v = .string sA
  | 34, v => v = .bool true
  | 35, v => v = .bool true
  | 36, v => v = .bool true
  | 37, v => v = .bool true
  | 38, v => v = .bool true
  | 39, v => v = .bool true
  | _, _ => True

theorem StG_24 {a1 a2 : Option Addr} {n1 c1 n2 c2 : Nat} {mo : Int} {tx sA sL sP : ByteArray} {r q : Bool} {u : Value × Value × Value × Value} {v z : Value} {D : Nat → Bool} {j : Nat} (hD0 : D 24 = false) (hj : D j = true) (h : StG a1 n1 c1 a2 n2 c2 mo tx sA sL sP r q u j z) : StG a1 n1 c1 a2 n2 c2 mo tx sA sL sP r q (v, u.2) j z := by
  by_cases e : j = 24
  · subst e
    rw [hD0] at hj
    cases hj
  · unfold StG at h ⊢
    split at h <;> first | exact h | exact absurd rfl e

theorem StG_26 {a1 a2 : Option Addr} {n1 c1 n2 c2 : Nat} {mo : Int} {tx sA sL sP : ByteArray} {r q : Bool} {u : Value × Value × Value × Value} {v z : Value} {D : Nat → Bool} {j : Nat} (hD0 : D 26 = false) (hj : D j = true) (h : StG a1 n1 c1 a2 n2 c2 mo tx sA sL sP r q u j z) : StG a1 n1 c1 a2 n2 c2 mo tx sA sL sP r q (u.1, v, u.2.2) j z := by
  by_cases e : j = 26
  · subst e
    rw [hD0] at hj
    cases hj
  · unfold StG at h ⊢
    split at h <;> first | exact h | exact absurd rfl e

theorem StG_28 {a1 a2 : Option Addr} {n1 c1 n2 c2 : Nat} {mo : Int} {tx sA sL sP : ByteArray} {r q : Bool} {u : Value × Value × Value × Value} {v z : Value} {D : Nat → Bool} {j : Nat} (hD0 : D 28 = false) (hj : D j = true) (h : StG a1 n1 c1 a2 n2 c2 mo tx sA sL sP r q u j z) : StG a1 n1 c1 a2 n2 c2 mo tx sA sL sP r q (u.1, u.2.1, v, u.2.2.2) j z := by
  by_cases e : j = 28
  · subst e
    rw [hD0] at hj
    cases hj
  · unfold StG at h ⊢
    split at h <;> first | exact h | exact absurd rfl e

theorem StG_31 {a1 a2 : Option Addr} {n1 c1 n2 c2 : Nat} {mo : Int} {tx sA sL sP : ByteArray} {r q : Bool} {u : Value × Value × Value × Value} {v z : Value} {D : Nat → Bool} {j : Nat} (hD0 : D 31 = false) (hj : D j = true) (h : StG a1 n1 c1 a2 n2 c2 mo tx sA sL sP r q u j z) : StG a1 n1 c1 a2 n2 c2 mo tx sA sL sP r q (u.1, u.2.1, u.2.2.1, v) j z := by
  by_cases e : j = 31
  · subst e
    rw [hD0] at hj
    cases hj
  · unfold StG at h ⊢
    split at h <;> first | exact h | exact absurd rfl e

theorem Si.bytes_len (l : List Int) (h : l.length ≤ 1048576) : (Si.bytes l).length ≤ 10 + l.length := by
  unfold Si.bytes
  split
  · have := Uv.put_len_10 (n := l.length) (by omega)
    rw [List.length_append, List.length_map]
    omega
  · simp

set_option maxHeartbeats 8000000 in
set_option maxRecDepth 100000 in
theorem sigTexts_walk (a1 : Option Addr) (n1 c1 : Nat) (a2 : Option Addr) (n2 c2 : Nat) (l l2 : List Int) (mo : Int) (w : World) (h1 : IntsAt w w.heap.size a1 n1 l) (h2 : IntsAt w w.heap.size a2 n2 l2) (hm1 : n1 ≤ 9223372036854775807) (hm2 : n2 ≤ 9223372036854775807) : Calls Try.prog 3 #[.slice a1 n1 c1, .slice a2 n2 c2, .int .i64 mo] w (BoolP true w) := by
  have H1 := Lib.hid h1
  have H2 := Lib.hid h2
  clear h1 h2
  by_cases hb1 : n1 ≤ 100
  · by_cases hb2 : n2 ≤ 100
    · have d1 : decide (100 < (n1 : Int)) = false := decide_eq_false (by omega)
      have d2 : decide (100 < (n2 : Int)) = false := decide_eq_false (by omega)
      go_enter Try.func3, Try.ntmps3
      go_wp2
      go_loopw [7] (fun i wr => ∃ k : Nat, k ≤ n1 ∧ i = .int .i64 (k : Int) ∧ Below w.heap.size w wr) (fun i _ => n1 - (intOf i).toNat)
      case atStart => exact ⟨0, Nat.zero_le _, rfl, Below.refl _ _⟩
      case round =>
        obtain ⟨k, hk, rfl, hB⟩ := hrel
        have HB := Lib.hid hB
        clear hB
        by_cases hlt : k < n1
        · obtain ⟨b, off, x, rfl, _, hc, _, _⟩ := ints_cell (H1.out.below HB.out) hlt
          have hki : (k : Int) < (n1 : Int) := by omega
          have HM1 := Lib.hid (fun W => simay_any x W)
          have HM2 := Lib.hid (fun W => rsimay_any x W)
          have hmm : (Si.may x != Si.may x) = false := bne_self_eq_false _
          generalize Si.may x = m at *
          go_wp2
          go_quiet (first | (go_at_call 7; refine Calls.quiet_of_same (HM1.out _)) | (go_at_call 8; refine Calls.quiet_of_same (HM2.out _)))
          go_wp2
          go_roundw
          case rel => exact ⟨k + 1, hlt, by go_num, below_drewN HB.out _⟩
          case measure => simp [intOf]; omega
        · have hki : decide ((k : Int) < (n1 : Int)) = false := decide_eq_false (by omega)
          have i1 := (H1.out.below HB.out).more HB.out.size
          have i2 := (H2.out.below HB.out).more HB.out.size
          have HT1 := Lib.hid (fun (W : World) (h : IntsAt W W.heap.size a1 n1 l) => sitext_any a1 n1 c1 l W h (by omega))
          have HT2 := Lib.hid (fun (W : World) (h : IntsAt W W.heap.size a1 n1 l) => rsitext_any a1 n1 c1 _ l W h (by omega))
          obtain ⟨tx, htx⟩ : ∃ t, str (Si.text l) = t := ⟨_, rfl⟩
          rw [htx] at HT1 HT2
          unfold StrP at HT1
          unfold SameP at HT2
          have htd : (tx.toList == tx.toList) = true := beq_self_eq_true _
          have HR1 := Lib.hid (fun (W : World) (h : IntsAt W W.heap.size a1 n1 l) => siright_any a1 n1 c1 _ l mo W h hm1)
          have HR2 := Lib.hid (fun (W : World) (h : IntsAt W W.heap.size a1 n1 l) => rsiright_any a1 n1 c1 _ l mo W h hm1)
          obtain ⟨r, hr⟩ : ∃ r, Si.right l mo = r := ⟨_, rfl⟩
          rw [hr] at HR1 HR2
          unfold SameP at HR1 HR2
          have hrr : (r == r) = true := by cases r <;> rfl
          have HS1 := Lib.hid (fun (W : World) (h : IntsAt W W.heap.size a1 n1 l) (h2 : IntsAt W W.heap.size a2 n2 l2) => sisame_any a1 a2 n1 n2 c1 c2 l l2 W h h2 hm1)
          have HS2 := Lib.hid (fun (W : World) (h : IntsAt W W.heap.size a1 n1 l) (h2 : IntsAt W W.heap.size a2 n2 l2) => rsisame_any a1 a2 n1 n2 c1 c2 l l2 W h h2 hm1)
          obtain ⟨q, hq⟩ : ∃ q, decide (l = l2) = q := ⟨_, rfl⟩
          rw [hq] at HS1 HS2
          unfold BoolP at HS1 HS2
          have hqq : (q == q) = true := by cases q <;> rfl
          obtain ⟨pb, hpb⟩ : ∃ p, Si.bytes l = p := ⟨_, rfl⟩
          have HPB := Lib.hid hpb
          obtain ⟨sA, hsA⟩ : ∃ t, str ([7] ++ pb) = t := ⟨_, rfl⟩
          obtain ⟨sL, hsL⟩ : ∃ t, str [7] = t := ⟨_, rfl⟩
          obtain ⟨sP, hsP⟩ : ∃ t, str pb = t := ⟨_, rfl⟩
          have HSA := Lib.hid hsA
          have HSL := Lib.hid hsL
          have HSP := Lib.hid hsP
          have hcat : sL ++ sP = sA := by rw [← hsA, ← hsL, ← hsP, str_append]
          have hzL : sL.size ≤ 1 := by rw [← hsL, str_size]; exact Nat.le_refl 1
          have hzP : sP.size ≤ 110 := by
            rw [← hsP, str_size, ← hpb]
            have h1 := Si.bytes_len l (by rw [H1.out.1]; omega)
            rw [H1.out.1] at h1
            omega
          have hsd : (sA.toList == sA.toList) = true := beq_self_eq_true _
          clear hr htx hsA hsL hsP hpb hq H1 H2 d1 d2
          go_wp2
          have hS : StC pb.length pb wr (undef, undef, undef, undef) (fun _ => false) wr.drew := ⟨(Below.refl _ _).drew, (fun e => by cases e), (fun e => by cases e), (fun e => by cases e), (fun e => by cases e), (fun e => by cases e), (fun e => by cases e)⟩
          generalize wr = w1 at *
          refine region_k (undef, undef, undef, undef) 73 (fun u D W => StC pb.length pb w1 u D W) (StG a1 n1 c1 a2 n2 c2 mo tx sA sL sP r q) (by kernel_rfl) (by kernel_rfl) (by kernel_rfl) rfl rfl hS ?_ ?_
          · refine ⟨?_, ?_, ?_, ?_, ?_, ?_, ?_, ?_, ?_, ?_, ?_, ?_, ?_, ?_, ?_, ?_, ?_, ?_, ?_, ?_, ?_, ?_, ?_, ?_, ?_, ?_, ?_, ?_, ?_, ?_, ?_, ?_, ?_, ?_, ?_, ?_, ?_, ?_, ?_, ?_, trivial⟩
            · intro u D a w hI hdep hD0 K hK
              have e0 : a.eval (.tmp 0) = .slice a1 n1 c1 := hI.read 0 rfl
              refine ok_value (wanted_none rfl) (v := .slice a1 n1 c1) ?_ (hK u _ _ (hI.world.up rfl rfl rfl rfl) (fun _ _ _ h => h) rfl)
              have ec : ∀ c, a.eval (.const c) = c := fun _ => rfl
              have ef : ∀ f, a.eval (.func f) = .func (.func f) #[] #[] := fun _ => rfl
              clear hI hdep hK
              generalize a.eval = ρ at e0 ec ef ⊢
              go_simp
            · intro u D a w hI hdep hD0 K hK
              have e34 : a.eval (.tmp 34) = .slice a1 n1 c1 := hI.good 0 34 (dep_of hdep 0 rfl) rfl
              refine ok_call (wanted_none rfl) (f := 9) (args := #[.slice a1 n1 c1]) ?_ (HT1.out w ((i1.below hI.world.base).more hI.world.base.size)) ?_
              · have ec : ∀ c, a.eval (.const c) = c := fun _ => rfl
                have ef : ∀ f, a.eval (.func f) = .func (.func f) #[] #[] := fun _ => rfl
                clear hI hdep hK
                generalize a.eval = ρ at e34 ec ef ⊢
                go_simp
              · rintro e w2 ⟨rfl, hb2⟩
                exact ⟨_, rfl, hK u _ _ (((hI.world.up rfl rfl rfl rfl)).below hb2) (fun _ _ _ h => h) rfl⟩
            · intro u D a w hI hdep hD0 K hK
              have e0 : a.eval (.tmp 0) = .slice a1 n1 c1 := hI.read 0 rfl
              refine ok_value (wanted_none rfl) (v := .slice a1 n1 c1) ?_ (hK u _ _ (hI.world.up rfl rfl rfl rfl) (fun _ _ _ h => h) rfl)
              have ec : ∀ c, a.eval (.const c) = c := fun _ => rfl
              have ef : ∀ f, a.eval (.func f) = .func (.func f) #[] #[] := fun _ => rfl
              clear hI hdep hK
              generalize a.eval = ρ at e0 ec ef ⊢
              go_simp
            · intro u D a w hI hdep hD0 K hK
              have e36 : a.eval (.tmp 36) = .slice a1 n1 c1 := hI.good 2 36 (dep_of hdep 2 rfl) rfl
              refine ok_call (wanted_none rfl) (f := 10) (args := #[.slice a1 n1 c1]) ?_ (HT2.out w ((i1.below hI.world.base).more hI.world.base.size)) ?_
              · have ec : ∀ c, a.eval (.const c) = c := fun _ => rfl
                have ef : ∀ f, a.eval (.func f) = .func (.func f) #[] #[] := fun _ => rfl
                clear hI hdep hK
                generalize a.eval = ρ at e36 ec ef ⊢
                go_simp
              · rintro e w2 ⟨rfl, he⟩
                obtain rfl := he.symm
                exact ⟨_, rfl, hK u _ _ (hI.world.up rfl rfl rfl rfl) (fun _ _ _ h => h) rfl⟩
            · intro u D a w hI hdep hD0 K hK
              have e35 : a.eval (.tmp 35) = .string tx := hI.good 1 35 (dep_of hdep 1 rfl) rfl
              have e37 : a.eval (.tmp 37) = .string tx := hI.good 3 37 (dep_of hdep 3 rfl) rfl
              refine ok_value (wanted_none rfl) (v := .bool true) ?_ (hK u _ _ (hI.world.up rfl rfl rfl rfl) (fun _ _ _ h => h) rfl)
              have ec : ∀ c, a.eval (.const c) = c := fun _ => rfl
              have ef : ∀ f, a.eval (.func f) = .func (.func f) #[] #[] := fun _ => rfl
              clear hI hdep hK
              generalize a.eval = ρ at e35 e37 ec ef ⊢
              go_simp
            · intro u D a w hI hdep hD0 K hK
              have e38 : a.eval (.tmp 38) = .bool true := hI.good 4 38 (dep_of hdep 4 rfl) rfl
              refine ok_value (wanted_none rfl) (v := .bool true) ?_ (hK u _ _ (hI.world.up rfl rfl rfl rfl) (fun _ _ _ h => h) rfl)
              have ec : ∀ c, a.eval (.const c) = c := fun _ => rfl
              have ef : ∀ f, a.eval (.func f) = .func (.func f) #[] #[] := fun _ => rfl
              clear hI hdep hK
              generalize a.eval = ρ at e38 ec ef ⊢
              go_simp
            · intro u D a w hI hdep hD0 K hK
              have eg : a.eval (.tmp 39) = .bool true := hI.good 5 39 (dep_of hdep 5 rfl) rfl
              have e0 : a.eval (.tmp 0) = .slice a1 n1 c1 := hI.read 0 rfl
              refine ok_value (wanted_is rfl rfl hI.size (by simp) eg) (v := .slice a1 n1 c1) ?_ (hK u _ _ (hI.world.up rfl rfl rfl rfl) (fun _ _ _ h => h) rfl)
              have ec : ∀ c, a.eval (.const c) = c := fun _ => rfl
              have ef : ∀ f, a.eval (.func f) = .func (.func f) #[] #[] := fun _ => rfl
              clear hI hdep hK
              generalize a.eval = ρ at eg e0 ec ef ⊢
              go_simp
            · intro u D a w hI hdep hD0 K hK
              have eg : a.eval (.tmp 39) = .bool true := hI.good 5 39 (dep_of hdep 5 rfl) rfl
              have e2 : a.eval (.tmp 2) = .int .i64 mo := hI.read 2 rfl
              refine ok_value (wanted_is rfl rfl hI.size (by simp) eg) (v := .int .i64 mo) ?_ (hK u _ _ (hI.world.up rfl rfl rfl rfl) (fun _ _ _ h => h) rfl)
              have ec : ∀ c, a.eval (.const c) = c := fun _ => rfl
              have ef : ∀ f, a.eval (.func f) = .func (.func f) #[] #[] := fun _ => rfl
              clear hI hdep hK
              generalize a.eval = ρ at eg e2 ec ef ⊢
              go_simp
            · intro u D a w hI hdep hD0 K hK
              have eg : a.eval (.tmp 39) = .bool true := hI.good 5 39 (dep_of hdep 5 rfl) rfl
              have e40 : a.eval (.tmp 40) = .slice a1 n1 c1 := hI.good 6 40 (dep_of hdep 6 rfl) rfl
              have e41 : a.eval (.tmp 41) = .int .i64 mo := hI.good 7 41 (dep_of hdep 7 rfl) rfl
              refine ok_call (wanted_is rfl rfl hI.size (by simp) eg) (f := 11) (args := #[.slice a1 n1 c1, .int .i64 mo]) ?_ (HR1.out w ((i1.below hI.world.base).more hI.world.base.size)) ?_
              · have ec : ∀ c, a.eval (.const c) = c := fun _ => rfl
                have ef : ∀ f, a.eval (.func f) = .func (.func f) #[] #[] := fun _ => rfl
                clear hI hdep hK
                generalize a.eval = ρ at eg e40 e41 ec ef ⊢
                go_simp
              · rintro e w2 ⟨rfl, he⟩
                obtain rfl := he.symm
                exact ⟨_, rfl, hK u _ _ (hI.world.up rfl rfl rfl rfl) (fun _ _ _ h => h) rfl⟩
            · intro u D a w hI hdep hD0 K hK
              have eg : a.eval (.tmp 39) = .bool true := hI.good 5 39 (dep_of hdep 5 rfl) rfl
              have e0 : a.eval (.tmp 0) = .slice a1 n1 c1 := hI.read 0 rfl
              refine ok_value (wanted_is rfl rfl hI.size (by simp) eg) (v := .slice a1 n1 c1) ?_ (hK u _ _ (hI.world.up rfl rfl rfl rfl) (fun _ _ _ h => h) rfl)
              have ec : ∀ c, a.eval (.const c) = c := fun _ => rfl
              have ef : ∀ f, a.eval (.func f) = .func (.func f) #[] #[] := fun _ => rfl
              clear hI hdep hK
              generalize a.eval = ρ at eg e0 ec ef ⊢
              go_simp
            · intro u D a w hI hdep hD0 K hK
              have eg : a.eval (.tmp 39) = .bool true := hI.good 5 39 (dep_of hdep 5 rfl) rfl
              have e2 : a.eval (.tmp 2) = .int .i64 mo := hI.read 2 rfl
              refine ok_value (wanted_is rfl rfl hI.size (by simp) eg) (v := .int .i64 mo) ?_ (hK u _ _ (hI.world.up rfl rfl rfl rfl) (fun _ _ _ h => h) rfl)
              have ec : ∀ c, a.eval (.const c) = c := fun _ => rfl
              have ef : ∀ f, a.eval (.func f) = .func (.func f) #[] #[] := fun _ => rfl
              clear hI hdep hK
              generalize a.eval = ρ at eg e2 ec ef ⊢
              go_simp
            · intro u D a w hI hdep hD0 K hK
              have eg : a.eval (.tmp 39) = .bool true := hI.good 5 39 (dep_of hdep 5 rfl) rfl
              have e43 : a.eval (.tmp 43) = .slice a1 n1 c1 := hI.good 9 43 (dep_of hdep 9 rfl) rfl
              have e44 : a.eval (.tmp 44) = .int .i64 mo := hI.good 10 44 (dep_of hdep 10 rfl) rfl
              refine ok_call (wanted_is rfl rfl hI.size (by simp) eg) (f := 12) (args := #[.slice a1 n1 c1, .int .i64 mo]) ?_ (HR2.out w ((i1.below hI.world.base).more hI.world.base.size)) ?_
              · have ec : ∀ c, a.eval (.const c) = c := fun _ => rfl
                have ef : ∀ f, a.eval (.func f) = .func (.func f) #[] #[] := fun _ => rfl
                clear hI hdep hK
                generalize a.eval = ρ at eg e43 e44 ec ef ⊢
                go_simp
              · rintro e w2 ⟨rfl, he⟩
                obtain rfl := he.symm
                exact ⟨_, rfl, hK u _ _ (hI.world.up rfl rfl rfl rfl) (fun _ _ _ h => h) rfl⟩
            · intro u D a w hI hdep hD0 K hK
              have eg : a.eval (.tmp 39) = .bool true := hI.good 5 39 (dep_of hdep 5 rfl) rfl
              have e42 : a.eval (.tmp 42) = .bool r := hI.good 8 42 (dep_of hdep 8 rfl) rfl
              have e45 : a.eval (.tmp 45) = .bool r := hI.good 11 45 (dep_of hdep 11 rfl) rfl
              refine ok_value (wanted_is rfl rfl hI.size (by simp) eg) (v := .bool true) ?_ (hK u _ _ (hI.world.up rfl rfl rfl rfl) (fun _ _ _ h => h) rfl)
              have ec : ∀ c, a.eval (.const c) = c := fun _ => rfl
              have ef : ∀ f, a.eval (.func f) = .func (.func f) #[] #[] := fun _ => rfl
              clear hI hdep hK
              generalize a.eval = ρ at eg e42 e45 ec ef ⊢
              go_simp
            · intro u D a w hI hdep hD0 K hK
              have e39 : a.eval (.tmp 39) = .bool true := hI.good 5 39 (dep_of hdep 5 rfl) rfl
              have e46 : a.eval (.tmp 46) = .bool true := hI.good 12 46 (dep_of hdep 12 rfl) rfl
              refine ok_value (wanted_none rfl) (v := .bool true) ?_ (hK u _ _ (hI.world.up rfl rfl rfl rfl) (fun _ _ _ h => h) rfl)
              have ec : ∀ c, a.eval (.const c) = c := fun _ => rfl
              have ef : ∀ f, a.eval (.func f) = .func (.func f) #[] #[] := fun _ => rfl
              clear hI hdep hK
              generalize a.eval = ρ at e39 e46 ec ef ⊢
              go_simp
            · intro u D a w hI hdep hD0 K hK
              have e47 : a.eval (.tmp 47) = .bool true := hI.good 13 47 (dep_of hdep 13 rfl) rfl
              refine ok_value (wanted_none rfl) (v := .bool true) ?_ (hK u _ _ (hI.world.up rfl rfl rfl rfl) (fun _ _ _ h => h) rfl)
              have ec : ∀ c, a.eval (.const c) = c := fun _ => rfl
              have ef : ∀ f, a.eval (.func f) = .func (.func f) #[] #[] := fun _ => rfl
              clear hI hdep hK
              generalize a.eval = ρ at e47 ec ef ⊢
              go_simp
            · intro u D a w hI hdep hD0 K hK
              have eg : a.eval (.tmp 48) = .bool true := hI.good 14 48 (dep_of hdep 14 rfl) rfl
              have e0 : a.eval (.tmp 0) = .slice a1 n1 c1 := hI.read 0 rfl
              refine ok_value (wanted_is rfl rfl hI.size (by simp) eg) (v := .slice a1 n1 c1) ?_ (hK u _ _ (hI.world.up rfl rfl rfl rfl) (fun _ _ _ h => h) rfl)
              have ec : ∀ c, a.eval (.const c) = c := fun _ => rfl
              have ef : ∀ f, a.eval (.func f) = .func (.func f) #[] #[] := fun _ => rfl
              clear hI hdep hK
              generalize a.eval = ρ at eg e0 ec ef ⊢
              go_simp
            · intro u D a w hI hdep hD0 K hK
              have eg : a.eval (.tmp 48) = .bool true := hI.good 14 48 (dep_of hdep 14 rfl) rfl
              have e1 : a.eval (.tmp 1) = .slice a2 n2 c2 := hI.read 1 rfl
              refine ok_value (wanted_is rfl rfl hI.size (by simp) eg) (v := .slice a2 n2 c2) ?_ (hK u _ _ (hI.world.up rfl rfl rfl rfl) (fun _ _ _ h => h) rfl)
              have ec : ∀ c, a.eval (.const c) = c := fun _ => rfl
              have ef : ∀ f, a.eval (.func f) = .func (.func f) #[] #[] := fun _ => rfl
              clear hI hdep hK
              generalize a.eval = ρ at eg e1 ec ef ⊢
              go_simp
            · intro u D a w hI hdep hD0 K hK
              have eg : a.eval (.tmp 48) = .bool true := hI.good 14 48 (dep_of hdep 14 rfl) rfl
              have e49 : a.eval (.tmp 49) = .slice a1 n1 c1 := hI.good 15 49 (dep_of hdep 15 rfl) rfl
              have e50 : a.eval (.tmp 50) = .slice a2 n2 c2 := hI.good 16 50 (dep_of hdep 16 rfl) rfl
              refine ok_call (wanted_is rfl rfl hI.size (by simp) eg) (f := 13) (args := #[.slice a1 n1 c1, .slice a2 n2 c2]) ?_ (HS1.out w ((i1.below hI.world.base).more hI.world.base.size) ((i2.below hI.world.base).more hI.world.base.size)) ?_
              · have ec : ∀ c, a.eval (.const c) = c := fun _ => rfl
                have ef : ∀ f, a.eval (.func f) = .func (.func f) #[] #[] := fun _ => rfl
                clear hI hdep hK
                generalize a.eval = ρ at eg e49 e50 ec ef ⊢
                go_simp
              · rintro e w2 ⟨rfl, hb2⟩
                exact ⟨_, rfl, hK u _ _ (((hI.world.up rfl rfl rfl rfl)).below hb2) (fun _ _ _ h => h) rfl⟩
            · intro u D a w hI hdep hD0 K hK
              have eg : a.eval (.tmp 48) = .bool true := hI.good 14 48 (dep_of hdep 14 rfl) rfl
              have e0 : a.eval (.tmp 0) = .slice a1 n1 c1 := hI.read 0 rfl
              refine ok_value (wanted_is rfl rfl hI.size (by simp) eg) (v := .slice a1 n1 c1) ?_ (hK u _ _ (hI.world.up rfl rfl rfl rfl) (fun _ _ _ h => h) rfl)
              have ec : ∀ c, a.eval (.const c) = c := fun _ => rfl
              have ef : ∀ f, a.eval (.func f) = .func (.func f) #[] #[] := fun _ => rfl
              clear hI hdep hK
              generalize a.eval = ρ at eg e0 ec ef ⊢
              go_simp
            · intro u D a w hI hdep hD0 K hK
              have eg : a.eval (.tmp 48) = .bool true := hI.good 14 48 (dep_of hdep 14 rfl) rfl
              have e1 : a.eval (.tmp 1) = .slice a2 n2 c2 := hI.read 1 rfl
              refine ok_value (wanted_is rfl rfl hI.size (by simp) eg) (v := .slice a2 n2 c2) ?_ (hK u _ _ (hI.world.up rfl rfl rfl rfl) (fun _ _ _ h => h) rfl)
              have ec : ∀ c, a.eval (.const c) = c := fun _ => rfl
              have ef : ∀ f, a.eval (.func f) = .func (.func f) #[] #[] := fun _ => rfl
              clear hI hdep hK
              generalize a.eval = ρ at eg e1 ec ef ⊢
              go_simp
            · intro u D a w hI hdep hD0 K hK
              have eg : a.eval (.tmp 48) = .bool true := hI.good 14 48 (dep_of hdep 14 rfl) rfl
              have e52 : a.eval (.tmp 52) = .slice a1 n1 c1 := hI.good 18 52 (dep_of hdep 18 rfl) rfl
              have e53 : a.eval (.tmp 53) = .slice a2 n2 c2 := hI.good 19 53 (dep_of hdep 19 rfl) rfl
              refine ok_call (wanted_is rfl rfl hI.size (by simp) eg) (f := 14) (args := #[.slice a1 n1 c1, .slice a2 n2 c2]) ?_ (HS2.out w ((i1.below hI.world.base).more hI.world.base.size) ((i2.below hI.world.base).more hI.world.base.size)) ?_
              · have ec : ∀ c, a.eval (.const c) = c := fun _ => rfl
                have ef : ∀ f, a.eval (.func f) = .func (.func f) #[] #[] := fun _ => rfl
                clear hI hdep hK
                generalize a.eval = ρ at eg e52 e53 ec ef ⊢
                go_simp
              · rintro e w2 ⟨rfl, hb2⟩
                exact ⟨_, rfl, hK u _ _ (((hI.world.up rfl rfl rfl rfl)).below hb2) (fun _ _ _ h => h) rfl⟩
            · intro u D a w hI hdep hD0 K hK
              have eg : a.eval (.tmp 48) = .bool true := hI.good 14 48 (dep_of hdep 14 rfl) rfl
              have e51 : a.eval (.tmp 51) = .bool q := hI.good 17 51 (dep_of hdep 17 rfl) rfl
              have e54 : a.eval (.tmp 54) = .bool q := hI.good 20 54 (dep_of hdep 20 rfl) rfl
              refine ok_value (wanted_is rfl rfl hI.size (by simp) eg) (v := .bool true) ?_ (hK u _ _ (hI.world.up rfl rfl rfl rfl) (fun _ _ _ h => h) rfl)
              have ec : ∀ c, a.eval (.const c) = c := fun _ => rfl
              have ef : ∀ f, a.eval (.func f) = .func (.func f) #[] #[] := fun _ => rfl
              clear hI hdep hK
              generalize a.eval = ρ at eg e51 e54 ec ef ⊢
              go_simp
            · intro u D a w hI hdep hD0 K hK
              have e48 : a.eval (.tmp 48) = .bool true := hI.good 14 48 (dep_of hdep 14 rfl) rfl
              have e55 : a.eval (.tmp 55) = .bool true := hI.good 21 55 (dep_of hdep 21 rfl) rfl
              refine ok_value (wanted_none rfl) (v := .bool true) ?_ (hK u _ _ (hI.world.up rfl rfl rfl rfl) (fun _ _ _ h => h) rfl)
              have ec : ∀ c, a.eval (.const c) = c := fun _ => rfl
              have ef : ∀ f, a.eval (.func f) = .func (.func f) #[] #[] := fun _ => rfl
              clear hI hdep hK
              generalize a.eval = ρ at e48 e55 ec ef ⊢
              go_simp
            · intro u D a w hI hdep hD0 K hK
              have e56 : a.eval (.tmp 56) = .bool true := hI.good 22 56 (dep_of hdep 22 rfl) rfl
              refine ok_value (wanted_none rfl) (v := .bool true) ?_ (hK u _ _ (hI.world.up rfl rfl rfl rfl) (fun _ _ _ h => h) rfl)
              have ec : ∀ c, a.eval (.const c) = c := fun _ => rfl
              have ef : ∀ f, a.eval (.func f) = .func (.func f) #[] #[] := fun _ => rfl
              clear hI hdep hK
              generalize a.eval = ρ at e56 ec ef ⊢
              go_simp
            · intro u D a w hI hdep hD0 K hK
              have eg : a.eval (.tmp 57) = .bool true := hI.good 23 57 (dep_of hdep 23 rfl) rfl
              refine ok_new (wanted_is rfl rfl hI.size (by simp) eg) (v := .slice (some ⟨w.heap.size, 0, none⟩) 1 1) (w' := w.alloc (.cells #[.int .u8 7] 5)) (by have ec : ∀ c, a.eval (.const c) = c := fun _ => rfl; generalize a.eval = ρ at ec ⊢; go_simp) ?_
              exact hK (.slice (some ⟨w.heap.size, 0, none⟩) 1 1, u.2) _ _ (hI.world.new24) (fun j z hj h => StG_24 hD0 hj h) rfl
            · intro u D a w hI hdep hD0 K hK
              have eg : a.eval (.tmp 57) = .bool true := hI.good 23 57 (dep_of hdep 23 rfl) rfl
              have e0 : a.eval (.tmp 0) = .slice a1 n1 c1 := hI.read 0 rfl
              refine ok_value (wanted_is rfl rfl hI.size (by simp) eg) (v := .slice a1 n1 c1) ?_ (hK u _ _ (hI.world.up rfl rfl rfl rfl) (fun _ _ _ h => h) rfl)
              have ec : ∀ c, a.eval (.const c) = c := fun _ => rfl
              have ef : ∀ f, a.eval (.func f) = .func (.func f) #[] #[] := fun _ => rfl
              clear hI hdep hK
              generalize a.eval = ρ at eg e0 ec ef ⊢
              go_simp
            · intro u D a w hI hdep hD0 K hK
              have eg : a.eval (.tmp 57) = .bool true := hI.good 23 57 (dep_of hdep 23 rfl) rfl
              have e58 := hI.good 24 58 (dep_of hdep 24 rfl) rfl
              have e59 : a.eval (.tmp 59) = .slice a1 n1 c1 := hI.good 25 59 (dep_of hdep 25 rfl) rfl
              have h0 := dep_of hdep 24 rfl
              have hown := hI.world.o1 h0 hD0
              rw [← show a.eval (.tmp 58) = u.1 from e58] at hown
              refine ok_call (wanted_is rfl rfl hI.size (by simp) eg) (f := 15) (args := #[a.eval (.tmp 58), .slice a1 n1 c1]) ?_ (siput_own w1.heap.size (a.eval (.tmp 58)) 1 (bs [7]) a1 n1 c1 l w ((i1.below hI.world.base).more hI.world.base.size) (by omega) hown hI.world.base.size (by omega)) ?_
              · have ec : ∀ c, a.eval (.const c) = c := fun _ => rfl
                have ef : ∀ f, a.eval (.func f) = .func (.func f) #[] #[] := fun _ => rfl
                clear hI hdep hK
                generalize a.eval = ρ at eg e58 e59 ec ef ⊢
                go_simp
              · rw [HPB.out]
                rintro e w2 ⟨v2, rfl, hinv⟩
                rw [show a.eval (.tmp 58) = u.1 from e58] at hown hinv
                exact ⟨_, rfl, hK (u.1, v2, u.2.2) _ _ (hI.world.put h0 hD0 hinv) (fun j z hj h => StG_26 hD0 hj h) rfl⟩
            · intro u D a w hI hdep hD0 K hK
              have eg : a.eval (.tmp 57) = .bool true := hI.good 23 57 (dep_of hdep 23 rfl) rfl
              have e60 := hI.good 26 60 (dep_of hdep 26 rfl) rfl
              have e60 : a.eval (.tmp 60) = u.2.1 := e60
              have hx := dep_of hdep 26 rfl
              have hc' := own_conv (hI.world.o2 hx)
              rw [HSA.out] at hc'
              refine ok_value (wanted_is rfl rfl hI.size (by simp) eg) (v := .string sA) ?_ (hK u _ _ (hI.world.up rfl rfl rfl rfl) (fun _ _ _ h => h) rfl)
              have ec : ∀ c, a.eval (.const c) = c := fun _ => rfl
              have ef : ∀ f, a.eval (.func f) = .func (.func f) #[] #[] := fun _ => rfl
              clear hI hdep hK
              generalize a.eval = ρ at eg e60 ec ef ⊢
              go_simp
            · intro u D a w hI hdep hD0 K hK
              have eg : a.eval (.tmp 57) = .bool true := hI.good 23 57 (dep_of hdep 23 rfl) rfl
              refine ok_new (wanted_is rfl rfl hI.size (by simp) eg) (v := .slice (some ⟨w.heap.size, 0, none⟩) 1 1) (w' := w.alloc (.cells #[.int .u8 7] 5)) (by have ec : ∀ c, a.eval (.const c) = c := fun _ => rfl; generalize a.eval = ρ at ec ⊢; go_simp) ?_
              exact hK (u.1, u.2.1, .slice (some ⟨w.heap.size, 0, none⟩) 1 1, u.2.2.2) _ _ (hI.world.new28) (fun j z hj h => StG_28 hD0 hj h) rfl
            · intro u D a w hI hdep hD0 K hK
              have eg : a.eval (.tmp 57) = .bool true := hI.good 23 57 (dep_of hdep 23 rfl) rfl
              have e62 := hI.good 28 62 (dep_of hdep 28 rfl) rfl
              have e62 : a.eval (.tmp 62) = u.2.2.1 := e62
              have hx := dep_of hdep 28 rfl
              have hc' := own_conv (hI.world.o3 hx)
              rw [HSL.out] at hc'
              refine ok_value (wanted_is rfl rfl hI.size (by simp) eg) (v := .string sL) ?_ (hK u _ _ (hI.world.up rfl rfl rfl rfl) (fun _ _ _ h => h) rfl)
              have ec : ∀ c, a.eval (.const c) = c := fun _ => rfl
              have ef : ∀ f, a.eval (.func f) = .func (.func f) #[] #[] := fun _ => rfl
              clear hI hdep hK
              generalize a.eval = ρ at eg e62 ec ef ⊢
              go_simp
            · intro u D a w hI hdep hD0 K hK
              have eg : a.eval (.tmp 57) = .bool true := hI.good 23 57 (dep_of hdep 23 rfl) rfl
              have e0 : a.eval (.tmp 0) = .slice a1 n1 c1 := hI.read 0 rfl
              refine ok_value (wanted_is rfl rfl hI.size (by simp) eg) (v := .slice a1 n1 c1) ?_ (hK u _ _ (hI.world.up rfl rfl rfl rfl) (fun _ _ _ h => h) rfl)
              have ec : ∀ c, a.eval (.const c) = c := fun _ => rfl
              have ef : ∀ f, a.eval (.func f) = .func (.func f) #[] #[] := fun _ => rfl
              clear hI hdep hK
              generalize a.eval = ρ at eg e0 ec ef ⊢
              go_simp
            · intro u D a w hI hdep hD0 K hK
              have eg : a.eval (.tmp 57) = .bool true := hI.good 23 57 (dep_of hdep 23 rfl) rfl
              have e64 : a.eval (.tmp 64) = .slice a1 n1 c1 := hI.good 30 64 (dep_of hdep 30 rfl) rfl
              refine ok_call (wanted_is rfl rfl hI.size (by simp) eg) (f := 16) (args := #[.slice a1 n1 c1]) ?_ (rsiput_any a1 n1 c1 l w ((i1.below hI.world.base).more hI.world.base.size) (by omega)) ?_
              · have ec : ∀ c, a.eval (.const c) = c := fun _ => rfl
                have ef : ∀ f, a.eval (.func f) = .func (.func f) #[] #[] := fun _ => rfl
                clear hI hdep hK
                generalize a.eval = ρ at eg e64 ec ef ⊢
                go_simp
              · rw [HPB.out]
                rintro e w2 ⟨v2, rfl, hown, hb⟩
                exact ⟨_, rfl, hK (u.1, u.2.1, u.2.2.1, v2) _ _ (hI.world.new31 hown hb) (fun j z hj h => StG_31 hD0 hj h) rfl⟩
            · intro u D a w hI hdep hD0 K hK
              have eg : a.eval (.tmp 57) = .bool true := hI.good 23 57 (dep_of hdep 23 rfl) rfl
              have e65 := hI.good 31 65 (dep_of hdep 31 rfl) rfl
              have e65 : a.eval (.tmp 65) = u.2.2.2 := e65
              have hx := dep_of hdep 31 rfl
              have hc' := own_conv (hI.world.o4 hx)
              rw [HSP.out] at hc'
              refine ok_value (wanted_is rfl rfl hI.size (by simp) eg) (v := .string sP) ?_ (hK u _ _ (hI.world.up rfl rfl rfl rfl) (fun _ _ _ h => h) rfl)
              have ec : ∀ c, a.eval (.const c) = c := fun _ => rfl
              have ef : ∀ f, a.eval (.func f) = .func (.func f) #[] #[] := fun _ => rfl
              clear hI hdep hK
              generalize a.eval = ρ at eg e65 ec ef ⊢
              go_simp
            · intro u D a w hI hdep hD0 K hK
              have eg : a.eval (.tmp 57) = .bool true := hI.good 23 57 (dep_of hdep 23 rfl) rfl
              have e63 : a.eval (.tmp 63) = .string sL := hI.good 29 63 (dep_of hdep 29 rfl) rfl
              have e66 : a.eval (.tmp 66) = .string sP := hI.good 32 66 (dep_of hdep 32 rfl) rfl
              refine ok_value (wanted_is rfl rfl hI.size (by simp) eg) (v := .string sA) ?_ (hK u _ _ (hI.world.up rfl rfl rfl rfl) (fun _ _ _ h => h) rfl)
              have ec : ∀ c, a.eval (.const c) = c := fun _ => rfl
              have ef : ∀ f, a.eval (.func f) = .func (.func f) #[] #[] := fun _ => rfl
              clear hI hdep hK
              generalize a.eval = ρ at eg e63 e66 ec ef ⊢
              go_simp
              omega
            · intro u D a w hI hdep hD0 K hK
              have eg : a.eval (.tmp 57) = .bool true := hI.good 23 57 (dep_of hdep 23 rfl) rfl
              have e61 : a.eval (.tmp 61) = .string sA := hI.good 27 61 (dep_of hdep 27 rfl) rfl
              have e67 : a.eval (.tmp 67) = .string sA := hI.good 33 67 (dep_of hdep 33 rfl) rfl
              refine ok_value (wanted_is rfl rfl hI.size (by simp) eg) (v := .bool true) ?_ (hK u _ _ (hI.world.up rfl rfl rfl rfl) (fun _ _ _ h => h) rfl)
              have ec : ∀ c, a.eval (.const c) = c := fun _ => rfl
              have ef : ∀ f, a.eval (.func f) = .func (.func f) #[] #[] := fun _ => rfl
              clear hI hdep hK
              generalize a.eval = ρ at eg e61 e67 ec ef ⊢
              go_simp
            · intro u D a w hI hdep hD0 K hK
              have e57 : a.eval (.tmp 57) = .bool true := hI.good 23 57 (dep_of hdep 23 rfl) rfl
              have e68 : a.eval (.tmp 68) = .bool true := hI.good 34 68 (dep_of hdep 34 rfl) rfl
              refine ok_value (wanted_none rfl) (v := .bool true) ?_ (hK u _ _ (hI.world.up rfl rfl rfl rfl) (fun _ _ _ h => h) rfl)
              have ec : ∀ c, a.eval (.const c) = c := fun _ => rfl
              have ef : ∀ f, a.eval (.func f) = .func (.func f) #[] #[] := fun _ => rfl
              clear hI hdep hK
              generalize a.eval = ρ at e57 e68 ec ef ⊢
              go_simp
            · intro u D a w hI hdep hD0 K hK
              have e69 : a.eval (.tmp 69) = .bool true := hI.good 35 69 (dep_of hdep 35 rfl) rfl
              refine ok_value (wanted_none rfl) (v := .bool true) ?_ (hK u _ _ (hI.world.up rfl rfl rfl rfl) (fun _ _ _ h => h) rfl)
              have ec : ∀ c, a.eval (.const c) = c := fun _ => rfl
              have ef : ∀ f, a.eval (.func f) = .func (.func f) #[] #[] := fun _ => rfl
              clear hI hdep hK
              generalize a.eval = ρ at e69 ec ef ⊢
              go_simp
            · intro u D a w hI hdep hD0 K hK
              have eg : a.eval (.tmp 70) = .bool true := hI.good 36 70 (dep_of hdep 36 rfl) rfl
              refine ok_call (wanted_is rfl rfl hI.size (by simp) eg) (f := 6) (args := #[]) ?_ (lives11_any w) ?_
              · have ec : ∀ c, a.eval (.const c) = c := fun _ => rfl
                have ef : ∀ f, a.eval (.func f) = .func (.func f) #[] #[] := fun _ => rfl
                clear hI hdep hK
                generalize a.eval = ρ at eg ec ef ⊢
                go_simp
              · rintro e w2 ⟨rfl, hb2⟩
                exact ⟨_, rfl, hK u _ _ (((hI.world.up rfl rfl rfl rfl)).below hb2) (fun _ _ _ h => h) rfl⟩
            · intro u D a w hI hdep hD0 K hK
              have e70 : a.eval (.tmp 70) = .bool true := hI.good 36 70 (dep_of hdep 36 rfl) rfl
              have e71 : a.eval (.tmp 71) = .bool true := hI.good 37 71 (dep_of hdep 37 rfl) rfl
              refine ok_value (wanted_none rfl) (v := .bool true) ?_ (hK u _ _ (hI.world.up rfl rfl rfl rfl) (fun _ _ _ h => h) rfl)
              have ec : ∀ c, a.eval (.const c) = c := fun _ => rfl
              have ef : ∀ f, a.eval (.func f) = .func (.func f) #[] #[] := fun _ => rfl
              clear hI hdep hK
              generalize a.eval = ρ at e70 e71 ec ef ⊢
              go_simp
            · intro u D a w hI hdep hD0 K hK
              have e72 : a.eval (.tmp 72) = .bool true := hI.good 38 72 (dep_of hdep 38 rfl) rfl
              refine ok_value (wanted_none rfl) (v := .bool true) ?_ (hK u _ _ (hI.world.up rfl rfl rfl rfl) (fun _ _ _ h => h) rfl)
              have ec : ∀ c, a.eval (.const c) = c := fun _ => rfl
              have ef : ∀ f, a.eval (.func f) = .func (.func f) #[] #[] := fun _ => rfl
              clear hI hdep hK
              generalize a.eval = ρ at e72 ec ef ⊢
              go_simp
          · intro u D a w2 hI hD
            have hvs : ∀ p ∈ ([(34, .slice a1 n1 c1), (35, .string tx), (36, .slice a1 n1 c1), (37, .string tx), (38, .bool true), (39, .bool true), (40, .slice a1 n1 c1), (41, .int .i64 mo), (42, .bool r), (43, .slice a1 n1 c1), (44, .int .i64 mo), (45, .bool r), (46, .bool true), (47, .bool true), (48, .bool true), (49, .slice a1 n1 c1), (50, .slice a2 n2 c2), (51, .bool q), (52, .slice a1 n1 c1), (53, .slice a2 n2 c2), (54, .bool q), (55, .bool true), (56, .bool true), (57, .bool true), (58, u.1), (59, .slice a1 n1 c1), (60, u.2.1), (61, .string sA), (62, u.2.2.1), (63, .string sL), (64, .slice a1 n1 c1), (65, u.2.2.2), (66, .string sP), (67, .string sA), (68, .bool true), (69, .bool true), (70, .bool true), (71, .bool true), (72, .bool true), (6, .bool true)] : List (Nat × Value)), a.eval (.tmp p.1) = p.2 := (all_cons (hI.good 0 34 (hD 0 (by decide)) rfl) (all_cons (hI.good 1 35 (hD 1 (by decide)) rfl) (all_cons (hI.good 2 36 (hD 2 (by decide)) rfl) (all_cons (hI.good 3 37 (hD 3 (by decide)) rfl) (all_cons (hI.good 4 38 (hD 4 (by decide)) rfl) (all_cons (hI.good 5 39 (hD 5 (by decide)) rfl) (all_cons (hI.good 6 40 (hD 6 (by decide)) rfl) (all_cons (hI.good 7 41 (hD 7 (by decide)) rfl) (all_cons (hI.good 8 42 (hD 8 (by decide)) rfl) (all_cons (hI.good 9 43 (hD 9 (by decide)) rfl) (all_cons (hI.good 10 44 (hD 10 (by decide)) rfl) (all_cons (hI.good 11 45 (hD 11 (by decide)) rfl) (all_cons (hI.good 12 46 (hD 12 (by decide)) rfl) (all_cons (hI.good 13 47 (hD 13 (by decide)) rfl) (all_cons (hI.good 14 48 (hD 14 (by decide)) rfl) (all_cons (hI.good 15 49 (hD 15 (by decide)) rfl) (all_cons (hI.good 16 50 (hD 16 (by decide)) rfl) (all_cons (hI.good 17 51 (hD 17 (by decide)) rfl) (all_cons (hI.good 18 52 (hD 18 (by decide)) rfl) (all_cons (hI.good 19 53 (hD 19 (by decide)) rfl) (all_cons (hI.good 20 54 (hD 20 (by decide)) rfl) (all_cons (hI.good 21 55 (hD 21 (by decide)) rfl) (all_cons (hI.good 22 56 (hD 22 (by decide)) rfl) (all_cons (hI.good 23 57 (hD 23 (by decide)) rfl) (all_cons (hI.good 24 58 (hD 24 (by decide)) rfl) (all_cons (hI.good 25 59 (hD 25 (by decide)) rfl) (all_cons (hI.good 26 60 (hD 26 (by decide)) rfl) (all_cons (hI.good 27 61 (hD 27 (by decide)) rfl) (all_cons (hI.good 28 62 (hD 28 (by decide)) rfl) (all_cons (hI.good 29 63 (hD 29 (by decide)) rfl) (all_cons (hI.good 30 64 (hD 30 (by decide)) rfl) (all_cons (hI.good 31 65 (hD 31 (by decide)) rfl) (all_cons (hI.good 32 66 (hD 32 (by decide)) rfl) (all_cons (hI.good 33 67 (hD 33 (by decide)) rfl) (all_cons (hI.good 34 68 (hD 34 (by decide)) rfl) (all_cons (hI.good 35 69 (hD 35 (by decide)) rfl) (all_cons (hI.good 36 70 (hD 36 (by decide)) rfl) (all_cons (hI.good 37 71 (hD 37 (by decide)) rfl) (all_cons (hI.good 38 72 (hD 38 (by decide)) rfl) (all_cons (hI.good 39 6 (hD 39 (by decide)) rfl) all_nil))))))))))))))))))))))))))))))))))))))))
            have hfr := hI.frame _ hvs rfl
            clear hvs
            have hW := hI.world
            clear hI
            subst hfr
            simp only [List.foldl_cons, List.foldl_nil, List.setIfInBounds_toArray, List.set_cons_succ, List.set_cons_zero]
            have HB2 := Lib.hid (HB.out.trans (hW.base.mono HB.out.size))
            generalize u.1 = u1 at *
            generalize u.2.1 = u2 at *
            generalize u.2.2.1 = u3 at *
            generalize u.2.2.2 = u4 at *
            clear hW hD hS
            go_wp2
            go_ret
            exact ⟨rfl, HB2.out⟩
    · have d1 : decide (100 < (n1 : Int)) = false := decide_eq_false (by omega)
      have d2 : 100 < (n2 : Int) := by omega
      go_enter Try.func3, Try.ntmps3
      go_wp2_with (go_at_call 6; refine (lives11_any _).mono ?_; rintro _ w4 ⟨rfl, b4⟩)
      go_ret
      exact ⟨rfl, b4⟩
  · have d1 : 100 < (n1 : Int) := by omega
    go_enter Try.func3, Try.ntmps3
    go_wp2_with (go_at_call 6; refine (lives11_any _).mono ?_; rintro _ w4 ⟨rfl, b4⟩)
    go_ret
    exact ⟨rfl, b4⟩
end Go.Proofs.Ytialigkmckpjnaa
