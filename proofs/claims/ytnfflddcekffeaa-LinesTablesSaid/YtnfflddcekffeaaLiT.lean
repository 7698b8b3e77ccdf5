/-
  The walk of LinesTables. Conditions: the table can be read; its numbers are of their type.
-/
import Derived.BigQuiet
import Derived.Test.YtnfflddcekffeaaLiL
import Derived.Test.YtnfflddcekffeaaLiRof
import Derived.Test.YtnfflddcekffeaaLiP
import Derived.Test.YtnfflddcekffeaaRuRefPut
import Derived.Test.YtnfflddcekffeaaAppendAt
import Derived.Test.YtnfflddcekffeaaRegionK
namespace Go.Proofs.Ytnfflddcekffeaa
open Go.RowKit

/-- The world while the law's last statement runs: what Put and the document's Put told. -/
structure LbC (m : Nat) (pb : List Nat) (w1 : World) (u : Value × Value) (D : Nat → Bool) (W : World) : Prop where
  base : Below w1.heap.size w1 W
  o1 : D 16 = true → W.ownsRow w1.heap.size 5 1 u.1 m (bs pb)
  o2 : D 19 = true → W.ownsRow w1.heap.size 5 1 u.2 m (bs pb)
section
variable {m : Nat} {pb : List Nat} {w1 : World} {u : Value × Value} {D : Nat → Bool} {W : World}
theorem LbC.up (h : LbC m pb w1 u D W) {i : Nat} (h1 : (16 == i) = false) (h2 : (19 == i) = false) : LbC m pb w1 u (add D i) W :=
  ⟨h.base, by rw [up_other h1]; exact h.o1, by rw [up_other h2]; exact h.o2⟩
theorem LbC.below (h : LbC m pb w1 u D W) {W' : World} (hb : Below W.heap.size W W') : LbC m pb w1 u D W' :=
  ⟨below_self h.base (hb.mono (Nat.le_refl _)), fun e => ownsRow_below (h.o1 e) hb, fun e => ownsRow_below (h.o2 e) hb⟩
set_option maxRecDepth 100000 in
theorem LbC.put16 (h : LbC m pb w1 u D W) {v : Value} {W' : World} (hown : W'.ownsRow W.heap.size 5 1 v m (bs pb)) (hb : Below W.heap.size W W') : LbC m pb w1 (v, u.2) (add D 16) W' :=
  ⟨(h.below hb).base, fun _ => ownsRow_base hown h.base.size, by rw [up_other rfl]; exact (h.below hb).o2⟩
set_option maxRecDepth 100000 in
theorem LbC.put19 (h : LbC m pb w1 u D W) {v : Value} {W' : World} (hown : W'.ownsRow W.heap.size 5 1 v m (bs pb)) (hb : Below W.heap.size W W') : LbC m pb w1 (u.1, v) (add D 19) W' :=
  ⟨(h.below hb).base, by rw [up_other rfl]; exact (h.below hb).o1, fun _ => ownsRow_base hown h.base.size⟩
end

def LbG (La : Option Addr) (n c : Nat) (pc at1 : Int) (r : Bool) (sP : ByteArray) (u : Value × Value) : Nat → Value → Prop
  | 0, v => v = .slice La n c
  | 1, v => v = .bool r
  | 2, v => v = .slice La n c
  | 3, v => v = .bool r
  | 4, v => v = .bool true
  | 5, v => v = .bool true
  | 6, v => v = .slice La n c
  | 7, v => v = .int .i64 pc
  | 8, v => v = .int .i64 at1
  | 9, v => v = .slice La n c
  | 10, v => v = .int .i64 pc
  | 11, v => v = .int .i64 at1
  | 12, v => v = .bool true
  | 13, v => v = .bool true
  | 14, v => v = .bool true
  | 15, v => v = .slice La n c
  | 16, v => v = u.1
  | 17, v => v = .string sP
  | 18, v => v = .slice La n c
  | 19, v => v = u.2
  | 20, v => v = .string sP
  | 21, v => v = .bool true
  | 22, v => v = .bool true
  | 23, v => v = .bool true
  | 24, v => v = .bool true
  | 25, v => v = .bool true
  | 26, v => v = .bool true
  | _, _ => True

theorem LbG_16 {La : Option Addr} {n c : Nat} {pc at1 : Int} {r : Bool} {sP : ByteArray} {u : Value × Value} {v z : Value} {D : Nat → Bool} {j : Nat} (hD0 : D 16 = false) (hj : D j = true) (h : LbG La n c pc at1 r sP u j z) : LbG La n c pc at1 r sP (v, u.2) j z := by
  by_cases e : j = 16
  · subst e
    rw [hD0] at hj
    cases hj
  · unfold LbG at h ⊢
    split at h <;> first | exact h | exact absurd rfl e

theorem LbG_19 {La : Option Addr} {n c : Nat} {pc at1 : Int} {r : Bool} {sP : ByteArray} {u : Value × Value} {v z : Value} {D : Nat → Bool} {j : Nat} (hD0 : D 19 = false) (hj : D j = true) (h : LbG La n c pc at1 r sP u j z) : LbG La n c pc at1 r sP (u.1, v) j z := by
  by_cases e : j = 19
  · subst e
    rw [hD0] at hj
    cases hj
  · unfold LbG at h ⊢
    split at h <;> first | exact h | exact absurd rfl e

set_option maxHeartbeats 8000000 in
set_option maxRecDepth 100000 in
theorem linesTables_walk (La : Option Addr) (n c : Nat) (l : List Int) (pc line : Int) (w0 : World) (h : IntsAt w0 w0.heap.size La n l) (hn : n ≤ 9223372036854775807) (hz : ∀ z ∈ l, -9223372036854775808 ≤ z ∧ z ≤ 9223372036854775807) :
    Calls Try.prog 3 #[.slice La n c, .int .i64 pc, .int .i64 line] w0 (BoolP true w0) := by
  by_cases h300 : 300 < n
  · have hi : (300 : Int) < (n : Int) := by omega
    clear h hz
    go_enter Try.func3, Try.ntmps3
    go_wp2_with (go_at_call 5; refine (lives12_any _).mono ?_; rintro e w1 ⟨rfl, hb1⟩)
    go_ret
    exact ⟨rfl, hb1⟩
  have hi : ¬ (300 : Int) < (n : Int) := by omega
  have hrl : (Li.of line l).length ≤ n := by have := Li.of_len line l; rwa [h.1] at this
  have HI := Lib.hid h
  have HRL := Lib.hid hrl
  have hlay : (Ru.laid (Ru.of l)).length ≤ 20 * n := Nat.le_trans (Ru.laid_len (of_fits hz (by rw [h.1]; omega))) (Nat.mul_le_mul_left _ (by have := Ru.of_len l; rwa [h.1] at this))
  have HOF := Lib.hid (liof_any La n c l line w0 h (by omega) hz)
  have HROF := Lib.hid (fun W (hb : Below w0.heap.size w0 W) => rliof_any La n c l line W ((h.below hb).more hb.size) (by omega))
  have HP1 : Hid (∀ W, IntsAt W W.heap.size La n l → Calls Try.prog 12 #[.slice none 0 0, .slice La n c] W (OwnPost W.heap.size W (.slice none 0 0) (Ru.laid (Ru.of l)).length (bs (Ru.laid (Ru.of l))))) := Lib.hid (fun W hW => by
    have := liput_own W.heap.size (.slice none 0 0) 0 [] La n c l W (World.ownsRow_nil _ _ _ _) (Nat.le_refl _) hW (by omega) hz (by omega)
    rwa [Nat.zero_add, List.nil_append] at this)
  have HP2 : Hid (∀ W, IntsAt W W.heap.size La n l → Calls Try.prog 13 #[.slice La n c] W (NewPost (Ru.laid (Ru.of l)) W)) := Lib.hid (fun W hW => rrunsPut_any La n c l W hW (by omega) hz)
  have HR1 := Lib.hid (fun (W : World) (h : IntsAt W W.heap.size La n l) => liright_any La n c _ l W h hn)
  have HR2 := Lib.hid (fun (W : World) (h : IntsAt W W.heap.size La n l) => rliright_any La n c _ l W h hn)
  have HA1 := Lib.hid (fun (W : World) (h : IntsAt W W.heap.size La n l) => liat_any La n c _ l pc W h hn)
  have HA2 := Lib.hid (fun (W : World) (h : IntsAt W W.heap.size La n l) => rliat_any La n c _ l pc W h hn)
  clear h hz hrl hlay
  generalize Ru.laid (Ru.of l) = pb at *
  generalize Li.of line l = rr at *
  generalize Li.right l = r at *
  generalize Li.at_ l pc = at1 at *
  go_enter Try.func3, Try.ntmps3
  go_wp2_with fail
  refine HOF.out.mono ?_
  rintro e w1 ⟨v1, rfl, hown1, hb1⟩
  obtain ⟨A1, c1, rfl, hp1, hc1⟩ := runs_slice hown1
  have HP1b := Lib.hid hp1
  have HB1 := Lib.hid hb1
  clear hown1 hp1 hb1 HOF
  go_wp2_with fail
  refine (HROF.out _ HB1.out).mono ?_
  rintro e w2 ⟨v2, rfl, hown2, hb2⟩
  obtain ⟨A2, c2, rfl, hp2, _⟩ := runs_slice hown2
  have HQ1 := Lib.hid ((HP1b.out.below hb2).more hb2.size)
  have HQ2 := Lib.hid hp2
  have HB2 := Lib.hid (HB1.out.trans (hb2.mono HB1.out.size))
  clear hown2 hp2 hb2 HROF HP1b
  go_wp2
  go_loopw [9] (fun i wr => ∃ k : Nat, k ≤ rr.length ∧ i = .int .i64 (k : Int) ∧ Below w2.heap.size w2 wr) (fun i _ => rr.length - (intOf i).toNat)
  case atStart => exact ⟨0, Nat.zero_le _, rfl, Below.refl _ _⟩
  case round =>
    obtain ⟨k, hk, rfl, hb⟩ := hrel
    have HBr := Lib.hid hb
    have hrl := HRL.out
    by_cases hlt : k < rr.length
    · obtain ⟨b1, o1, rfl, _, hc1'⟩ := (HQ1.out.below hb).2 (by omega)
      obtain ⟨b2, o2, rfl, _, hc2'⟩ := (HQ2.out.below hb).2 (by omega)
      obtain ⟨e10, e11⟩ := hc1' k hlt
      obtain ⟨e20, e21⟩ := hc2' k hlt
      clear hc1' hc2' hb
      generalize rr.getD k (0, 0) = p at *
      obtain ⟨N, V⟩ := p
      simp only at e10 e11 e20 e21
      go_wp2
      go_quiet (fail)
      go_wp2
      go_roundw
      case rel => exact ⟨k + 1, by omega, by go_num, below_drewN HBr.out _⟩
      case measure => simp [intOf]; omega
    · have HBw := Lib.hid (HB2.out.trans (hb.mono HB2.out.size))
      obtain ⟨sP, hsP⟩ : ∃ s, str pb = s := ⟨_, rfl⟩
      have HSP := Lib.hid hsP
      have i1 := (HI.out.below HBw.out).more HBw.out.size
      have hrr : (r == r) = true := by cases r <;> rfl
      have hatt : (at1 == at1) = true := beq_self_eq_true _
      have hsd : (sP.toList == sP.toList) = true := beq_self_eq_true _
      clear hb hsP HI HRL HQ1 HQ2
      unfold SameP at HR1 HR2 HA1 HA2
      go_wp2_with fail
      have hS : LbC pb.length pb wr (undef, undef) (fun _ => false) wr.drew := ⟨(Below.refl _ _).drew, (fun e => by cases e), (fun e => by cases e)⟩
      generalize wr = w1 at *
      refine region_k (undef, undef) 81 (fun u D W => LbC pb.length pb w1 u D W) (LbG La n c pc at1 r sP) (by kernel_rfl) (by kernel_rfl) (by kernel_rfl) rfl rfl hS ?_ ?_
      · refine ⟨?_, ?_, ?_, ?_, ?_, ?_, ?_, ?_, ?_, ?_, ?_, ?_, ?_, ?_, ?_, ?_, ?_, ?_, ?_, ?_, ?_, ?_, ?_, ?_, ?_, ?_, ?_, trivial⟩
        · intro u D a w hI hdep hD0 K hK
          have e0 : a.eval (.tmp 0) = .slice La n c := hI.read 0 rfl
          refine ok_value (wanted_none rfl) (v := .slice La n c) ?_ (hK u _ _ (hI.world.up rfl rfl) (fun _ _ _ h => h) rfl)
          have ec : ∀ c, a.eval (.const c) = c := fun _ => rfl
          have ef : ∀ f, a.eval (.func f) = .func (.func f) #[] #[] := fun _ => rfl
          clear hI hdep hK
          generalize a.eval = ρ at e0 ec ef ⊢
          go_simp
        · intro u D a w hI hdep hD0 K hK
          have e55 : a.eval (.tmp 55) = .slice La n c := hI.good 0 55 (dep_of hdep 0 rfl) rfl
          refine ok_call (wanted_none rfl) (f := 8) (args := #[.slice La n c]) ?_ (HR1.out w ((i1.below hI.world.base).more hI.world.base.size)) ?_
          · have ec : ∀ c, a.eval (.const c) = c := fun _ => rfl
            have ef : ∀ f, a.eval (.func f) = .func (.func f) #[] #[] := fun _ => rfl
            clear hI hdep hK
            generalize a.eval = ρ at e55 ec ef ⊢
            go_simp
          · rintro e w2 ⟨rfl, he⟩
            obtain rfl := he.symm
            exact ⟨_, rfl, hK u _ _ (hI.world.up rfl rfl) (fun _ _ _ h => h) rfl⟩
        · intro u D a w hI hdep hD0 K hK
          have e0 : a.eval (.tmp 0) = .slice La n c := hI.read 0 rfl
          refine ok_value (wanted_none rfl) (v := .slice La n c) ?_ (hK u _ _ (hI.world.up rfl rfl) (fun _ _ _ h => h) rfl)
          have ec : ∀ c, a.eval (.const c) = c := fun _ => rfl
          have ef : ∀ f, a.eval (.func f) = .func (.func f) #[] #[] := fun _ => rfl
          clear hI hdep hK
          generalize a.eval = ρ at e0 ec ef ⊢
          go_simp
        · intro u D a w hI hdep hD0 K hK
          have e57 : a.eval (.tmp 57) = .slice La n c := hI.good 2 57 (dep_of hdep 2 rfl) rfl
          refine ok_call (wanted_none rfl) (f := 9) (args := #[.slice La n c]) ?_ (HR2.out w ((i1.below hI.world.base).more hI.world.base.size)) ?_
          · have ec : ∀ c, a.eval (.const c) = c := fun _ => rfl
            have ef : ∀ f, a.eval (.func f) = .func (.func f) #[] #[] := fun _ => rfl
            clear hI hdep hK
            generalize a.eval = ρ at e57 ec ef ⊢
            go_simp
          · rintro e w2 ⟨rfl, he⟩
            obtain rfl := he.symm
            exact ⟨_, rfl, hK u _ _ (hI.world.up rfl rfl) (fun _ _ _ h => h) rfl⟩
        · intro u D a w hI hdep hD0 K hK
          have e56 : a.eval (.tmp 56) = .bool r := hI.good 1 56 (dep_of hdep 1 rfl) rfl
          have e58 : a.eval (.tmp 58) = .bool r := hI.good 3 58 (dep_of hdep 3 rfl) rfl
          refine ok_value (wanted_none rfl) (v := .bool true) ?_ (hK u _ _ (hI.world.up rfl rfl) (fun _ _ _ h => h) rfl)
          have ec : ∀ c, a.eval (.const c) = c := fun _ => rfl
          have ef : ∀ f, a.eval (.func f) = .func (.func f) #[] #[] := fun _ => rfl
          clear hI hdep hK
          generalize a.eval = ρ at e56 e58 ec ef ⊢
          go_simp
        · intro u D a w hI hdep hD0 K hK
          have e59 : a.eval (.tmp 59) = .bool true := hI.good 4 59 (dep_of hdep 4 rfl) rfl
          refine ok_value (wanted_none rfl) (v := .bool true) ?_ (hK u _ _ (hI.world.up rfl rfl) (fun _ _ _ h => h) rfl)
          have ec : ∀ c, a.eval (.const c) = c := fun _ => rfl
          have ef : ∀ f, a.eval (.func f) = .func (.func f) #[] #[] := fun _ => rfl
          clear hI hdep hK
          generalize a.eval = ρ at e59 ec ef ⊢
          go_simp
        · intro u D a w hI hdep hD0 K hK
          have eg : a.eval (.tmp 60) = .bool true := hI.good 5 60 (dep_of hdep 5 rfl) rfl
          have e0 : a.eval (.tmp 0) = .slice La n c := hI.read 0 rfl
          refine ok_value (wanted_is rfl rfl hI.size (by simp) eg) (v := .slice La n c) ?_ (hK u _ _ (hI.world.up rfl rfl) (fun _ _ _ h => h) rfl)
          have ec : ∀ c, a.eval (.const c) = c := fun _ => rfl
          have ef : ∀ f, a.eval (.func f) = .func (.func f) #[] #[] := fun _ => rfl
          clear hI hdep hK
          generalize a.eval = ρ at eg e0 ec ef ⊢
          go_simp
        · intro u D a w hI hdep hD0 K hK
          have eg : a.eval (.tmp 60) = .bool true := hI.good 5 60 (dep_of hdep 5 rfl) rfl
          have e1 : a.eval (.tmp 1) = .int .i64 pc := hI.read 1 rfl
          refine ok_value (wanted_is rfl rfl hI.size (by simp) eg) (v := .int .i64 pc) ?_ (hK u _ _ (hI.world.up rfl rfl) (fun _ _ _ h => h) rfl)
          have ec : ∀ c, a.eval (.const c) = c := fun _ => rfl
          have ef : ∀ f, a.eval (.func f) = .func (.func f) #[] #[] := fun _ => rfl
          clear hI hdep hK
          generalize a.eval = ρ at eg e1 ec ef ⊢
          go_simp
        · intro u D a w hI hdep hD0 K hK
          have eg : a.eval (.tmp 60) = .bool true := hI.good 5 60 (dep_of hdep 5 rfl) rfl
          have e61 : a.eval (.tmp 61) = .slice La n c := hI.good 6 61 (dep_of hdep 6 rfl) rfl
          have e62 : a.eval (.tmp 62) = .int .i64 pc := hI.good 7 62 (dep_of hdep 7 rfl) rfl
          refine ok_call (wanted_is rfl rfl hI.size (by simp) eg) (f := 10) (args := #[.slice La n c, .int .i64 pc]) ?_ (HA1.out w ((i1.below hI.world.base).more hI.world.base.size)) ?_
          · have ec : ∀ c, a.eval (.const c) = c := fun _ => rfl
            have ef : ∀ f, a.eval (.func f) = .func (.func f) #[] #[] := fun _ => rfl
            clear hI hdep hK
            generalize a.eval = ρ at eg e61 e62 ec ef ⊢
            go_simp
          · rintro e w2 ⟨rfl, he⟩
            obtain rfl := he.symm
            exact ⟨_, rfl, hK u _ _ (hI.world.up rfl rfl) (fun _ _ _ h => h) rfl⟩
        · intro u D a w hI hdep hD0 K hK
          have eg : a.eval (.tmp 60) = .bool true := hI.good 5 60 (dep_of hdep 5 rfl) rfl
          have e0 : a.eval (.tmp 0) = .slice La n c := hI.read 0 rfl
          refine ok_value (wanted_is rfl rfl hI.size (by simp) eg) (v := .slice La n c) ?_ (hK u _ _ (hI.world.up rfl rfl) (fun _ _ _ h => h) rfl)
          have ec : ∀ c, a.eval (.const c) = c := fun _ => rfl
          have ef : ∀ f, a.eval (.func f) = .func (.func f) #[] #[] := fun _ => rfl
          clear hI hdep hK
          generalize a.eval = ρ at eg e0 ec ef ⊢
          go_simp
        · intro u D a w hI hdep hD0 K hK
          have eg : a.eval (.tmp 60) = .bool true := hI.good 5 60 (dep_of hdep 5 rfl) rfl
          have e1 : a.eval (.tmp 1) = .int .i64 pc := hI.read 1 rfl
          refine ok_value (wanted_is rfl rfl hI.size (by simp) eg) (v := .int .i64 pc) ?_ (hK u _ _ (hI.world.up rfl rfl) (fun _ _ _ h => h) rfl)
          have ec : ∀ c, a.eval (.const c) = c := fun _ => rfl
          have ef : ∀ f, a.eval (.func f) = .func (.func f) #[] #[] := fun _ => rfl
          clear hI hdep hK
          generalize a.eval = ρ at eg e1 ec ef ⊢
          go_simp
        · intro u D a w hI hdep hD0 K hK
          have eg : a.eval (.tmp 60) = .bool true := hI.good 5 60 (dep_of hdep 5 rfl) rfl
          have e64 : a.eval (.tmp 64) = .slice La n c := hI.good 9 64 (dep_of hdep 9 rfl) rfl
          have e65 : a.eval (.tmp 65) = .int .i64 pc := hI.good 10 65 (dep_of hdep 10 rfl) rfl
          refine ok_call (wanted_is rfl rfl hI.size (by simp) eg) (f := 11) (args := #[.slice La n c, .int .i64 pc]) ?_ (HA2.out w ((i1.below hI.world.base).more hI.world.base.size)) ?_
          · have ec : ∀ c, a.eval (.const c) = c := fun _ => rfl
            have ef : ∀ f, a.eval (.func f) = .func (.func f) #[] #[] := fun _ => rfl
            clear hI hdep hK
            generalize a.eval = ρ at eg e64 e65 ec ef ⊢
            go_simp
          · rintro e w2 ⟨rfl, he⟩
            obtain rfl := he.symm
            exact ⟨_, rfl, hK u _ _ (hI.world.up rfl rfl) (fun _ _ _ h => h) rfl⟩
        · intro u D a w hI hdep hD0 K hK
          have eg : a.eval (.tmp 60) = .bool true := hI.good 5 60 (dep_of hdep 5 rfl) rfl
          have e63 : a.eval (.tmp 63) = .int .i64 at1 := hI.good 8 63 (dep_of hdep 8 rfl) rfl
          have e66 : a.eval (.tmp 66) = .int .i64 at1 := hI.good 11 66 (dep_of hdep 11 rfl) rfl
          refine ok_value (wanted_is rfl rfl hI.size (by simp) eg) (v := .bool true) ?_ (hK u _ _ (hI.world.up rfl rfl) (fun _ _ _ h => h) rfl)
          have ec : ∀ c, a.eval (.const c) = c := fun _ => rfl
          have ef : ∀ f, a.eval (.func f) = .func (.func f) #[] #[] := fun _ => rfl
          clear hI hdep hK
          generalize a.eval = ρ at eg e63 e66 ec ef ⊢
          go_simp
        · intro u D a w hI hdep hD0 K hK
          have e60 : a.eval (.tmp 60) = .bool true := hI.good 5 60 (dep_of hdep 5 rfl) rfl
          have e67 : a.eval (.tmp 67) = .bool true := hI.good 12 67 (dep_of hdep 12 rfl) rfl
          refine ok_value (wanted_none rfl) (v := .bool true) ?_ (hK u _ _ (hI.world.up rfl rfl) (fun _ _ _ h => h) rfl)
          have ec : ∀ c, a.eval (.const c) = c := fun _ => rfl
          have ef : ∀ f, a.eval (.func f) = .func (.func f) #[] #[] := fun _ => rfl
          clear hI hdep hK
          generalize a.eval = ρ at e60 e67 ec ef ⊢
          go_simp
        · intro u D a w hI hdep hD0 K hK
          have e68 : a.eval (.tmp 68) = .bool true := hI.good 13 68 (dep_of hdep 13 rfl) rfl
          refine ok_value (wanted_none rfl) (v := .bool true) ?_ (hK u _ _ (hI.world.up rfl rfl) (fun _ _ _ h => h) rfl)
          have ec : ∀ c, a.eval (.const c) = c := fun _ => rfl
          have ef : ∀ f, a.eval (.func f) = .func (.func f) #[] #[] := fun _ => rfl
          clear hI hdep hK
          generalize a.eval = ρ at e68 ec ef ⊢
          go_simp
        · intro u D a w hI hdep hD0 K hK
          have eg : a.eval (.tmp 69) = .bool true := hI.good 14 69 (dep_of hdep 14 rfl) rfl
          have e0 : a.eval (.tmp 0) = .slice La n c := hI.read 0 rfl
          refine ok_value (wanted_is rfl rfl hI.size (by simp) eg) (v := .slice La n c) ?_ (hK u _ _ (hI.world.up rfl rfl) (fun _ _ _ h => h) rfl)
          have ec : ∀ c, a.eval (.const c) = c := fun _ => rfl
          have ef : ∀ f, a.eval (.func f) = .func (.func f) #[] #[] := fun _ => rfl
          clear hI hdep hK
          generalize a.eval = ρ at eg e0 ec ef ⊢
          go_simp
        · intro u D a w hI hdep hD0 K hK
          have eg : a.eval (.tmp 69) = .bool true := hI.good 14 69 (dep_of hdep 14 rfl) rfl
          have e70 : a.eval (.tmp 70) = .slice La n c := hI.good 15 70 (dep_of hdep 15 rfl) rfl
          refine ok_call (wanted_is rfl rfl hI.size (by simp) eg) (f := 12) (args := #[.slice none 0 0, .slice La n c]) ?_ (HP1.out w ((i1.below hI.world.base).more hI.world.base.size)) ?_
          · have ec : ∀ c, a.eval (.const c) = c := fun _ => rfl
            have ef : ∀ f, a.eval (.func f) = .func (.func f) #[] #[] := fun _ => rfl
            clear hI hdep hK
            generalize a.eval = ρ at eg e70 ec ef ⊢
            go_simp
          · rintro e w2 ⟨v2, rfl, hinv⟩
            have hbn := hinv.below (World.ownsRow_nil _ _ _ _) (Nat.le_refl _)
            exact ⟨_, rfl, hK (v2, u.2) _ _ (hI.world.put16 hinv.1 hbn) (fun j z hj h => LbG_16 hD0 hj h) rfl⟩
        · intro u D a w hI hdep hD0 K hK
          have eg : a.eval (.tmp 69) = .bool true := hI.good 14 69 (dep_of hdep 14 rfl) rfl
          have e71 := hI.good 16 71 (dep_of hdep 16 rfl) rfl
          have e71 : a.eval (.tmp 71) = u.1 := e71
          have hx := dep_of hdep 16 rfl
          have hc' := own_conv (hI.world.o1 hx)
          rw [HSP.out] at hc'
          refine ok_value (wanted_is rfl rfl hI.size (by simp) eg) (v := .string sP) ?_ (hK u _ _ (hI.world.up rfl rfl) (fun _ _ _ h => h) rfl)
          have ec : ∀ c, a.eval (.const c) = c := fun _ => rfl
          have ef : ∀ f, a.eval (.func f) = .func (.func f) #[] #[] := fun _ => rfl
          clear hI hdep hK
          generalize a.eval = ρ at eg e71 ec ef ⊢
          go_simp
        · intro u D a w hI hdep hD0 K hK
          have eg : a.eval (.tmp 69) = .bool true := hI.good 14 69 (dep_of hdep 14 rfl) rfl
          have e0 : a.eval (.tmp 0) = .slice La n c := hI.read 0 rfl
          refine ok_value (wanted_is rfl rfl hI.size (by simp) eg) (v := .slice La n c) ?_ (hK u _ _ (hI.world.up rfl rfl) (fun _ _ _ h => h) rfl)
          have ec : ∀ c, a.eval (.const c) = c := fun _ => rfl
          have ef : ∀ f, a.eval (.func f) = .func (.func f) #[] #[] := fun _ => rfl
          clear hI hdep hK
          generalize a.eval = ρ at eg e0 ec ef ⊢
          go_simp
        · intro u D a w hI hdep hD0 K hK
          have eg : a.eval (.tmp 69) = .bool true := hI.good 14 69 (dep_of hdep 14 rfl) rfl
          have e73 : a.eval (.tmp 73) = .slice La n c := hI.good 18 73 (dep_of hdep 18 rfl) rfl
          refine ok_call (wanted_is rfl rfl hI.size (by simp) eg) (f := 13) (args := #[.slice La n c]) ?_ (HP2.out w ((i1.below hI.world.base).more hI.world.base.size)) ?_
          · have ec : ∀ c, a.eval (.const c) = c := fun _ => rfl
            have ef : ∀ f, a.eval (.func f) = .func (.func f) #[] #[] := fun _ => rfl
            clear hI hdep hK
            generalize a.eval = ρ at eg e73 ec ef ⊢
            go_simp
          · rintro e w2 ⟨v2, rfl, hown, hb⟩
            exact ⟨_, rfl, hK (u.1, v2) _ _ (hI.world.put19 hown hb) (fun j z hj h => LbG_19 hD0 hj h) rfl⟩
        · intro u D a w hI hdep hD0 K hK
          have eg : a.eval (.tmp 69) = .bool true := hI.good 14 69 (dep_of hdep 14 rfl) rfl
          have e74 := hI.good 19 74 (dep_of hdep 19 rfl) rfl
          have e74 : a.eval (.tmp 74) = u.2 := e74
          have hx := dep_of hdep 19 rfl
          have hc' := own_conv (hI.world.o2 hx)
          rw [HSP.out] at hc'
          refine ok_value (wanted_is rfl rfl hI.size (by simp) eg) (v := .string sP) ?_ (hK u _ _ (hI.world.up rfl rfl) (fun _ _ _ h => h) rfl)
          have ec : ∀ c, a.eval (.const c) = c := fun _ => rfl
          have ef : ∀ f, a.eval (.func f) = .func (.func f) #[] #[] := fun _ => rfl
          clear hI hdep hK
          generalize a.eval = ρ at eg e74 ec ef ⊢
          go_simp
        · intro u D a w hI hdep hD0 K hK
          have eg : a.eval (.tmp 69) = .bool true := hI.good 14 69 (dep_of hdep 14 rfl) rfl
          have e72 : a.eval (.tmp 72) = .string sP := hI.good 17 72 (dep_of hdep 17 rfl) rfl
          have e75 : a.eval (.tmp 75) = .string sP := hI.good 20 75 (dep_of hdep 20 rfl) rfl
          refine ok_value (wanted_is rfl rfl hI.size (by simp) eg) (v := .bool true) ?_ (hK u _ _ (hI.world.up rfl rfl) (fun _ _ _ h => h) rfl)
          have ec : ∀ c, a.eval (.const c) = c := fun _ => rfl
          have ef : ∀ f, a.eval (.func f) = .func (.func f) #[] #[] := fun _ => rfl
          clear hI hdep hK
          generalize a.eval = ρ at eg e72 e75 ec ef ⊢
          go_simp
        · intro u D a w hI hdep hD0 K hK
          have e69 : a.eval (.tmp 69) = .bool true := hI.good 14 69 (dep_of hdep 14 rfl) rfl
          have e76 : a.eval (.tmp 76) = .bool true := hI.good 21 76 (dep_of hdep 21 rfl) rfl
          refine ok_value (wanted_none rfl) (v := .bool true) ?_ (hK u _ _ (hI.world.up rfl rfl) (fun _ _ _ h => h) rfl)
          have ec : ∀ c, a.eval (.const c) = c := fun _ => rfl
          have ef : ∀ f, a.eval (.func f) = .func (.func f) #[] #[] := fun _ => rfl
          clear hI hdep hK
          generalize a.eval = ρ at e69 e76 ec ef ⊢
          go_simp
        · intro u D a w hI hdep hD0 K hK
          have e77 : a.eval (.tmp 77) = .bool true := hI.good 22 77 (dep_of hdep 22 rfl) rfl
          refine ok_value (wanted_none rfl) (v := .bool true) ?_ (hK u _ _ (hI.world.up rfl rfl) (fun _ _ _ h => h) rfl)
          have ec : ∀ c, a.eval (.const c) = c := fun _ => rfl
          have ef : ∀ f, a.eval (.func f) = .func (.func f) #[] #[] := fun _ => rfl
          clear hI hdep hK
          generalize a.eval = ρ at e77 ec ef ⊢
          go_simp
        · intro u D a w hI hdep hD0 K hK
          have eg : a.eval (.tmp 78) = .bool true := hI.good 23 78 (dep_of hdep 23 rfl) rfl
          refine ok_call (wanted_is rfl rfl hI.size (by simp) eg) (f := 5) (args := #[]) ?_ (lives12_any w) ?_
          · have ec : ∀ c, a.eval (.const c) = c := fun _ => rfl
            have ef : ∀ f, a.eval (.func f) = .func (.func f) #[] #[] := fun _ => rfl
            clear hI hdep hK
            generalize a.eval = ρ at eg ec ef ⊢
            go_simp
          · rintro e w2 ⟨rfl, hb2⟩
            exact ⟨_, rfl, hK u _ _ (((hI.world.up rfl rfl)).below hb2) (fun _ _ _ h => h) rfl⟩
        · intro u D a w hI hdep hD0 K hK
          have e78 : a.eval (.tmp 78) = .bool true := hI.good 23 78 (dep_of hdep 23 rfl) rfl
          have e79 : a.eval (.tmp 79) = .bool true := hI.good 24 79 (dep_of hdep 24 rfl) rfl
          refine ok_value (wanted_none rfl) (v := .bool true) ?_ (hK u _ _ (hI.world.up rfl rfl) (fun _ _ _ h => h) rfl)
          have ec : ∀ c, a.eval (.const c) = c := fun _ => rfl
          have ef : ∀ f, a.eval (.func f) = .func (.func f) #[] #[] := fun _ => rfl
          clear hI hdep hK
          generalize a.eval = ρ at e78 e79 ec ef ⊢
          go_simp
        · intro u D a w hI hdep hD0 K hK
          have e80 : a.eval (.tmp 80) = .bool true := hI.good 25 80 (dep_of hdep 25 rfl) rfl
          refine ok_value (wanted_none rfl) (v := .bool true) ?_ (hK u _ _ (hI.world.up rfl rfl) (fun _ _ _ h => h) rfl)
          have ec : ∀ c, a.eval (.const c) = c := fun _ => rfl
          have ef : ∀ f, a.eval (.func f) = .func (.func f) #[] #[] := fun _ => rfl
          clear hI hdep hK
          generalize a.eval = ρ at e80 ec ef ⊢
          go_simp
      · intro u D a w3 hI hD
        have hfr := hI.frame [(55, .slice La n c), (56, .bool r), (57, .slice La n c), (58, .bool r), (59, .bool true), (60, .bool true), (61, .slice La n c), (62, .int .i64 pc), (63, .int .i64 at1), (64, .slice La n c), (65, .int .i64 pc), (66, .int .i64 at1), (67, .bool true), (68, .bool true), (69, .bool true), (70, .slice La n c), (71, u.1), (72, .string sP), (73, .slice La n c), (74, u.2), (75, .string sP), (76, .bool true), (77, .bool true), (78, .bool true), (79, .bool true), (80, .bool true), (6, .bool true)] (all_cons (hI.good 0 55 (hD 0 (by decide)) rfl) (all_cons (hI.good 1 56 (hD 1 (by decide)) rfl) (all_cons (hI.good 2 57 (hD 2 (by decide)) rfl) (all_cons (hI.good 3 58 (hD 3 (by decide)) rfl) (all_cons (hI.good 4 59 (hD 4 (by decide)) rfl) (all_cons (hI.good 5 60 (hD 5 (by decide)) rfl) (all_cons (hI.good 6 61 (hD 6 (by decide)) rfl) (all_cons (hI.good 7 62 (hD 7 (by decide)) rfl) (all_cons (hI.good 8 63 (hD 8 (by decide)) rfl) (all_cons (hI.good 9 64 (hD 9 (by decide)) rfl) (all_cons (hI.good 10 65 (hD 10 (by decide)) rfl) (all_cons (hI.good 11 66 (hD 11 (by decide)) rfl) (all_cons (hI.good 12 67 (hD 12 (by decide)) rfl) (all_cons (hI.good 13 68 (hD 13 (by decide)) rfl) (all_cons (hI.good 14 69 (hD 14 (by decide)) rfl) (all_cons (hI.good 15 70 (hD 15 (by decide)) rfl) (all_cons (hI.good 16 71 (hD 16 (by decide)) rfl) (all_cons (hI.good 17 72 (hD 17 (by decide)) rfl) (all_cons (hI.good 18 73 (hD 18 (by decide)) rfl) (all_cons (hI.good 19 74 (hD 19 (by decide)) rfl) (all_cons (hI.good 20 75 (hD 20 (by decide)) rfl) (all_cons (hI.good 21 76 (hD 21 (by decide)) rfl) (all_cons (hI.good 22 77 (hD 22 (by decide)) rfl) (all_cons (hI.good 23 78 (hD 23 (by decide)) rfl) (all_cons (hI.good 24 79 (hD 24 (by decide)) rfl) (all_cons (hI.good 25 80 (hD 25 (by decide)) rfl) (all_cons (hI.good 26 6 (hD 26 (by decide)) rfl) all_nil))))))))))))))))))))))))))) rfl
        have hW := hI.world
        clear hI
        subst hfr
        simp only [List.foldl_cons, List.foldl_nil, List.setIfInBounds_toArray, List.set_cons_succ, List.set_cons_zero]
        have HB3 := Lib.hid (below_self HBw.out hW.base)
        generalize u.1 = u1 at *
        generalize u.2 = u2 at *
        clear hW hD hS
        go_wp2
        go_ret
        exact ⟨rfl, HB3.out⟩
end Go.Proofs.Ytnfflddcekffeaa
