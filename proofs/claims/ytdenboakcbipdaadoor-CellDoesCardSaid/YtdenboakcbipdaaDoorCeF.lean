/-
  Whether two rows of values are the same, by the document. Conditions: the values can be read.
-/
import Derived.Test.YtdenboakcbipdaaDoorCeE
namespace Go.Proofs.YtdenboakcbipdaaDoor
open Go.RowKit
attribute [local go_sem] Ce.run_store_complex

/-- Are two rows of values the same? -/
def Ce.sames : List Ce.Cv → List Ce.Cv → Bool
  | [], [] => true
  | a :: l, b :: m => Ce.same a b && Ce.sames l m
  | _, _ => false
theorem sames_len : ∀ (l m : List Ce.Cv), l.length ≠ m.length → Ce.sames l m = false
  | [], [], h => absurd rfl h
  | [], _ :: _, _ => rfl
  | _ :: _, [], _ => rfl
  | a :: l, b :: m, h => by
    have := sames_len l m (by simpa using h)
    simp [Ce.sames, this]
theorem sames_upto : ∀ (l m : List Ce.Cv), l.length = m.length → (∀ j, j < l.length → Ce.same (l.getD j Ce.c0) (m.getD j Ce.c0) = true) → Ce.sames l m = true
  | [], [], _, _ => rfl
  | [], _ :: _, h, _ => by cases h
  | _ :: _, [], h, _ => by cases h
  | a :: l, b :: m, h, hj => by
    have h0 := hj 0 (by simp)
    have := sames_upto l m (by simpa using h) (fun j hl => by
      have := hj (j + 1) (by simpa using hl)
      simpa using this)
    simp only [List.getD_cons_zero] at h0
    simp [Ce.sames, this, h0]
theorem sames_not : ∀ (l m : List Ce.Cv) (k : Nat), k < l.length → l.length = m.length → Ce.same (l.getD k Ce.c0) (m.getD k Ce.c0) = false → Ce.sames l m = false
  | [], _, _, h, _, _ => by cases h
  | _ :: _, [], _, _, h, _ => by cases h
  | a :: l, b :: m, 0, _, _, h => by
    simp only [List.getD_cons_zero] at h
    simp [Ce.sames, h]
  | a :: l, b :: m, k + 1, hk, hl, h => by
    have := sames_not l m k (by simpa using hk) (by simpa using hl) (by simpa using h)
    simp [Ce.sames, this]

def VaG (b off b' off' n c c' k : Nat) (ak an : Int) (ar ai : Nat) (bk bn : Int) (br bi : Nat) (e : Bool) (_ : Unit) : Nat → Value → Prop
  | 0, v => v = .slice (some ⟨b, off, none⟩) n c
  | 1, v => v = .int .i64 (k : Int)
  | 2, v => v = .pointer (some ⟨b, off + k * 3, none⟩)
  | 3, v => v = .agg #[.int .i64 ak, .int .i64 an, .complex .f64 ar ai]
  | 4, v => v = .slice (some ⟨b', off', none⟩) n c'
  | 5, v => v = .int .i64 (k : Int)
  | 6, v => v = .pointer (some ⟨b', off' + k * 3, none⟩)
  | 7, v => v = .agg #[.int .i64 bk, .int .i64 bn, .complex .f64 br bi]
  | 8, v => v = .bool e
  | 9, v => v = .bool (!e)
  | _, _ => True

set_option maxHeartbeats 4000000 in
set_option maxRecDepth 100000 in
theorem rvalues_any (a a' : Option Addr) (n n' c c' : Nat) (l l' : List Ce.Cv) (w0 : World) (h : ValsAt w0 w0.heap.size a n l) (h' : ValsAt w0 w0.heap.size a' n' l') (hn : n ≤ 9223372036854775807) : Calls Tryd.prog 9 #[.slice a n c, .slice a' n' c'] w0 (BoolP (Ce.sames l l') w0) := by
  have HS := Lib.hid h
  have HS' := Lib.hid h'
  clear h h'
  by_cases hnn : n = n'
  case neg =>
    have hk : ((n : Int) != (n' : Int)) = true := by simp; omega
    have HF : Hid (Ce.sames l l' = false) := Lib.hid (sames_len l l' (by rw [HS.out.1, HS'.out.1]; exact hnn))
    clear hnn
    go_enter Tryd.func9, Tryd.ntmps9
    go_wp2
    go_ret
    exact ⟨by rw [HF.out]; rfl, Below.refl _ _⟩
  subst hnn
  go_enter Tryd.func9, Tryd.ntmps9
  go_wp2
  go_loopw [5] (fun i W => ∃ k : Nat, k ≤ n ∧ i = .int .i64 (k : Int) ∧ Below w0.heap.size w0 W ∧ ∀ j, j < k → Ce.same (l.getD j Ce.c0) (l'.getD j Ce.c0) = true) (fun i _ => n - (intOf i).toNat)
  case atStart => exact ⟨0, Nat.zero_le _, rfl, Below.refl _ _, fun j hj => absurd hj (Nat.not_lt_zero _)⟩
  case round =>
    obtain ⟨k, hk, rfl, hB, hW⟩ := hrel
    have HB := Lib.hid hB
    have HW := Lib.hid hW
    clear hB hW
    by_cases hlt : k < n
    · obtain ⟨b, off, rfl, hlb, hc⟩ := HS.out.2 (by omega)
      obtain ⟨q0, q1, q2⟩ := hc k hlt
      obtain ⟨b', off', rfl, hlb', hc'⟩ := HS'.out.2 (by omega)
      obtain ⟨p0, p1, p2⟩ := hc' k hlt
      clear hc hc'
      obtain ⟨e, he⟩ : ∃ e, e = Ce.same (l.getD k Ce.c0) (l'.getD k Ce.c0) := ⟨_, rfl⟩
      have HE0 := Lib.hid he
      generalize hu : l.getD k Ce.c0 = u at *
      generalize hv : l'.getD k Ce.c0 = v at *
      have HU := Lib.hid hu
      have HV := Lib.hid hv
      clear hu hv
      have HE : Hid (Ce.same u v = e) := Lib.hid he.symm
      clear he
      obtain ⟨ak, an, ar, ai⟩ := u
      obtain ⟨bk, bn, br, bi⟩ := v
      simp only at q0 q1 q2 p0 p1 p2
      have hki : (k : Int) < (n : Int) := by omega
      go_wp2
      refine region_k () 27 (fun _ _ W => Below w0.heap.size w0 W) (VaG b off b' off' n c c' k ak an ar ai bk bn br bi e) (by kernel_rfl) (by kernel_rfl) (by kernel_rfl) rfl rfl HB.out.drew ?_ ?_
      · refine ⟨?_, ?_, ?_, ?_, ?_, ?_, ?_, ?_, ?_, ?_, trivial⟩
        · intro x D a w hI hdep hD0 K hK
          have e0 : a.eval (.tmp 0) = .slice (some ⟨b, off, none⟩) n c := hI.read 0 rfl
          refine ok_value (wanted_none rfl) (v := .slice (some ⟨b, off, none⟩) n c) ?_ (hK x _ _ (hI.world) (fun _ _ _ h => h) rfl)
          have ec : ∀ c, a.eval (.const c) = c := fun _ => rfl
          have ef : ∀ f, a.eval (.func f) = .func (.func f) #[] #[] := fun _ => rfl
          clear hI hdep hK
          generalize a.eval = ρ at e0 ec ef ⊢
          go_simp
        · intro x D a w hI hdep hD0 K hK
          have e5 : a.eval (.tmp 5) = .int .i64 (k : Int) := hI.read 5 rfl
          refine ok_value (wanted_none rfl) (v := .int .i64 (k : Int)) ?_ (hK x _ _ (hI.world) (fun _ _ _ h => h) rfl)
          have ec : ∀ c, a.eval (.const c) = c := fun _ => rfl
          have ef : ∀ f, a.eval (.func f) = .func (.func f) #[] #[] := fun _ => rfl
          clear hI hdep hK
          generalize a.eval = ρ at e5 ec ef ⊢
          go_simp
        · intro x D a w hI hdep hD0 K hK
          have e17 : a.eval (.tmp 17) = .slice (some ⟨b, off, none⟩) n c := hI.good 0 17 (dep_of hdep 0 rfl) rfl
          have e18 : a.eval (.tmp 18) = .int .i64 (k : Int) := hI.good 1 18 (dep_of hdep 1 rfl) rfl
          refine ok_value (wanted_none rfl) (v := .pointer (some ⟨b, off + k * 3, none⟩)) ?_ (hK x _ _ (hI.world) (fun _ _ _ h => h) rfl)
          have ec : ∀ c, a.eval (.const c) = c := fun _ => rfl
          have ef : ∀ f, a.eval (.func f) = .func (.func f) #[] #[] := fun _ => rfl
          clear hI hdep hK
          generalize a.eval = ρ at e17 e18 ec ef ⊢
          go_simp
        · intro x D a w hI hdep hD0 K hK
          have e19 : a.eval (.tmp 19) = .pointer (some ⟨b, off + k * 3, none⟩) := hI.good 2 19 (dep_of hdep 2 rfl) rfl
          have x0 := (hI.world.cell (p := ⟨b, off + k * 3, none⟩) hlb).trans q0
          have x1 := (hI.world.cell (p := ⟨b, off + k * 3 + 1, none⟩) hlb).trans q1
          have x2 := (hI.world.cell (p := ⟨b, off + k * 3 + 2, none⟩) hlb).trans q2
          refine ok_value (wanted_none rfl) (v := .agg #[.int .i64 ak, .int .i64 an, .complex .f64 ar ai]) ?_ (hK x _ _ (hI.world) (fun _ _ _ h => h) rfl)
          have ec : ∀ c, a.eval (.const c) = c := fun _ => rfl
          have ef : ∀ f, a.eval (.func f) = .func (.func f) #[] #[] := fun _ => rfl
          clear hI hdep hK
          generalize a.eval = ρ at e19 ec ef ⊢
          go_simp
        · intro x D a w hI hdep hD0 K hK
          have e1 : a.eval (.tmp 1) = .slice (some ⟨b', off', none⟩) n c' := hI.read 1 rfl
          refine ok_value (wanted_none rfl) (v := .slice (some ⟨b', off', none⟩) n c') ?_ (hK x _ _ (hI.world) (fun _ _ _ h => h) rfl)
          have ec : ∀ c, a.eval (.const c) = c := fun _ => rfl
          have ef : ∀ f, a.eval (.func f) = .func (.func f) #[] #[] := fun _ => rfl
          clear hI hdep hK
          generalize a.eval = ρ at e1 ec ef ⊢
          go_simp
        · intro x D a w hI hdep hD0 K hK
          have e5 : a.eval (.tmp 5) = .int .i64 (k : Int) := hI.read 5 rfl
          refine ok_value (wanted_none rfl) (v := .int .i64 (k : Int)) ?_ (hK x _ _ (hI.world) (fun _ _ _ h => h) rfl)
          have ec : ∀ c, a.eval (.const c) = c := fun _ => rfl
          have ef : ∀ f, a.eval (.func f) = .func (.func f) #[] #[] := fun _ => rfl
          clear hI hdep hK
          generalize a.eval = ρ at e5 ec ef ⊢
          go_simp
        · intro x D a w hI hdep hD0 K hK
          have e21 : a.eval (.tmp 21) = .slice (some ⟨b', off', none⟩) n c' := hI.good 4 21 (dep_of hdep 4 rfl) rfl
          have e22 : a.eval (.tmp 22) = .int .i64 (k : Int) := hI.good 5 22 (dep_of hdep 5 rfl) rfl
          refine ok_value (wanted_none rfl) (v := .pointer (some ⟨b', off' + k * 3, none⟩)) ?_ (hK x _ _ (hI.world) (fun _ _ _ h => h) rfl)
          have ec : ∀ c, a.eval (.const c) = c := fun _ => rfl
          have ef : ∀ f, a.eval (.func f) = .func (.func f) #[] #[] := fun _ => rfl
          clear hI hdep hK
          generalize a.eval = ρ at e21 e22 ec ef ⊢
          go_simp
        · intro x D a w hI hdep hD0 K hK
          have e23 : a.eval (.tmp 23) = .pointer (some ⟨b', off' + k * 3, none⟩) := hI.good 6 23 (dep_of hdep 6 rfl) rfl
          have x0 := (hI.world.cell (p := ⟨b', off' + k * 3, none⟩) hlb').trans p0
          have x1 := (hI.world.cell (p := ⟨b', off' + k * 3 + 1, none⟩) hlb').trans p1
          have x2 := (hI.world.cell (p := ⟨b', off' + k * 3 + 2, none⟩) hlb').trans p2
          refine ok_value (wanted_none rfl) (v := .agg #[.int .i64 bk, .int .i64 bn, .complex .f64 br bi]) ?_ (hK x _ _ (hI.world) (fun _ _ _ h => h) rfl)
          have ec : ∀ c, a.eval (.const c) = c := fun _ => rfl
          have ef : ∀ f, a.eval (.func f) = .func (.func f) #[] #[] := fun _ => rfl
          clear hI hdep hK
          generalize a.eval = ρ at e23 ec ef ⊢
          go_simp
        · intro x D a w hI hdep hD0 K hK
          have e20 : a.eval (.tmp 20) = .agg #[.int .i64 ak, .int .i64 an, .complex .f64 ar ai] := hI.good 3 20 (dep_of hdep 3 rfl) rfl
          have e24 : a.eval (.tmp 24) = .agg #[.int .i64 bk, .int .i64 bn, .complex .f64 br bi] := hI.good 7 24 (dep_of hdep 7 rfl) rfl
          refine ok_call (wanted_none rfl) (f := 26) (args := #[.agg #[.int .i64 ak, .int .i64 an, .complex .f64 ar ai], .agg #[.int .i64 bk, .int .i64 bn, .complex .f64 br bi]]) ?_ (rcsame_any ⟨ak, an, ar, ai⟩ ⟨bk, bn, br, bi⟩ w) ?_
          · have ec : ∀ c, a.eval (.const c) = c := fun _ => rfl
            have ef : ∀ f, a.eval (.func f) = .func (.func f) #[] #[] := fun _ => rfl
            clear hI hdep hK
            generalize a.eval = ρ at e20 e24 ec ef ⊢
            go_simp
          · rintro e w2 ⟨rfl, hb2⟩
            exact ⟨_, rfl, hK x _ _ (hI.world.trans (hb2.mono hI.world.size)) (fun _ _ _ h => h) (by show _ = _; rw [HE.out])⟩
        · intro x D a w hI hdep hD0 K hK
          have e25 : a.eval (.tmp 25) = .bool e := hI.good 8 25 (dep_of hdep 8 rfl) rfl
          refine ok_value (wanted_none rfl) (v := .bool (!e)) ?_ (hK x _ _ (hI.world) (fun _ _ _ h => h) rfl)
          have ec : ∀ c, a.eval (.const c) = c := fun _ => rfl
          have ef : ∀ f, a.eval (.func f) = .func (.func f) #[] #[] := fun _ => rfl
          clear hI hdep hK
          generalize a.eval = ρ at e25 ec ef ⊢
          go_simp
      · intro x D a w hI hD
        have hfr := hI.frame [(17, .slice (some ⟨b, off, none⟩) n c), (18, .int .i64 (k : Int)), (19, .pointer (some ⟨b, off + k * 3, none⟩)), (20, .agg #[.int .i64 ak, .int .i64 an, .complex .f64 ar ai]), (21, .slice (some ⟨b', off', none⟩) n c'), (22, .int .i64 (k : Int)), (23, .pointer (some ⟨b', off' + k * 3, none⟩)), (24, .agg #[.int .i64 bk, .int .i64 bn, .complex .f64 br bi]), (25, .bool e), (26, .bool (!e))] (all_cons (hI.good 0 17 (hD 0 (by decide)) rfl) (all_cons (hI.good 1 18 (hD 1 (by decide)) rfl) (all_cons (hI.good 2 19 (hD 2 (by decide)) rfl) (all_cons (hI.good 3 20 (hD 3 (by decide)) rfl) (all_cons (hI.good 4 21 (hD 4 (by decide)) rfl) (all_cons (hI.good 5 22 (hD 5 (by decide)) rfl) (all_cons (hI.good 6 23 (hD 6 (by decide)) rfl) (all_cons (hI.good 7 24 (hD 7 (by decide)) rfl) (all_cons (hI.good 8 25 (hD 8 (by decide)) rfl) (all_cons (hI.good 9 26 (hD 9 (by decide)) rfl) all_nil)))))))))) rfl
        have hW := hI.world
        clear hI
        subst hfr
        simp only [List.foldl_cons, List.foldl_nil, List.setIfInBounds_toArray, List.set_cons_succ, List.set_cons_zero]
        have HB2 := Lib.hid hW
        clear hW hD q0 q1 q2 p0 p1 p2
        cases e
        · go_wp2
          go_ret
          refine ⟨?_, HB2.out⟩
          rw [sames_not l l' k (by rw [HS.out.1]; exact hlt) (by rw [HS.out.1, HS'.out.1]) (by rw [HU.out, HV.out]; exact HE0.out.symm)]
          rfl
        · go_wp2
          go_roundw
          case rel =>
            refine ⟨k + 1, hlt, by go_num, HB2.out, fun j hj => ?_⟩
            by_cases hjk : j < k
            · exact HW.out j hjk
            · obtain rfl : j = k := by omega
              rw [HU.out, HV.out]
              exact HE0.out.symm
          case measure => simp [intOf]; omega
    · have hki : decide ((k : Int) < (n : Int)) = false := decide_eq_false (by omega)
      go_wp2
      go_ret
      refine ⟨?_, HB.out⟩
      rw [sames_upto l l' (by rw [HS.out.1, HS'.out.1]) (fun j hj => HW.out j (by rw [HS.out.1] at hj; omega))]
      rfl
end Go.Proofs.YtdenboakcbipdaaDoor
