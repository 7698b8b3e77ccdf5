/-
  The walk of SigSlots. Conditions: the lists can be read.
-/
import Derived.Test.YtialigkmckpjnaaSiL
import Derived.Test.YtialigkmckpjnaaSiB
import Derived.Test.YtialigkmckpjnaaSiF
import Derived.Test.YtialigkmckpjnaaRegionK
namespace Go.Proofs.Ytialigkmckpjnaa
open Go.RowKit

/-- A function with a signature alone. -/
def fn0 (a1 : Option Addr) (n1 c1 : Nat) (a2 : Option Addr) (n2 c2 : Nat) (a3 : Option Addr) (n3 c3 : Nat) : FnV :=
  ⟨⟨#[]⟩, false, ⟨none, 0, 0⟩, ⟨a1, n1, c1⟩, ⟨a2, n2, c2⟩, ⟨a3, n3, c3⟩, ⟨none, 0, 0⟩, ⟨none, 0, 0⟩, ⟨none, 0, 0⟩, ⟨none, 0, 0⟩, ⟨none, 0, 0⟩⟩
theorem fn0_cells {w : World} {p : Nat} {a1 a2 a3 : Option Addr} {n1 c1 n2 c2 n3 c3 : Nat} (h : FnAt w p (fn0 a1 n1 c1 a2 n2 c2 a3 n3 c3)) : w.cell? ⟨p, 0, none⟩ = some (.string ⟨#[]⟩) ∧ w.cell? ⟨p, 1, none⟩ = some (.bool false) ∧ w.cell? ⟨p, 2, none⟩ = some (.slice none 0 0) ∧ w.cell? ⟨p, 3, none⟩ = some (.slice a1 n1 c1) ∧ w.cell? ⟨p, 4, none⟩ = some (.slice a2 n2 c2) ∧ w.cell? ⟨p, 5, none⟩ = some (.slice a3 n3 c3) ∧ w.cell? ⟨p, 6, none⟩ = some (.slice none 0 0) ∧ w.cell? ⟨p, 7, none⟩ = some (.slice none 0 0) ∧ w.cell? ⟨p, 8, none⟩ = some (.slice none 0 0) ∧ w.cell? ⟨p, 9, none⟩ = some (.slice none 0 0) ∧ w.cell? ⟨p, 10, none⟩ = some (.slice none 0 0) :=
  ⟨h.cell 0, h.cell 1, h.cell 2, h.cell 3, h.cell 4, h.cell 5, h.cell 6, h.cell 7, h.cell 8, h.cell 9, h.cell 10⟩

theorem rsisame_self (a a2 : Option Addr) (n c c2 : Nat) (l : List Int) (w : World) (h : IntsAt w w.heap.size a n l) (h2 : IntsAt w w.heap.size a2 n l) (hn : n ≤ 9223372036854775807) :
    Calls Try.prog 14 #[.slice a n c, .slice a2 n c2] w (BoolP true w) := by
  have H := rsisame_any a a2 n n c c2 l l w h h2 hn
  rwa [decide_eq_true rfl] at H

/-- The world while the law's last statement runs: the lists that Slots and the document's Slots told. -/
structure SlC (l : List Int) (w1 : World) (u : Value × Value) (D : Nat → Bool) (W : World) : Prop where
  base : Below w1.heap.size w1 W
  o1 : D 1 = true → ∃ A c, u.1 = .slice A l.length c ∧ IntsAt W W.heap.size A l.length l
  o3 : D 3 = true → ∃ A c, u.2 = .slice A l.length c ∧ IntsAt W W.heap.size A l.length l
section
variable {l : List Int} {w1 : World} {u : Value × Value} {D : Nat → Bool} {W : World}
theorem SlC.up (h : SlC l w1 u D W) {i : Nat} (h1 : (1 == i) = false) (h3 : (3 == i) = false) : SlC l w1 u (add D i) W :=
  ⟨h.base, by rw [up_other h1]; exact h.o1, by rw [up_other h3]; exact h.o3⟩
theorem SlC.below (h : SlC l w1 u D W) {W' : World} (hb : Below W.heap.size W W') : SlC l w1 u D W' :=
  ⟨h.base.trans (hb.mono h.base.size), fun e => by obtain ⟨A, c, q, i⟩ := h.o1 e; exact ⟨A, c, q, (i.below hb).more hb.size⟩, fun e => by obtain ⟨A, c, q, i⟩ := h.o3 e; exact ⟨A, c, q, (i.below hb).more hb.size⟩⟩
theorem SlC.put1 (h : SlC l w1 u D W) {W' : World} {A : Option Addr} {c : Nat} (hb : Below W.heap.size W W') (hi : IntsAt W' W'.heap.size A l.length l) : SlC l w1 (.slice A l.length c, u.2) (add D 1) W' :=
  ⟨(h.below hb).base, fun _ => ⟨A, c, rfl, hi⟩, by rw [up_other rfl]; exact (h.below hb).o3⟩
theorem SlC.put3 (h : SlC l w1 u D W) {W' : World} {A : Option Addr} {c : Nat} (hb : Below W.heap.size W W') (hi : IntsAt W' W'.heap.size A l.length l) : SlC l w1 (u.1, .slice A l.length c) (add D 3) W' :=
  ⟨(h.below hb).base, by rw [up_other rfl]; exact (h.below hb).o1, fun _ => ⟨A, c, rfl, hi⟩⟩
end

def SlG (_p : Nat) (a1 : Option Addr) (n1 c1 : Nat) (a2 : Option Addr) (n2 c2 : Nat) (a3 : Option Addr) (n3 c3 : Nat) (u : Value × Value) : Nat → Value → Prop
  | 0, v => v = .agg #[.string ⟨#[]⟩, .bool false, .slice none 0 0, .slice a1 n1 c1, .slice a2 n2 c2, .slice a3 n3 c3, .slice none 0 0, .slice none 0 0, .slice none 0 0, .slice none 0 0, .slice none 0 0]
  | 1, v => v = u.1
  | 2, v => v = .agg #[.string ⟨#[]⟩, .bool false, .slice none 0 0, .slice a1 n1 c1, .slice a2 n2 c2, .slice a3 n3 c3, .slice none 0 0, .slice none 0 0, .slice none 0 0, .slice none 0 0, .slice none 0 0]
  | 3, v => v = u.2
  | 4, v => v = .bool true
  | 5, v => v = .bool true
  | 6, v => v = .agg #[.string ⟨#[]⟩, .bool false, .slice none 0 0, .slice a1 n1 c1, .slice a2 n2 c2, .slice a3 n3 c3, .slice none 0 0, .slice none 0 0, .slice none 0 0, .slice none 0 0, .slice none 0 0]
  | 7, v => v = .int .i64 (n1 : Int)
  | 8, v => v = .slice a1 n1 c1
  | 9, v => v = .int .i64 (n1 : Int)
  | 10, v => v = .bool true
  | 11, v => v = .bool true
  | 12, v => v = .bool true
  | 13, v => v = .bool true
  | 14, v => v = .bool true
  | 15, v => v = .bool true
  | _, _ => True

theorem SlG_put1 {p : Nat} {a1 a2 a3 : Option Addr} {n1 c1 n2 c2 n3 c3 : Nat} {u : Value × Value} {v z : Value} {D : Nat → Bool} {j : Nat} (hD0 : D 1 = false) (hj : D j = true) (h : SlG p a1 n1 c1 a2 n2 c2 a3 n3 c3 u j z) : SlG p a1 n1 c1 a2 n2 c2 a3 n3 c3 (v, u.2) j z := by
  by_cases e : j = 1
  · subst e
    rw [hD0] at hj
    cases hj
  · unfold SlG at h ⊢
    split at h <;> first | exact h | exact absurd rfl e

theorem SlG_put3 {p : Nat} {a1 a2 a3 : Option Addr} {n1 c1 n2 c2 n3 c3 : Nat} {u : Value × Value} {v z : Value} {D : Nat → Bool} {j : Nat} (hD0 : D 3 = false) (hj : D j = true) (h : SlG p a1 n1 c1 a2 n2 c2 a3 n3 c3 u j z) : SlG p a1 n1 c1 a2 n2 c2 a3 n3 c3 (u.1, v) j z := by
  by_cases e : j = 3
  · subst e
    rw [hD0] at hj
    cases hj
  · unfold SlG at h ⊢
    split at h <;> first | exact h | exact absurd rfl e

set_option maxHeartbeats 8000000 in
set_option maxRecDepth 100000 in
theorem sigSlots_walk (s1 s2 s3 : Sl3) (l1 l2 l3 : List Int) (w : World) (h1 : TyAt w w.heap.size s1 l1) (h2 : TyAt w w.heap.size s2 l2) (h3 : TyAt w w.heap.size s3 l3) : Calls Try.prog 5 #[s1.val, s2.val, s3.val] w (BoolP true w) := by
  have e1 : l1.length = s1.n := h1.1.1
  have e2 : l2.length = s2.n := h2.1.1
  have e3 : l3.length = s3.n := h3.1.1
  have H1 := Lib.hid h1
  have H2 := Lib.hid h2
  have H3 := Lib.hid h3
  clear h1 h2 h3
  obtain ⟨a1, n1, c1⟩ := s1
  obtain ⟨a2, n2, c2⟩ := s2
  obtain ⟨a3, n3, c3⟩ := s3
  dsimp only at e1 e2 e3
  show Calls Try.prog 5 #[.slice a1 n1 c1, .slice a2 n2 c2, .slice a3 n3 c3] w (BoolP true w)
  have HE := Lib.hid (And.intro e1 (And.intro e2 e3))
  clear e1 e2 e3
  by_cases hb1 : n1 ≤ 100
  · by_cases hb2 : n2 ≤ 100
    · by_cases hb3 : n3 ≤ 100
      · have d1 : decide (100 < (n1 : Int)) = false := decide_eq_false (by omega)
        have d2 : decide (100 < (n2 : Int)) = false := decide_eq_false (by omega)
        have d3 : decide (100 < (n3 : Int)) = false := decide_eq_false (by omega)
        go_enter Try.func5, Try.ntmps5
        go_wp2
        have hF0 : FnAt (w.alloc (.cells (fn0 a1 n1 c1 a2 n2 c2 a3 n3 c3).cells 42)) w.heap.size (fn0 a1 n1 c1 a2 n2 c2 a3 n3 c3) := FnAt.new w _
        have b0 : Below w.heap.size w (w.alloc (.cells (fn0 a1 n1 c1 a2 n2 c2 a3 n3 c3).cells 42)) := (Below.refl w.heap.size w).alloc (Nat.le_refl _) _
        have T1 := Lib.hid (H1.out.on b0)
        have T2 := Lib.hid (H2.out.on b0)
        have T3 := Lib.hid (H3.out.on b0)
        have HB := Lib.hid b0
        rw [show (fn0 a1 n1 c1 a2 n2 c2 a3 n3 c3).cells = #[.string ⟨#[]⟩, .bool false, .slice none 0 0, .slice a1 n1 c1, .slice a2 n2 c2, .slice a3 n3 c3, .slice none 0 0, .slice none 0 0, .slice none 0 0, .slice none 0 0, .slice none 0 0] from rfl] at hF0 T1 T2 T3 HB
        have hlp := hF0.lt
        have hF := hF0
        obtain ⟨l, hll⟩ : ∃ l, l1 ++ l2 ++ l3 = l := ⟨_, rfl⟩
        have hlen : l1.length + l2.length + l3.length ≤ 300 := by have h := HE.out; omega
        have hlen2 : l.length ≤ 300 := by rw [← hll, List.length_append, List.length_append]; exact hlen
        have HLL := Lib.hid hll
        have hnn : ((n1 : Int) == (n1 : Int)) = true := beq_self_eq_true _
        clear hF0 b0 H1 H2 H3 hll d1 d2 d3
        generalize w.alloc (.cells #[.string ⟨#[]⟩, .bool false, .slice none 0 0, .slice a1 n1 c1, .slice a2 n2 c2, .slice a3 n3 c3, .slice none 0 0, .slice none 0 0, .slice none 0 0, .slice none 0 0, .slice none 0 0] 42) = w1 at *
        obtain ⟨p, hp⟩ : ∃ p, w.heap.size = p := ⟨_, rfl⟩
        rw [hp] at hF hlp ⊢
        have HP := Lib.hid hp
        clear hp
        have hS : SlC l w1 (undef, undef) (fun _ => false) w1.drew := ⟨(Below.refl _ _).drew, (fun e => by cases e), (fun e => by cases e)⟩
        refine region_k (undef, undef) 41 (fun u D W => SlC l w1 u D W) (SlG p a1 n1 c1 a2 n2 c2 a3 n3 c3) (by kernel_rfl) (by kernel_rfl) (by kernel_rfl) rfl rfl hS ?_ ?_
        · refine ⟨?_, ?_, ?_, ?_, ?_, ?_, ?_, ?_, ?_, ?_, ?_, ?_, ?_, ?_, ?_, ?_, trivial⟩
          · intro u D a w hI hdep hD0 K hK
            have e7 : a.eval (.tmp 7) = .pointer (some ⟨p, 0, none⟩) := hI.read 7 rfl
            obtain ⟨x0, x1, x2, x3, x4, x5, x6, x7, x8, x9, x10⟩ := fn0_cells (hF.below hI.world.base hlp)
            refine ok_value (wanted_none rfl) (v := .agg #[.string ⟨#[]⟩, .bool false, .slice none 0 0, .slice a1 n1 c1, .slice a2 n2 c2, .slice a3 n3 c3, .slice none 0 0, .slice none 0 0, .slice none 0 0, .slice none 0 0, .slice none 0 0]) ?_ (hK u _ _ (hI.world.up rfl rfl) (fun _ _ _ h => h) rfl)
            have ec : ∀ c, a.eval (.const c) = c := fun _ => rfl
            have ef : ∀ f, a.eval (.func f) = .func (.func f) #[] #[] := fun _ => rfl
            clear hI hdep hK
            generalize a.eval = ρ at e7 ec ef ⊢
            go_simp
          · intro u D a w hI hdep hD0 K hK
            have e26 : a.eval (.tmp 26) = .agg #[.string ⟨#[]⟩, .bool false, .slice none 0 0, .slice a1 n1 c1, .slice a2 n2 c2, .slice a3 n3 c3, .slice none 0 0, .slice none 0 0, .slice none 0 0, .slice none 0 0, .slice none 0 0] := hI.good 0 26 (dep_of hdep 0 rfl) rfl
            refine ok_call (wanted_none rfl) (f := 19) (args := #[.agg #[.string ⟨#[]⟩, .bool false, .slice none 0 0, .slice a1 n1 c1, .slice a2 n2 c2, .slice a3 n3 c3, .slice none 0 0, .slice none 0 0, .slice none 0 0, .slice none 0 0, .slice none 0 0]]) ?_ (sislots_any (fn0 a1 n1 c1 a2 n2 c2 a3 n3 c3) l1 l2 l3 w (T1.out.on hI.world.base) (T2.out.on hI.world.base) (T3.out.on hI.world.base) (by omega)) ?_
            · have ec : ∀ c, a.eval (.const c) = c := fun _ => rfl
              have ef : ∀ f, a.eval (.func f) = .func (.func f) #[] #[] := fun _ => rfl
              clear hI hdep hK
              generalize a.eval = ρ at e26 ec ef ⊢
              go_simp
            · rintro e w2 ⟨A, c, rfl, hi, hb⟩
              rw [HLL.out] at hi ⊢
              exact ⟨_, rfl, hK (.slice A l.length c, u.2) _ _ (hI.world.put1 hb hi) (fun j z hj h => SlG_put1 hD0 hj h) rfl⟩
          · intro u D a w hI hdep hD0 K hK
            have e7 : a.eval (.tmp 7) = .pointer (some ⟨p, 0, none⟩) := hI.read 7 rfl
            obtain ⟨x0, x1, x2, x3, x4, x5, x6, x7, x8, x9, x10⟩ := fn0_cells (hF.below hI.world.base hlp)
            refine ok_value (wanted_none rfl) (v := .agg #[.string ⟨#[]⟩, .bool false, .slice none 0 0, .slice a1 n1 c1, .slice a2 n2 c2, .slice a3 n3 c3, .slice none 0 0, .slice none 0 0, .slice none 0 0, .slice none 0 0, .slice none 0 0]) ?_ (hK u _ _ (hI.world.up rfl rfl) (fun _ _ _ h => h) rfl)
            have ec : ∀ c, a.eval (.const c) = c := fun _ => rfl
            have ef : ∀ f, a.eval (.func f) = .func (.func f) #[] #[] := fun _ => rfl
            clear hI hdep hK
            generalize a.eval = ρ at e7 ec ef ⊢
            go_simp
          · intro u D a w hI hdep hD0 K hK
            have e28 : a.eval (.tmp 28) = .agg #[.string ⟨#[]⟩, .bool false, .slice none 0 0, .slice a1 n1 c1, .slice a2 n2 c2, .slice a3 n3 c3, .slice none 0 0, .slice none 0 0, .slice none 0 0, .slice none 0 0, .slice none 0 0] := hI.good 2 28 (dep_of hdep 2 rfl) rfl
            refine ok_call (wanted_none rfl) (f := 20) (args := #[.agg #[.string ⟨#[]⟩, .bool false, .slice none 0 0, .slice a1 n1 c1, .slice a2 n2 c2, .slice a3 n3 c3, .slice none 0 0, .slice none 0 0, .slice none 0 0, .slice none 0 0, .slice none 0 0]]) ?_ (rsislots_any (fn0 a1 n1 c1 a2 n2 c2 a3 n3 c3) l1 l2 l3 w (T1.out.on hI.world.base) (T2.out.on hI.world.base) (T3.out.on hI.world.base) (by omega)) ?_
            · have ec : ∀ c, a.eval (.const c) = c := fun _ => rfl
              have ef : ∀ f, a.eval (.func f) = .func (.func f) #[] #[] := fun _ => rfl
              clear hI hdep hK
              generalize a.eval = ρ at e28 ec ef ⊢
              go_simp
            · rintro e w2 ⟨A, c, rfl, hi, hb⟩
              rw [HLL.out] at hi ⊢
              exact ⟨_, rfl, hK (u.1, .slice A l.length c) _ _ (hI.world.put3 hb hi) (fun j z hj h => SlG_put3 hD0 hj h) rfl⟩
          · intro u D a w hI hdep hD0 K hK
            have e27 := hI.good 1 27 (dep_of hdep 1 rfl) rfl
            have e29 := hI.good 3 29 (dep_of hdep 3 rfl) rfl
            have h1 := dep_of hdep 1 rfl
            have h3 := dep_of hdep 3 rfl
            obtain ⟨A1, k1, y1, i1⟩ := hI.world.o1 h1
            obtain ⟨A3, k3, y3, i3⟩ := hI.world.o3 h3
            have e27 : a.eval (.tmp 27) = .slice A1 l.length k1 := Eq.trans e27 y1
            have e29 : a.eval (.tmp 29) = .slice A3 l.length k3 := Eq.trans e29 y3
            refine ok_call (wanted_none rfl) (f := 14) (args := #[.slice A1 l.length k1, .slice A3 l.length k3]) ?_ (rsisame_self A1 A3 l.length k1 k3 l w i1 i3 (by omega)) ?_
            · have ec : ∀ c, a.eval (.const c) = c := fun _ => rfl
              have ef : ∀ f, a.eval (.func f) = .func (.func f) #[] #[] := fun _ => rfl
              clear hI hdep hK
              generalize a.eval = ρ at e27 e29 ec ef ⊢
              go_simp
            · rintro e w2 ⟨rfl, hb2⟩
              exact ⟨_, rfl, hK u _ _ ((hI.world.up rfl rfl).below hb2) (fun _ _ _ h => h) rfl⟩
          · intro u D a w hI hdep hD0 K hK
            have e30 : a.eval (.tmp 30) = .bool true := hI.good 4 30 (dep_of hdep 4 rfl) rfl
            refine ok_value (wanted_none rfl) (v := .bool true) ?_ (hK u _ _ (hI.world.up rfl rfl) (fun _ _ _ h => h) rfl)
            have ec : ∀ c, a.eval (.const c) = c := fun _ => rfl
            have ef : ∀ f, a.eval (.func f) = .func (.func f) #[] #[] := fun _ => rfl
            clear hI hdep hK
            generalize a.eval = ρ at e30 ec ef ⊢
            go_simp
          · intro u D a w hI hdep hD0 K hK
            have eg : a.eval (.tmp 31) = .bool true := hI.good 5 31 (dep_of hdep 5 rfl) rfl
            have e7 : a.eval (.tmp 7) = .pointer (some ⟨p, 0, none⟩) := hI.read 7 rfl
            obtain ⟨x0, x1, x2, x3, x4, x5, x6, x7, x8, x9, x10⟩ := fn0_cells (hF.below hI.world.base hlp)
            refine ok_value (wanted_is rfl rfl hI.size (by simp) eg) (v := .agg #[.string ⟨#[]⟩, .bool false, .slice none 0 0, .slice a1 n1 c1, .slice a2 n2 c2, .slice a3 n3 c3, .slice none 0 0, .slice none 0 0, .slice none 0 0, .slice none 0 0, .slice none 0 0]) ?_ (hK u _ _ (hI.world.up rfl rfl) (fun _ _ _ h => h) rfl)
            have ec : ∀ c, a.eval (.const c) = c := fun _ => rfl
            have ef : ∀ f, a.eval (.func f) = .func (.func f) #[] #[] := fun _ => rfl
            clear hI hdep hK
            generalize a.eval = ρ at eg e7 ec ef ⊢
            go_simp
          · intro u D a w hI hdep hD0 K hK
            have eg : a.eval (.tmp 31) = .bool true := hI.good 5 31 (dep_of hdep 5 rfl) rfl
            have e32 : a.eval (.tmp 32) = .agg #[.string ⟨#[]⟩, .bool false, .slice none 0 0, .slice a1 n1 c1, .slice a2 n2 c2, .slice a3 n3 c3, .slice none 0 0, .slice none 0 0, .slice none 0 0, .slice none 0 0, .slice none 0 0] := hI.good 6 32 (dep_of hdep 6 rfl) rfl
            refine ok_call (wanted_is rfl rfl hI.size (by simp) eg) (f := 21) (args := #[.agg #[.string ⟨#[]⟩, .bool false, .slice none 0 0, .slice a1 n1 c1, .slice a2 n2 c2, .slice a3 n3 c3, .slice none 0 0, .slice none 0 0, .slice none 0 0, .slice none 0 0, .slice none 0 0]]) ?_ (sifirst_any (fn0 a1 n1 c1 a2 n2 c2 a3 n3 c3) w) ?_
            · have ec : ∀ c, a.eval (.const c) = c := fun _ => rfl
              have ef : ∀ f, a.eval (.func f) = .func (.func f) #[] #[] := fun _ => rfl
              clear hI hdep hK
              generalize a.eval = ρ at eg e32 ec ef ⊢
              go_simp
            · rintro e w2 ⟨rfl, hb2⟩
              exact ⟨_, rfl, hK u _ _ ((hI.world.up rfl rfl).below hb2) (fun _ _ _ h => h) rfl⟩
          · intro u D a w hI hdep hD0 K hK
            have eg : a.eval (.tmp 31) = .bool true := hI.good 5 31 (dep_of hdep 5 rfl) rfl
            have e0 : a.eval (.tmp 0) = .slice a1 n1 c1 := hI.read 0 rfl
            refine ok_value (wanted_is rfl rfl hI.size (by simp) eg) (v := .slice a1 n1 c1) ?_ (hK u _ _ (hI.world.up rfl rfl) (fun _ _ _ h => h) rfl)
            have ec : ∀ c, a.eval (.const c) = c := fun _ => rfl
            have ef : ∀ f, a.eval (.func f) = .func (.func f) #[] #[] := fun _ => rfl
            clear hI hdep hK
            generalize a.eval = ρ at eg e0 ec ef ⊢
            go_simp
          · intro u D a w hI hdep hD0 K hK
            have eg : a.eval (.tmp 31) = .bool true := hI.good 5 31 (dep_of hdep 5 rfl) rfl
            have e34 : a.eval (.tmp 34) = .slice a1 n1 c1 := hI.good 8 34 (dep_of hdep 8 rfl) rfl
            refine ok_value (wanted_is rfl rfl hI.size (by simp) eg) (v := .int .i64 (n1 : Int)) ?_ (hK u _ _ (hI.world.up rfl rfl) (fun _ _ _ h => h) rfl)
            have ec : ∀ c, a.eval (.const c) = c := fun _ => rfl
            have ef : ∀ f, a.eval (.func f) = .func (.func f) #[] #[] := fun _ => rfl
            clear hI hdep hK
            generalize a.eval = ρ at eg e34 ec ef ⊢
            go_simp
          · intro u D a w hI hdep hD0 K hK
            have eg : a.eval (.tmp 31) = .bool true := hI.good 5 31 (dep_of hdep 5 rfl) rfl
            have e33 : a.eval (.tmp 33) = .int .i64 (n1 : Int) := hI.good 7 33 (dep_of hdep 7 rfl) rfl
            have e35 : a.eval (.tmp 35) = .int .i64 (n1 : Int) := hI.good 9 35 (dep_of hdep 9 rfl) rfl
            refine ok_value (wanted_is rfl rfl hI.size (by simp) eg) (v := .bool true) ?_ (hK u _ _ (hI.world.up rfl rfl) (fun _ _ _ h => h) rfl)
            have ec : ∀ c, a.eval (.const c) = c := fun _ => rfl
            have ef : ∀ f, a.eval (.func f) = .func (.func f) #[] #[] := fun _ => rfl
            clear hI hdep hK
            generalize a.eval = ρ at eg e33 e35 ec ef ⊢
            go_simp
          · intro u D a w hI hdep hD0 K hK
            have e31 : a.eval (.tmp 31) = .bool true := hI.good 5 31 (dep_of hdep 5 rfl) rfl
            have e36 : a.eval (.tmp 36) = .bool true := hI.good 10 36 (dep_of hdep 10 rfl) rfl
            refine ok_value (wanted_none rfl) (v := .bool true) ?_ (hK u _ _ (hI.world.up rfl rfl) (fun _ _ _ h => h) rfl)
            have ec : ∀ c, a.eval (.const c) = c := fun _ => rfl
            have ef : ∀ f, a.eval (.func f) = .func (.func f) #[] #[] := fun _ => rfl
            clear hI hdep hK
            generalize a.eval = ρ at e31 e36 ec ef ⊢
            go_simp
          · intro u D a w hI hdep hD0 K hK
            have e37 : a.eval (.tmp 37) = .bool true := hI.good 11 37 (dep_of hdep 11 rfl) rfl
            refine ok_value (wanted_none rfl) (v := .bool true) ?_ (hK u _ _ (hI.world.up rfl rfl) (fun _ _ _ h => h) rfl)
            have ec : ∀ c, a.eval (.const c) = c := fun _ => rfl
            have ef : ∀ f, a.eval (.func f) = .func (.func f) #[] #[] := fun _ => rfl
            clear hI hdep hK
            generalize a.eval = ρ at e37 ec ef ⊢
            go_simp
          · intro u D a w hI hdep hD0 K hK
            have eg : a.eval (.tmp 38) = .bool true := hI.good 12 38 (dep_of hdep 12 rfl) rfl
            refine ok_call (wanted_is rfl rfl hI.size (by simp) eg) (f := 6) (args := #[]) ?_ (lives11_any w) ?_
            · have ec : ∀ c, a.eval (.const c) = c := fun _ => rfl
              have ef : ∀ f, a.eval (.func f) = .func (.func f) #[] #[] := fun _ => rfl
              clear hI hdep hK
              generalize a.eval = ρ at eg ec ef ⊢
              go_simp
            · rintro e w2 ⟨rfl, hb2⟩
              exact ⟨_, rfl, hK u _ _ ((hI.world.up rfl rfl).below hb2) (fun _ _ _ h => h) rfl⟩
          · intro u D a w hI hdep hD0 K hK
            have e38 : a.eval (.tmp 38) = .bool true := hI.good 12 38 (dep_of hdep 12 rfl) rfl
            have e39 : a.eval (.tmp 39) = .bool true := hI.good 13 39 (dep_of hdep 13 rfl) rfl
            refine ok_value (wanted_none rfl) (v := .bool true) ?_ (hK u _ _ (hI.world.up rfl rfl) (fun _ _ _ h => h) rfl)
            have ec : ∀ c, a.eval (.const c) = c := fun _ => rfl
            have ef : ∀ f, a.eval (.func f) = .func (.func f) #[] #[] := fun _ => rfl
            clear hI hdep hK
            generalize a.eval = ρ at e38 e39 ec ef ⊢
            go_simp
          · intro u D a w hI hdep hD0 K hK
            have e40 : a.eval (.tmp 40) = .bool true := hI.good 14 40 (dep_of hdep 14 rfl) rfl
            refine ok_value (wanted_none rfl) (v := .bool true) ?_ (hK u _ _ (hI.world.up rfl rfl) (fun _ _ _ h => h) rfl)
            have ec : ∀ c, a.eval (.const c) = c := fun _ => rfl
            have ef : ∀ f, a.eval (.func f) = .func (.func f) #[] #[] := fun _ => rfl
            clear hI hdep hK
            generalize a.eval = ρ at e40 ec ef ⊢
            go_simp
        · intro u D a w2 hI hD
          have hfr := hI.frame [(26, .agg #[.string ⟨#[]⟩, .bool false, .slice none 0 0, .slice a1 n1 c1, .slice a2 n2 c2, .slice a3 n3 c3, .slice none 0 0, .slice none 0 0, .slice none 0 0, .slice none 0 0, .slice none 0 0]), (27, u.1), (28, .agg #[.string ⟨#[]⟩, .bool false, .slice none 0 0, .slice a1 n1 c1, .slice a2 n2 c2, .slice a3 n3 c3, .slice none 0 0, .slice none 0 0, .slice none 0 0, .slice none 0 0, .slice none 0 0]), (29, u.2), (30, .bool true), (31, .bool true), (32, .agg #[.string ⟨#[]⟩, .bool false, .slice none 0 0, .slice a1 n1 c1, .slice a2 n2 c2, .slice a3 n3 c3, .slice none 0 0, .slice none 0 0, .slice none 0 0, .slice none 0 0, .slice none 0 0]), (33, .int .i64 (n1 : Int)), (34, .slice a1 n1 c1), (35, .int .i64 (n1 : Int)), (36, .bool true), (37, .bool true), (38, .bool true), (39, .bool true), (40, .bool true), (6, .bool true)] (all_cons (hI.good 0 26 (hD 0 (by decide)) rfl) (all_cons (hI.good 1 27 (hD 1 (by decide)) rfl) (all_cons (hI.good 2 28 (hD 2 (by decide)) rfl) (all_cons (hI.good 3 29 (hD 3 (by decide)) rfl) (all_cons (hI.good 4 30 (hD 4 (by decide)) rfl) (all_cons (hI.good 5 31 (hD 5 (by decide)) rfl) (all_cons (hI.good 6 32 (hD 6 (by decide)) rfl) (all_cons (hI.good 7 33 (hD 7 (by decide)) rfl) (all_cons (hI.good 8 34 (hD 8 (by decide)) rfl) (all_cons (hI.good 9 35 (hD 9 (by decide)) rfl) (all_cons (hI.good 10 36 (hD 10 (by decide)) rfl) (all_cons (hI.good 11 37 (hD 11 (by decide)) rfl) (all_cons (hI.good 12 38 (hD 12 (by decide)) rfl) (all_cons (hI.good 13 39 (hD 13 (by decide)) rfl) (all_cons (hI.good 14 40 (hD 14 (by decide)) rfl) (all_cons (hI.good 15 6 (hD 15 (by decide)) rfl) all_nil)))))))))))))))) rfl
          have hW := hI.world
          clear hI
          subst hfr
          simp only [List.foldl_cons, List.foldl_nil, List.setIfInBounds_toArray, List.set_cons_succ, List.set_cons_zero]
          have HB2 := Lib.hid (below_self HB.out hW.base)
          generalize u.1 = u1 at *
          generalize u.2 = u2 at *
          clear hW hD hS hF hlp
          go_wp2
          go_ret
          exact ⟨rfl, HB2.out⟩
      · have d1 : decide (100 < (n1 : Int)) = false := decide_eq_false (by omega)
        have d2 : decide (100 < (n2 : Int)) = false := decide_eq_false (by omega)
        have d3 : 100 < (n3 : Int) := by omega
        go_enter Try.func5, Try.ntmps5
        go_wp2_with (go_at_call 6; refine (lives11_any _).mono ?_; rintro _ w4 ⟨rfl, b4⟩)
        go_ret
        exact ⟨rfl, b4⟩
    · have d1 : decide (100 < (n1 : Int)) = false := decide_eq_false (by omega)
      have d2 : 100 < (n2 : Int) := by omega
      go_enter Try.func5, Try.ntmps5
      go_wp2_with (go_at_call 6; refine (lives11_any _).mono ?_; rintro _ w4 ⟨rfl, b4⟩)
      go_ret
      exact ⟨rfl, b4⟩
  · have d1 : 100 < (n1 : Int) := by omega
    go_enter Try.func5, Try.ntmps5
    go_wp2_with (go_at_call 6; refine (lives11_any _).mono ?_; rintro _ w4 ⟨rfl, b4⟩)
    go_ret
    exact ⟨rfl, b4⟩
end Go.Proofs.Ytialigkmckpjnaa
