/-
  The way of the law's 'one' that takes a Num: both cursors tell the same, and go on alike. Conditions: none.
-/
import Derived.Test.YtblelhffghcffaaOneC
namespace Go.Proofs.Ytblelhffghcffaa
open Go.RowKit

def OneG0 (g p5 : Nat) (m : Int) (x v : Value) : Nat → Value → Prop
  | 0, u => u = x
  | 1, u => u = .pointer (some ⟨g, 0, none⟩)
  | 2, u => u = .pointer (some ⟨p5, 1, none⟩)
  | 3, u => u = .int .i64 m
  | 4, u | 5, u => u = v
  | 7, _ => True
  | _, u => u = .bool true

set_option maxHeartbeats 2000000 in
set_option maxRecDepth 100000 in
theorem one_0 (g : Nat) (A : Option Addr) (n c B : Nat) (s : List Nat × Nat) (k m : Int) (w0 : World) (hc : Cur w0 g s) (hd : Dat w0 B A n c s) (hBg : B ≤ g) (h1 : -9223372036854775808 ≤ m) (h2 : m ≤ 9223372036854775807) (t0 : (k.tmod 6 == 0) = true) :
    Calls Try.prog 7 #[.pointer (some ⟨g, 0, none⟩), .agg #[.slice A n c, .int .i64 (s.2 : Int)], .agg #[.int .i64 k, .int .i64 m]] w0 (OnePost g B w0) := by
  have hs := hc.nil
  have hlt := hc.lt
  have HR := Lib.hid (fun W (hb : Below B w0 W) (hW : B ≤ W.heap.size) => rNum_any A n c B s m W (hd.below hb) hs hW h1 h2)
  have HC := Lib.hid (fun W (h : Cur W g s) => num_any (some ⟨g, 0, none⟩) s m W (.inr ⟨g, rfl, h⟩) h1 h2)
  have HW := Lib.hid hc
  generalize (numA s m).1 = v at *
  generalize (numA s m).2 = s' at *
  clear hd hc hs
  generalize hse : s.2 = e0 at *
  clear hse
  go_enter Try.func7, Try.ntmps7
  go_wp2_with fail
  refine (HR.out _ ((((Below.refl _ _).alloc (by omega) _).alloc (by simp; omega) _).alloc (by simp; omega) _) (by simp; omega)).mono ?_
  rintro r w1 ⟨A1, n1, c1, rfl, hd1, hbl⟩
  have HI := Lib.hid (one_start (ci := 4) (si := 7) (by decide) HW.out hd1 hbl hBg)
  clear hd1 hbl HR HW
  go_wp2
  refine region_d 99 [(0, .pointer (some ⟨g, 0, none⟩)), (5, .pointer (some ⟨w0.heap.size + 1, 0, none⟩)), (6, .pointer (some ⟨w0.heap.size + 1 + 1, 0, none⟩)), (8, .int .i64 (v : Int)), (9, .pointer (some ⟨w1.heap.size, 0, none⟩))] (OneC 4 7 w0 g B (w0.heap.size + 1) (w0.heap.size + 1 + 1) w1.heap.size s s' k m A1 n1 c1) (OneG0 g (w0.heap.size + 1) m (.agg #[.slice A1 n1 c1, .int .i64 (s'.2 : Int)]) (.int .i64 (v : Int))) (by kernel_rfl) (by kernel_rfl) (by kernel_rfl) rfl rfl (by intro p hp; simp only [List.mem_cons, List.not_mem_nil, or_false] at hp; rcases hp with rfl | rfl | rfl | rfl | rfl <;> rfl) HI.out.drew ?_ ?_
  · refine ⟨?_, ?_, ?_, ?_, ?_, ?_, ?_, ?_, ?_, trivial⟩
    · intro D a w hI hdep hD0 K hK
      have e9 : a.eval (.tmp 9) = .pointer (some ⟨w1.heap.size, 0, none⟩) := hI.fast (9, .pointer (some ⟨w1.heap.size, 0, none⟩)) (by simp)
      have x0 := hI.world.pt.c0
      have x1 := hI.world.pt.c1
      refine ok_value (wanted_none rfl) (v := .agg #[.slice A1 n1 c1, .int .i64 (s'.2 : Int)]) ?_ (hK _ _ (hI.world.up rfl rfl) rfl)
      have ec : ∀ c, a.eval (.const c) = c := fun _ => rfl
      have ef : ∀ f, a.eval (.func f) = .func (.func f) #[] #[] := fun _ => rfl
      clear hI hdep hK
      generalize a.eval = ρ at e9 ec ef ⊢
      go_simp
    · intro D a w hI hdep hD0 K hK
      have e0 : a.eval (.tmp 0) = .pointer (some ⟨g, 0, none⟩) := hI.fast (0, .pointer (some ⟨g, 0, none⟩)) (by simp)
      refine ok_value (wanted_none rfl) (v := .pointer (some ⟨g, 0, none⟩)) ?_ (hK _ _ (hI.world.up rfl rfl) rfl)
      have ec : ∀ c, a.eval (.const c) = c := fun _ => rfl
      have ef : ∀ f, a.eval (.func f) = .func (.func f) #[] #[] := fun _ => rfl
      clear hI hdep hK
      generalize a.eval = ρ at e0 ec ef ⊢
      go_simp
    · intro D a w hI hdep hD0 K hK
      have e5 : a.eval (.tmp 5) = .pointer (some ⟨w0.heap.size + 1, 0, none⟩) := hI.fast (5, .pointer (some ⟨w0.heap.size + 1, 0, none⟩)) (by simp)
      refine ok_value (wanted_none rfl) (v := .pointer (some ⟨w0.heap.size + 1, 1, none⟩)) ?_ (hK _ _ (hI.world.up rfl rfl) rfl)
      have ec : ∀ c, a.eval (.const c) = c := fun _ => rfl
      have ef : ∀ f, a.eval (.func f) = .func (.func f) #[] #[] := fun _ => rfl
      clear hI hdep hK
      generalize a.eval = ρ at e5 ec ef ⊢
      go_simp
    · intro D a w hI hdep hD0 K hK
      have e33 : a.eval (.tmp 33) = .pointer (some ⟨w0.heap.size + 1, 1, none⟩) := hI.good 2 33 (dep_of hdep 2 rfl) rfl
      have x1 := hI.world.ask.c1
      refine ok_value (wanted_none rfl) (v := .int .i64 m) ?_ (hK _ _ (hI.world.up rfl rfl) rfl)
      have ec : ∀ c, a.eval (.const c) = c := fun _ => rfl
      have ef : ∀ f, a.eval (.func f) = .func (.func f) #[] #[] := fun _ => rfl
      clear hI hdep hK
      generalize a.eval = ρ at e33 ec ef ⊢
      go_simp
    · intro D a w hI hdep hD0 K hK
      have e32 : a.eval (.tmp 32) = .pointer (some ⟨g, 0, none⟩) := hI.good 1 32 (dep_of hdep 1 rfl) rfl
      have e34 : a.eval (.tmp 34) = .int .i64 m := hI.good 3 34 (dep_of hdep 3 rfl) rfl
      refine ok_call (wanted_none rfl) (f := 19) (args := #[.pointer (some ⟨g, 0, none⟩), .int .i64 m]) ?_ (HC.out w (hI.world.curB hD0)) ?_
      · have ec : ∀ c, a.eval (.const c) = c := fun _ => rfl
        have ef : ∀ f, a.eval (.func f) = .func (.func f) #[] #[] := fun _ => rfl
        clear hI hdep hK
        generalize a.eval = ρ at e32 e34 ec ef ⊢
        go_simp
      · rintro e w2 ⟨rfl, hc2, ho2⟩
        exact ⟨_, rfl, hK _ _ (hI.world.called hc2 ho2) rfl⟩
    · intro D a w hI hdep hD0 K hK
      have e8 : a.eval (.tmp 8) = .int .i64 (v : Int) := hI.fast (8, .int .i64 (v : Int)) (by simp)
      refine ok_value (wanted_none rfl) (v := .int .i64 (v : Int)) ?_ (hK _ _ (hI.world.up rfl rfl) rfl)
      have ec : ∀ c, a.eval (.const c) = c := fun _ => rfl
      have ef : ∀ f, a.eval (.func f) = .func (.func f) #[] #[] := fun _ => rfl
      clear hI hdep hK
      generalize a.eval = ρ at e8 ec ef ⊢
      go_simp
    · intro D a w hI hdep hD0 K hK
      have e35 : a.eval (.tmp 35) = .int .i64 (v : Int) := hI.good 4 35 (dep_of hdep 4 rfl) rfl
      have e36 : a.eval (.tmp 36) = .int .i64 (v : Int) := hI.good 5 36 (dep_of hdep 5 rfl) rfl
      refine ok_value (wanted_none rfl) (v := .bool true) ?_ (hK _ _ (hI.world.up rfl rfl) rfl)
      have ec : ∀ c, a.eval (.const c) = c := fun _ => rfl
      have ef : ∀ f, a.eval (.func f) = .func (.func f) #[] #[] := fun _ => rfl
      clear hI hdep hK
      generalize a.eval = ρ at e35 e36 ec ef ⊢
      go_simp
    · intro D a w hI hdep hD0 K hK
      have e31 : a.eval (.tmp 31) = .agg #[.slice A1 n1 c1, .int .i64 (s'.2 : Int)] := hI.good 0 31 (dep_of hdep 0 rfl) rfl
      have e6 : a.eval (.tmp 6) = .pointer (some ⟨w0.heap.size + 1 + 1, 0, none⟩) := hI.fast (6, .pointer (some ⟨w0.heap.size + 1 + 1, 0, none⟩)) (by simp)
      obtain ⟨x, y, ht, _⟩ := hI.world.res
      have x0 := ht.c0
      have x1 := ht.c1
      have g0 := ht.f 0
      have g1 := ht.f 1
      refine ok_store (wanted_none rfl) (w' := (w.setCell ⟨w0.heap.size + 1 + 1, 0, none⟩ (.slice A1 n1 c1)).setCell ⟨w0.heap.size + 1 + 1, 1, none⟩ (.int .i64 (s'.2 : Int))) ?_ (hK _ _ hI.world.stored trivial)
      have ec : ∀ c, a.eval (.const c) = c := fun _ => rfl
      have ef : ∀ f, a.eval (.func f) = .func (.func f) #[] #[] := fun _ => rfl
      clear hI hdep hK
      generalize a.eval = ρ at e31 e6 ec ef ⊢
      go_simp
    · intro D a w hI hdep hD0 K hK
      have e37 : a.eval (.tmp 37) = .bool true := hI.good 6 37 (dep_of hdep 6 rfl) rfl
      refine ok_value (wanted_none rfl) (v := .bool true) ?_ (hK _ _ (hI.world.up rfl rfl) rfl)
      have ec : ∀ c, a.eval (.const c) = c := fun _ => rfl
      have ef : ∀ f, a.eval (.func f) = .func (.func f) #[] #[] := fun _ => rfl
      clear hI hdep hK
      generalize a.eval = ρ at e37 ec ef ⊢
      go_simp
  · intro D a w hI hD
    have e6 : a.eval (.tmp 6) = .pointer (some ⟨w0.heap.size + 1 + 1, 0, none⟩) := hI.fast (6, .pointer (some ⟨w0.heap.size + 1 + 1, 0, none⟩)) (by simp)
    have e7 : a.eval (.tmp 7) = .bool true := hI.good 8 7 (hD 8 (by decide)) rfl
    have hd := hI.defers
    have hW := hI.world
    obtain ⟨tmps, defers⟩ := a
    simp only at hd
    subst hd
    have hci := hD 4 (by decide)
    have hsi := hD 7 (by decide)
    clear hI hD HI HC
    go_wp2
    exact one_end hW hci hsi e6 e7
end Go.Proofs.Ytblelhffghcffaa
