/-
  The way of the law's 'one' that takes a Byte: both cursors tell the same, and go on alike. Conditions: none.
-/
import Derived.Test.YtblelhffghcffaaOneC
namespace Go.Proofs.Ytblelhffghcffaa
open Go.RowKit

def OneG2 (g : Nat) (x v : Value) : Nat → Value → Prop
  | 0, u => u = x
  | 1, u => u = .pointer (some ⟨g, 0, none⟩)
  | 2, u | 3, u => u = v
  | 5, _ => True
  | _, u => u = .bool true

set_option maxHeartbeats 2000000 in
set_option maxRecDepth 100000 in
theorem one_2 (g : Nat) (A : Option Addr) (n c B : Nat) (s : List Nat × Nat) (k m : Int) (w0 : World) (hc : Cur w0 g s) (hd : Dat w0 B A n c s) (hBg : B ≤ g)  (t0 : (k.tmod 6 == 0) = false) (t1 : (k.tmod 6 == 1) = false) (t2 : (k.tmod 6 == 2) = true) :
    Calls Try.prog 7 #[.pointer (some ⟨g, 0, none⟩), .agg #[.slice A n c, .int .i64 (s.2 : Int)], .agg #[.int .i64 k, .int .i64 m]] w0 (OnePost g B w0) := by
  have hs := hc.nil
  have hlt := hc.lt
  have HR := Lib.hid (fun W (hb : Below B w0 W) (hW : B ≤ W.heap.size) => rByte_any A n c B s W (hd.below hb) hs hW)
  have HC := Lib.hid (fun W (h : Cur W g s) => byte_any (some ⟨g, 0, none⟩) s W (.inr ⟨g, rfl, h⟩))
  have HW := Lib.hid hc
  generalize (byteA s).1 = v at *
  generalize (byteA s).2 = s' at *
  clear hd hc hs
  generalize hse : s.2 = e0 at *
  clear hse
  go_enter Try.func7, Try.ntmps7
  go_wp2_with fail
  refine (HR.out _ ((((Below.refl _ _).alloc (by omega) _).alloc (by simp; omega) _).alloc (by simp; omega) _) (by simp; omega)).mono ?_
  rintro r w1 ⟨A1, n1, c1, rfl, hd1, hbl⟩
  have HI := Lib.hid (one_start (ci := 2) (si := 5) (by decide) HW.out hd1 hbl hBg)
  clear hd1 hbl HR HW
  go_wp2
  refine region_d 99 [(0, .pointer (some ⟨g, 0, none⟩)), (5, .pointer (some ⟨w0.heap.size + 1, 0, none⟩)), (6, .pointer (some ⟨w0.heap.size + 1 + 1, 0, none⟩)), (12, .int .u8 (v : Int)), (13, .pointer (some ⟨w1.heap.size, 0, none⟩))] (OneC 2 5 w0 g B (w0.heap.size + 1) (w0.heap.size + 1 + 1) w1.heap.size s s' k m A1 n1 c1) (OneG2 g (.agg #[.slice A1 n1 c1, .int .i64 (s'.2 : Int)]) (.int .u8 (v : Int))) (by kernel_rfl) (by kernel_rfl) (by kernel_rfl) rfl rfl (by intro p hp; simp only [List.mem_cons, List.not_mem_nil, or_false] at hp; rcases hp with rfl | rfl | rfl | rfl | rfl <;> rfl) HI.out.drew ?_ ?_
  · refine ⟨?_, ?_, ?_, ?_, ?_, ?_, ?_, trivial⟩
    · intro D a w hI hdep hD0 K hK
      have e13 : a.eval (.tmp 13) = .pointer (some ⟨w1.heap.size, 0, none⟩) := hI.fast (13, .pointer (some ⟨w1.heap.size, 0, none⟩)) (by simp)
      have x0 := hI.world.pt.c0
      have x1 := hI.world.pt.c1
      refine ok_value (wanted_none rfl) (v := .agg #[.slice A1 n1 c1, .int .i64 (s'.2 : Int)]) ?_ (hK _ _ (hI.world.up rfl rfl) rfl)
      have ec : ∀ c, a.eval (.const c) = c := fun _ => rfl
      have ef : ∀ f, a.eval (.func f) = .func (.func f) #[] #[] := fun _ => rfl
      clear hI hdep hK
      generalize a.eval = ρ at e13 ec ef ⊢
      go_simp
    · intro D a w hI hdep hD0 K hK
      have e0 : a.eval (.tmp 0) = .pointer (some ⟨g, 0, none⟩) := hI.fast (0, .pointer (some ⟨g, 0, none⟩)) (by simp)
      refine ok_value (wanted_none rfl) (v := .pointer (some ⟨g, 0, none⟩)) ?_ (hK _ _ (hI.world.up rfl rfl) rfl)
      have ec : ∀ c, a.eval (.const c) = c := fun _ => rfl
      have ef : ∀ f, a.eval (.func f) = .func (.func f) #[] #[] := fun _ => rfl
      clear hI hdep hK
      generalize a.eval = ρ at e0 ec ef ⊢
      go_simp
    · intro D a w hI hdep hD0 K hK
      have e58 : a.eval (.tmp 58) = .pointer (some ⟨g, 0, none⟩) := hI.good 1 58 (dep_of hdep 1 rfl) rfl
      refine ok_call (wanted_none rfl) (f := 20) (args := #[.pointer (some ⟨g, 0, none⟩)]) ?_ (HC.out w (hI.world.curB hD0)) ?_
      · have ec : ∀ c, a.eval (.const c) = c := fun _ => rfl
        have ef : ∀ f, a.eval (.func f) = .func (.func f) #[] #[] := fun _ => rfl
        clear hI hdep hK
        generalize a.eval = ρ at e58 ec ef ⊢
        go_simp
      · rintro e w2 ⟨rfl, hc2, ho2⟩
        exact ⟨_, rfl, hK _ _ (hI.world.called hc2 ho2) rfl⟩
    · intro D a w hI hdep hD0 K hK
      have e12 : a.eval (.tmp 12) = .int .u8 (v : Int) := hI.fast (12, .int .u8 (v : Int)) (by simp)
      refine ok_value (wanted_none rfl) (v := .int .u8 (v : Int)) ?_ (hK _ _ (hI.world.up rfl rfl) rfl)
      have ec : ∀ c, a.eval (.const c) = c := fun _ => rfl
      have ef : ∀ f, a.eval (.func f) = .func (.func f) #[] #[] := fun _ => rfl
      clear hI hdep hK
      generalize a.eval = ρ at e12 ec ef ⊢
      go_simp
    · intro D a w hI hdep hD0 K hK
      have e59 : a.eval (.tmp 59) = .int .u8 (v : Int) := hI.good 2 59 (dep_of hdep 2 rfl) rfl
      have e60 : a.eval (.tmp 60) = .int .u8 (v : Int) := hI.good 3 60 (dep_of hdep 3 rfl) rfl
      refine ok_value (wanted_none rfl) (v := .bool true) ?_ (hK _ _ (hI.world.up rfl rfl) rfl)
      have ec : ∀ c, a.eval (.const c) = c := fun _ => rfl
      have ef : ∀ f, a.eval (.func f) = .func (.func f) #[] #[] := fun _ => rfl
      clear hI hdep hK
      generalize a.eval = ρ at e59 e60 ec ef ⊢
      go_simp
    · intro D a w hI hdep hD0 K hK
      have e57 : a.eval (.tmp 57) = .agg #[.slice A1 n1 c1, .int .i64 (s'.2 : Int)] := hI.good 0 57 (dep_of hdep 0 rfl) rfl
      have e6 : a.eval (.tmp 6) = .pointer (some ⟨w0.heap.size + 1 + 1, 0, none⟩) := hI.fast (6, .pointer (some ⟨w0.heap.size + 1 + 1, 0, none⟩)) (by simp)
      obtain ⟨x, y, ht, _⟩ := hI.world.res
      have x0 := ht.c0
      have x1 := ht.c1
      have g0 := ht.f 0
      have g1 := ht.f 1
      refine ok_store (wanted_none rfl) (w' := (w.setCell ⟨w0.heap.size + 1 + 1, 0, none⟩ (.slice A1 n1 c1)).setCell ⟨w0.heap.size + 1 + 1, 1, none⟩ (.int .i64 (s'.2 : Int))) ?_ (hK _ _ hI.world.stored trivial)
      have ec : ∀ c, a.eval (.const c) = c := fun _ => rfl
      have ef : ∀ f, a.eval (.func f) = .func (.func f) #[] #[] := fun _ => rfl
      clear hI hdep hK
      generalize a.eval = ρ at e57 e6 ec ef ⊢
      go_simp
    · intro D a w hI hdep hD0 K hK
      have e61 : a.eval (.tmp 61) = .bool true := hI.good 4 61 (dep_of hdep 4 rfl) rfl
      refine ok_value (wanted_none rfl) (v := .bool true) ?_ (hK _ _ (hI.world.up rfl rfl) rfl)
      have ec : ∀ c, a.eval (.const c) = c := fun _ => rfl
      have ef : ∀ f, a.eval (.func f) = .func (.func f) #[] #[] := fun _ => rfl
      clear hI hdep hK
      generalize a.eval = ρ at e61 ec ef ⊢
      go_simp
  · intro D a w hI hD
    have e6 : a.eval (.tmp 6) = .pointer (some ⟨w0.heap.size + 1 + 1, 0, none⟩) := hI.fast (6, .pointer (some ⟨w0.heap.size + 1 + 1, 0, none⟩)) (by simp)
    have e7 : a.eval (.tmp 7) = .bool true := hI.good 6 7 (hD 6 (by decide)) rfl
    have hd := hI.defers
    have hW := hI.world
    obtain ⟨tmps, defers⟩ := a
    simp only at hd
    subst hd
    have hci := hD 2 (by decide)
    have hsi := hD 5 (by decide)
    clear hI hD HI HC
    go_wp2
    exact one_end hW hci hsi e6 e7
end Go.Proofs.Ytblelhffghcffaa
