/-
  The walk of the law UvarJust: bytes that Get takes are just those that Put lays. Conditions: none but that the slice's bytes can be read.
-/
import Derived.Test.YthdmhpmnnnchmaaLives
namespace Go.Proofs.Ythdmhpmnnnchmaa
open Go.RowKit

/-- Put(nil, n), as a region wants it. -/
def PutNew (B : Nat) (W : World) (n : Nat) (e : Ending) (w' : World) : Prop :=
  ∃ g cap cur, e = .returned (.slice (some ⟨g, 0, none⟩) (Uv.put n).length cap) ∧ Has w' g cur ∧
    (∀ V, Has V g cur → (convert 23 9 (.slice (some ⟨g, 0, none⟩) (Uv.put n).length cap)).run Try.prog V = .ok (.string (str (Uv.put n))) V) ∧
    (∀ g' cur', Has W g' cur' → Has w' g' cur') ∧ Below B W w'
theorem putNew (B : Nat) (W : World) (n : Nat) (hn : n < 18446744073709551616) (hB : B ≤ W.heap.size) : Calls Try.prog 9 #[.slice none 0 0, .int .u64 (n : Int)] W (PutNew B W n) := by
  refine (put_own B (.slice none 0 0) 0 [] n W hn (World.ownsRow_nil _ _ _ _) hB (by omega)).mono ?_
  rintro e w2 ⟨v2, rfl, hinv2⟩
  have hb2 := hinv2.below (World.ownsRow_nil _ _ _ _) hB
  have hown2 := hinv2.1
  rw [Nat.zero_add, List.nil_append] at hown2
  obtain ⟨g2, cap2, cur2, rfl, _, _, hhas2, hl2, ht2⟩ := own_str hown2 (Uv.put_len_pos n)
  exact ⟨g2, cap2, cur2, rfl, hhas2, fun V h => conv_own h hl2 ht2, fun g' cur' h => h.grown hinv2.2.1, hb2⟩

/-- What each operation of the last statement yields. -/
def JG (A : Option Addr) (n c k m : Nat) (s : ByteArray) : Nat → Value → World → Prop
  | 0, v, _ => v = .int .i64 (k : Int)
  | 3, v, _ => v = .int .i64 (k : Int)
  | 4, v, _ => v = .slice A n c
  | 5, v, _ => v = .int .i64 (n : Int)
  | 9, v, _ => v = .int .u64 (m : Int)
  | 10, v, w => ∃ g cap cur, v = .slice (some ⟨g, 0, none⟩) k cap ∧ Has w g cur ∧ (∀ V, Has V g cur → (convert 23 9 (.slice (some ⟨g, 0, none⟩) k cap)).run Try.prog V = .ok (.string s) V)
  | 11, v, _ => v = .string s
  | 12, v, _ => v = .slice A n c
  | 13, v, _ => v = .int .i64 (k : Int)
  | 14, v, _ => v = .slice A k c
  | 15, v, _ => v = .string s
  | _, v, _ => v = .bool true
theorem JG_mono {A : Option Addr} {n c k m : Nat} {s : ByteArray} {w w' : World} (h : ∀ g cur, Has w g cur → Has w' g cur) {j : Nat} {x : Value} (hx : JG A n c k m s j x w) : JG A n c k m s j x w' := by
  unfold JG at hx ⊢
  split at hx <;> first
    | exact hx
    | (obtain ⟨g, cap, cur, e, hh, hc⟩ := hx; exact ⟨g, cap, cur, e, h _ _ hh, hc⟩)

set_option maxHeartbeats 1000000 in
set_option maxRecDepth 100000 in
theorem just_walk (A : Option Addr) (n c : Nat) (l : List Nat) (w : World) (h : BytesAt w w.heap.size A n l) (hnc : n ≤ c) (hn : n ≤ 9223372036854775807) :
    Calls Try.prog 6 #[.slice A n c] w fun e w' => e = .returned (.bool true) ∧ Below w.heap.size w w' := by
  have HC := Lib.hid (get_any A n c _ l w h hn)
  rcases Uv.get_just h.2.1 with ⟨m, hg, hput, hkl, hm⟩ | ⟨z, hg, hz⟩
  · rw [hg] at HC
    simp only at HC
    have hk := Uv.put_len_pos m
    have hk10 := Uv.put_len_10 hm
    have hconv : ∀ W, Below w.heap.size w W → (convert 23 9 (.slice A (Uv.put m).length c)).run Try.prog W = .ok (.string (str (Uv.put m))) W := by
      intro W hB
      obtain ⟨b, off, rfl, hlt, hc⟩ := h.2.2 (by have := h.1; omega)
      refine conv_of_cells rfl ?_
      intro i hi
      have hin : i < n := by have := h.1; omega
      rw [(hB.cell (p := ⟨b, off + i, none⟩) hlt), hc i hin]
      have hil : i < l.length := by have := h.1; omega
      have e : (Uv.put m).getD i 0 = l.getD i 0 := by
        have e1 : (Uv.put m)[i]? = l[i]? := by rw [hput, List.getElem?_take, if_pos hi]
        simp only [List.getD, e1]
      rw [e]
    have hkn : (Uv.put m).length ≤ n := by have := h.1; omega
    obtain ⟨s, hs⟩ : ∃ s, s = str (Uv.put m) := ⟨_, rfl⟩
    rw [← hs] at hconv
    have HS := Lib.hid hs
    clear hs hg hput hkl
    obtain ⟨k, hkk⟩ : ∃ k, k = (Uv.put m).length := ⟨_, rfl⟩
    rw [← hkk] at hconv hk hk10 hkn HC
    have HK := Lib.hid hkk
    clear hkk
    have HCV := Lib.hid hconv
    clear hconv
    go_enter Try.func6, Try.ntmps6
    go_wp2_with (go_at_call 11; refine HC.out.mono ?_; unfold Triple; rintro e w' ⟨rfl, rfl⟩)
    have hconv := HCV.out
    have hkc : ¬ c < k := by omega
    generalize hw0 : w = w0 at *
    refine region_slots 44 [(0, .slice A n c), (3, .int .u64 (m : Int)), (4, .int .i64 (k : Int))] (LC w0) (fun _ => JG A n c k m s) (by kernel_rfl) (by kernel_rfl) (by kernel_rfl) rfl rfl (by intro p hp; simp only [List.mem_cons, List.not_mem_nil, or_false] at hp; rcases hp with rfl | rfl | rfl <;> rfl) ⟨(Below.refl _ _).drew, Nat.le_refl _⟩ ?_ ?_
    · refine ⟨?_, ?_, ?_, ?_, ?_, ?_, ?_, ?_, ?_, ?_, ?_, ?_, ?_, ?_, ?_, ?_, ?_, ?_, ?_, ?_, ?_, ?_, trivial⟩
      · intro D a w hI hdep hD0 K hK
        have e4 : a.eval (.tmp 4) = .int .i64 (k : Int) := hI.fast (4, .int .i64 (k : Int)) (by simp)
        refine ok_value (wanted_none rfl) (v := .int .i64 (k : Int)) ?_ (hK _ _ hI.world (fun _ _ _ h => h) rfl)
        have ec : ∀ c, a.eval (.const c) = c := fun _ => rfl
        have ef : ∀ f, a.eval (.func f) = .func (.func f) #[] #[] := fun _ => rfl
        generalize a.eval = ρ at e4 ec ef ⊢
        go_simp
      · intro D a w hI hdep hD0 K hK
        have e23 : a.eval (.tmp 23) = .int .i64 (k : Int) := hI.good 0 23 (dep_of hdep 0 rfl) rfl
        refine ok_value (wanted_none rfl) (v := .bool true) ?_ (hK _ _ hI.world (fun _ _ _ h => h) rfl)
        have ec : ∀ c, a.eval (.const c) = c := fun _ => rfl
        have ef : ∀ f, a.eval (.func f) = .func (.func f) #[] #[] := fun _ => rfl
        generalize a.eval = ρ at e23 ec ef ⊢
        go_simp
      · intro D a w hI hdep hD0 K hK
        have e24 : a.eval (.tmp 24) = .bool true := hI.good 1 24 (dep_of hdep 1 rfl) rfl
        refine ok_value (wanted_none rfl) (v := .bool true) ?_ (hK _ _ hI.world (fun _ _ _ h => h) rfl)
        have ec : ∀ c, a.eval (.const c) = c := fun _ => rfl
        have ef : ∀ f, a.eval (.func f) = .func (.func f) #[] #[] := fun _ => rfl
        generalize a.eval = ρ at e24 ec ef ⊢
        go_simp
      · intro D a w hI hdep hD0 K hK
        have eg : a.eval (.tmp 25) = .bool true := hI.good 2 25 (dep_of hdep 2 rfl) rfl
        have e4 : a.eval (.tmp 4) = .int .i64 (k : Int) := hI.fast (4, .int .i64 (k : Int)) (by simp)
        refine ok_value (wanted_yes rfl rfl hI.size (by decide) eg) (v := .int .i64 (k : Int)) ?_ (hK _ _ hI.world (fun _ _ _ h => h) rfl)
        have ec : ∀ c, a.eval (.const c) = c := fun _ => rfl
        have ef : ∀ f, a.eval (.func f) = .func (.func f) #[] #[] := fun _ => rfl
        generalize a.eval = ρ at eg e4 ec ef ⊢
        go_simp
      · intro D a w hI hdep hD0 K hK
        have eg : a.eval (.tmp 25) = .bool true := hI.good 2 25 (dep_of hdep 2 rfl) rfl
        have e0 : a.eval (.tmp 0) = .slice A n c := hI.fast (0, .slice A n c) (by simp)
        refine ok_value (wanted_yes rfl rfl hI.size (by decide) eg) (v := .slice A n c) ?_ (hK _ _ hI.world (fun _ _ _ h => h) rfl)
        have ec : ∀ c, a.eval (.const c) = c := fun _ => rfl
        have ef : ∀ f, a.eval (.func f) = .func (.func f) #[] #[] := fun _ => rfl
        generalize a.eval = ρ at eg e0 ec ef ⊢
        go_simp
      · intro D a w hI hdep hD0 K hK
        have eg : a.eval (.tmp 25) = .bool true := hI.good 2 25 (dep_of hdep 2 rfl) rfl
        have e27 : a.eval (.tmp 27) = .slice A n c := hI.good 4 27 (dep_of hdep 4 rfl) rfl
        refine ok_value (wanted_yes rfl rfl hI.size (by decide) eg) (v := .int .i64 (n : Int)) ?_ (hK _ _ hI.world (fun _ _ _ h => h) rfl)
        have ec : ∀ c, a.eval (.const c) = c := fun _ => rfl
        have ef : ∀ f, a.eval (.func f) = .func (.func f) #[] #[] := fun _ => rfl
        generalize a.eval = ρ at eg e27 ec ef ⊢
        go_simp
      · intro D a w hI hdep hD0 K hK
        have eg : a.eval (.tmp 25) = .bool true := hI.good 2 25 (dep_of hdep 2 rfl) rfl
        have e26 : a.eval (.tmp 26) = .int .i64 (k : Int) := hI.good 3 26 (dep_of hdep 3 rfl) rfl
        have e28 : a.eval (.tmp 28) = .int .i64 (n : Int) := hI.good 5 28 (dep_of hdep 5 rfl) rfl
        refine ok_value (wanted_yes rfl rfl hI.size (by decide) eg) (v := .bool true) ?_ (hK _ _ hI.world (fun _ _ _ h => h) rfl)
        have ec : ∀ c, a.eval (.const c) = c := fun _ => rfl
        have ef : ∀ f, a.eval (.func f) = .func (.func f) #[] #[] := fun _ => rfl
        generalize a.eval = ρ at eg e26 e28 ec ef ⊢
        go_simp
      · intro D a w hI hdep hD0 K hK
        have e25 : a.eval (.tmp 25) = .bool true := hI.good 2 25 (dep_of hdep 2 rfl) rfl
        have e29 : a.eval (.tmp 29) = .bool true := hI.good 6 29 (dep_of hdep 6 rfl) rfl
        refine ok_value (wanted_none rfl) (v := .bool true) ?_ (hK _ _ hI.world (fun _ _ _ h => h) rfl)
        have ec : ∀ c, a.eval (.const c) = c := fun _ => rfl
        have ef : ∀ f, a.eval (.func f) = .func (.func f) #[] #[] := fun _ => rfl
        generalize a.eval = ρ at e25 e29 ec ef ⊢
        go_simp
      · intro D a w hI hdep hD0 K hK
        have e30 : a.eval (.tmp 30) = .bool true := hI.good 7 30 (dep_of hdep 7 rfl) rfl
        refine ok_value (wanted_none rfl) (v := .bool true) ?_ (hK _ _ hI.world (fun _ _ _ h => h) rfl)
        have ec : ∀ c, a.eval (.const c) = c := fun _ => rfl
        have ef : ∀ f, a.eval (.func f) = .func (.func f) #[] #[] := fun _ => rfl
        generalize a.eval = ρ at e30 ec ef ⊢
        go_simp
      · intro D a w hI hdep hD0 K hK
        have eg : a.eval (.tmp 31) = .bool true := hI.good 8 31 (dep_of hdep 8 rfl) rfl
        have e3 : a.eval (.tmp 3) = .int .u64 (m : Int) := hI.fast (3, .int .u64 (m : Int)) (by simp)
        refine ok_value (wanted_yes rfl rfl hI.size (by decide) eg) (v := .int .u64 (m : Int)) ?_ (hK _ _ hI.world (fun _ _ _ h => h) rfl)
        have ec : ∀ c, a.eval (.const c) = c := fun _ => rfl
        have ef : ∀ f, a.eval (.func f) = .func (.func f) #[] #[] := fun _ => rfl
        generalize a.eval = ρ at eg e3 ec ef ⊢
        go_simp
      · intro D a w hI hdep hD0 K hK
        have eg : a.eval (.tmp 31) = .bool true := hI.good 8 31 (dep_of hdep 8 rfl) rfl
        have e32 : a.eval (.tmp 32) = .int .u64 (m : Int) := hI.good 9 32 (dep_of hdep 9 rfl) rfl
        refine ok_call (wanted_yes rfl rfl hI.size (by decide) eg) (f := 9) (args := #[.slice none 0 0, .int .u64 (m : Int)]) ?_ (putNew w0.heap.size w m hm hI.world.2) ?_
        · have ec : ∀ c, a.eval (.const c) = c := fun _ => rfl
          have ef : ∀ f, a.eval (.func f) = .func (.func f) #[] #[] := fun _ => rfl
          generalize a.eval = ρ at eg e32 ec ef ⊢
          go_simp
        rintro e w2 ⟨g2, cap2, cur2, rfl, hhas2, hc2, hk2, hb2⟩
        exact ⟨_, rfl, hK _ _ (LC_below hI.world hb2) (fun j x _ h => JG_mono hk2 h) ⟨g2, cap2, cur2, by rw [HK.out], hhas2, by rw [HS.out, HK.out]; exact hc2⟩⟩
      · intro D a w hI hdep hD0 K hK
        have eg : a.eval (.tmp 31) = .bool true := hI.good 8 31 (dep_of hdep 8 rfl) rfl
        have e33 := hI.good 10 33 (dep_of hdep 10 rfl) rfl
        obtain ⟨g, cap, cur, e33, hh, hc⟩ := e33
        have hc' := hc w hh
        refine ok_value (wanted_yes rfl rfl hI.size (by decide) eg) (v := .string s) ?_ (hK _ _ hI.world (fun _ _ _ h => h) rfl)
        have ec : ∀ c, a.eval (.const c) = c := fun _ => rfl
        have ef : ∀ f, a.eval (.func f) = .func (.func f) #[] #[] := fun _ => rfl
        generalize a.eval = ρ at eg e33 ec ef ⊢
        go_simp
      · intro D a w hI hdep hD0 K hK
        have eg : a.eval (.tmp 31) = .bool true := hI.good 8 31 (dep_of hdep 8 rfl) rfl
        have e0 : a.eval (.tmp 0) = .slice A n c := hI.fast (0, .slice A n c) (by simp)
        refine ok_value (wanted_yes rfl rfl hI.size (by decide) eg) (v := .slice A n c) ?_ (hK _ _ hI.world (fun _ _ _ h => h) rfl)
        have ec : ∀ c, a.eval (.const c) = c := fun _ => rfl
        have ef : ∀ f, a.eval (.func f) = .func (.func f) #[] #[] := fun _ => rfl
        generalize a.eval = ρ at eg e0 ec ef ⊢
        go_simp
      · intro D a w hI hdep hD0 K hK
        have eg : a.eval (.tmp 31) = .bool true := hI.good 8 31 (dep_of hdep 8 rfl) rfl
        have e4 : a.eval (.tmp 4) = .int .i64 (k : Int) := hI.fast (4, .int .i64 (k : Int)) (by simp)
        refine ok_value (wanted_yes rfl rfl hI.size (by decide) eg) (v := .int .i64 (k : Int)) ?_ (hK _ _ hI.world (fun _ _ _ h => h) rfl)
        have ec : ∀ c, a.eval (.const c) = c := fun _ => rfl
        have ef : ∀ f, a.eval (.func f) = .func (.func f) #[] #[] := fun _ => rfl
        generalize a.eval = ρ at eg e4 ec ef ⊢
        go_simp
      · intro D a w hI hdep hD0 K hK
        have eg : a.eval (.tmp 31) = .bool true := hI.good 8 31 (dep_of hdep 8 rfl) rfl
        have e35 : a.eval (.tmp 35) = .slice A n c := hI.good 12 35 (dep_of hdep 12 rfl) rfl
        have e36 : a.eval (.tmp 36) = .int .i64 (k : Int) := hI.good 13 36 (dep_of hdep 13 rfl) rfl
        refine ok_value (wanted_yes rfl rfl hI.size (by decide) eg) (v := .slice A k c) ?_ (hK _ _ hI.world (fun _ _ _ h => h) rfl)
        have ec : ∀ c, a.eval (.const c) = c := fun _ => rfl
        have ef : ∀ f, a.eval (.func f) = .func (.func f) #[] #[] := fun _ => rfl
        generalize a.eval = ρ at eg e35 e36 ec ef ⊢
        go_simp
      · intro D a w hI hdep hD0 K hK
        have eg : a.eval (.tmp 31) = .bool true := hI.good 8 31 (dep_of hdep 8 rfl) rfl
        have e37 : a.eval (.tmp 37) = .slice A k c := hI.good 14 37 (dep_of hdep 14 rfl) rfl
        have hc' := hconv w hI.world.1
        refine ok_value (wanted_yes rfl rfl hI.size (by decide) eg) (v := .string s) ?_ (hK _ _ hI.world (fun _ _ _ h => h) rfl)
        have ec : ∀ c, a.eval (.const c) = c := fun _ => rfl
        have ef : ∀ f, a.eval (.func f) = .func (.func f) #[] #[] := fun _ => rfl
        generalize a.eval = ρ at eg e37 ec ef ⊢
        go_simp
      · intro D a w hI hdep hD0 K hK
        have eg : a.eval (.tmp 31) = .bool true := hI.good 8 31 (dep_of hdep 8 rfl) rfl
        have e34 : a.eval (.tmp 34) = .string s := hI.good 11 34 (dep_of hdep 11 rfl) rfl
        have e38 : a.eval (.tmp 38) = .string s := hI.good 15 38 (dep_of hdep 15 rfl) rfl
        refine ok_value (wanted_yes rfl rfl hI.size (by decide) eg) (v := .bool true) ?_ (hK _ _ hI.world (fun _ _ _ h => h) rfl)
        have ec : ∀ c, a.eval (.const c) = c := fun _ => rfl
        have ef : ∀ f, a.eval (.func f) = .func (.func f) #[] #[] := fun _ => rfl
        generalize a.eval = ρ at eg e34 e38 ec ef ⊢
        go_simp
      · intro D a w hI hdep hD0 K hK
        have e31 : a.eval (.tmp 31) = .bool true := hI.good 8 31 (dep_of hdep 8 rfl) rfl
        have e39 : a.eval (.tmp 39) = .bool true := hI.good 16 39 (dep_of hdep 16 rfl) rfl
        refine ok_value (wanted_none rfl) (v := .bool true) ?_ (hK _ _ hI.world (fun _ _ _ h => h) rfl)
        have ec : ∀ c, a.eval (.const c) = c := fun _ => rfl
        have ef : ∀ f, a.eval (.func f) = .func (.func f) #[] #[] := fun _ => rfl
        generalize a.eval = ρ at e31 e39 ec ef ⊢
        go_simp
      · intro D a w hI hdep hD0 K hK
        have e40 : a.eval (.tmp 40) = .bool true := hI.good 17 40 (dep_of hdep 17 rfl) rfl
        refine ok_value (wanted_none rfl) (v := .bool true) ?_ (hK _ _ hI.world (fun _ _ _ h => h) rfl)
        have ec : ∀ c, a.eval (.const c) = c := fun _ => rfl
        have ef : ∀ f, a.eval (.func f) = .func (.func f) #[] #[] := fun _ => rfl
        generalize a.eval = ρ at e40 ec ef ⊢
        go_simp
      · intro D a w hI hdep hD0 K hK
        have eg : a.eval (.tmp 41) = .bool true := hI.good 18 41 (dep_of hdep 18 rfl) rfl
        refine ok_call (wanted_yes rfl rfl hI.size (by decide) eg) (f := 7) (args := #[]) (by go_simp) (lives_any w) ?_
        rintro e w2 ⟨rfl, hb2⟩
        exact ⟨_, rfl, hK _ _ (LC_below hI.world (hb2.mono hI.world.2)) (fun j x _ h => JG_mono (fun _ _ hh => hh.below hb2 hh.lt) h) rfl⟩
      · intro D a w hI hdep hD0 K hK
        have e41 : a.eval (.tmp 41) = .bool true := hI.good 18 41 (dep_of hdep 18 rfl) rfl
        have e42 : a.eval (.tmp 42) = .bool true := hI.good 19 42 (dep_of hdep 19 rfl) rfl
        refine ok_value (wanted_none rfl) (v := .bool true) ?_ (hK _ _ hI.world (fun _ _ _ h => h) rfl)
        have ec : ∀ c, a.eval (.const c) = c := fun _ => rfl
        have ef : ∀ f, a.eval (.func f) = .func (.func f) #[] #[] := fun _ => rfl
        generalize a.eval = ρ at e41 e42 ec ef ⊢
        go_simp
      · intro D a w hI hdep hD0 K hK
        have e43 : a.eval (.tmp 43) = .bool true := hI.good 20 43 (dep_of hdep 20 rfl) rfl
        refine ok_value (wanted_none rfl) (v := .bool true) ?_ (hK _ _ hI.world (fun _ _ _ h => h) rfl)
        have ec : ∀ c, a.eval (.const c) = c := fun _ => rfl
        have ef : ∀ f, a.eval (.func f) = .func (.func f) #[] #[] := fun _ => rfl
        generalize a.eval = ρ at e43 ec ef ⊢
        go_simp
    · intro D a w hI hD
      have e0 : a.eval (.tmp 2) = .bool true := hI.good 21 2 (hD 21 (by decide)) rfl
      have hd := hI.defers
      have hB := hI.world.1
      obtain ⟨tmps, defers⟩ := a
      simp only at hd
      subst hd
      clear hI hD
      go_wp2
      go_ret
      exact ⟨congrArg Ending.returned e0, hw0 ▸ hB⟩
  · rw [hg] at HC
    simp only at HC
    clear hg h
    have hz0 : ((z : Int) != 0) = true := by rw [bne_iff_ne]; omega
    go_enter Try.func6, Try.ntmps6
    go_wp2_with (first
      | (go_at_call 11; refine HC.out.mono ?_; unfold Triple; rintro e w' ⟨rfl, rfl⟩)
      | (go_at_call 7; refine (lives_any _).mono ?_; rintro e w1 ⟨rfl, hb⟩))
    go_ret
    exact ⟨rfl, hb⟩
end Go.Proofs.Ythdmhpmnnnchmaa
