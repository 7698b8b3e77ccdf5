/-
  The walk of the law UvarPuts: Put lays the document's bytes behind whatever bytes it is handed, and Size tells how many. Conditions: none but that the slice's bytes can be read.
-/
import Derived.Test.YthdmhpmnnnchmaaLives
import Derived.Test.YthdmhpmnnnchmaaAppend
namespace Go.Proofs.Ythdmhpmnnnchmaa
open Go.RowKit

theorem LC_grown {w0 W W' : World} {row : Option Nat} (h : LC w0 W) (hg : W.grownBy W' row) (hr : ∀ k, row = some k → w0.heap.size ≤ k) : LC w0 W' :=
  ⟨h.1.grown hg h.2 hr, Nat.le_trans h.2 hg.size⟩

section
variable {B : Nat} {A : Option Addr} {n c : Nat} {l : List Nat} {x g5 k cap5 : Nat} {sA sL sP : ByteArray}

/-- What each operation of the last statement yields. -/
def PG (B : Nat) (A : Option Addr) (n c : Nat) (l : List Nat) (x g5 k cap5 : Nat) (sA sL sP : ByteArray) (D : Nat → Bool) : Nat → Value → World → Prop
  | 0, v, w => D 2 = true ∨ w.ownsRow B 5 1 v 0 []
  | 1, v, _ => v = .slice A n c
  | 2, v, w => D 4 = true ∨ w.ownsRow B 5 1 v n (bs l)
  | 3, v, _ => v = .int .u64 (x : Int)
  | 4, v, w => D 2 = true ∧ ∃ g q cap cur, v = .slice (some ⟨g, 0, none⟩) q cap ∧ Has w g cur ∧ (∀ V, Has V g cur → (convert 23 9 (.slice (some ⟨g, 0, none⟩) q cap)).run Try.prog V = .ok (.string sA) V)
  | 5, v, _ => v = .string sA
  | 6, v, _ => v = .slice A n c
  | 7, v, _ => v = .string sL
  | 8, v, _ => v = .slice (some ⟨g5, 0, none⟩) k cap5
  | 9, v, _ => v = .string sP
  | 10, v, _ => v = .string sA
  | 13, v, _ => v = .int .u64 (x : Int)
  | 14, v, _ => v = .int .i64 (k : Int)
  | 15, v, _ => v = .slice (some ⟨g5, 0, none⟩) k cap5
  | 16, v, _ => v = .int .i64 (k : Int)
  | _, v, _ => v = .bool true

theorem add_of {D : Nat → Bool} {i j : Nat} (h : D j = true) : add D i j = true := by simp [add, h]
theorem add_self {D : Nat → Bool} {i : Nat} : add D i i = true := by simp [add]

theorem PG_step {D : Nat → Bool} {i : Nat} {w w' : World} (hH : ∀ g cur, Has w g cur → Has w' g cur) (hO : ∀ v n xs, w.ownsRow B 5 1 v n xs → w'.ownsRow B 5 1 v n xs)
    {j : Nat} {y : Value} (h : PG B A n c l x g5 k cap5 sA sL sP D j y w) : PG B A n c l x g5 k cap5 sA sL sP (add D i) j y w' := by
  unfold PG at h ⊢
  split at h <;> first
    | exact h
    | exact h.imp add_of (hO _ _ _)
    | (obtain ⟨h0, g, q, cap, cur, e, hh, hc⟩ := h; exact ⟨add_of h0, g, q, cap, cur, e, hH _ _ hh, hc⟩)
theorem PG_sub {D : Nat → Bool} {i : Nat} {w : World} {j : Nat} {y : Value} (h : PG B A n c l x g5 k cap5 sA sL sP D j y w) : PG B A n c l x g5 k cap5 sA sL sP (add D i) j y w :=
  PG_step (fun _ _ h => h) (fun _ _ _ h => h) h
theorem PG_append {D : Nat → Bool} {w w' : World} (hD : D 2 = false) {j : Nat} {y : Value} (hj : D j = true) (h : PG B A n c l x g5 k cap5 sA sL sP D j y w) : PG B A n c l x g5 k cap5 sA sL sP (add D 2) j y w' := by
  unfold PG at h ⊢
  split at h <;> first
    | exact h
    | exact .inl add_self
    | (rw [hD] at hj; cases hj)
    | (rw [hD] at h; cases h.1)
theorem PG_put {D : Nat → Bool} {w w' : World} (hD : D 4 = false) (hD2 : D 2 = true) {j : Nat} {y : Value} (hj : D j = true) (h : PG B A n c l x g5 k cap5 sA sL sP D j y w) : PG B A n c l x g5 k cap5 sA sL sP (add D 4) j y w' := by
  unfold PG at h ⊢
  split at h <;> first
    | exact h
    | exact .inl add_self
    | exact .inl (add_of hD2)
    | (rw [hD] at hj; cases hj)
end

set_option maxHeartbeats 1000000 in
set_option maxRecDepth 100000 in
theorem puts_walk (x : Nat) (A : Option Addr) (n c : Nat) (l : List Nat) (w : World) (hx : x < 18446744073709551616) (h : BytesAt w w.heap.size A n l) (hnil : A = none → c = 0) (hn : n ≤ 9223372036854775807) :
    Calls Try.prog 3 #[.int .u64 (x : Int), .slice A n c] w fun e w' => e = .returned (.bool true) ∧ Below w.heap.size w w' := by
  by_cases hbig : 100 < n
  · clear h
    go_enter Try.func3, Try.ntmps3
    go_wp2_with (go_at_call 7; refine (lives_any _).mono ?_; rintro e w1 ⟨rfl, hb⟩)
    go_ret
    exact ⟨rfl, hb⟩
  · have hk := Uv.put_len_pos x
    have hk10 := Uv.put_len_10 hx
    have HH := Lib.hid h
    clear h
    go_enter Try.func3, Try.ntmps3
    go_wp2_with fail
    refine (rput_any x w hx).mono ?_
    rintro e w0 ⟨v5, rfl, hown5, hb5⟩
    obtain ⟨g5, cap5, cur5, rfl, _, _, hhas5, hl5, ht5⟩ := own_str hown5 hk
    have hbA : BytesAt w0 w0.heap.size A n l := (HH.out.below hb5).more hb5.size
    have hlen : l.length = n := HH.out.1
    obtain ⟨sA, hsA⟩ : ∃ s, s = str (l ++ Uv.put x) := ⟨_, rfl⟩
    obtain ⟨sL, hsL⟩ : ∃ s, s = str l := ⟨_, rfl⟩
    obtain ⟨sP, hsP⟩ : ∃ s, s = str (Uv.put x) := ⟨_, rfl⟩
    have hcat : sL ++ sP = sA := by rw [hsA, hsL, hsP, str_append]
    have hss : sL.size + sP.size ≤ 9223372036854775807 := by rw [hsL, hsP, str_size, str_size]; omega
    have HCB := Lib.hid (show ∀ W, Below w0.heap.size w0 W → (convert 23 9 (.slice A n c)).run Try.prog W = .ok (.string sL) W from fun W hW => by rw [hsL]; exact conv_bytes (hbA.below hW))
    have HCP := Lib.hid (show ∀ W, Below w0.heap.size w0 W → (convert 23 9 (.slice (some ⟨g5, 0, none⟩) (Uv.put x).length cap5)).run Try.prog W = .ok (.string sP) W from fun W hW => by rw [hsP]; exact conv_own (hhas5.below hW hhas5.lt) hl5 ht5)
    obtain ⟨k, hkk⟩ : ∃ k, k = (Uv.put x).length := ⟨_, rfl⟩
    rw [← hkk] at HCP hk hk10 ⊢
    have HK := Lib.hid hkk
    have HSA := Lib.hid hsA
    have HB5 := Lib.hid hb5
    have HBA := Lib.hid hbA
    have HCAT := Lib.hid hcat
    have HSS := Lib.hid hss
    clear hkk hsA hsL hsP hown5 hhas5 hl5 ht5 hb5 hbA hlen HH hcat hss
    go_wp2_with fail
    have hbA := HBA.out
    have hconvB := HCB.out
    have hconvP := HCP.out
    have hcat := HCAT.out
    have hss := HSS.out
    refine region_slots 34 [(0, .int .u64 (x : Int)), (1, .slice A n c), (5, .slice (some ⟨g5, 0, none⟩) k cap5)] (LC w0) (PG w0.heap.size A n c l x g5 k cap5 sA sL sP) (by kernel_rfl) (by kernel_rfl) (by kernel_rfl) rfl rfl (by intro p hp; simp only [List.mem_cons, List.not_mem_nil, or_false] at hp; rcases hp with rfl | rfl | rfl <;> rfl) ⟨(Below.refl _ _).drew, Nat.le_refl _⟩ ?_ ?_
    · refine ⟨?_, ?_, ?_, ?_, ?_, ?_, ?_, ?_, ?_, ?_, ?_, ?_, ?_, ?_, ?_, ?_, ?_, ?_, ?_, ?_, ?_, ?_, ?_, trivial⟩
      · intro D a w hI hdep hD0 K hK
        refine ok_new (wanted_none rfl) (v := .slice (some ⟨w.heap.size, 0, none⟩) 0 0) (w' := w.alloc (.cells #[] 5)) (by go_simp) ?_
        exact hK _ _ (LC_alloc hI.world _) (fun j y _ h => PG_step (fun _ _ h => h.alloc _) (fun _ _ _ h => h.alloc _) h) (.inr (World.ownsRow_lit w #[] 0 hI.world.2 (by decide) rfl))
      · intro D a w hI hdep hD0 K hK
        have e1 : a.eval (.tmp 1) = .slice A n c := hI.fast (1, .slice A n c) (by simp)
        refine ok_value (wanted_none rfl) (v := .slice A n c) ?_ (hK _ _ hI.world (fun j y _ h => PG_sub h) rfl)
        have ec : ∀ c, a.eval (.const c) = c := fun _ => rfl
        have ef : ∀ f, a.eval (.func f) = .func (.func f) #[] #[] := fun _ => rfl
        generalize a.eval = ρ at e1 ec ef ⊢
        go_simp
      · intro D a w hI hdep hD0 K hK
        have e12 := hI.good 0 12 (dep_of hdep 0 rfl) rfl
        have e13 : a.eval (.tmp 13) = .slice A n c := hI.good 1 13 (dep_of hdep 1 rfl) rfl
        have hown := e12.resolve_left (by rw [hD0]; decide)
        obtain ⟨v2, w2, hr2, hown2, hg2⟩ := append_bytes (c := c) hown ((hbA.below hI.world.1).more hI.world.2) hnil hI.world.2 (by omega)
        refine ok_append (wanted_none rfl) (.tmp 12) (.tmp 13) 23 23 rfl (by rw [e13]; exact hr2 _ rfl) (hK _ _ (LC_grown hI.world hg2 (fun k hk => (hown.lt k hk).1)) (fun j y hj h => PG_append hD0 hj h) (.inr ?_))
        simpa using hown2
      · intro D a w hI hdep hD0 K hK
        have e0 : a.eval (.tmp 0) = .int .u64 (x : Int) := hI.fast (0, .int .u64 (x : Int)) (by simp)
        refine ok_value (wanted_none rfl) (v := .int .u64 (x : Int)) ?_ (hK _ _ hI.world (fun j y _ h => PG_sub h) rfl)
        have ec : ∀ c, a.eval (.const c) = c := fun _ => rfl
        have ef : ∀ f, a.eval (.func f) = .func (.func f) #[] #[] := fun _ => rfl
        generalize a.eval = ρ at e0 ec ef ⊢
        go_simp
      · intro D a w hI hdep hD0 K hK
        have e14 := hI.good 2 14 (dep_of hdep 2 rfl) rfl
        have e15 : a.eval (.tmp 15) = .int .u64 (x : Int) := hI.good 3 15 (dep_of hdep 3 rfl) rfl
        have hD2 := dep_of hdep 2 rfl
        have hown := e14.resolve_left (by rw [hD0]; decide)
        refine ok_call (wanted_none rfl) (f := 9) (args := #[a.eval (.tmp 14), .int .u64 (x : Int)]) ?_ (put_own w0.heap.size (a.eval (.tmp 14)) n (bs l) x w hx hown hI.world.2 (by omega)) ?_
        · have ec : ∀ c, a.eval (.const c) = c := fun _ => rfl
          have ef : ∀ f, a.eval (.func f) = .func (.func f) #[] #[] := fun _ => rfl
          generalize a.eval = ρ at e14 e15 ec ef ⊢
          go_simp
        rintro e w2 ⟨v2, rfl, hinv2⟩
        have hb2 := hinv2.below hown hI.world.2
        have hown2 := hinv2.1
        rw [← bs_append] at hown2
        obtain ⟨g2, cap2, cur2, rfl, _, _, hhas2, hl2, ht2⟩ := own_str hown2 (by have := Uv.put_len_pos x; omega)
        refine ⟨_, rfl, hK _ _ (LC_below hI.world hb2) (fun j y hj h => PG_put hD0 hD2 hj h) ⟨by simp [add, hD2], g2, _, cap2, cur2, rfl, hhas2, ?_⟩⟩
        intro V hV
        rw [HSA.out]
        exact conv_own hV hl2 ht2
      · intro D a w hI hdep hD0 K hK
        have e16 := hI.good 4 16 (dep_of hdep 4 rfl) rfl
        obtain ⟨_, g, q, cap, cur, e16, hh, hc⟩ := e16
        have hc' := hc w hh
        refine ok_value (wanted_none rfl) (v := .string sA) ?_ (hK _ _ hI.world (fun j y _ h => PG_sub h) rfl)
        have ec : ∀ c, a.eval (.const c) = c := fun _ => rfl
        have ef : ∀ f, a.eval (.func f) = .func (.func f) #[] #[] := fun _ => rfl
        generalize a.eval = ρ at e16 ec ef ⊢
        go_simp
      · intro D a w hI hdep hD0 K hK
        have e1 : a.eval (.tmp 1) = .slice A n c := hI.fast (1, .slice A n c) (by simp)
        refine ok_value (wanted_none rfl) (v := .slice A n c) ?_ (hK _ _ hI.world (fun j y _ h => PG_sub h) rfl)
        have ec : ∀ c, a.eval (.const c) = c := fun _ => rfl
        have ef : ∀ f, a.eval (.func f) = .func (.func f) #[] #[] := fun _ => rfl
        generalize a.eval = ρ at e1 ec ef ⊢
        go_simp
      · intro D a w hI hdep hD0 K hK
        have e18 : a.eval (.tmp 18) = .slice A n c := hI.good 6 18 (dep_of hdep 6 rfl) rfl
        have hc' := hconvB w hI.world.1
        refine ok_value (wanted_none rfl) (v := .string sL) ?_ (hK _ _ hI.world (fun j y _ h => PG_sub h) rfl)
        have ec : ∀ c, a.eval (.const c) = c := fun _ => rfl
        have ef : ∀ f, a.eval (.func f) = .func (.func f) #[] #[] := fun _ => rfl
        generalize a.eval = ρ at e18 ec ef ⊢
        go_simp
      · intro D a w hI hdep hD0 K hK
        have e5 : a.eval (.tmp 5) = .slice (some ⟨g5, 0, none⟩) k cap5 := hI.fast (5, .slice (some ⟨g5, 0, none⟩) k cap5) (by simp)
        refine ok_value (wanted_none rfl) (v := .slice (some ⟨g5, 0, none⟩) k cap5) ?_ (hK _ _ hI.world (fun j y _ h => PG_sub h) rfl)
        have ec : ∀ c, a.eval (.const c) = c := fun _ => rfl
        have ef : ∀ f, a.eval (.func f) = .func (.func f) #[] #[] := fun _ => rfl
        generalize a.eval = ρ at e5 ec ef ⊢
        go_simp
      · intro D a w hI hdep hD0 K hK
        have e20 : a.eval (.tmp 20) = .slice (some ⟨g5, 0, none⟩) k cap5 := hI.good 8 20 (dep_of hdep 8 rfl) rfl
        have hc' := hconvP w hI.world.1
        refine ok_value (wanted_none rfl) (v := .string sP) ?_ (hK _ _ hI.world (fun j y _ h => PG_sub h) rfl)
        have ec : ∀ c, a.eval (.const c) = c := fun _ => rfl
        have ef : ∀ f, a.eval (.func f) = .func (.func f) #[] #[] := fun _ => rfl
        generalize a.eval = ρ at e20 ec ef ⊢
        go_simp
      · intro D a w hI hdep hD0 K hK
        have e19 : a.eval (.tmp 19) = .string sL := hI.good 7 19 (dep_of hdep 7 rfl) rfl
        have e21 : a.eval (.tmp 21) = .string sP := hI.good 9 21 (dep_of hdep 9 rfl) rfl
        refine ok_value (wanted_none rfl) (v := .string sA) ?_ (hK _ _ hI.world (fun j y _ h => PG_sub h) rfl)
        have ec : ∀ c, a.eval (.const c) = c := fun _ => rfl
        have ef : ∀ f, a.eval (.func f) = .func (.func f) #[] #[] := fun _ => rfl
        generalize a.eval = ρ at e19 e21 ec ef ⊢
        go_simp
      · intro D a w hI hdep hD0 K hK
        have e17 : a.eval (.tmp 17) = .string sA := hI.good 5 17 (dep_of hdep 5 rfl) rfl
        have e22 : a.eval (.tmp 22) = .string sA := hI.good 10 22 (dep_of hdep 10 rfl) rfl
        refine ok_value (wanted_none rfl) (v := .bool true) ?_ (hK _ _ hI.world (fun j y _ h => PG_sub h) rfl)
        have ec : ∀ c, a.eval (.const c) = c := fun _ => rfl
        have ef : ∀ f, a.eval (.func f) = .func (.func f) #[] #[] := fun _ => rfl
        generalize a.eval = ρ at e17 e22 ec ef ⊢
        go_simp
      · intro D a w hI hdep hD0 K hK
        have e23 : a.eval (.tmp 23) = .bool true := hI.good 11 23 (dep_of hdep 11 rfl) rfl
        refine ok_value (wanted_none rfl) (v := .bool true) ?_ (hK _ _ hI.world (fun j y _ h => PG_sub h) rfl)
        have ec : ∀ c, a.eval (.const c) = c := fun _ => rfl
        have ef : ∀ f, a.eval (.func f) = .func (.func f) #[] #[] := fun _ => rfl
        generalize a.eval = ρ at e23 ec ef ⊢
        go_simp
      · intro D a w hI hdep hD0 K hK
        have eg : a.eval (.tmp 24) = .bool true := hI.good 12 24 (dep_of hdep 12 rfl) rfl
        have e0 : a.eval (.tmp 0) = .int .u64 (x : Int) := hI.fast (0, .int .u64 (x : Int)) (by simp)
        refine ok_value (wanted_yes rfl rfl hI.size (by decide) eg) (v := .int .u64 (x : Int)) ?_ (hK _ _ hI.world (fun j y _ h => PG_sub h) rfl)
        have ec : ∀ c, a.eval (.const c) = c := fun _ => rfl
        have ef : ∀ f, a.eval (.func f) = .func (.func f) #[] #[] := fun _ => rfl
        generalize a.eval = ρ at eg e0 ec ef ⊢
        go_simp
      · intro D a w hI hdep hD0 K hK
        have eg : a.eval (.tmp 24) = .bool true := hI.good 12 24 (dep_of hdep 12 rfl) rfl
        have e25 : a.eval (.tmp 25) = .int .u64 (x : Int) := hI.good 13 25 (dep_of hdep 13 rfl) rfl
        refine ok_call (wanted_yes rfl rfl hI.size (by decide) eg) (f := 10) (args := #[.int .u64 (x : Int)]) ?_ (size_any x w hx) ?_
        · have ec : ∀ c, a.eval (.const c) = c := fun _ => rfl
          have ef : ∀ f, a.eval (.func f) = .func (.func f) #[] #[] := fun _ => rfl
          generalize a.eval = ρ at eg e25 ec ef ⊢
          go_simp
        rintro e w2 ⟨rfl, rfl⟩
        exact ⟨_, rfl, hK _ _ hI.world (fun j y _ h => PG_sub h) (by rw [HK.out]; rfl)⟩
      · intro D a w hI hdep hD0 K hK
        have eg : a.eval (.tmp 24) = .bool true := hI.good 12 24 (dep_of hdep 12 rfl) rfl
        have e5 : a.eval (.tmp 5) = .slice (some ⟨g5, 0, none⟩) k cap5 := hI.fast (5, .slice (some ⟨g5, 0, none⟩) k cap5) (by simp)
        refine ok_value (wanted_yes rfl rfl hI.size (by decide) eg) (v := .slice (some ⟨g5, 0, none⟩) k cap5) ?_ (hK _ _ hI.world (fun j y _ h => PG_sub h) rfl)
        have ec : ∀ c, a.eval (.const c) = c := fun _ => rfl
        have ef : ∀ f, a.eval (.func f) = .func (.func f) #[] #[] := fun _ => rfl
        generalize a.eval = ρ at eg e5 ec ef ⊢
        go_simp
      · intro D a w hI hdep hD0 K hK
        have eg : a.eval (.tmp 24) = .bool true := hI.good 12 24 (dep_of hdep 12 rfl) rfl
        have e27 : a.eval (.tmp 27) = .slice (some ⟨g5, 0, none⟩) k cap5 := hI.good 15 27 (dep_of hdep 15 rfl) rfl
        refine ok_value (wanted_yes rfl rfl hI.size (by decide) eg) (v := .int .i64 (k : Int)) ?_ (hK _ _ hI.world (fun j y _ h => PG_sub h) rfl)
        have ec : ∀ c, a.eval (.const c) = c := fun _ => rfl
        have ef : ∀ f, a.eval (.func f) = .func (.func f) #[] #[] := fun _ => rfl
        generalize a.eval = ρ at eg e27 ec ef ⊢
        go_simp
      · intro D a w hI hdep hD0 K hK
        have eg : a.eval (.tmp 24) = .bool true := hI.good 12 24 (dep_of hdep 12 rfl) rfl
        have e26 : a.eval (.tmp 26) = .int .i64 (k : Int) := hI.good 14 26 (dep_of hdep 14 rfl) rfl
        have e28 : a.eval (.tmp 28) = .int .i64 (k : Int) := hI.good 16 28 (dep_of hdep 16 rfl) rfl
        refine ok_value (wanted_yes rfl rfl hI.size (by decide) eg) (v := .bool true) ?_ (hK _ _ hI.world (fun j y _ h => PG_sub h) rfl)
        have ec : ∀ c, a.eval (.const c) = c := fun _ => rfl
        have ef : ∀ f, a.eval (.func f) = .func (.func f) #[] #[] := fun _ => rfl
        generalize a.eval = ρ at eg e26 e28 ec ef ⊢
        go_simp
      · intro D a w hI hdep hD0 K hK
        have e24 : a.eval (.tmp 24) = .bool true := hI.good 12 24 (dep_of hdep 12 rfl) rfl
        have e29 : a.eval (.tmp 29) = .bool true := hI.good 17 29 (dep_of hdep 17 rfl) rfl
        refine ok_value (wanted_none rfl) (v := .bool true) ?_ (hK _ _ hI.world (fun j y _ h => PG_sub h) rfl)
        have ec : ∀ c, a.eval (.const c) = c := fun _ => rfl
        have ef : ∀ f, a.eval (.func f) = .func (.func f) #[] #[] := fun _ => rfl
        generalize a.eval = ρ at e24 e29 ec ef ⊢
        go_simp
      · intro D a w hI hdep hD0 K hK
        have e30 : a.eval (.tmp 30) = .bool true := hI.good 18 30 (dep_of hdep 18 rfl) rfl
        refine ok_value (wanted_none rfl) (v := .bool true) ?_ (hK _ _ hI.world (fun j y _ h => PG_sub h) rfl)
        have ec : ∀ c, a.eval (.const c) = c := fun _ => rfl
        have ef : ∀ f, a.eval (.func f) = .func (.func f) #[] #[] := fun _ => rfl
        generalize a.eval = ρ at e30 ec ef ⊢
        go_simp
      · intro D a w hI hdep hD0 K hK
        have eg : a.eval (.tmp 31) = .bool true := hI.good 19 31 (dep_of hdep 19 rfl) rfl
        refine ok_call (wanted_yes rfl rfl hI.size (by decide) eg) (f := 7) (args := #[]) (by go_simp) (lives_any w) ?_
        rintro e w2 ⟨rfl, hb2⟩
        exact ⟨_, rfl, hK _ _ (LC_below hI.world (hb2.mono hI.world.2)) (fun j y _ h => PG_step (fun _ _ hh => hh.below hb2 hh.lt) (fun _ _ _ hh => ownsRow_below hh hb2) h) rfl⟩
      · intro D a w hI hdep hD0 K hK
        have e31 : a.eval (.tmp 31) = .bool true := hI.good 19 31 (dep_of hdep 19 rfl) rfl
        have e32 : a.eval (.tmp 32) = .bool true := hI.good 20 32 (dep_of hdep 20 rfl) rfl
        refine ok_value (wanted_none rfl) (v := .bool true) ?_ (hK _ _ hI.world (fun j y _ h => PG_sub h) rfl)
        have ec : ∀ c, a.eval (.const c) = c := fun _ => rfl
        have ef : ∀ f, a.eval (.func f) = .func (.func f) #[] #[] := fun _ => rfl
        generalize a.eval = ρ at e31 e32 ec ef ⊢
        go_simp
      · intro D a w hI hdep hD0 K hK
        have e33 : a.eval (.tmp 33) = .bool true := hI.good 21 33 (dep_of hdep 21 rfl) rfl
        refine ok_value (wanted_none rfl) (v := .bool true) ?_ (hK _ _ hI.world (fun j y _ h => PG_sub h) rfl)
        have ec : ∀ c, a.eval (.const c) = c := fun _ => rfl
        have ef : ∀ f, a.eval (.func f) = .func (.func f) #[] #[] := fun _ => rfl
        generalize a.eval = ρ at e33 ec ef ⊢
        go_simp
    · intro D a w2 hI hD
      have e0 : a.eval (.tmp 4) = .bool true := hI.good 22 4 (hD 22 (by decide)) rfl
      have hd := hI.defers
      have hB := hI.world.1
      obtain ⟨tmps, defers⟩ := a
      simp only at hd
      subst hd
      clear hI hD hcat hss hconvB hconvP hbA
      go_wp2
      go_ret
      exact ⟨congrArg Ending.returned e0, HB5.out.trans (hB.mono HB5.out.size)⟩
end Go.Proofs.Ythdmhpmnnnchmaa
