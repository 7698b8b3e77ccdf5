/-
  What a cursor's Text answers, and what it leaves. Conditions: none.
-/
import Derived.Test.YtblelhffghcffaaCurD
import Derived.Test.YtblelhffghcffaaRegionD
namespace Go.Proofs.Ytblelhffghcffaa
open Go.RowKit

theorem up_other {D : Nat → Bool} {i j : Nat} (h : (j == i) = false) : add D i j = D j := by simp [add, h]
theorem up_self {D : Nat → Bool} {i : Nat} : add D i i = true := by simp [add]

/-- Ahead of the call the world is W; behind it the cursor has turned. -/
def T1C (g : Nat) (s' : List Nat × Nat) (W : World) (D : Nat → Bool) (w : World) : Prop := (D 4 = false → w = W) ∧ (D 4 = true → Cur w g s' ∧ W.grownBy w (some g))
theorem T1_up {g : Nat} {s' : List Nat × Nat} {W w : World} {D : Nat → Bool} {i : Nat} (h : T1C g s' W D w) (hi : ((4 : Nat) == i) = false) : T1C g s' W (add D i) w := by unfold T1C at *; rw [up_other hi]; exact h
theorem T1_before {g : Nat} {s' : List Nat × Nat} {W w : World} {D : Nat → Bool} (h : T1C g s' W D w) (h4 : D 4 = false) : w = W := h.1 h4
theorem T1_after {g : Nat} {s' : List Nat × Nat} {W w : World} {D : Nat → Bool} (h : Cur w g s' ∧ W.grownBy w (some g)) : T1C g s' W (add D 4) w := ⟨(fun h => by rw [up_self] at h; cases h), fun _ => h⟩

/-- What each operation yields. -/
def T1G (g z : Nat) (t : ByteArray) (er : Nat) : Nat → Value → Prop
  | 0, v | 1, v | 2, v => v = .pointer (some ⟨g, 0, none⟩)
  | 3, v => v = .int .i64 (z : Int)
  | 4, v => v = .tuple #[.string t, .int .i64 (er : Int)]
  | 5, v | 7, v => v = .string t
  | _, v => v = .int .i64 (er : Int)

set_option maxHeartbeats 1000000 in
set_option maxRecDepth 100000 in
theorem text1_any (g z p p' : Nat) (s' : List Nat × Nat) (t : ByteArray) (er : Nat) (w : World) (h1 : w.cell? ⟨p, 0, none⟩ = some (.pointer (some ⟨g, 0, none⟩))) (h2 : w.cell? ⟨p', 0, none⟩ = some (.int .i64 (z : Int)))
    (hc : Calls Try.prog 37 #[.pointer (some ⟨g, 0, none⟩), .int .i64 (z : Int)] w.drew (SrcPost (.string t) er g s' w.drew)) :
    Calls Try.prog 36 #[.pointer (some ⟨p, 0, none⟩), .pointer (some ⟨p', 0, none⟩)] w (SrcPost (.string t) er g s' w) := by
  have HC := Lib.hid hc
  clear hc
  go_enter Try.func36, Try.ntmps36
  go_wp2
  refine region_d 11 [(0, .pointer (some ⟨p, 0, none⟩)), (1, .pointer (some ⟨p', 0, none⟩))] (T1C g s' w.drew) (T1G g z t er) (by kernel_rfl) (by kernel_rfl) (by kernel_rfl) rfl rfl (by intro p hp; simp only [List.mem_cons, List.not_mem_nil, or_false] at hp; rcases hp with rfl | rfl <;> rfl) ⟨fun _ => rfl, fun h => by cases h⟩ ?_ ?_
-- text1
  · refine ⟨?_, ?_, ?_, ?_, ?_, ?_, ?_, ?_, ?_, trivial⟩
    · intro D a w hI hdep hD0 K hK
      have e0 : a.eval (.tmp 0) = .pointer (some ⟨p, 0, none⟩) := hI.fast (0, .pointer (some ⟨p, 0, none⟩)) (by simp)
      have h4 : D 4 = false := hI.not_up (hI.not_up (hI.not_up hD0 1 rfl) 2 rfl) 4 rfl
      obtain rfl := T1_before hI.world h4
      refine ok_value (wanted_none rfl) (v := .pointer (some ⟨g, 0, none⟩)) ?_ (hK _ _ (T1_up hI.world rfl) rfl)
      have ec : ∀ c, a.eval (.const c) = c := fun _ => rfl
      have ef : ∀ f, a.eval (.func f) = .func (.func f) #[] #[] := fun _ => rfl
      clear hI hdep hK
      generalize a.eval = ρ at e0 ec ef ⊢
      go_simp
    · intro D a w hI hdep hD0 K hK
      have e4 : a.eval (.tmp 4) = .pointer (some ⟨g, 0, none⟩) := hI.good 0 4 (dep_of hdep 0 rfl) rfl
      refine ok_value (wanted_none rfl) (v := .pointer (some ⟨g, 0, none⟩)) ?_ (hK _ _ (T1_up hI.world rfl) rfl)
      have ec : ∀ c, a.eval (.const c) = c := fun _ => rfl
      have ef : ∀ f, a.eval (.func f) = .func (.func f) #[] #[] := fun _ => rfl
      clear hI hdep hK
      generalize a.eval = ρ at e4 ec ef ⊢
      go_simp
    · intro D a w hI hdep hD0 K hK
      have e5 : a.eval (.tmp 5) = .pointer (some ⟨g, 0, none⟩) := hI.good 1 5 (dep_of hdep 1 rfl) rfl
      refine ok_value (wanted_none rfl) (v := .pointer (some ⟨g, 0, none⟩)) ?_ (hK _ _ (T1_up hI.world rfl) rfl)
      have ec : ∀ c, a.eval (.const c) = c := fun _ => rfl
      have ef : ∀ f, a.eval (.func f) = .func (.func f) #[] #[] := fun _ => rfl
      clear hI hdep hK
      generalize a.eval = ρ at e5 ec ef ⊢
      go_simp
    · intro D a w hI hdep hD0 K hK
      have e1 : a.eval (.tmp 1) = .pointer (some ⟨p', 0, none⟩) := hI.fast (1, .pointer (some ⟨p', 0, none⟩)) (by simp)
      have h4 : D 4 = false := hI.not_up hD0 4 rfl
      obtain rfl := T1_before hI.world h4
      refine ok_value (wanted_none rfl) (v := .int .i64 (z : Int)) ?_ (hK _ _ (T1_up hI.world rfl) rfl)
      have ec : ∀ c, a.eval (.const c) = c := fun _ => rfl
      have ef : ∀ f, a.eval (.func f) = .func (.func f) #[] #[] := fun _ => rfl
      clear hI hdep hK
      generalize a.eval = ρ at e1 ec ef ⊢
      go_simp
    · intro D a w hI hdep hD0 K hK
      have e6 : a.eval (.tmp 6) = .pointer (some ⟨g, 0, none⟩) := hI.good 2 6 (dep_of hdep 2 rfl) rfl
      have e7 : a.eval (.tmp 7) = .int .i64 (z : Int) := hI.good 3 7 (dep_of hdep 3 rfl) rfl
      obtain rfl := T1_before hI.world hD0
      refine ok_call (wanted_none rfl) (f := 37) (args := #[.pointer (some ⟨g, 0, none⟩), .int .i64 (z : Int)]) ?_ HC.out ?_
      · have ec : ∀ c, a.eval (.const c) = c := fun _ => rfl
        have ef : ∀ f, a.eval (.func f) = .func (.func f) #[] #[] := fun _ => rfl
        clear hI hdep hK
        generalize a.eval = ρ at e6 e7 ec ef ⊢
        go_simp
      · rintro e w2 ⟨rfl, hc2, hg2⟩
        exact ⟨_, rfl, hK _ _ (T1_after ⟨hc2, hg2⟩) rfl⟩
    · intro D a w hI hdep hD0 K hK
      have e8 : a.eval (.tmp 8) = .tuple #[.string t, .int .i64 (er : Int)] := hI.good 4 8 (dep_of hdep 4 rfl) rfl
      refine ok_value (wanted_none rfl) (v := .string t) ?_ (hK _ _ (T1_up hI.world rfl) rfl)
      have ec : ∀ c, a.eval (.const c) = c := fun _ => rfl
      have ef : ∀ f, a.eval (.func f) = .func (.func f) #[] #[] := fun _ => rfl
      clear hI hdep hK
      generalize a.eval = ρ at e8 ec ef ⊢
      go_simp
    · intro D a w hI hdep hD0 K hK
      have e8 : a.eval (.tmp 8) = .tuple #[.string t, .int .i64 (er : Int)] := hI.good 4 8 (dep_of hdep 4 rfl) rfl
      refine ok_value (wanted_none rfl) (v := .int .i64 (er : Int)) ?_ (hK _ _ (T1_up hI.world rfl) rfl)
      have ec : ∀ c, a.eval (.const c) = c := fun _ => rfl
      have ef : ∀ f, a.eval (.func f) = .func (.func f) #[] #[] := fun _ => rfl
      clear hI hdep hK
      generalize a.eval = ρ at e8 ec ef ⊢
      go_simp
    · intro D a w hI hdep hD0 K hK
      have e9 : a.eval (.tmp 9) = .string t := hI.good 5 9 (dep_of hdep 5 rfl) rfl
      refine ok_value (wanted_none rfl) (v := .string t) ?_ (hK _ _ (T1_up hI.world rfl) rfl)
      have ec : ∀ c, a.eval (.const c) = c := fun _ => rfl
      have ef : ∀ f, a.eval (.func f) = .func (.func f) #[] #[] := fun _ => rfl
      clear hI hdep hK
      generalize a.eval = ρ at e9 ec ef ⊢
      go_simp
    · intro D a w hI hdep hD0 K hK
      have e10 : a.eval (.tmp 10) = .int .i64 (er : Int) := hI.good 6 10 (dep_of hdep 6 rfl) rfl
      refine ok_value (wanted_none rfl) (v := .int .i64 (er : Int)) ?_ (hK _ _ (T1_up hI.world rfl) rfl)
      have ec : ∀ c, a.eval (.const c) = c := fun _ => rfl
      have ef : ∀ f, a.eval (.func f) = .func (.func f) #[] #[] := fun _ => rfl
      clear hI hdep hK
      generalize a.eval = ρ at e10 ec ef ⊢
      go_simp
-- text1 end
  · intro D a w' hI hD
    have e2 : a.eval (.tmp 2) = .string t := hI.good 7 2 (hD 7 (by decide)) rfl
    have e3 : a.eval (.tmp 3) = .int .i64 (er : Int) := hI.good 8 3 (hD 8 (by decide)) rfl
    have hd := hI.defers
    have hW := hI.world.2 (hD 4 (by decide))
    obtain ⟨tmps, defers⟩ := a
    simp only at hd
    subst hd
    clear hI hD
    go_wp2
    go_ret2
    refine ⟨congrArg Ending.returned ?_, hW.1, hW.2.os, hW.2.tape, hW.2.output, hW.2.size, hW.2.block⟩
    show Value.tuple #[(⟨tmps, []⟩ : Act).eval (.tmp 2), (⟨tmps, []⟩ : Act).eval (.tmp 3)] = _
    rw [e2, e3]

set_option maxHeartbeats 400000 in
theorem take_str (g p p' : Nat) (t : ByteArray) (er : Nat) (s' : List Nat × Nat) (w : World) (hr : er ≤ 9223372036854775807)
    (hf : Calls Try.prog 36 #[.pointer (some ⟨p, 0, none⟩), .pointer (some ⟨p', 0, none⟩)] w (SrcPost (.string t) er g s' w)) :
    Calls Try.prog 35 #[.pointer (some ⟨g, 0, none⟩), .func (.func 36) #[] #[.pointer (some ⟨p, 0, none⟩), .pointer (some ⟨p', 0, none⟩)]] w (TakePost (.string t) g (failA s' er) w) := by
  have HF := Lib.hid hf
  clear hf
  go_enter Try.func35, Try.ntmps35
  go_wp2_with (first
    | (go_at_call 36; refine HF.out.mono ?_; rintro e w1 ⟨rfl, hc1, hg1⟩)
    | (go_at_call 18; refine (fail_cur g _ er _ hc1 hr).mono ?_; rintro e w2 ⟨rfl, hc2, hg2⟩))
  go_ret
  exact ⟨rfl, hc2, Lib.grownBy_trans hg1 hg2⟩

/-- The next text, if it is at most so long. -/
def textA (s : List Nat × Nat) (most : Int) : ByteArray × List Nat × Nat :=
  ((textB (numA s most).2.1 (numA s most).1).1, failA ((numA s most).2.1.drop (textB (numA s most).2.1 (numA s most).1).2.1, (numA s most).2.2) (textB (numA s most).2.1 (numA s most).1).2.2)

theorem textB_err (l : List Nat) (z : Nat) : (textB l z).2.2 ≤ 3 := by unfold textB; split <;> simp
theorem numA_le (s : List Nat × Nat) (most : Int) (h : most ≤ 9223372036854775807) : (numA s most).1 ≤ 9223372036854775807 := by
  unfold numA
  split
  · simp
  · simp only; omega

theorem Cur.kept' {w w' : World} {g : Nat} {s : List Nat × Nat} (h : Cur w g s) {row : Option Nat} (hg : w.grownBy w' row) (hr : ∀ k, row = some k → k ≠ g ∧ (s.1 = [] ∨ g < k)) : Cur w' g s := by
  obtain ⟨A, n, c, m, e0, h1, h2, h3⟩ := h
  refine ⟨A, n, c, m, e0, h1.kept hg (fun e => (hr g e).1 rfl), ⟨h2.1, h2.2.1, fun hp => ?_⟩, h3⟩
  obtain ⟨b, off, e, hlt, hc⟩ := h2.2.2 hp
  refine ⟨b, off, e, hlt, fun i hi => hg.cell (hc i hi) (fun e => ?_)⟩
  rcases (hr b e.symm).2 with h0 | h0
  · have := h2.1; rw [h0] at this; simp at this; omega
  · omega

theorem grown_set {a w : World} {row : Option Nat} (h : a.grownBy w row) {p : Nat} (hp : a.heap.size ≤ p) (i : Nat) (v : Value) : a.grownBy (w.setCell ⟨p, i, none⟩ v) row :=
  ⟨h.os, h.tape, h.output, by simpa [World.setCell] using h.size, fun k hk hne => by
    rw [Below.heap_setCell w ⟨p, i, none⟩ v k (by show k ≠ p; omega)]
    exact h.block k hk hne⟩

theorem Only.of_row {q : Option Addr} {g : Nat} {w w2 : World} (h : q = some ⟨g, 0, none⟩ ∨ (q = none ∧ w.heap.size ≤ g)) (hg : w.grownBy w2 (some g)) : Only q w w2 := by
  rcases h with rfl | ⟨rfl, h⟩
  · exact hg
  · exact ⟨hg.os, hg.tape, hg.output, hg.size, fun k hk _ => hg.block k hk (by intro e; injection e with e; omega)⟩

theorem CurP.cur {w : World} {g : Nat} {s : List Nat × Nat} (h : CurP w (some ⟨g, 0, none⟩) s) : Cur w g s := by
  rcases h with ⟨h, _⟩ | ⟨g', he, hc⟩
  · cases h
  · injection he with he
    injection he with he
    subst he
    exact hc

theorem CurP.kept {w w' : World} {q : Option Addr} {s : List Nat × Nat} (h : CurP w q s) {row : Option Nat} (hg : w.grownBy w' row) (hr : ∀ k, row = some k → w.heap.size ≤ k) : CurP w' q s := by
  rcases h with h | ⟨g, e, h⟩
  · exact .inl h
  · exact .inr ⟨g, e, h.kept hg (fun k hk => by have := hr k hk; have := h.lt; omega)⟩

def Holds (w : World) (p : Nat) (v : Value) (t : TypeId) : Prop := w.heap[p]? = some (.cells #[v] t (0, 0))
theorem Holds.cell {w : World} {p : Nat} {v : Value} {t : TypeId} (h : Holds w p v t) : w.cell? ⟨p, 0, none⟩ = some v := by unfold Holds at h; simp [World.cell?, h]
theorem Holds.free {w : World} {p : Nat} {v : Value} {t : TypeId} (h : Holds w p v t) : w.frozen? ⟨p, 0, none⟩ = false := by unfold Holds at h; simp [World.frozen?, h]
theorem Holds.set {w : World} {p : Nat} {v : Value} {t : TypeId} (h : Holds w p v t) (u : Value) : Holds (w.setCell ⟨p, 0, none⟩ u) p u t := (heap_set h _).trans rfl
theorem Holds.kept {w w' : World} {p : Nat} {v : Value} {t : TypeId} (h : Holds w p v t) {row : Option Nat} (hg : w.grownBy w' row) (hne : row ≠ some p) : Holds w' p v t := (hg.block p (heap_lt h) (Ne.symm hne)).trans h

theorem numA_nil (most : Int) : numA ([], 1) most = (0, [], 1) := by
  unfold numA
  split <;> rfl

set_option maxHeartbeats 1000000 in
theorem ctext_any (q : Option Addr) (s : List Nat × Nat) (most : Int) (w : World) (h : CurP w q s) (h1 : -9223372036854775808 ≤ most) (h2 : most ≤ 9223372036854775807) :
    Calls Try.prog 17 #[.pointer q, .int .i64 most] w (Turned (.string (textA s most).1) q (textA s most).2 w) := by
  have hz := numA_le s most h2
  have hn := h.nil
  have HN := Lib.hid hn
  have HM0 := Lib.hid (fun g W (hc : Cur W g s) => num_any (some ⟨g, 0, none⟩) s most W (.inr ⟨g, rfl, hc⟩) h1 h2)
  have hnil : q = none → failA ((numA s most).2.1.drop (textB (numA s most).2.1 (numA s most).1).2.1, (numA s most).2.2) (textB (numA s most).2.1 (numA s most).1).2.2 = ([], 1) := by
    intro hq
    rw [hn hq, numA_nil]
    rfl
  have HZ := Lib.hid hnil
  unfold textA
  clear hnil
  generalize (numA s most).1 = z at *
  generalize (numA s most).2 = d at *
  have hp0 : CurP (w.alloc (.cells #[.pointer q] 24)) q s := h.kept (World.grownBy_alloc _ _ none) (by simp)
  have hlt : ∀ g, q = some ⟨g, 0, none⟩ → g < w.heap.size := by
    rintro g rfl
    exact h.cur.lt
  have HL := Lib.hid hlt
  have HS := Lib.hid (some_any q s _ hp0)
  have hh0 : Holds (w.alloc (.cells #[.pointer q] 24)) w.heap.size (.pointer q) 24 := heap_alloc_new _ _
  have HH := Lib.hid hh0
  clear h hn hp0 hlt hh0
  go_enter Try.func17, Try.ntmps17
  go_wp2_with fail
  refine HS.out.mono ?_
  rintro e w2 ⟨g, rfl, hc2, hq⟩
  have hA : (w.alloc (.cells #[.pointer q] 24)).heap.size ≤ w2.heap.size ∧ Holds w2 w.heap.size (.pointer q) 24 ∧ w.grownBy w2 (some g) ∧ (q = some ⟨g, 0, none⟩ ∨ (q = none ∧ w.heap.size ≤ g)) ∧ w.heap.size ≠ g ∧ (s.1 = [] ∨ g < w.heap.size) := by
    rcases hq with ⟨hq, rfl⟩ | ⟨hq, hge, hb⟩
    · have := HL.out g hq
      exact ⟨Nat.le_refl _, HH.out, World.grownBy_alloc _ _ _, .inl hq, by omega, .inr this⟩
    · simp at hge
      refine ⟨hb.size, HH.out.kept (row := none) ⟨hb.os, hb.tape, hb.output, hb.size, fun k hk _ => hb.block k hk⟩ (by simp), Lib.grownBy_below (World.grownBy_alloc _ _ _) hb, .inr ⟨hq, by omega⟩, by omega, .inl ?_⟩
      rw [HN.out hq]
  obtain ⟨hz2, hh2, hg2, hq2, hne, hl2⟩ := hA
  have x0 := hh2.cell
  have x1 := hh2.free
  have HH2 := Lib.hid (hh2.set (.pointer (some ⟨g, 0, none⟩)))
  have hc3 : Cur (w2.setCell ⟨w.heap.size, 0, none⟩ (.pointer (some ⟨g, 0, none⟩))) g s := hc2.kept' (row := some w.heap.size) (Lib.grownBy_setB (World.grownBy.refl _ _) _ _) (fun k hk => by injection hk with hk; subst hk; exact ⟨hne, hl2⟩)
  have hg3 := grown_set hg2 (Nat.le_refl _) 0 (.pointer (some ⟨g, 0, none⟩))
  have HM := Lib.hid (HM0.out g _ hc3)
  have HQ := Lib.hid hq2
  clear HS hq hc2 hh2 hc3 HH HL hg2 hl2 HM0
  go_wp2_with fail
  refine HM.out.mono ?_
  rintro e w4 ⟨rfl, hc4, hg4⟩
  have hh4 : Holds w4 w.heap.size (.pointer (some ⟨g, 0, none⟩)) 24 := HH2.out.kept hg4 (by intro e; injection e with e; exact hne e.symm)
  have hs4 : w.heap.size < w4.heap.size := heap_lt hh4
  have hgb : w4.grownBy (w4.alloc (.cells #[.int .i64 (z : Int)] 3)) none := World.grownBy_alloc _ _ _
  have hh5 := hh4.kept hgb (by simp)
  have hc5 := hc4.cur.kept hgb (by simp)
  have hi5 : Holds (w4.alloc (.cells #[.int .i64 (z : Int)] 3)) w4.heap.size (.int .i64 (z : Int)) 3 := heap_alloc_new _ _
  have hg5 : w.grownBy (w4.alloc (.cells #[.int .i64 (z : Int)] 3)) (some g) := Lib.grownBy_allocR (Lib.grownBy_trans hg3 hg4) _
  have x5 := hh5.cell
  have HT := Lib.hid (take_str g w.heap.size w4.heap.size _ _ _ _ (by have := textB_err d.1 z; omega) (text1_any g z w.heap.size w4.heap.size _ _ _ _ x5 hi5.cell (text_any g z d _ hc5 hz)))
  have HG := Lib.hid hg5
  have HH4 := Lib.hid hh4
  clear hh4 hgb hh5 hc5 hi5 hg5 hc4 hg4 hg3 HM HH2
  go_wp2_with (go_at_call 35; refine HT.out.mono ?_; rintro e w6 ⟨rfl, hc6, hg6⟩)
  go_ret
  refine ⟨rfl, ?_, Only.of_row HQ.out (Lib.grownBy_trans HG.out hg6)⟩
  rcases HQ.out with hq | ⟨hq, _⟩
  · exact .inr ⟨g, hq, hc6⟩
  · exact .inl ⟨hq, HZ.out hq⟩
end Go.Proofs.Ytblelhffghcffaa
