/-
  What maps.At, maps.Inside and the document's At, Inside tell of tables of sets. Conditions: the tables can be read; words of 64 bits.
-/
import Derived.Test.YtinmcelgfdjmfaaDoorMpAt
import Derived.Test.YtinmcelgfdjmfaaDoorSlC
import Derived.BigQuiet
import Derived.Deep.QuietTactic
import Derived.Deep.DeepMust
import Derived.WalkSmall
namespace Go.Proofs.YtinmcelgfdjmfaaDoor
open Go.RowKit

theorem mp_ok {l : List Sl.Four} (h : ∀ s ∈ l, s.ok) {k : Nat} (hk : k < l.length) : (l.getD k Sl.no).ok := by
  have e : l.getD k Sl.no = l[k] := by simp [List.getD, hk]
  rw [e]
  exact h _ (List.getElem_mem hk)

set_option maxRecDepth 100000 in
set_option maxHeartbeats 1000000 in
theorem mpat_any (a : Option Addr) (n c : Nat) (l : List Sl.Four) (pc : Int) (w : World) (h : SetsAt w w.heap.size a n l) :
    Calls Tryd.prog 10 #[.slice a n c, .int .i64 pc] w (SetP (Mp.at_ l pc) w) := by
  have hl : l.length = n := h.1
  by_cases h0 : pc < 0
  · rw [Mp.at_out (.inl h0)]
    clear h hl
    have d0 : decide (pc < 0) = true := decide_eq_true h0
    go_enter Tryd.func10, Tryd.ntmps10
    go_wp2
    exact bodyPost_ret (v := setV Sl.no) (by simp [results, Tryd.results10, go_sem, setV, Sl.no]) rfl ⟨rfl, (Below.refl _ w).alloc (Nat.le_refl _) _⟩
  have d0 : decide (pc < 0) = false := decide_eq_false h0
  by_cases h1 : (n : Int) ≤ pc
  · rw [Mp.at_out (.inr (by rw [hl]; exact h1))]
    have d1 : decide ((n : Int) ≤ pc) = true := decide_eq_true h1
    clear h hl
    go_enter Tryd.func10, Tryd.ntmps10
    go_wp2
    exact bodyPost_ret (v := setV Sl.no) (by simp [results, Tryd.results10, go_sem, setV, Sl.no]) rfl ⟨rfl, (Below.refl _ w).alloc (Nat.le_refl _) _⟩
  · have d1 : decide ((n : Int) ≤ pc) = false := decide_eq_false h1
    obtain ⟨k, rfl⟩ : ∃ k : Nat, pc = (k : Int) := ⟨pc.toNat, by omega⟩
    obtain ⟨b, off, y, rfl, hlt, hy, hky, c0, c1, c2, c3⟩ := sets_cell (h.below ((Below.refl _ w).alloc (Nat.le_refl _) (.cells #[.int .u64 0, .int .u64 0, .int .u64 0, .int .u64 0] 27))) (show k < n by omega)
    rw [Mp.at_in hky, hy]
    clear h hl hy hky
    have hkn : k < n := by omega
    go_enter Tryd.func10, Tryd.ntmps10
    go_wp2
    exact bodyPost_ret (v := setV y) (by simp [results, Tryd.results10, go_sem, setV]) rfl ⟨rfl, (Below.refl _ w).alloc (Nat.le_refl _) _⟩

set_option maxRecDepth 100000 in
set_option maxHeartbeats 1000000 in
theorem rmpat_any (a : Option Addr) (n c : Nat) (l : List Sl.Four) (pc : Int) (w : World) (h : SetsAt w w.heap.size a n l) :
    Calls Tryd.prog 11 #[.slice a n c, .int .i64 pc] w (SetP (Mp.at_ l pc) w) := by
  have hl : l.length = n := h.1
  by_cases h0 : pc < 0
  · rw [Mp.at_out (.inl h0)]
    clear h hl
    have d0 : decide (pc < 0) = true := decide_eq_true h0
    go_enter Tryd.func11, Tryd.ntmps11
    go_wp2
    exact bodyPost_ret (v := setV Sl.no) (by simp [results, Tryd.results11, go_sem, setV, Sl.no]) rfl ⟨rfl, (Below.refl _ w).alloc (Nat.le_refl _) _⟩
  have d0 : decide (pc < 0) = false := decide_eq_false h0
  by_cases h1 : (n : Int) ≤ pc
  · rw [Mp.at_out (.inr (by rw [hl]; exact h1))]
    have d1 : decide ((n : Int) ≤ pc) = true := decide_eq_true h1
    clear h hl
    go_enter Tryd.func11, Tryd.ntmps11
    go_wp2
    exact bodyPost_ret (v := setV Sl.no) (by simp [results, Tryd.results11, go_sem, setV, Sl.no]) rfl ⟨rfl, (Below.refl _ w).alloc (Nat.le_refl _) _⟩
  · have d1 : decide ((n : Int) ≤ pc) = false := decide_eq_false h1
    obtain ⟨k, rfl⟩ : ∃ k : Nat, pc = (k : Int) := ⟨pc.toNat, by omega⟩
    obtain ⟨b, off, y, rfl, hlt, hy, hky, c0, c1, c2, c3⟩ := sets_cell (h.below ((Below.refl _ w).alloc (Nat.le_refl _) (.cells #[.int .u64 0, .int .u64 0, .int .u64 0, .int .u64 0] 27))) (show k < n by omega)
    rw [Mp.at_in hky, hy]
    clear h hl hy hky
    have hkn : k < n := by omega
    go_enter Tryd.func11, Tryd.ntmps11
    go_wp2
    exact bodyPost_ret (v := setV y) (by simp [results, Tryd.results11, go_sem, setV]) rfl ⟨rfl, (Below.refl _ w).alloc (Nat.le_refl _) _⟩

/-- slices.EqualFunc over slots.Inside: as many, and each inside the other's. -/
def InsRel (n : Nat) (l r : List Sl.Four) (w : World) (i : Value) (wr : World) : Prop :=
  ∃ k : Nat, k ≤ n ∧ i = .int .i64 (k : Int) ∧ Below w.heap.size w wr ∧ ∀ j, j < k → (l.getD j Sl.no).inside (r.getD j Sl.no) = true

set_option maxRecDepth 100000 in
set_option maxHeartbeats 4000000 in
theorem mpequal_any (a b : Option Addr) (n c m d : Nat) (l r : List Sl.Four) (w : World) (h : SetsAt w w.heap.size a n l) (h2 : SetsAt w w.heap.size b m r) (hn : n ≤ 9223372036854775807) (ho : ∀ s ∈ l, s.ok) (ho2 : ∀ s ∈ r, s.ok) :
    Calls Tryd.prog 28 #[.slice a n c, .slice b m d, .func (.func 29) #[] #[]] w (BoolP (Mp.inside l r) w) := by
  have hl : l.length = n := h.1
  have hr : r.length = m := h2.1
  by_cases hnm : n = m
  · subst hnm
    have H := Lib.hid h
    have H2 := Lib.hid h2
    have HG : Hid ((∀ k, k < n → (l.getD k Sl.no).inside (r.getD k Sl.no) = true) → Mp.inside l r = true) := Lib.hid (fun hk => Mp.inside_good (by omega) (by rw [hl]; exact hk))
    have HB : Hid (∀ k, k < n → (l.getD k Sl.no).inside (r.getD k Sl.no) = false → Mp.inside l r = false) := Lib.hid (fun k hk => Mp.inside_bad (by omega))
    have HO : Hid (∀ k, k < n → (l.getD k Sl.no).ok ∧ (r.getD k Sl.no).ok) := Lib.hid (fun k hk => ⟨mp_ok ho (by omega), mp_ok ho2 (by omega)⟩)
    clear h h2 ho ho2 hl hr
    go_enter Tryd.func28, Tryd.ntmps28
    go_wp2
    go_loopw [7, 8, 9, 17] (fun _ _ _ i wr => InsRel n l r w i wr) (fun _ _ _ i _ => n - (intOf i).toNat)
    case atStart => exact ⟨0, Nat.zero_le _, rfl, Below.refl _ _, fun j hj => absurd hj (by omega)⟩
    case round =>
      obtain ⟨k, hk, rfl, hBl, hW⟩ := hrel
      have HBl := Lib.hid hBl
      have HW := Lib.hid hW
      clear hBl hW
      by_cases hlt : k < n
      · obtain ⟨b1, off1, x, rfl, hlt1, hx, _, c0, c1, c2, c3⟩ := sets_cell (H.out.below HBl.out) hlt
        obtain ⟨b2, off2, y, rfl, hlt2, hy, _, d0, d1, d2, d3⟩ := sets_cell (H2.out.below (HBl.out.alloc HBl.out.size (.cells #[.int .u64 (x.a : Int), .int .u64 (x.b : Int), .int .u64 (x.c : Int), .int .u64 (x.d : Int)] 27))) hlt
        obtain ⟨ox, oy⟩ := HO.out k hlt
        rw [hx] at ox
        rw [hy] at oy
        have HI := Lib.hid (fun W => inside_any x y ox oy W)
        cases hi : x.inside y with
        | false =>
          rw [hi] at HI
          have HE := Lib.hid (HB.out k hlt (by rw [hx, hy]; exact hi))
          clear HB HG HO HW ox oy hx hy hi hlt1 hlt2
          go_wp2_with (go_at_call 29; refine (HI.out _).mono ?_; rintro _ w1 ⟨rfl, hb1⟩)
          go_ret
          exact ⟨retB HE.out.symm, ((HBl.out.alloc HBl.out.size _).alloc (by have := HBl.out.size; simp; omega) _).trans (hb1.mono (by have := HBl.out.size; simp; omega))⟩
        | true =>
          rw [hi] at HI
          have HS : Hid (∀ j, j < k + 1 → (l.getD j Sl.no).inside (r.getD j Sl.no) = true) := Lib.hid (fun j hj => by
            rcases Nat.lt_or_eq_of_le (Nat.le_of_lt_succ hj) with h | rfl
            · exact HW.out j h
            · rw [hx, hy]; exact hi)
          clear HB HG HO HW ox oy hx hy hi hlt1 hlt2
          go_wp2_with (go_at_call 29; refine (HI.out _).mono ?_; rintro _ w1 ⟨rfl, hb1⟩)
          go_roundw
          case rel => exact ⟨k + 1, hlt, by go_num, ((HBl.out.alloc HBl.out.size _).alloc (by have := HBl.out.size; simp; omega) _).trans (hb1.mono (by have := HBl.out.size; simp; omega)), HS.out⟩
          case measure => simp [intOf]; omega
      · have HE := Lib.hid (HG.out (fun j hj => HW.out j (by omega)))
        clear HB HG HO HW
        go_wp2
        go_ret
        exact ⟨retB HE.out.symm, HBl.out⟩
  · rw [Mp.inside_length (by omega)]
    have hd : decide ((n : Int) = (m : Int)) = false := decide_eq_false (by omega)
    clear h h2 ho ho2 hl hr
    go_enter Tryd.func28, Tryd.ntmps28
    go_wp2
    go_ret
    exact ⟨rfl, Below.refl _ _⟩
end Go.Proofs.YtinmcelgfdjmfaaDoor
