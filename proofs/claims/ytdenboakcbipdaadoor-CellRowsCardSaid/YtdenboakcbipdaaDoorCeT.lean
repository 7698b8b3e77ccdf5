/-
  What cell.Text answers of any value. Conditions: the library's table of powers of ten is laid; a value's number is within 64 bits.
-/
import Derived.Test.YtdenboakcbipdaaDoorCeA
import Derived.Test.YtdenboakcbipdaaDoorItoa
import Derived.Lib.ItoaLen
import Derived.Laws.Concat
namespace Go.Proofs.YtdenboakcbipdaaDoor
open Go.RowKit
attribute [local go_sem] Ce.run_store_complex

theorem near_in (x : Nat) : -9223372036854775808 ≤ Pl.near x ∧ Pl.near x ≤ 9223372036854775807 := by
  unfold Pl.near
  split
  · unfold floatToIntVal
    have h1 : IntKind.i64.min = -9223372036854775808 := rfl
    have h2 : IntKind.i64.max = 9223372036854775807 := rfl
    split
    · split
      · rename_i h
        rw [h1, h2] at h
        exact h
      · constructor <;> decide
    · constructor <;> decide
  · omega

theorem part_in (op : Int) (re im : Nat) : -9223372036854775808 ≤ Pl.part op re im ∧ Pl.part op re im ≤ 9223372036854775807 := by
  unfold Pl.part
  split
  · exact near_in _
  · split
    · exact near_in _
    · omega

/-- A value as text. -/
def Ce.text (v : Ce.Cv) : ByteArray :=
  if v.k = 1 then itoaB v.n else if v.k = 2 then ⟨#[40]⟩ ++ itoaB (Pl.part 19 v.re v.im) ++ ⟨#[44]⟩ ++ itoaB (Pl.part 20 v.re v.im) ++ ⟨#[41]⟩ else ⟨#[63]⟩

theorem digits_cx (op : Int) (re im : Nat) (w : World) (hp : Pow w) : Calls Tryd.prog 43 #[.complex .f64 re im, .int .i64 op] w fun e w' => e = .returned (.string (itoaB (Pl.part op re im))) ∧ Below w.heap.size w w' := by
  have H1 := fun w => part_any op re im w
  have H2 := itoa_full (Pl.part op re im) (part_in op re im).1 (part_in op re im).2 w hp
  clear hp
  generalize itoaB (Pl.part op re im) = s at *
  generalize Pl.part op re im = n at *
  go_enter Tryd.func43, Tryd.ntmps43
  go_wp2_with (first
    | (go_at_call 36; with_reducible refine (H1 _).mono ?_; rintro _ w1 ⟨rfl, he⟩; obtain rfl := he.symm)
    | (go_at_call 42; with_reducible refine H2.mono ?_; rintro _ w1 ⟨rfl, b1⟩))
  go_ret
  exact ⟨rfl, b1⟩

theorem itoaB_size (n : Int) (h : -9223372036854775808 ≤ n ∧ n ≤ 9223372036854775807) : (itoaB n).size ≤ 21 := by
  have := Lib.itoa_length_le n h.1 h.2
  simpa [itoaB, ByteArray.size] using this

theorem text_num (n : Int) (h : -9223372036854775808 ≤ n ∧ n ≤ 9223372036854775807) (w : World) (hp : Pow w) : Calls Tryd.prog 31 #[.iface 61 (.int .i64 n)] w fun e w' => e = .returned (.string (itoaB n)) ∧ Below w.heap.size w w' := by
  have i1 := is_num
  have H := itoa_full n h.1 h.2 w hp
  generalize itoaB n = s at *
  clear hp
  go_enter Tryd.func31, Tryd.ntmps31
  go_wp2_with (go_at_call 42; with_reducible refine H.mono ?_; rintro _ w1 ⟨rfl, b1⟩)
  go_ret
  exact ⟨rfl, b1⟩

theorem text_none (w : World) : Calls Tryd.prog 31 #[.nilIface] w fun e w' => e = .returned (.string ⟨#[63]⟩) ∧ Below w.heap.size w w' := by
  have i4 := nil_num
  have i5 := nil_point
  go_enter Tryd.func31, Tryd.ntmps31
  go_wp2
  go_ret
  exact ⟨rfl, Below.refl _ _⟩

theorem text_cx (re im : Nat) (w : World) (hp : Pow w) : Calls Tryd.prog 31 #[.iface 64 (.complex .f64 re im)] w fun e w' => e = .returned (.string (⟨#[40]⟩ ++ itoaB (Pl.part 19 re im) ++ ⟨#[44]⟩ ++ itoaB (Pl.part 20 re im) ++ ⟨#[41]⟩)) ∧ Below w.heap.size w w' := by
  have i2 := is_point
  have i3 := not_num
  have H1 := digits_cx 19 re im w hp
  have H2 := Lib.hid (fun w => digits_cx 20 re im w)
  have HP := Lib.hid hp
  have l1 := itoaB_size _ (part_in 19 re im)
  have l2 := itoaB_size _ (part_in 20 re im)
  clear hp
  generalize itoaB (Pl.part 19 re im) = s at *
  generalize itoaB (Pl.part 20 re im) = s' at *
  go_enter Tryd.func31, Tryd.ntmps31
  go_wp2_with (first
    | (go_at_call 43; with_reducible refine H1.mono ?_; rintro _ w1 ⟨rfl, b1⟩; clear H1)
    | (go_at_call 43; refine (H2.out w1 (HP.out.below b1)).mono ?_; rintro _ w2 ⟨rfl, b2⟩))
  go_ret
  exact ⟨rfl, b1.trans (b2.mono b1.size)⟩

theorem ctext_any (v : Ce.Cv) (hn : -9223372036854775808 ≤ v.n ∧ v.n ≤ 9223372036854775807) (w : World) (hp : Pow w) : Calls Tryd.prog 15 #[v.val] w fun e w' => e = .returned (.string (Ce.text v)) ∧ Below w.heap.size w w' := by
  have H1 := held_ex v (w.alloc v.obj)
  have hp2 := (hp.below (below_alloc1 w v.obj)).below (below_alloc1 _ v.obj)
  have H2 : Calls Tryd.prog 31 #[Ce.held v] ((w.alloc v.obj).alloc v.obj) fun e w' => e = .returned (.string (Ce.text v)) ∧ Below ((w.alloc v.obj).alloc v.obj).heap.size ((w.alloc v.obj).alloc v.obj) w' := by
    obtain ⟨k, n, re, im⟩ := v
    rcases (by omega : k = 1 ∨ k = 2 ∨ (k ≠ 1 ∧ k ≠ 2)) with rfl | rfl | ⟨h1, h2⟩
    · exact text_num n hn _ hp2
    · exact text_cx re im _ hp2
    · rw [show Ce.held ⟨k, n, re, im⟩ = .nilIface by simp [Ce.held, h1, h2], show Ce.text ⟨k, n, re, im⟩ = ⟨#[63]⟩ by simp [Ce.text, h1, h2]]
      exact text_none _
  clear hp2 hp hn
  obtain ⟨k, n, re, im⟩ := v
  generalize Ce.held ⟨k, n, re, im⟩ = x at *
  generalize Ce.text ⟨k, n, re, im⟩ = s at *
  go_enter Tryd.func15, Tryd.ntmps15
  go_wp2_with (first
    | (go_at_call 28; with_reducible refine H1.mono ?_; rintro _ w1 ⟨rfl, rfl⟩)
    | (go_at_call 31; with_reducible refine H2.mono ?_; rintro _ w1 ⟨rfl, b1⟩))
  go_ret
  exact ⟨rfl, (below_alloc2 _ _ _).trans (b1.mono (by simp only [World.size_alloc]; omega))⟩
end Go.Proofs.YtdenboakcbipdaaDoor
