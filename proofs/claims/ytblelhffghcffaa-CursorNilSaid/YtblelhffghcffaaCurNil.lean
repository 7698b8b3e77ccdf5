/-
  The walk of the law CursorNil: a cursor that no call made tells nothing, and that it is none. Conditions: none.
-/
import Derived.Test.YtblelhffghcffaaCurLives
namespace Go.Proofs.Ytblelhffghcffaa
open Go.RowKit

/-- A cursor that no call made stands at block B; below it nothing has turned. -/
def NilT (w0 : World) (w : World) : Prop := Cur w w0.heap.size ([], 1) ∧ Below w0.heap.size w0 w ∧ w0.heap.size ≤ w.heap.size

theorem NilT.none {w0 w w' : World} (h : NilT w0 w) (ho : Only Option.none w w') : NilT w0 w' :=
  ⟨h.1.kept ho (by simp), h.2.1.grown ho h.2.2 (by simp), Nat.le_trans h.2.2 ho.size⟩
theorem NilT.own {w0 w w' : World} (h : NilT w0 w) (hc : CurP w' (some ⟨w0.heap.size, 0, Option.none⟩) ([], 1)) (ho : Only (some ⟨w0.heap.size, 0, Option.none⟩) w w') : NilT w0 w' :=
  ⟨hc.cur, ho.below h.2.1 (Nat.le_refl _) h.2.2, Nat.le_trans h.2.2 ho.size⟩

def NilR (v : Value) (w0 : World) (e : Ending) (w' : World) : Prop := e = .returned v ∧ NilT w0 w'

theorem nil_of {w0 w : World} (h : NilT w0 w) {v : Value} {e : Ending} {w' : World} (k : Turned v Option.none ([], 1) w e w') : NilR v w0 e w' := ⟨k.1, h.none k.2.2⟩
theorem own_of {w0 w : World} (h : NilT w0 w) {v : Value} {e : Ending} {w' : World} (k : Turned v (some ⟨w0.heap.size, 0, Option.none⟩) ([], 1) w e w') : NilR v w0 e w' := ⟨k.1, h.own k.2.1 k.2.2⟩
theorem nil_told {w0 w : World} (h : NilT w0 w) {k : IntKind} {x : Int} {e : Ending} {w' : World} (t : Told k x Option.none w e w') : NilR (.int k x) w0 e w' := ⟨t.1, h.none (Only.same t.2)⟩
theorem own_told {w0 w : World} (h : NilT w0 w) {k : IntKind} {x : Int} {e : Ending} {w' : World} (t : Told k x (some ⟨w0.heap.size, 0, Option.none⟩) w e w') : NilR (.int k x) w0 e w' := ⟨t.1, by
  rcases t.2 with ⟨_, rfl⟩ | ⟨h, _⟩
  · exact h
  · cases h⟩

theorem textA_nil (n : Int) : textA ([], 1) n = (str [], [], 1) := by
  unfold textA
  rw [numA_nil]
  rfl

section
variable {w0 w : World} (h : NilT w0 w)
include h
theorem NilT.p : CurP w (some ⟨w0.heap.size, 0, Option.none⟩) ([], 1) := .inr ⟨_, rfl, h.1⟩
theorem n_fail : Calls Try.prog 18 #[.pointer none, .int .i64 2] w (NilR (.tuple #[]) w0) := (fail_any none ([], 1) 2 w (.inl ⟨rfl, rfl⟩) (by omega)).mono fun _ _ k => nil_of h k
theorem d_fail : Calls Try.prog 18 #[.pointer (some ⟨w0.heap.size, 0, Option.none⟩), .int .i64 2] w (NilR (.tuple #[]) w0) := (fail_any _ ([], 1) 2 w h.p (by omega)).mono fun _ _ k => own_of h k
theorem n_num (n : Int) (h1 : -9223372036854775808 ≤ n) (h2 : n ≤ 9223372036854775807) : Calls Try.prog 19 #[.pointer none, .int .i64 n] w (NilR (.int .i64 0) w0) := by
  have := num_any none ([], 1) n w (.inl ⟨rfl, rfl⟩) h1 h2
  rw [numA_nil] at this
  exact this.mono fun _ _ k => nil_of h k
theorem n_text (n : Int) (h1 : -9223372036854775808 ≤ n) (h2 : n ≤ 9223372036854775807) : Calls Try.prog 17 #[.pointer none, .int .i64 n] w (NilR (.string ⟨#[]⟩) w0) := by
  have := ctext_any none ([], 1) n w (.inl ⟨rfl, rfl⟩) h1 h2
  rw [textA_nil] at this
  exact this.mono fun _ _ k => nil_of h k
theorem n_err : Calls Try.prog 8 #[.pointer none] w (NilR (.int .i64 1) w0) := (err_any none ([], 1) w (.inl ⟨rfl, rfl⟩)).mono fun _ _ k => nil_told h k
theorem n_left : Calls Try.prog 9 #[.pointer none] w (NilR (.int .i64 0) w0) := (left_any none ([], 1) w (.inl ⟨rfl, rfl⟩)).mono fun _ _ k => nil_told h k
theorem d_byte : Calls Try.prog 20 #[.pointer (some ⟨w0.heap.size, 0, Option.none⟩)] w (NilR (.int .u8 0) w0) := (byte_any _ ([], 1) w h.p).mono fun _ _ k => own_of h k
theorem d_int : Calls Try.prog 16 #[.pointer (some ⟨w0.heap.size, 0, Option.none⟩)] w (NilR (.int .i64 0) w0) := (int_any _ ([], 1) w h.p).mono fun _ _ k => own_of h k
theorem d_bits : Calls Try.prog 21 #[.pointer (some ⟨w0.heap.size, 0, Option.none⟩)] w (NilR (.int .u64 0) w0) := (bits_any _ ([], 1) w h.p).mono fun _ _ k => own_of h k
theorem d_end : Calls Try.prog 11 #[.pointer (some ⟨w0.heap.size, 0, Option.none⟩)] w (NilR (.int .i64 1) w0) := (end_any _ ([], 1) w h.p).mono fun _ _ k => own_told h k
end

set_option maxHeartbeats 1000000 in
theorem nil_walk (n : Int) (w : World) (h1 : -9223372036854775808 ≤ n) (h2 : n ≤ 9223372036854775807) :
    Calls Try.prog 5 #[.int .i64 n] w fun e w' => e = .returned (.bool true) ∧ Below w.heap.size w w' := by
  have h0 : NilT w (w.alloc (.cells #[.slice none 0 0, .bool false, .int .i64 0] 49)) :=
    ⟨⟨none, 0, 0, false, 0, heap_alloc_new w _, ⟨rfl, by simp, by simp⟩, Nat.le_refl _, by omega, rfl, by simp, by simp⟩, (Below.refl _ _).alloc (Nat.le_refl _) _, by simp⟩
  go_enter Try.func5, Try.ntmps5
  go_wp2_with (first
    | (go_at_call 18; ((with_reducible refine (n_fail (w0 := w) (by assumption)).mono ?_); rintro e w' ⟨rfl, hT⟩))
    | (go_at_call 18; ((with_reducible refine (d_fail (w0 := w) (by assumption)).mono ?_); rintro e w' ⟨rfl, hT⟩))
    | (go_at_call 19; ((with_reducible refine (n_num (w0 := w) (by assumption) n h1 h2).mono ?_); rintro e w' ⟨rfl, hT⟩))
    | (go_at_call 17; ((with_reducible refine (n_text (w0 := w) (by assumption) n h1 h2).mono ?_); rintro e w' ⟨rfl, hT⟩))
    | (go_at_call 8; ((with_reducible refine (n_err (w0 := w) (by assumption)).mono ?_); rintro e w' ⟨rfl, hT⟩))
    | (go_at_call 9; ((with_reducible refine (n_left (w0 := w) (by assumption)).mono ?_); rintro e w' ⟨rfl, hT⟩))
    | (go_at_call 20; ((with_reducible refine (d_byte (w0 := w) (by assumption)).mono ?_); rintro e w' ⟨rfl, hT⟩))
    | (go_at_call 16; ((with_reducible refine (d_int (w0 := w) (by assumption)).mono ?_); rintro e w' ⟨rfl, hT⟩))
    | (go_at_call 21; ((with_reducible refine (d_bits (w0 := w) (by assumption)).mono ?_); rintro e w' ⟨rfl, hT⟩))
    | (go_at_call 11; ((with_reducible refine (d_end (w0 := w) (by assumption)).mono ?_); rintro e w' ⟨rfl, hT⟩))
    | (go_at_call 13; refine (lives2_any _).mono ?_; rintro e w' ⟨rfl, hb⟩))
  go_ret
  exact ⟨rfl, hT.2.1.trans (hb.mono hT.2.2)⟩
end Go.Proofs.Ytblelhffghcffaa
