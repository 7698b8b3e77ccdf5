/-
  What the cursor's calls answer where a call made the cursor. Conditions: none.
-/
import Derived.Test.YtpfcfmpfommfaaaDoorCurE
import Derived.OwnWalk
namespace Go.Proofs.YtpfcfmpfommfaaaDoor
open Go.RowKit

set_option maxRecDepth 100000 in
theorem bits_cur (g : Nat) (s : List Nat × Nat) (w : World) (h : Cur w g s) :
    Calls Tryd.prog 74 #[.pointer (some ⟨g, 0, none⟩)] w fun e w' => e = .returned (.int .u64 (bitsA s).1) ∧ Cur w' g (bitsA s).2 ∧ w.grownBy w' (some g) :=
  (bits_any (some ⟨g, 0, none⟩) s w (.inr ⟨g, rfl, h⟩)).mono fun _ _ ⟨h1, h2, h3⟩ => ⟨h1, h2.cur, h3⟩
set_option maxRecDepth 100000 in
theorem int_cur (g : Nat) (s : List Nat × Nat) (w : World) (h : Cur w g s) :
    Calls Tryd.prog 55 #[.pointer (some ⟨g, 0, none⟩)] w fun e w' => e = .returned (.int .i64 (intA s).1) ∧ Cur w' g (intA s).2 ∧ w.grownBy w' (some g) :=
  (int_any (some ⟨g, 0, none⟩) s w (.inr ⟨g, rfl, h⟩)).mono fun _ _ ⟨h1, h2, h3⟩ => ⟨h1, h2.cur, h3⟩
set_option maxRecDepth 100000 in
theorem err_cur (g : Nat) (s : List Nat × Nat) (w : World) (h : Cur w g s) :
    Calls Tryd.prog 28 #[.pointer (some ⟨g, 0, none⟩)] w fun e w' => e = .returned (.int .i64 s.2) ∧ w' = w := by
  refine (err_any (some ⟨g, 0, none⟩) s w (.inr ⟨g, rfl, h⟩)).mono ?_
  rintro e w' ⟨rfl, ⟨_, rfl⟩ | ⟨h, _⟩⟩
  · exact ⟨rfl, rfl⟩
  · cases h
set_option maxRecDepth 100000 in
theorem left_cur (g : Nat) (s : List Nat × Nat) (w : World) (h : Cur w g s) :
    Calls Tryd.prog 29 #[.pointer (some ⟨g, 0, none⟩)] w fun e w' => e = .returned (.int .i64 s.1.length) ∧ w' = w := by
  refine (left_any (some ⟨g, 0, none⟩) s w (.inr ⟨g, rfl, h⟩)).mono ?_
  rintro e w' ⟨rfl, ⟨_, rfl⟩ | ⟨h, _⟩⟩
  · exact ⟨rfl, rfl⟩
  · cases h

set_option maxRecDepth 100000 in
theorem num_cur (g : Nat) (s : List Nat × Nat) (most : Int) (w : World) (h : Cur w g s) (h1 : -9223372036854775808 ≤ most) (h2 : most ≤ 9223372036854775807) :
    Calls Tryd.prog 54 #[.pointer (some ⟨g, 0, none⟩), .int .i64 most] w fun e w' => e = .returned (.int .i64 (numA s most).1) ∧ Cur w' g (numA s most).2 ∧ w.grownBy w' (some g) :=
  (num_any (some ⟨g, 0, none⟩) s most w (.inr ⟨g, rfl, h⟩) h1 h2).mono fun _ _ ⟨h1, h2, h3⟩ => ⟨h1, h2.cur, h3⟩
theorem cur_grown {w w' : World} {g : Nat} {s : List Nat × Nat} (h : Cur w g s) (hb : Below w.heap.size w w') : Cur w' g s :=
  h.kept (row := none) ⟨hb.os, hb.tape, hb.output, hb.size, fun k hk _ => hb.block k hk⟩ (by simp)
/-- What is owned from a block on, above the cursor's, is kept where that alone turns. -/
theorem own_grownG {w : World} {base g n : Nat} {e : TypeId} {size : Nat} {u : Value} {xs : List Value} (h : w.ownsRow base e size u n xs) {w' : World} (hg : w.grownBy w' (some g)) (hlt : g < base) : w'.ownsRow base e size u n xs := by
  refine h.kept hg ?_
  cases hu : u.ownBlock with
  | none => exact .inl rfl
  | some k =>
    refine .inr (fun e' => ?_)
    injection e' with e'
    have := (h.lt k hu).1
    omega
theorem grown_more {w wr w2 : World} {g : Nat} {e : TypeId} {size k : Nat} {u : Value} {xs : List Value} (h : w.grownBy wr (some g)) (hO : wr.ownsRow w.heap.size e size u k xs) (hg : wr.grownBy w2 u.ownBlock) : w.grownBy w2 (some g) := by
  refine ⟨hg.os.trans h.os, hg.tape.trans h.tape, hg.output.trans h.output, Nat.le_trans h.size hg.size, fun j hj hne => ?_⟩
  rw [hg.block j (Nat.lt_of_lt_of_le hj h.size) (fun e' => by have := (hO.lt j e'.symm).1; omega), h.block j hj hne]
theorem grown_below {w wr w2 : World} {g B : Nat} (h : w.grownBy wr (some g)) (hb : Below B wr w2) (hB : w.heap.size ≤ B) : w.grownBy w2 (some g) := by
  refine ⟨hb.os.trans h.os, hb.tape.trans h.tape, hb.output.trans h.output, Nat.le_trans h.size hb.size, fun j hj hne => ?_⟩
  rw [hb.block j (by omega), h.block j hj hne]
theorem cur_below {w w2 : World} {g B : Nat} {s : List Nat × Nat} (h : Cur w g s) (hb : Below B w w2) (hB : g < B) : Cur w2 g s := by
  obtain ⟨A, n, c, m, e0, h1, h2, h3⟩ := h
  exact ⟨A, n, c, m, e0, (hb.block g hB).trans h1, h2.below (hb.mono (Nat.le_of_lt hB)), h3⟩
end Go.Proofs.YtpfcfmpfommfaaaDoor
