/-
  What is taken from the bytes that are still there: a number, one with a sign, a byte, a text. Conditions: none.
-/
import Derived.Test.YtpfcfmpfommfaaaDoorCurB
namespace Go.Proofs.YtpfcfmpfommfaaaDoor
open Go.RowKit

/-- Something is told, and an error; the bytes that are left. -/
def SrcPost (v : Value) (er : Nat) (g : Nat) (s' : List Nat × Nat) (w : World) (e : Ending) (w' : World) : Prop :=
  e = .returned (.tuple #[v, .int .i64 (er : Int)]) ∧ Cur w' g s' ∧ w.grownBy w' (some g)

theorem get_le {l : List Nat} (hb : ∀ c ∈ l, c < 256) : (Uv.get l).2.1 ≤ l.length := by
  rcases Uv.get_just hb with ⟨n, h, _, hl, _⟩ | ⟨e, h, _⟩
  · rw [h]; exact hl
  · rw [h]; exact Nat.zero_le _

/-- The store of what is left. -/
theorem Cur.cut {w : World} {g : Nat} {s : List Nat × Nat} {A : Option Addr} {n c : Nat} {m : Bool} {e0 k : Nat} (h1 : Cells w g A n c m e0) (h2 : BytesAt w g A n s.1) (h3 : n ≤ c) (h4 : c ≤ 9223372036854775807) (h5 : s.2 = (if m then e0 else 1)) (h6 : s.2 ≠ 0 → s.1 = []) (h7 : s.2 ≤ 9223372036854775807) (hk : k ≤ n)
    {A' : Option Addr} {n' c' : Nat} (hA : A' = if c = k then A else A.map (·.add (k * 1))) (hn : n' = n - k) (hc : c' = c - k) :
    Cur (w.setCell ⟨g, 0, none⟩ (.slice A' n' c')) g (s.1.drop k, s.2) ∧ w.grownBy (w.setCell ⟨g, 0, none⟩ (.slice A' n' c')) (some g) := by
  have hg : w.grownBy (w.setCell ⟨g, 0, none⟩ (.slice A' n' c')) (some g) := Lib.grownBy_setB (World.grownBy.refl _ _) _ _
  subst hA hn hc
  refine ⟨⟨_, _, _, m, e0, h1.set0 _ _ _, (h2.cut hk h3).kept hg (fun j e => by injection e with e; omega), by omega, by omega, h5, fun h => ?_, h7⟩, hg⟩
  show s.1.drop k = []
  rw [h6 h]
  simp

set_option maxRecDepth 100000 in
set_option maxHeartbeats 400000 in
theorem number_any (g : Nat) (s : List Nat × Nat) (w : World) (h : Cur w g s) :
    Calls Tryd.prog 87 #[.pointer (some ⟨g, 0, none⟩)] w (SrcPost (.int .u64 (Uv.get s.1).1) (Uv.get s.1).2.2 g (s.1.drop (Uv.get s.1).2.1, s.2) w) := by
  obtain ⟨A, n, c, m, e0, h1, h2, h3, h4, h5, h6, h7⟩ := h
  have hk := get_le h2.2.1
  rw [h2.1] at hk
  have HG := Lib.hid (get_any A n c g s.1 w h2 (by omega))
  have HX := Lib.hid (fun A' n' c' => Cur.cut (A' := A') (n' := n') (c' := c') h1 h2 h3 h4 h5 h6 h7 hk)
  have c0 := h1.c0
  have f0 := h1.f 0
  clear h1 h2 h5 h6 h7
  generalize (Uv.get s.1).1 = x at *
  generalize (Uv.get s.1).2.1 = k at *
  generalize (Uv.get s.1).2.2 = z at *
  go_enter Tryd.func87, Tryd.ntmps87
  go_wp2_with (go_at_call 91; refine HG.out.mono ?_; unfold Triple; rintro e w' ⟨rfl, rfl⟩)
  all_goals
    go_ret2
    exact ⟨rfl, HX.out _ _ _ (by first | rw [if_pos (by assumption)] | (rw [if_neg (by assumption)]; simp)) rfl (by omega)⟩

set_option maxRecDepth 100000 in
set_option maxHeartbeats 400000 in
theorem signed_any (g : Nat) (s : List Nat × Nat) (w : World) (h : Cur w g s) :
    Calls Tryd.prog 76 #[.pointer (some ⟨g, 0, none⟩)] w (SrcPost (.int .i64 (Uv.unfold_ (Uv.get s.1).1)) (Uv.get s.1).2.2 g (s.1.drop (Uv.get s.1).2.1, s.2) w) := by
  obtain ⟨A, n, c, m, e0, h1, h2, h3, h4, h5, h6, h7⟩ := h
  have hk := get_le h2.2.1
  rw [h2.1] at hk
  have HG := Lib.hid (getInt_any A n c g s.1 w h2 (by omega))
  have HX := Lib.hid (fun A' n' c' => Cur.cut (A' := A') (n' := n') (c' := c') h1 h2 h3 h4 h5 h6 h7 hk)
  have c0 := h1.c0
  have f0 := h1.f 0
  clear h1 h2 h5 h6 h7
  unfold getInt at HG
  simp only at HG
  generalize Uv.unfold_ (Uv.get s.1).1 = x at *
  generalize (Uv.get s.1).2.1 = k at *
  generalize (Uv.get s.1).2.2 = z at *
  go_enter Tryd.func76, Tryd.ntmps76
  go_wp2_with (go_at_call 88; refine HG.out.mono ?_; unfold Triple; rintro e w' ⟨rfl, rfl⟩)
  all_goals
    go_ret2
    exact ⟨rfl, HX.out _ _ _ (by first | rw [if_pos (by assumption)] | (rw [if_neg (by assumption)]; simp)) rfl (by omega)⟩

/-- The first byte, if there is one, and the rest. -/
def octB (l : List Nat) : Nat × Nat × Nat := match l with | [] => (0, 0, 3) | c :: _ => (c, 1, 0)

/-- So many bytes as a text, if there are as many, and the rest. -/
def textB (l : List Nat) (z : Nat) : ByteArray × Nat × Nat := if l.length < z then (str [], 0, 3) else (str (l.take z), z, 0)

end Go.Proofs.YtpfcfmpfommfaaaDoor
