/-
  What uvar.GetInt and PutInt answer. Conditions: the bytes can be read; a slice that is appended to is the caller's own; lengths within the reach.
-/
import Derived.Test.YtpfcfmpfommfaaaDoorGet
namespace Go.Proofs.YtpfcfmpfommfaaaDoor
open Go.RowKit

def getInt (l : List Nat) : Int × Nat × Nat := (Uv.unfold_ (Uv.get l).1, (Uv.get l).2.1, (Uv.get l).2.2)

theorem get_fst_lt {l : List Nat} (hb : ∀ c ∈ l, c < 256) : (Uv.get l).1 < 18446744073709551616 := by
  rcases Uv.get_just hb with ⟨n, h, _, _, hn⟩ | ⟨e, h, _⟩
  · rw [h]; exact hn
  · rw [h]; show 0 < _; omega

set_option maxHeartbeats 400000 in
set_option maxRecDepth 100000 in
theorem getInt_any (A : Option Addr) (n c B : Nat) (l : List Nat) (w : World) (h : BytesAt w B A n l) (hn : n ≤ 9223372036854775807) :
    Calls Tryd.prog 88 #[.slice A n c] w fun e w' => e = .returned (Triple .i64 (getInt l).1 (getInt l).2.1 (getInt l).2.2) ∧ w = w' := by
  have hlt := get_fst_lt h.2.1
  have HC := Lib.hid (get_any A n c B l w h hn)
  clear h
  unfold getInt
  simp only
  generalize (Uv.get l).1 = x at *
  generalize (Uv.get l).2.1 = y at *
  generalize (Uv.get l).2.2 = z at *
  go_enter Tryd.func88, Tryd.ntmps88
  go_wp2_with (first
    | (go_at_call 91; refine HC.out.mono ?_; unfold Triple; rintro e w' ⟨rfl, rfl⟩)
    | (go_at_call 92; refine (unfold_any _ _ hlt).mono ?_; rintro e w' ⟨rfl, rfl⟩))
  go_ret3
  exact ⟨rfl, rfl⟩

set_option maxHeartbeats 400000 in
set_option maxRecDepth 100000 in
theorem putInt_own (base : Nat) (v : Value) (l : Nat) (xs : List Value) (n : Int) (w : World) (h1 : -9223372036854775808 ≤ n) (h2 : n ≤ 9223372036854775807) (hown : w.ownsRow base 5 1 v l xs) (hbase : base ≤ w.heap.size) (hl : l + 10 ≤ 140737488355328) :
    Calls Tryd.prog 38 #[v, .int .i64 n] w (OwnPost base w v (l + (Uv.put (Uv.fold n)).length) (xs ++ bs (Uv.put (Uv.fold n)))) := by
  have hlt := Uv.fold_lt h1 h2
  go_enter Tryd.func38, Tryd.ntmps38
  go_wp2_with (first
    | (go_at_call 61; refine (fold_any _ _ h1 h2).mono ?_; rintro e w' ⟨rfl, rfl⟩)
    | (go_at_call 36; refine (put_own base v l xs _ _ hlt hown hbase hl).mono ?_; rintro e w1 ⟨v1, rfl, hinv⟩))
  go_ret
  exact ⟨_, rfl, hinv⟩

end Go.Proofs.YtpfcfmpfommfaaaDoor
