/-
  The walk of the law UvarGets: uvar's Get and GetInt answer what the document's do. Conditions: none but that the slice's bytes can be read.
-/
import Derived.Test.YthdmhpmnnnchmaaLives
namespace Go.Proofs.Ythdmhpmnnnchmaa
open Go.RowKit

set_option maxHeartbeats 1000000 in
set_option maxRecDepth 100000 in
theorem gets_walk (A : Option Addr) (n c B : Nat) (l : List Nat) (w : World) (h : BytesAt w B A n l) (hn : n ≤ 9223372036854775807) :
    Calls Try.prog 4 #[.slice A n c] w fun e w' => e = .returned (.bool true) ∧ Below w.heap.size w w' := by
  have H1 := Lib.hid (get_any A n c B l w h hn)
  have H2 := Lib.hid (rget_any A n c B l w h hn)
  have H3 := Lib.hid (getInt_any A n c B l w h hn)
  have H4 := Lib.hid (rgetInt_any A n c B l w h hn)
  clear h
  generalize (Uv.get l).1 = x at *
  generalize (Uv.get l).2.1 = y at *
  generalize (Uv.get l).2.2 = z at *
  generalize (getInt l).1 = x' at *
  generalize (getInt l).2.1 = y' at *
  generalize (getInt l).2.2 = z' at *
  go_enter Try.func4, Try.ntmps4
  go_wp2_with (first
    | (go_at_call 11; refine H1.out.mono ?_; unfold Triple; rintro e w' ⟨rfl, rfl⟩)
    | (go_at_call 12; refine H2.out.mono ?_; unfold Triple; rintro e w' ⟨rfl, rfl⟩)
    | (go_at_call 13; refine H3.out.mono ?_; unfold Triple; rintro e w' ⟨rfl, rfl⟩)
    | (go_at_call 14; refine H4.out.mono ?_; unfold Triple; rintro e w' ⟨rfl, rfl⟩)
    | (go_at_call 7; refine (lives_any _).mono ?_; rintro e w1 ⟨rfl, hb⟩))
  go_ret
  exact ⟨rfl, hb⟩
end Go.Proofs.Ythdmhpmnnnchmaa
