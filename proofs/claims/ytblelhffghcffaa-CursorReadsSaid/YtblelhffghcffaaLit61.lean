/-
  A frame of 61 slots, written out. Conditions: none.
-/
import Derived.Test.YtblelhffghcffaaOneC
namespace Go.Proofs.Ytblelhffghcffaa

theorem lit_of (n : Nat) (t : Array Value) (h : t.size = n) : t = ⟨List.ofFn fun i : Fin n => t.getD i.val undef⟩ := by
  subst h
  apply Array.ext
  · simp
  · intro i h1 h2
    simp [Array.getD]

set_option maxRecDepth 100000 in
theorem lit61 (t : Array Value) (h : t.size = 61) : t = #[t.getD 0 undef, t.getD 1 undef, t.getD 2 undef, t.getD 3 undef, t.getD 4 undef, t.getD 5 undef, t.getD 6 undef, t.getD 7 undef, t.getD 8 undef, t.getD 9 undef, t.getD 10 undef, t.getD 11 undef, t.getD 12 undef, t.getD 13 undef, t.getD 14 undef, t.getD 15 undef, t.getD 16 undef, t.getD 17 undef, t.getD 18 undef, t.getD 19 undef, t.getD 20 undef, t.getD 21 undef, t.getD 22 undef, t.getD 23 undef, t.getD 24 undef, t.getD 25 undef, t.getD 26 undef, t.getD 27 undef, t.getD 28 undef, t.getD 29 undef, t.getD 30 undef, t.getD 31 undef, t.getD 32 undef, t.getD 33 undef, t.getD 34 undef, t.getD 35 undef, t.getD 36 undef, t.getD 37 undef, t.getD 38 undef, t.getD 39 undef, t.getD 40 undef, t.getD 41 undef, t.getD 42 undef, t.getD 43 undef, t.getD 44 undef, t.getD 45 undef, t.getD 46 undef, t.getD 47 undef, t.getD 48 undef, t.getD 49 undef, t.getD 50 undef, t.getD 51 undef, t.getD 52 undef, t.getD 53 undef, t.getD 54 undef, t.getD 55 undef, t.getD 56 undef, t.getD 57 undef, t.getD 58 undef, t.getD 59 undef, t.getD 60 undef] := (lit_of 61 t h).trans rfl

end Go.Proofs.Ytblelhffghcffaa
