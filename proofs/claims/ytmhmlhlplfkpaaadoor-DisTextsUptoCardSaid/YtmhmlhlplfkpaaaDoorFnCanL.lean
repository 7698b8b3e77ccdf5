/-
 What lines.other, Right, At and the document's Right, At tell. Conditions: the table can be read.
-/
import Derived.Test.YtmhmlhlplfkpaaaDoorPMa
import Derived.BigQuiet
import Derived.Deep.QuietTactic
import Derived.WalkSmall
set_option maxRecDepth 100000
namespace Go.Proofs.YtmhmlhlplfkpaaaDoor
open Go.RowKit
theorem at_out {l : List Int} {pc : Int} (h : pc < 0 ∨ (l.length : Int) ≤ pc) : Li.at_ l pc = 0 := if_pos h
theorem at_in {l : List Int} {k : Nat} (h : k < l.length) : Li.at_ l (k : Int) = l.getD k 0 := by
 unfold Li.at_
 rw [if_neg (by omega)]
 simp
theorem liat_any (a : Option Addr) (n c B : Nat) (l : List Int) (pc : Int) (w : World) (h : IntsAt w B a n l) (_ : n ≤ 9223372036854775807) :
   Calls Tryd.prog 18 #[.slice a n c, .int .i64 pc] w (SameP (.int .i64 (Li.at_ l pc)) w) := by
 have hl : l.length = n := h.1
 by_cases h1 : pc < 0
 · rw [at_out (.inl h1)]
   clear h hl
   go_enter Tryd.func18, Tryd.ntmps18
   go_wp2
   go_ret
   exact ⟨rfl, rfl⟩
 by_cases h2 : (n : Int) ≤ pc
 · rw [at_out (.inr (by rw [hl]; exact h2))]
   clear h hl
   go_enter Tryd.func18, Tryd.ntmps18
   go_wp2
   go_ret
   exact ⟨rfl, rfl⟩
 obtain ⟨k, rfl⟩ : ∃ k : Nat, pc = (k : Int) := ⟨pc.toNat, by omega⟩
 obtain ⟨b, off, x, rfl, _, hc, hx, hkl⟩ := ints_cell h (k := k) (by omega)
 rw [at_in hkl, hx]
 clear h hl hx hkl
 have hkn : k < n := by omega
 go_enter Tryd.func18, Tryd.ntmps18
 go_wp2
 go_ret
 exact ⟨rfl, rfl⟩
theorem rliat_any (a : Option Addr) (n c B : Nat) (l : List Int) (pc : Int) (w : World) (h : IntsAt w B a n l) (_ : n ≤ 9223372036854775807) :
   Calls Tryd.prog 23 #[.slice a n c, .int .i64 pc] w (SameP (.int .i64 (Li.at_ l pc)) w) := by
 have hl : l.length = n := h.1
 by_cases h1 : pc < 0
 · rw [at_out (.inl h1)]
   clear h hl
   go_enter Tryd.func23, Tryd.ntmps23
   go_wp2
   go_ret
   exact ⟨rfl, rfl⟩
 by_cases h2 : (n : Int) ≤ pc
 · rw [at_out (.inr (by rw [hl]; exact h2))]
   clear h hl
   go_enter Tryd.func23, Tryd.ntmps23
   go_wp2
   go_ret
   exact ⟨rfl, rfl⟩
 obtain ⟨k, rfl⟩ : ∃ k : Nat, pc = (k : Int) := ⟨pc.toNat, by omega⟩
 obtain ⟨b, off, x, rfl, _, hc, hx, hkl⟩ := ints_cell h (k := k) (by omega)
 rw [at_in hkl, hx]
 clear h hl hx hkl
 have hkn : k < n := by omega
 go_enter Tryd.func23, Tryd.ntmps23
 go_wp2
 go_ret
 exact ⟨rfl, rfl⟩
end Go.Proofs.YtmhmlhlplfkpaaaDoor
