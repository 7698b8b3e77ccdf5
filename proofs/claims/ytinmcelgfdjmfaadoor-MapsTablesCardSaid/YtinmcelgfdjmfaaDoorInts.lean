/-
  What uvar.GetInt and PutInt answer. Conditions: the bytes can be read; a slice that is appended to is the caller's own; lengths within the reach.
-/
import Derived.Test.YtinmcelgfdjmfaaDoorGet
namespace Go.Proofs.YtinmcelgfdjmfaaDoor
open Go.RowKit

def getInt (l : List Nat) : Int × Nat × Nat := (Uv.unfold_ (Uv.get l).1, (Uv.get l).2.1, (Uv.get l).2.2)

theorem get_fst_lt {l : List Nat} (hb : ∀ c ∈ l, c < 256) : (Uv.get l).1 < 18446744073709551616 := by
  rcases Uv.get_just hb with ⟨n, h, _, _, hn⟩ | ⟨e, h, _⟩
  · rw [h]; exact hn
  · rw [h]; show 0 < _; omega

end Go.Proofs.YtinmcelgfdjmfaaDoor
