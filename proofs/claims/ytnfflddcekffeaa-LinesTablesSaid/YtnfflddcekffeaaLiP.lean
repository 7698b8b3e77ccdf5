/-
  What lines.Put answers. Conditions: lengths within the reach.
-/
import Derived.Test.YtnfflddcekffeaaRuPut
namespace Go.Proofs.Ytnfflddcekffeaa
open Go.RowKit

set_option maxRecDepth 100000 in
theorem liput_own (base : Nat) (b : Value) (nb : Nat) (xs0 : List Value) (a : Option Addr) (len cap : Nat) (xs : List Int) (w : World) (hown : w.ownsRow base 5 1 b nb xs0) (hbase : base ≤ w.heap.size)
    (h : IntsAt w w.heap.size a len xs) (hlen : len ≤ 1000000) (hz : ∀ z ∈ xs, -9223372036854775808 ≤ z ∧ z ≤ 9223372036854775807) (hl : nb + (Ru.laid (Ru.of xs)).length ≤ 140737488355328) :
    Calls Try.prog 12 #[b, .slice a len cap] w (OwnPost base w b (nb + (Ru.laid (Ru.of xs)).length) (xs0 ++ bs (Ru.laid (Ru.of xs)))) := by
  have H := Lib.hid (runsPut_own base b nb xs0 a len cap xs w hown hbase h hlen hz hl)
  clear hown h hz hl
  go_enter Try.func12, Try.ntmps12
  go_wp2_with (go_at_call 22; refine H.out.mono ?_; rintro _ w1 ⟨v, rfl, hinv⟩; have HV := Lib.hid hinv; clear hinv)
  go_ret
  exact ⟨v, rfl, HV.out⟩

end Go.Proofs.Ytnfflddcekffeaa
