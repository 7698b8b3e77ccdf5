/-
  The walk of MapsInside. Conditions: the tables can be read; words of 64 bits; the table of math/bits is laid.
-/
import Derived.Test.YtinmcelgfdjmfaaDoorMpL
import Derived.Test.YtinmcelgfdjmfaaDoorMpC
namespace Go.Proofs.YtinmcelgfdjmfaaDoor
open Go.RowKit

set_option maxHeartbeats 8000000 in
set_option maxRecDepth 100000 in
theorem mapsInside_walk (La : Option Addr) (n c : Nat) (l : List Sl.Four) (Ra : Option Addr) (m d : Nat) (t : List Sl.Four) (w : World) (h : SetsAt w w.heap.size La n l) (hn : n ≤ 9223372036854775807) (ho : ∀ s ∈ l, s.ok) (h2 : SetsAt w w.heap.size Ra m t) (hm : m ≤ 9223372036854775807) (ho2 : ∀ s ∈ t, s.ok) (hT : Tab w) (hw : 0 < w.heap.size) :
    Calls Tryd.prog 4 #[.slice La n c, .slice Ra m d] w (BoolP true w) := by
  have HLv := Lib.hid (fun (W : World) (hb : Below w.heap.size w W) => lives14_any W (tab_below hT hb hw) (Nat.lt_of_lt_of_le hw hb.size))
  by_cases h100 : 100 < n
  · have hi : decide ((100 : Int) < (n : Int)) = true := decide_eq_true (by omega)
    clear h ho hT hw h2 ho2
    go_enter Tryd.func4, Tryd.ntmps4
    go_wp2_with (go_at_call 5; refine (HLv.out _ (Below.refl _ _)).mono ?_; rintro e w1 ⟨rfl, hb1⟩)
    go_ret
    exact ⟨rfl, hb1⟩
  have hi : decide ((100 : Int) < (n : Int)) = false := decide_eq_false (by omega)
  by_cases h101 : 100 < m
  · have hi2 : decide ((100 : Int) < (m : Int)) = true := decide_eq_true (by omega)
    clear h ho hT hw h2 ho2
    go_enter Tryd.func4, Tryd.ntmps4
    go_wp2_with (go_at_call 5; refine (HLv.out _ (Below.refl _ _)).mono ?_; rintro e w1 ⟨rfl, hb1⟩)
    go_ret
    exact ⟨rfl, hb1⟩
  have hi2 : decide ((100 : Int) < (m : Int)) = false := decide_eq_false (by omega)
  have H1 := Lib.hid (mpinside_any La Ra n c m d l t w h h2 hn ho ho2)
  have H2 := Lib.hid (fun (W : World) (hb : Below w.heap.size w W) => rmpinside_any La Ra n c m d l t W (h.on hb) (h2.on hb) hn ho ho2)
  have H3 := Lib.hid (fun (W : World) (hb : Below w.heap.size w W) => mpinside_any La La n c n c l l W (h.on hb) (h.on hb) hn ho ho)
  rw [Mp.inside_self ho] at H3
  generalize Mp.inside l t = r at *
  have hrr : (r == r) = true := by cases r <;> rfl
  clear h ho hT hw h2 ho2
  go_enter Tryd.func4, Tryd.ntmps4
  go_wp2_with fail
  refine H1.out.mono ?_
  rintro _ w1 ⟨rfl, hb1⟩
  have HB1 := Lib.hid hb1
  clear hb1
  go_wp2_with fail
  refine (H2.out w1 HB1.out).mono ?_
  rintro _ w2 ⟨rfl, hb2⟩
  have HB2 := Lib.hid (below_self HB1.out hb2)
  clear hb2
  go_wp2_with fail
  refine (H3.out w2 HB2.out).mono ?_
  rintro _ w3 ⟨rfl, hb3⟩
  have HB3 := Lib.hid (below_self HB2.out hb3)
  clear hb3
  go_wp2_with fail
  refine (HLv.out w3 HB3.out).mono ?_
  rintro _ w4 ⟨rfl, hb4⟩
  go_wp2
  go_ret
  exact ⟨rfl, below_self HB3.out hb4⟩
end Go.Proofs.YtinmcelgfdjmfaaDoor
