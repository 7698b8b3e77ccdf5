/-
  The three statements on names, walked: each answers true. Conditions: no name is longer than a string can be.
-/
import Derived.Test.YtebdfcelgaeeoaaDoorNmLives
namespace Go.Proofs.YtebdfcelgaeeoaaDoor
open Go.RowKit Go.Maps

set_option maxHeartbeats 2000000 in
theorem namesMay_walk (x : ByteArray) (w : World) (hx : x.size ≤ 9223372036854775807) : Calls Tryd.prog 3 #[.string x] w (BoolP true w) := by
  have HL := Lib.hid (fun W => lives_any W)
  by_cases hs : 100 < x.size
  · go_enter Tryd.func3, Tryd.ntmps3
    go_wp2_with (go_at_call 6; refine (HL.out w).mono ?_; rintro _ w1 ⟨rfl, b1⟩)
    go_ret
    exact ⟨rfl, b1⟩
  · have HA := may_any x w hx
    have HB := rmay_any x w hx
    generalize Nm.may x = r at *
    go_enter Tryd.func3, Tryd.ntmps3
    go_wp2_with (first
      | (go_at_call 7; refine HA.mono ?_; rintro _ w1 ⟨rfl, he⟩; obtain rfl := he.symm)
      | (go_at_call 8; refine HB.mono ?_; rintro _ w1 ⟨rfl, he⟩; obtain rfl := he.symm)
      | (go_at_call 6; refine (HL.out w).mono ?_; rintro _ w1 ⟨rfl, b1⟩))
    go_ret
    exact ⟨rfl, b1⟩

set_option maxHeartbeats 2000000 in
theorem namesFind_walk (a : Option Addr) (n c : Nat) (zs : List ByteArray) (x : ByteArray) (w : World) (h : NamesAt w w.heap.size a n zs) (hz : ∀ z ∈ zs, z.size ≤ maxLen) (hn : n ≤ 9223372036854775807) :
    Calls Tryd.prog 4 #[.slice a n c, .string x] w (BoolP true w) := by
  have HL := Lib.hid (fun W => lives_any W)
  by_cases hs : 60 < n
  · clear h hz
    go_enter Tryd.func4, Tryd.ntmps4
    go_wp2_with (go_at_call 6; refine (HL.out w).mono ?_; rintro _ w1 ⟨rfl, b1⟩)
    go_ret
    exact ⟨rfl, b1⟩
  · have HA := find_any a n c _ zs x w h hn
    have HB := rfind_any a n c _ zs x w h hn
    have HC := unlike_any a n c zs w h hz (by omega)
    have HD := Lib.hid (fun W (hW : Below w.heap.size w W) => runlike_any a n c _ zs W (h.below hW) (by omega))
    clear h hz
    generalize Nm.unlike zs = u at *
    generalize Nm.find zs x = f at *
    go_enter Tryd.func4, Tryd.ntmps4
    go_wp2_with (first
      | (go_at_call 9; refine HA.mono ?_; rintro _ w1 ⟨rfl, he⟩; obtain rfl := he.symm)
      | (go_at_call 10; refine HB.mono ?_; rintro _ w1 ⟨rfl, he⟩; obtain rfl := he.symm)
      | (go_at_call 11; refine HC.mono ?_; rintro _ w2 ⟨rfl, b2⟩)
      | (go_at_call 12; refine (HD.out w2 b2).mono ?_; rintro _ w1 ⟨rfl, he⟩; obtain rfl := he.symm)
      | (go_at_call 6; refine (HL.out w2).mono ?_; rintro _ w3 ⟨rfl, b3⟩))
    go_ret
    exact ⟨rfl, b2.trans (b3.mono b2.size)⟩

theorem may_size {y : ByteArray} (h : Nm.may y = true) : y.size ≤ 12 := by
  simp only [Nm.may, Bool.and_eq_true, decide_eq_true_eq] at h
  exact h.1.1.2

theorem fresh_may {zs : List ByteArray} {x y : ByteArray} (hF : Nm.Fresh zs x y) (hz : zs.length ≤ 60) (W : World) : Calls Tryd.prog 7 #[.string y] W fun e w' => e = .returned (.bool true) ∧ w' = W := by
  have h := hF.may hz
  have := may_any y W (by have := may_size h; omega)
  rwa [h] at this

theorem fresh_find {zs : List ByteArray} {x y : ByteArray} {a : Option Addr} {n B : Nat} (c : Nat) {W : World} (hF : Nm.Fresh zs x y) (h : NamesAt W B a n zs) (hn : n ≤ 9223372036854775807) : Calls Tryd.prog 9 #[.slice a n c, .string y] W fun e w' => e = .returned (.int .i64 (-1)) ∧ w' = W := by
  have := find_any a n c _ zs y W h hn
  rwa [Nm.find_none hF.new] at this

set_option maxHeartbeats 2000000 in
theorem namesFresh_walk (a : Option Addr) (n c : Nat) (zs : List ByteArray) (x : ByteArray) (w : World) (h : NamesAt w w.heap.size a n zs) (hz : ∀ z ∈ zs, z.size ≤ maxLen) (hn : n ≤ 9223372036854775807) (hx : x.size ≤ 9223372036854775807) :
    Calls Tryd.prog 5 #[.slice a n c, .string x] w (BoolP true w) := by
  have HL := Lib.hid (fun W => lives_any W)
  by_cases hs : 60 < n
  · clear h hz
    go_enter Tryd.func5, Tryd.ntmps5
    go_wp2_with (go_at_call 6; refine (HL.out w).mono ?_; rintro _ w1 ⟨rfl, b1⟩)
    go_ret
    exact ⟨rfl, b1⟩
  have hsd : decide (60 < (n : Int)) = false := decide_eq_false (by omega)
  by_cases ht : 100 < x.size
  · clear h hz
    go_enter Tryd.func5, Tryd.ntmps5
    go_wp2_with (go_at_call 6; refine (HL.out w).mono ?_; rintro _ w1 ⟨rfl, b1⟩)
    go_ret
    exact ⟨rfl, b1⟩
  have htd : decide (100 < (x.size : Int)) = false := decide_eq_false (by omega)
  have HA := fresh_any a n c zs x w h hz (by omega) hx
  have HB := Lib.hid (fun y (hF : Nm.Fresh zs x y) W (hW : Below w.heap.size w W) => rfresh_any a n c zs x y W ((h.below hW).more hW.size) hF (by omega) hx)
  have HC := Lib.hid (fun y (hF : Nm.Fresh zs x y) W => fresh_may hF (by rw [h.1]; omega) W)
  have HD := Lib.hid (fun y (hF : Nm.Fresh zs x y) W (hW : Below w.heap.size w W) => fresh_find c hF (h.below hW) (by omega))
  clear h hz
  go_enter Tryd.func5, Tryd.ntmps5
  go_wp2_with (first
    | (go_at_call 13; refine HA.mono ?_; rintro _ w1 ⟨y, rfl, hF, b1⟩; have HF := Lib.hid hF; clear hF)
    | (go_at_call 14; refine (HB.out y HF.out w1 b1).mono ?_; rintro _ w2 ⟨rfl, b2⟩)
    | (go_at_call 7; refine (HC.out y HF.out w2).mono ?_; rintro _ w3 ⟨rfl, he⟩; obtain rfl := he.symm)
    | (go_at_call 9; refine (HD.out y HF.out w2 (b1.trans (b2.mono b1.size))).mono ?_; rintro _ w3 ⟨rfl, he⟩; obtain rfl := he.symm)
    | (go_at_call 6; refine (HL.out w2).mono ?_; rintro _ w4 ⟨rfl, b4⟩))
  go_ret
  exact ⟨rfl, (b1.trans (b2.mono b1.size)).trans (b4.mono (Nat.le_trans b1.size b2.size))⟩
end Go.Proofs.YtebdfcelgaeeoaaDoor
