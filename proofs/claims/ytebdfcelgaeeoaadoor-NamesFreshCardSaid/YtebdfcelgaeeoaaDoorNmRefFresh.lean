/-
  What the document's Fresh answers. Conditions: at most 60 names; the name is the one that the document says.
-/
import Derived.Test.YtebdfcelgaeeoaaDoorNmFresh
namespace Go.Proofs.YtebdfcelgaeeoaaDoor
open Go.RowKit Go.Maps

set_option maxHeartbeats 2000000 in
set_option maxRecDepth 100000 in
theorem rfresh_any (a : Option Addr) (n c : Nat) (zs : List ByteArray) (x y : ByteArray) (w : World) (h : NamesAt w w.heap.size a n zs) (hF : Nm.Fresh zs x y) (hn : n ≤ 60) (hx : x.size ≤ 9223372036854775807) :
    Calls Tryd.prog 14 #[.slice a n c, .string x] w fun e w' => e = .returned (.string y) ∧ Below w.heap.size w w' := by
  have HMay := rmay_any x w hx
  have HFind := rfind_any a n c _ zs x w h (by omega)
  have H := Lib.hid h
  clear h
  rcases hF with ⟨h1, h2, h3⟩ | ⟨hok, i0, hi0, hy, hall, hnot⟩
  · rw [h1] at HMay
    rw [Nm.find_none h2] at HFind
    subst h3
    clear h1 h2
    go_enter Tryd.func14, Tryd.ntmps14
    go_wp2_with (first
      | (go_at_call 8; refine HMay.mono ?_; rintro _ w1 ⟨rfl, he⟩; obtain rfl := he.symm)
      | (go_at_call 10; refine HFind.mono ?_; rintro _ w1 ⟨rfl, he⟩; obtain rfl := he.symm))
    go_ret
    exact ⟨rfl, Below.refl _ _⟩
  have HF := Lib.hid (Nm.find_mem zs x)
  have HO := Lib.hid hok
  have HA := Lib.hid hall
  have HN := Lib.hid hnot
  have HY := Lib.hid hy
  have hi1 : i0 ≤ n := by have := H.out.1; omega
  clear hall hnot hy hi0
  generalize Nm.find zs x = f at *
  cases hm : Nm.may x
  · rw [hm] at HMay
    clear hm hok
    go_enter Tryd.func14, Tryd.ntmps14
    go_wp2_with (first
      | (go_at_call 8; refine HMay.mono ?_; rintro _ w1 ⟨rfl, he⟩; obtain rfl := he.symm)
      | (go_at_call 10; refine HFind.mono ?_; rintro _ w1 ⟨rfl, he⟩; obtain rfl := he.symm))
    clear HMay HFind
    go_loopw [5] (fun i wr => ∃ k : Nat, i = .int .i64 (k : Int) ∧ k ≤ i0 ∧ Below w.heap.size w wr) (fun i _ => n + 1 - (intOf i).toNat)
    case atStart => exact ⟨0, rfl, Nat.zero_le _, Below.refl _ _⟩
    case round =>
      obtain ⟨k, rfl, hk, hB⟩ := hrel
      have HB := Lib.hid hB
      clear hB
      have HD := Lib.hid (fun W => digits_any k (by omega) W)
      have hs := Nm.dig_size (i := k) (by omega)
      have HC : Hid (∀ W, Below w.heap.size w W → Calls Tryd.prog 10 #[.slice a n c, .string (⟨#[102]⟩ ++ Nm.dig k)] W fun e w' => e = .returned (.int .i64 (Nm.find zs (Nm.nm k))) ∧ w' = W) :=
        Lib.hid (fun W hW => rfind_any a n c _ zs (Nm.nm k) W (H.out.below hW) (by omega))
      by_cases hki : k = i0
      · subst hki
        rw [Nm.find_none (x := Nm.nm k) HN.out] at HC
        have HG : Hid (⟨#[102]⟩ ++ Nm.dig k = y) := Lib.hid (by rw [HY.out]; rfl)
        clear HY HN HA
        generalize Nm.dig k = d at *
        go_wp2_with (first
          | (go_at_call 21; with_reducible refine (HD.out wr).mono ?_; rintro _ w1 ⟨rfl, b1⟩)
          | (go_at_call 10; refine (HC.out w1 (HB.out.trans (b1.mono HB.out.size))).mono ?_; rintro _ w2 ⟨rfl, he⟩; obtain rfl := he.symm)
          | (go_at_call 21; refine (HD.out w1).mono ?_; rintro _ w3 ⟨rfl, b3⟩))
        go_ret
        exact ⟨retS HG.out, (HB.out.trans (b1.mono HB.out.size)).trans (b3.mono (Nat.le_trans HB.out.size b1.size))⟩
      · have hpos : 0 ≤ Nm.find zs (Nm.nm k) := (Nm.find_mem _ _).2 (HA.out k (by omega))
        generalize Nm.find zs (Nm.nm k) = g at *
        have hgd : decide (g < 0) = false := decide_eq_false (by omega)
        generalize Nm.dig k = d at *
        go_wp2_with (first
          | (go_at_call 21; with_reducible refine (HD.out wr).mono ?_; rintro _ w1 ⟨rfl, b1⟩)
          | (go_at_call 10; refine (HC.out w1 (HB.out.trans (b1.mono HB.out.size))).mono ?_; rintro _ w2 ⟨rfl, he⟩; obtain rfl := he.symm))
        go_roundw
        case rel => exact ⟨k + 1, by go_num, by omega, HB.out.trans (b1.mono HB.out.size)⟩
        case measure => simp [intOf]; omega
  · rw [hm] at HMay
    have hf : 0 ≤ f := HF.out.2 (Classical.byContradiction fun h => hok ⟨hm, h⟩)
    have hfd : decide (f < 0) = false := decide_eq_false (by omega)
    clear hm hok
    go_enter Tryd.func14, Tryd.ntmps14
    go_wp2_with (first
      | (go_at_call 8; refine HMay.mono ?_; rintro _ w1 ⟨rfl, he⟩; obtain rfl := he.symm)
      | (go_at_call 10; refine HFind.mono ?_; rintro _ w1 ⟨rfl, he⟩; obtain rfl := he.symm))
    clear HMay HFind
    go_loopw [5] (fun i wr => ∃ k : Nat, i = .int .i64 (k : Int) ∧ k ≤ i0 ∧ Below w.heap.size w wr) (fun i _ => n + 1 - (intOf i).toNat)
    case atStart => exact ⟨0, rfl, Nat.zero_le _, Below.refl _ _⟩
    case round =>
      obtain ⟨k, rfl, hk, hB⟩ := hrel
      have HB := Lib.hid hB
      clear hB
      have HD := Lib.hid (fun W => digits_any k (by omega) W)
      have hs := Nm.dig_size (i := k) (by omega)
      have HC : Hid (∀ W, Below w.heap.size w W → Calls Tryd.prog 10 #[.slice a n c, .string (⟨#[102]⟩ ++ Nm.dig k)] W fun e w' => e = .returned (.int .i64 (Nm.find zs (Nm.nm k))) ∧ w' = W) :=
        Lib.hid (fun W hW => rfind_any a n c _ zs (Nm.nm k) W (H.out.below hW) (by omega))
      by_cases hki : k = i0
      · subst hki
        rw [Nm.find_none (x := Nm.nm k) HN.out] at HC
        have HG : Hid (⟨#[102]⟩ ++ Nm.dig k = y) := Lib.hid (by rw [HY.out]; rfl)
        clear HY HN HA
        generalize Nm.dig k = d at *
        go_wp2_with (first
          | (go_at_call 21; with_reducible refine (HD.out wr).mono ?_; rintro _ w1 ⟨rfl, b1⟩)
          | (go_at_call 10; refine (HC.out w1 (HB.out.trans (b1.mono HB.out.size))).mono ?_; rintro _ w2 ⟨rfl, he⟩; obtain rfl := he.symm)
          | (go_at_call 21; refine (HD.out w1).mono ?_; rintro _ w3 ⟨rfl, b3⟩))
        go_ret
        exact ⟨retS HG.out, (HB.out.trans (b1.mono HB.out.size)).trans (b3.mono (Nat.le_trans HB.out.size b1.size))⟩
      · have hpos : 0 ≤ Nm.find zs (Nm.nm k) := (Nm.find_mem _ _).2 (HA.out k (by omega))
        generalize Nm.find zs (Nm.nm k) = g at *
        have hgd : decide (g < 0) = false := decide_eq_false (by omega)
        generalize Nm.dig k = d at *
        go_wp2_with (first
          | (go_at_call 21; with_reducible refine (HD.out wr).mono ?_; rintro _ w1 ⟨rfl, b1⟩)
          | (go_at_call 10; refine (HC.out w1 (HB.out.trans (b1.mono HB.out.size))).mono ?_; rintro _ w2 ⟨rfl, he⟩; obtain rfl := he.symm))
        go_roundw
        case rel => exact ⟨k + 1, by go_num, by omega, HB.out.trans (b1.mono HB.out.size)⟩
        case measure => simp [intOf]; omega
end Go.Proofs.YtebdfcelgaeeoaaDoor
