/-
  What names.Fresh and the document's Fresh answer. Conditions: no name is longer than a string can be; at most 60 names.
-/
import Derived.Test.YtebdfcelgaeeoaaDoorNmUnlike
import Derived.Test.YtebdfcelgaeeoaaDoorNmRefMay
import Derived.Test.YtebdfcelgaeeoaaDoorNmItoa
namespace Go.Proofs.YtebdfcelgaeeoaaDoor
open Go.RowKit Go.Maps

namespace Nm
/-- f0, f1, .. -/
def nm (i : Nat) : ByteArray := ⟨#[102]⟩ ++ dig i
theorem nm_one {i : Nat} (h : i < 10) : nm i = ⟨#[102, UInt8.ofNat (48 + i)]⟩ := by
  apply ByteArray.ext
  simp [nm, dig, Lib.decDigits_one h]
theorem nm_two {i : Nat} (h10 : ¬ i < 10) (h : i < 100) : nm i = ⟨#[102, UInt8.ofNat (48 + i / 10), UInt8.ofNat (48 + i % 10)]⟩ := by
  apply ByteArray.ext
  simp [nm, dig, Lib.decDigits_two h10 h]
theorem may_one : ∀ a : Fin 10, may ⟨#[102, UInt8.ofNat (48 + a.val)]⟩ = true := by decide +kernel
theorem may_two : ∀ a b : Fin 10, may ⟨#[102, UInt8.ofNat (48 + a.val), UInt8.ofNat (48 + b.val)]⟩ = true := by decide +kernel
theorem nm_may {i : Nat} (h : i < 100) : may (nm i) = true := by
  by_cases h10 : i < 10
  · rw [nm_one h10]; exact may_one ⟨i, h10⟩
  · rw [nm_two h10 h]; exact may_two ⟨i / 10, by omega⟩ ⟨i % 10, by omega⟩
theorem nm_size {i : Nat} (h : i < 100) : (nm i).size ≤ 3 := by
  by_cases h10 : i < 10
  · rw [nm_one h10]; exact (by decide : 2 ≤ 3)
  · rw [nm_two h10 h]; exact (by decide : 3 ≤ 3)
theorem dig_size {i : Nat} (h : i < 100) : (dig i).size ≤ 2 := by
  by_cases h10 : i < 10
  · rw [dig_size1 h10]; omega
  · have : (Lib.decDigits i).length = 2 := by rw [Lib.decDigits_two h10 h]; rfl
    have e : (dig i).size = 2 := by simpa [dig, ByteArray.size] using this
    omega
theorem digit_inj {a b : Nat} (ha : a < 10) (hb : b < 10) (h : UInt8.ofNat (48 + a) = UInt8.ofNat (48 + b)) : a = b := by
  have := congrArg UInt8.toNat h
  rw [UInt8.toNat_ofNat', UInt8.toNat_ofNat'] at this
  omega
theorem nm_inj {i j : Nat} (hi : i < 100) (hj : j < 100) (h : nm i = nm j) : i = j := by
  have hd : (nm i).data.toList = (nm j).data.toList := by rw [h]
  by_cases h1 : i < 10
  · by_cases h2 : j < 10
    · rw [nm_one h1, nm_one h2] at hd
      simp only [List.cons.injEq, and_true, true_and] at hd
      exact digit_inj h1 h2 hd
    · rw [nm_one h1, nm_two h2 hj] at hd
      simp at hd
  · by_cases h2 : j < 10
    · rw [nm_two h1 hi, nm_one h2] at hd
      simp at hd
    · rw [nm_two h1 hi, nm_two h2 hj] at hd
      simp only [List.cons.injEq, and_true, true_and] at hd
      have e1 := digit_inj (show i / 10 < 10 by omega) (show j / 10 < 10 by omega) hd.1
      have e2 := digit_inj (show i % 10 < 10 by omega) (show j % 10 < 10 by omega) hd.2
      omega
/-- The name that the document says. -/
def Fresh (zs : List ByteArray) (x y : ByteArray) : Prop :=
  (may x = true ∧ ¬ x ∈ zs ∧ y = x) ∨ (¬ (may x = true ∧ ¬ x ∈ zs) ∧ ∃ i, i ≤ zs.length ∧ y = nm i ∧ (∀ j, j < i → nm j ∈ zs) ∧ ¬ nm i ∈ zs)
theorem Fresh.may {zs : List ByteArray} {x y : ByteArray} (h : Fresh zs x y) (hz : zs.length ≤ 60) : may y = true := by
  rcases h with ⟨h, _, rfl⟩ | ⟨_, i, hi, rfl, _⟩
  · exact h
  · exact nm_may (by omega)
theorem Fresh.new {zs : List ByteArray} {x y : ByteArray} (h : Fresh zs x y) : ¬ y ∈ zs := by
  rcases h with ⟨_, h, rfl⟩ | ⟨_, i, _, rfl, _, h⟩
  · exact h
  · exact h
end Nm

/-- What a loop of Fresh has behind k rounds. -/
def FrRel (w : World) (n : Nat) (zs : List ByteArray) (i : Value) (wr : World) : Prop :=
  ∃ (k m : Nat), i = .int .i64 (k : Int) ∧ k + m ≤ n ∧ Met wr w.heap.size n m (fun y => y ∈ zs ∧ ∀ j, j < k → y ≠ Nm.nm j) ∧ Below w.heap.size w wr ∧ ∀ j, j < k → Nm.nm j ∈ zs

set_option maxHeartbeats 2000000 in
set_option maxRecDepth 100000 in
theorem fresh_any (a : Option Addr) (n c : Nat) (zs : List ByteArray) (x : ByteArray) (w : World) (h : NamesAt w w.heap.size a n zs) (hz : ∀ z ∈ zs, z.size ≤ maxLen) (hn : n ≤ 60) (hx : x.size ≤ 9223372036854775807) :
    Calls Tryd.prog 13 #[.slice a n c, .string x] w fun e w' => ∃ y, e = .returned (.string y) ∧ Nm.Fresh zs x y ∧ Below w.heap.size w w' := by
  have HMay := may_any x w hx
  have HFind := find_any a n c _ zs x w h (by omega)
  have HMet := met_any a n c zs w h hz hn
  have HL : Hid (zs.length = n) := Lib.hid h.1
  clear h hz
  by_cases hok : Nm.may x = true ∧ ¬ x ∈ zs
  · rw [hok.1] at HMay
    rw [Nm.find_none hok.2] at HFind
    have HG : Hid (Nm.Fresh zs x x) := Lib.hid (.inl ⟨hok.1, hok.2, rfl⟩)
    clear hok HMet
    go_enter Tryd.func13, Tryd.ntmps13
    go_wp2_with (first
      | (go_at_call 7; refine HMay.mono ?_; rintro _ w1 ⟨rfl, he⟩; obtain rfl := he.symm)
      | (go_at_call 9; refine HFind.mono ?_; rintro _ w1 ⟨rfl, he⟩; obtain rfl := he.symm))
    go_ret
    exact ⟨_, rfl, HG.out, Below.refl _ _⟩
  have HF := Lib.hid (Nm.find_mem zs x)
  have HO := Lib.hid hok
  generalize Nm.find zs x = f at *
  cases hm : Nm.may x
  · rw [hm] at HMay
    clear hm hok
    go_enter Tryd.func13, Tryd.ntmps13
    go_wp2_with (first
      | (go_at_call 7; refine HMay.mono ?_; rintro _ w1 ⟨rfl, he⟩; obtain rfl := he.symm)
      | (go_at_call 9; refine HFind.mono ?_; rintro _ w1 ⟨rfl, he⟩; obtain rfl := he.symm)
      | (go_at_call 18; refine HMet.mono ?_; rintro _ w0 ⟨rfl, hm0, hb0⟩))
    have HM0 := Lib.hid hm0
    have HB0 := Lib.hid hb0
    clear HMet hm0 hb0 HMay HFind
    go_loopw [6] (FrRel w n zs) (fun i _ => n + 1 - (intOf i).toNat)
    case atStart => exact ⟨0, n, rfl, by omega, HM0.out.iff (fun x => by simp), HB0.out, fun j hj => absurd hj (Nat.not_lt_zero _)⟩
    case round =>
      obtain ⟨k, m, rfl, hkm, hm, hB, hW⟩ := hrel
      have HW := Lib.hid hW
      have HB := Lib.hid hB
      have HMr := Lib.hid hm
      clear hW hB hm HM0 HB0
      have HI := itoa_any k (by omega) wr
      have hs := Nm.dig_size (i := k) (by omega)
      have HS := Lib.hid (Nm.nm_size (i := k) (by omega))
      by_cases hin : Nm.nm k ∈ zs
      · have hT : Nm.nm k ∈ zs ∧ ∀ j, j < k → Nm.nm k ≠ Nm.nm j := ⟨hin, fun j hj e => by have := Nm.nm_inj (by omega) (by omega) e; omega⟩
        have hpos := HMr.out.pos hT
        have HD : Calls Tryd.prog 19 #[.map (some w.heap.size), .string (⟨#[102]⟩ ++ Nm.dig k)] wr fun e w' => e = .returned (.bool true) ∧ Met w' w.heap.size n (m - 1) (fun y => (y ∈ zs ∧ ∀ j, j < k → y ≠ Nm.nm j) ∧ y ≠ Nm.nm k) ∧ wr.grownBy w' (some w.heap.size) :=
          drop_any w.heap.size n m (m - 1) _ (Nm.nm k) wr HMr.out (by have := HS.out; unfold maxLen; omega) true ⟨fun _ => hT, fun _ => rfl⟩ (by simp; omega)
        have HG : Hid (∀ j, j < k + 1 → Nm.nm j ∈ zs) := Lib.hid (fun j hj => by
          by_cases e : j = k
          · rw [e]; exact hin
          · exact HW.out j (by omega))
        clear hT hin HW
        generalize Nm.dig k = d at *
        go_wp2_with (first
          | (go_at_call 20; refine HI.mono ?_; rintro _ w1 ⟨rfl, he⟩; obtain rfl := he.symm)
          | (go_at_call 19; refine HD.mono ?_; rintro _ w1 ⟨rfl, hm1, hg1⟩))
        go_roundw
        case rel =>
          refine ⟨k + 1, m - 1, by go_num, by omega, hm1.iff (fun y => ?_), HB.out.grown hg1 HB.out.size (fun j hj => by cases hj; exact Nat.le_refl _), HG.out⟩
          constructor
          · rintro ⟨⟨h1, h2⟩, h3⟩
            refine ⟨h1, fun j hj => ?_⟩
            by_cases e : j = k
            · rw [e]; exact h3
            · exact h2 j (by omega)
          · rintro ⟨h1, h2⟩
            exact ⟨⟨h1, fun j hj => h2 j (by omega)⟩, h2 k (by omega)⟩
        case measure => simp [intOf]; omega
      · have HD : Calls Tryd.prog 19 #[.map (some w.heap.size), .string (⟨#[102]⟩ ++ Nm.dig k)] wr fun e w' => e = .returned (.bool false) ∧ Met w' w.heap.size n m (fun y => (y ∈ zs ∧ ∀ j, j < k → y ≠ Nm.nm j) ∧ y ≠ Nm.nm k) ∧ wr.grownBy w' (some w.heap.size) :=
          drop_any w.heap.size n m m _ (Nm.nm k) wr HMr.out (by have := HS.out; unfold maxLen; omega) false ⟨(fun h => by cases h), fun h => absurd h.1 hin⟩ (by simp)
        have HG : Hid (Nm.Fresh zs x (⟨#[102]⟩ ++ Nm.dig k)) := Lib.hid (.inr ⟨HO.out, k, by rw [HL.out]; omega, rfl, HW.out, hin⟩)
        clear hin HW
        generalize Nm.dig k = d at *
        go_wp2_with (first
          | (go_at_call 20; refine HI.mono ?_; rintro _ w1 ⟨rfl, he⟩; obtain rfl := he.symm)
          | (go_at_call 19; refine HD.mono ?_; rintro _ w1 ⟨rfl, hm1, hg1⟩))
        go_ret
        exact ⟨_, rfl, HG.out, HB.out.grown hg1 HB.out.size (fun j hj => by cases hj; exact Nat.le_refl _)⟩
  · rw [hm] at HMay
    have hf : 0 ≤ f := HF.out.2 (Classical.byContradiction fun h => hok ⟨hm, h⟩)
    have hfd : decide (f < 0) = false := decide_eq_false (by omega)
    clear hm hok
    go_enter Tryd.func13, Tryd.ntmps13
    go_wp2_with (first
      | (go_at_call 7; refine HMay.mono ?_; rintro _ w1 ⟨rfl, he⟩; obtain rfl := he.symm)
      | (go_at_call 9; refine HFind.mono ?_; rintro _ w1 ⟨rfl, he⟩; obtain rfl := he.symm)
      | (go_at_call 18; refine HMet.mono ?_; rintro _ w0 ⟨rfl, hm0, hb0⟩))
    have HM0 := Lib.hid hm0
    have HB0 := Lib.hid hb0
    clear HMet hm0 hb0 HMay HFind
    go_loopw [6] (FrRel w n zs) (fun i _ => n + 1 - (intOf i).toNat)
    case atStart => exact ⟨0, n, rfl, by omega, HM0.out.iff (fun x => by simp), HB0.out, fun j hj => absurd hj (Nat.not_lt_zero _)⟩
    case round =>
      obtain ⟨k, m, rfl, hkm, hm, hB, hW⟩ := hrel
      have HW := Lib.hid hW
      have HB := Lib.hid hB
      have HMr := Lib.hid hm
      clear hW hB hm HM0 HB0
      have HI := itoa_any k (by omega) wr
      have hs := Nm.dig_size (i := k) (by omega)
      have HS := Lib.hid (Nm.nm_size (i := k) (by omega))
      by_cases hin : Nm.nm k ∈ zs
      · have hT : Nm.nm k ∈ zs ∧ ∀ j, j < k → Nm.nm k ≠ Nm.nm j := ⟨hin, fun j hj e => by have := Nm.nm_inj (by omega) (by omega) e; omega⟩
        have hpos := HMr.out.pos hT
        have HD : Calls Tryd.prog 19 #[.map (some w.heap.size), .string (⟨#[102]⟩ ++ Nm.dig k)] wr fun e w' => e = .returned (.bool true) ∧ Met w' w.heap.size n (m - 1) (fun y => (y ∈ zs ∧ ∀ j, j < k → y ≠ Nm.nm j) ∧ y ≠ Nm.nm k) ∧ wr.grownBy w' (some w.heap.size) :=
          drop_any w.heap.size n m (m - 1) _ (Nm.nm k) wr HMr.out (by have := HS.out; unfold maxLen; omega) true ⟨fun _ => hT, fun _ => rfl⟩ (by simp; omega)
        have HG : Hid (∀ j, j < k + 1 → Nm.nm j ∈ zs) := Lib.hid (fun j hj => by
          by_cases e : j = k
          · rw [e]; exact hin
          · exact HW.out j (by omega))
        clear hT hin HW
        generalize Nm.dig k = d at *
        go_wp2_with (first
          | (go_at_call 20; refine HI.mono ?_; rintro _ w1 ⟨rfl, he⟩; obtain rfl := he.symm)
          | (go_at_call 19; refine HD.mono ?_; rintro _ w1 ⟨rfl, hm1, hg1⟩))
        go_roundw
        case rel =>
          refine ⟨k + 1, m - 1, by go_num, by omega, hm1.iff (fun y => ?_), HB.out.grown hg1 HB.out.size (fun j hj => by cases hj; exact Nat.le_refl _), HG.out⟩
          constructor
          · rintro ⟨⟨h1, h2⟩, h3⟩
            refine ⟨h1, fun j hj => ?_⟩
            by_cases e : j = k
            · rw [e]; exact h3
            · exact h2 j (by omega)
          · rintro ⟨h1, h2⟩
            exact ⟨⟨h1, fun j hj => h2 j (by omega)⟩, h2 k (by omega)⟩
        case measure => simp [intOf]; omega
      · have HD : Calls Tryd.prog 19 #[.map (some w.heap.size), .string (⟨#[102]⟩ ++ Nm.dig k)] wr fun e w' => e = .returned (.bool false) ∧ Met w' w.heap.size n m (fun y => (y ∈ zs ∧ ∀ j, j < k → y ≠ Nm.nm j) ∧ y ≠ Nm.nm k) ∧ wr.grownBy w' (some w.heap.size) :=
          drop_any w.heap.size n m m _ (Nm.nm k) wr HMr.out (by have := HS.out; unfold maxLen; omega) false ⟨(fun h => by cases h), fun h => absurd h.1 hin⟩ (by simp)
        have HG : Hid (Nm.Fresh zs x (⟨#[102]⟩ ++ Nm.dig k)) := Lib.hid (.inr ⟨HO.out, k, by rw [HL.out]; omega, rfl, HW.out, hin⟩)
        clear hin HW
        generalize Nm.dig k = d at *
        go_wp2_with (first
          | (go_at_call 20; refine HI.mono ?_; rintro _ w1 ⟨rfl, he⟩; obtain rfl := he.symm)
          | (go_at_call 19; refine HD.mono ?_; rintro _ w1 ⟨rfl, hm1, hg1⟩))
        go_ret
        exact ⟨_, rfl, HG.out, HB.out.grown hg1 HB.out.size (fun j hj => by cases hj; exact Nat.le_refl _)⟩
end Go.Proofs.YtebdfcelgaeeoaaDoor
