/-
  What names.Unlike and the document's Unlike answer. Conditions: no name is longer than a string can be; at most 60 names.
-/
import Derived.Test.YtebdfcelgaeeoaaDoorNmMap
namespace Go.Proofs.YtebdfcelgaeeoaaDoor
open Go.RowKit Go.Maps

namespace Nm
/-- Does no name stand twice: is each one's first place its own? -/
def unlike (zs : List ByteArray) : Bool := (List.range zs.length).all fun k => decide (find zs (nth zs k) = (k : Int))
theorem find_le {zs : List ByteArray} {x : ByteArray} : ∀ j, j < zs.length → nth zs j = x → find zs x ≤ (j : Int) := by
  intro j
  induction j using Nat.strongRecOn with
  | _ j ih =>
    intro hj h
    by_cases hex : ∃ i, i < j ∧ nth zs i = x
    · obtain ⟨i, hi, e⟩ := hex
      have := ih i hi (by omega) e
      omega
    · rw [find_hit hj h (fun i hi e => hex ⟨i, hi, e⟩)]
      exact Int.le_refl _
theorem first_iff {zs : List ByteArray} {k : Nat} (hk : k < zs.length) : find zs (nth zs k) = (k : Int) ↔ ¬ nth zs k ∈ zs.take k := by
  rw [mem_take_nth (by omega)]
  constructor
  · rintro h ⟨j, hj, e⟩
    have := find_le j (by omega) e
    omega
  · intro h
    exact find_hit hk rfl (fun j hj e => h ⟨j, hj, e⟩)
theorem unlike_not {zs : List ByteArray} {k : Nat} (hk : k < zs.length) (h : ¬ find zs (nth zs k) = (k : Int)) : unlike zs = false := by
  unfold unlike
  rw [List.all_eq_false]
  exact ⟨k, List.mem_range.2 hk, by rw [decide_eq_false h]; decide⟩
theorem unlike_all {zs : List ByteArray} (h : ∀ k, k < zs.length → find zs (nth zs k) = (k : Int)) : unlike zs = true :=
  List.all_eq_true.2 fun k hk => decide_eq_true (h k (List.mem_range.1 hk))
theorem upto_step {zs : List ByteArray} {k : Nat} (h : ∀ j, j < k → find zs (nth zs j) = (j : Int)) (hk : find zs (nth zs k) = (k : Int)) : ∀ j, j < k + 1 → find zs (nth zs j) = (j : Int) := by
  intro j hj
  by_cases e : j = k
  · rw [e]; exact hk
  · exact h j (by omega)
/-- What is left of the names behind k of them. -/
theorem left_step {zs : List ByteArray} {k : Nat} (hk : k < zs.length) (x : ByteArray) : ((x ∈ zs ∧ ¬ x ∈ zs.take k) ∧ x ≠ nth zs k) ↔ (x ∈ zs ∧ ¬ x ∈ zs.take (k + 1)) := by
  rw [mem_take_nth (by omega), mem_take_nth (by omega)]
  constructor
  · rintro ⟨⟨h1, h2⟩, h3⟩
    refine ⟨h1, ?_⟩
    rintro ⟨j, hj, e⟩
    by_cases hjk : j = k
    · subst hjk; exact h3 e.symm
    · exact h2 ⟨j, by omega, e⟩
  · rintro ⟨h1, h2⟩
    exact ⟨⟨h1, fun ⟨j, hj, e⟩ => h2 ⟨j, by omega, e⟩⟩, fun e => h2 ⟨k, by omega, e.symm⟩⟩
end Nm

set_option maxHeartbeats 1000000 in
theorem runlike_any (a : Option Addr) (n c B : Nat) (zs : List ByteArray) (w : World) (h : NamesAt w B a n zs) (hn : n ≤ 60) :
    Calls Tryd.prog 12 #[.slice a n c] w fun e w' => e = .returned (.bool (Nm.unlike zs)) ∧ w' = w := by
  have H := Lib.hid h
  clear h
  go_enter Tryd.func12, Tryd.ntmps12
  go_wp2
  go_loopw [3] (fun i wr => ∃ k : Nat, k ≤ n ∧ i = .int .i64 (k : Int) ∧ wr = w ∧ ∀ j, j < k → Nm.find zs (Nm.nth zs j) = (j : Int)) (fun i _ => n - (intOf i).toNat)
  case atStart => exact ⟨0, Nat.zero_le _, rfl, rfl, fun j hj => absurd hj (Nat.not_lt_zero _)⟩
  case round =>
    obtain ⟨k, hk, rfl, rfl, hW⟩ := hrel
    have HW := Lib.hid hW
    clear hW
    by_cases hlt : k < n
    · have HC := rfind_any a n c B zs (Nm.nth zs k) wr H.out (by omega)
      obtain ⟨b, off, rfl, _, hcA⟩ := H.out.2 (by omega)
      have hc := hcA k hlt
      have HK : Hid (k < zs.length) := Lib.hid (by rw [H.out.1]; exact hlt)
      have HN := Lib.hid (Nm.unlike_not HK.out)
      have HS := Lib.hid (Nm.upto_step HW.out)
      obtain ⟨y, hy⟩ : ∃ y, y = zs.getD k ByteArray.empty := ⟨_, rfl⟩
      have HY : Hid (Nm.nth zs k = y) := Lib.hid hy.symm
      rw [← hy] at hc
      rw [HY.out] at HC HN HS
      clear hy hcA H HW
      generalize Nm.find zs y = f at *
      by_cases hf : f = (k : Int)
      · subst hf
        have HG := Lib.hid (HS.out rfl)
        clear HS HN
        go_wp2_with (go_at_call 10; refine HC.mono ?_; rintro _ w1 ⟨rfl, he⟩; obtain rfl := he.symm)
        go_roundw
        case rel => exact ⟨k + 1, by omega, by go_num, by trivial, HG.out⟩
        case measure => simp [intOf]; omega
      · have HG := Lib.hid (HN.out hf)
        have hd : (f != (k : Int)) = true := by rw [bne_iff_ne]; exact hf
        clear HS HN hf
        go_wp2_with (go_at_call 10; refine HC.mono ?_; rintro _ w1 ⟨rfl, he⟩; obtain rfl := he.symm)
        go_ret
        exact ⟨retB HG.out.symm, rfl⟩
    · have HG := Lib.hid (Nm.unlike_all (zs := zs) fun j hj => HW.out j (by rw [H.out.1] at hj; omega))
      go_wp2
      go_ret
      exact ⟨retB HG.out.symm, rfl⟩

set_option maxHeartbeats 1000000 in
set_option maxRecDepth 100000 in
theorem unlike_any (a : Option Addr) (n c : Nat) (zs : List ByteArray) (w : World) (h : NamesAt w w.heap.size a n zs) (hz : ∀ z ∈ zs, z.size ≤ maxLen) (hn : n ≤ 60) :
    Calls Tryd.prog 11 #[.slice a n c] w (BoolP (Nm.unlike zs) w) := by
  have HM := met_any a n c zs w h hz hn
  have H := Lib.hid h
  have HZ := Lib.hid hz
  clear h hz
  go_enter Tryd.func11, Tryd.ntmps11
  go_wp2_with (go_at_call 18; refine HM.mono ?_; rintro _ w0 ⟨rfl, hm0, hb0⟩)
  have HM0 := Lib.hid hm0
  have HB0 := Lib.hid hb0
  clear HM hm0 hb0
  go_loopw [5, 10] (fun _ i wr => ∃ (k m : Nat), k ≤ n ∧ i = .int .i64 (k : Int) ∧ Met wr w.heap.size n m (fun x => x ∈ zs ∧ ¬ x ∈ zs.take k) ∧ Below w.heap.size w wr ∧ ∀ j, j < k → Nm.find zs (Nm.nth zs j) = (j : Int)) (fun _ i _ => n - (intOf i).toNat)
  case atStart => exact ⟨0, n, Nat.zero_le _, rfl, HM0.out.iff (fun x => by simp), HB0.out, fun j hj => absurd hj (Nat.not_lt_zero _)⟩
  case round =>
    obtain ⟨k, m, hk, rfl, hm, hB, hW⟩ := hrel
    have HW := Lib.hid hW
    have HB := Lib.hid hB
    have HMr := Lib.hid hm
    clear hW hB hm HM0 HB0
    by_cases hlt : k < n
    · obtain ⟨b, off, rfl, _, hcA⟩ := (H.out.below HB.out).2 (by omega)
      have hc := hcA k hlt
      have HK : Hid (k < zs.length) := Lib.hid (by rw [H.out.1]; exact hlt)
      have HS : Hid ((Nm.nth zs k).size ≤ maxLen) := Lib.hid (HZ.out _ (Nm.nth_mem HK.out))
      have HF := Lib.hid (Nm.first_iff HK.out)
      have HD := Lib.hid (fun r (hr : r = true ↔ (Nm.nth zs k ∈ zs ∧ ¬ Nm.nth zs k ∈ zs.take k)) => drop_any w.heap.size n m m _ (Nm.nth zs k) wr HMr.out HS.out r hr (by omega))
      have hin := Lib.hid (Nm.nth_mem HK.out)
      have HL := Lib.hid (Nm.left_step HK.out)
      have HY : Hid (Nm.nth zs k = zs.getD k ByteArray.empty) := Lib.hid rfl
      by_cases hf : Nm.find zs (Nm.nth zs k) = (k : Int)
      · have HC := HD.out true ⟨fun _ => ⟨hin.out, HF.out.1 hf⟩, fun _ => rfl⟩
        have HG := Lib.hid (Nm.upto_step HW.out hf)
        clear hf HD HW
        rw [← HY.out] at hc
        generalize Nm.nth zs k = y at *
        clear hcA
        go_wp2_with (go_at_call 19; refine HC.mono ?_; rintro _ w1 ⟨rfl, hm1, hg1⟩)
        go_roundw
        case rel => exact ⟨k + 1, m, by omega, by go_num, hm1.iff HL.out, HB.out.grown hg1 HB.out.size (fun j hj => by cases hj; exact Nat.le_refl _), HG.out⟩
        case measure => simp [intOf]; omega
      · have HC := HD.out false ⟨(fun h => by cases h), fun h => absurd (HF.out.2 h.2) hf⟩
        have HG := Lib.hid (Nm.unlike_not HK.out hf)
        clear hf HD HW
        rw [← HY.out] at hc
        generalize Nm.nth zs k = y at *
        clear hcA
        go_wp2_with (go_at_call 19; refine HC.mono ?_; rintro _ w1 ⟨rfl, hm1, hg1⟩)
        go_ret
        exact ⟨retB HG.out.symm, HB.out.grown hg1 HB.out.size (fun j hj => by cases hj; exact Nat.le_refl _)⟩
    · have HG := Lib.hid (Nm.unlike_all (zs := zs) fun j hj => HW.out j (by rw [H.out.1] at hj; omega))
      go_wp2
      go_ret
      exact ⟨retB HG.out.symm, HB.out⟩
end Go.Proofs.YtebdfcelgaeeoaaDoor
