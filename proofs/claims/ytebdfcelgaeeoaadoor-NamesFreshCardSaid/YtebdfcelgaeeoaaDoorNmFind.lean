/-
  Names in memory; what slices.Index, names.Find and the document's Find answer; the document's Unlike. Conditions: none but that the names can be read.
-/
import Derived.Test.YtebdfcelgaeeoaaDoorNmA
namespace Go.Proofs.YtebdfcelgaeeoaaDoor
open Go.RowKit

/-- A slice of n names, below block B. -/
def NamesAt (w : World) (B : Nat) (a : Option Addr) (n : Nat) (l : List ByteArray) : Prop :=
  l.length = n ∧ (0 < n → ∃ b off, a = some ⟨b, off, none⟩ ∧ b < B ∧ ∀ i, i < n → w.cell? ⟨b, off + i, none⟩ = some (.string (l.getD i ByteArray.empty)))

theorem NamesAt.below {w w' : World} {B : Nat} {a : Option Addr} {n : Nat} {l : List ByteArray} (h : NamesAt w B a n l) (hb : Below B w w') : NamesAt w' B a n l := by
  refine ⟨h.1, fun hn => ?_⟩
  obtain ⟨b, off, e, hlt, hc⟩ := h.2 hn
  exact ⟨b, off, e, hlt, fun i hi => (hb.cell (p := ⟨b, off + i, none⟩) hlt).trans (hc i hi)⟩

theorem NamesAt.more {w : World} {B B' : Nat} {a : Option Addr} {n : Nat} {l : List ByteArray} (h : NamesAt w B a n l) (hb : B ≤ B') : NamesAt w B' a n l := by
  refine ⟨h.1, fun hn => ?_⟩
  obtain ⟨b, off, e, hlt, hc⟩ := h.2 hn
  exact ⟨b, off, e, by omega, hc⟩

namespace Nm
/-- The first place of a name, or -1. -/
def find (zs : List ByteArray) (x : ByteArray) : Int := Lib.idxOfS zs x
/-- The name at a place. -/
def nth (zs : List ByteArray) (k : Nat) : ByteArray := zs.getD k ByteArray.empty
theorem find_hit {zs : List ByteArray} {x : ByteArray} {k : Nat} (hk : k < zs.length) (h : nth zs k = x) (hne : ∀ j, j < k → nth zs j ≠ x) : find zs x = k := by
  have := Lib.idxOfS_hit zs zs.length k x hk (Nat.le_refl _) h hne
  rwa [List.take_length] at this
theorem find_miss {zs : List ByteArray} {x : ByteArray} (h : ∀ j, j < zs.length → nth zs j ≠ x) : find zs x = -1 := by
  have := Lib.idxOfS_miss zs zs.length x h
  rwa [List.take_length] at this
theorem find_mem (zs : List ByteArray) (x : ByteArray) : 0 ≤ find zs x ↔ x ∈ zs := Lib.idxOfS_nonneg_iff zs x
theorem nth_mem {zs : List ByteArray} {k : Nat} (h : k < zs.length) : nth zs k ∈ zs := by simp [nth, List.getD, h]
theorem mem_nth {zs : List ByteArray} {x : ByteArray} (h : x ∈ zs) : ∃ k, k < zs.length ∧ nth zs k = x := by
  obtain ⟨k, hk, rfl⟩ := List.mem_iff_getElem.1 h
  exact ⟨k, hk, by simp [nth, List.getD, hk]⟩
theorem find_none {zs : List ByteArray} {x : ByteArray} (h : ¬ x ∈ zs) : find zs x = -1 := find_miss fun _ hj e => h (e ▸ nth_mem hj)
theorem mem_take_nth {zs : List ByteArray} {x : ByteArray} {k : Nat} (hk : k ≤ zs.length) : x ∈ zs.take k ↔ ∃ j, j < k ∧ nth zs j = x := by
  constructor
  · intro h
    obtain ⟨j, hj, e⟩ := mem_nth h
    have hj' : j < k := by simp at hj; omega
    refine ⟨j, hj', ?_⟩
    rw [← e]
    simp [nth, List.getD, hj']
  · rintro ⟨j, hj, rfl⟩
    have : nth (zs.take k) j = nth zs j := by simp [nth, List.getD, hj]
    rw [← this]
    exact nth_mem (by simp; omega)
end Nm

theorem findInv_step {zs : List ByteArray} {x y : ByteArray} {k : Nat} (h : ∀ j, j < k → Nm.nth zs j ≠ x) (hy : Nm.nth zs k = y) (hne : ¬ y = x) : ∀ j, j < k + 1 → Nm.nth zs j ≠ x := by
  intro j hj
  by_cases e : j = k
  · rw [e, hy]; exact hne
  · exact h j (by omega)

set_option maxHeartbeats 1000000 in
theorem index_any (a : Option Addr) (n c B : Nat) (zs : List ByteArray) (x : ByteArray) (w : World) (h : NamesAt w B a n zs) (hn : n ≤ 9223372036854775807) :
    Calls Tryd.prog 17 #[.slice a n c, .string x] w fun e w' => e = .returned (.int .i64 (Nm.find zs x)) ∧ w' = w := by
  have H := Lib.hid h
  clear h
  go_enter Tryd.func17, Tryd.ntmps17
  go_wp2
  go_loopw [5, 8] (fun _ i wr => ∃ k : Nat, k ≤ n ∧ i = .int .i64 (k : Int) ∧ wr = w ∧ ∀ j, j < k → Nm.nth zs j ≠ x) (fun _ i _ => n - (intOf i).toNat)
  case atStart => exact ⟨0, Nat.zero_le _, rfl, rfl, fun j hj => absurd hj (Nat.not_lt_zero _)⟩
  case round =>
    obtain ⟨k, hk, rfl, rfl, hW⟩ := hrel
    have HW := Lib.hid hW
    clear hW
    by_cases hlt : k < n
    · obtain ⟨b, off, rfl, _, hcA⟩ := H.out.2 (by omega)
      have hc := hcA k hlt
      clear hcA
      have HK : Hid (k < zs.length) := Lib.hid (by rw [H.out.1]; exact hlt)
      obtain ⟨y, hy⟩ : ∃ y, y = zs.getD k ByteArray.empty := ⟨_, rfl⟩
      have HY : Hid (Nm.nth zs k = y) := Lib.hid hy.symm
      rw [← hy] at hc
      clear hy H
      by_cases hxy : y = x
      · subst hxy
        have HG := Lib.hid (Nm.find_hit HK.out HY.out HW.out)
        clear HW HY
        go_wp2
        go_ret
        exact ⟨ret_int HG.out.symm, rfl⟩
      · have hd : (x.toList == y.toList) = false := (Lib.bytes_beq_false_iff _ _).2 (fun e => hxy e.symm)
        have HG := Lib.hid (findInv_step HW.out HY.out hxy)
        clear HW HY hxy
        go_wp2
        go_roundw
        case rel => exact ⟨k + 1, by omega, by go_num, by trivial, HG.out⟩
        case measure => simp [intOf]; omega
    · have HG := Lib.hid (Nm.find_miss (zs := zs) (x := x) fun j hj => HW.out j (by rw [H.out.1] at hj; omega))
      go_wp2
      go_ret
      exact ⟨ret_int HG.out.symm, rfl⟩

theorem find_any (a : Option Addr) (n c B : Nat) (zs : List ByteArray) (x : ByteArray) (w : World) (h : NamesAt w B a n zs) (hn : n ≤ 9223372036854775807) :
    Calls Tryd.prog 9 #[.slice a n c, .string x] w fun e w' => e = .returned (.int .i64 (Nm.find zs x)) ∧ w' = w := by
  have HI := index_any a n c B zs x w h hn
  clear h
  go_enter Tryd.func9, Tryd.ntmps9
  go_wp2_with (go_at_call 17; refine HI.mono ?_; rintro _ w1 ⟨rfl, he⟩; obtain rfl := he.symm)
  go_ret
  exact ⟨rfl, rfl⟩

set_option maxHeartbeats 1000000 in
theorem rfind_any (a : Option Addr) (n c B : Nat) (zs : List ByteArray) (x : ByteArray) (w : World) (h : NamesAt w B a n zs) (hn : n ≤ 9223372036854775807) :
    Calls Tryd.prog 10 #[.slice a n c, .string x] w fun e w' => e = .returned (.int .i64 (Nm.find zs x)) ∧ w' = w := by
  have H := Lib.hid h
  clear h
  go_enter Tryd.func10, Tryd.ntmps10
  go_wp2
  go_loopw [5] (fun i wr => ∃ k : Nat, k ≤ n ∧ i = .int .i64 (k : Int) ∧ wr = w ∧ ∀ j, j < k → Nm.nth zs j ≠ x) (fun i _ => n - (intOf i).toNat)
  case atStart => exact ⟨0, Nat.zero_le _, rfl, rfl, fun j hj => absurd hj (Nat.not_lt_zero _)⟩
  case round =>
    obtain ⟨k, hk, rfl, rfl, hW⟩ := hrel
    have HW := Lib.hid hW
    clear hW
    by_cases hlt : k < n
    · obtain ⟨b, off, rfl, _, hcA⟩ := H.out.2 (by omega)
      have hc := hcA k hlt
      clear hcA
      have HK : Hid (k < zs.length) := Lib.hid (by rw [H.out.1]; exact hlt)
      obtain ⟨y, hy⟩ : ∃ y, y = zs.getD k ByteArray.empty := ⟨_, rfl⟩
      have HY : Hid (Nm.nth zs k = y) := Lib.hid hy.symm
      rw [← hy] at hc
      clear hy H
      by_cases hxy : y = x
      · subst hxy
        have HG := Lib.hid (Nm.find_hit HK.out HY.out HW.out)
        clear HW HY
        go_wp2
        go_ret
        exact ⟨ret_int HG.out.symm, rfl⟩
      · have hd : (y.toList == x.toList) = false := (Lib.bytes_beq_false_iff _ _).2 hxy
        have HG := Lib.hid (findInv_step HW.out HY.out hxy)
        clear HW HY hxy
        go_wp2
        go_roundw
        case rel => exact ⟨k + 1, by omega, by go_num, by trivial, HG.out⟩
        case measure => simp [intOf]; omega
    · have HG := Lib.hid (Nm.find_miss (zs := zs) (x := x) fun j hj => HW.out j (by rw [H.out.1] at hj; omega))
      go_wp2
      go_ret
      exact ⟨ret_int HG.out.symm, rfl⟩
end Go.Proofs.YtebdfcelgaeeoaaDoor
