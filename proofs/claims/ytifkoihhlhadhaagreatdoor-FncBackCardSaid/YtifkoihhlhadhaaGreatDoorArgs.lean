/-
  A slice of bytes that came in, as the bytes that it reads as. Conditions: none.
-/
import Derived.Test.YtifkoihhlhadhaaGreatDoorUv
import Derived.OpenShut
namespace Go.Proofs.YtifkoihhlhadhaaGreatDoor
open Go.RowKit

/-- From the reading of an argument to its bytes. -/
theorem bytes_of_row {w : World} {a : Option Addr} {len cap : Nat} {zs : List Int}
    (h : (a = none ∧ len = 0 ∧ cap = 0 ∧ zs = []) ∨
      ∃ x, a = some x ∧ len ≤ cap ∧ cap ≤ maxLen ∧ zs.length = cap ∧ (∀ i, i < zs.length → w.cell? (x.add i) = some (.int .u8 (zs.getD i 0))) ∧ ∀ n ∈ zs, (Lit.int .u8 n).wf = true) :
    ∃ l, BytesAt w w.heap.size a len l ∧ len ≤ cap ∧ len ≤ 9223372036854775807 ∧ (a = none → cap = 0) := by
  rcases h with ⟨rfl, rfl, rfl, rfl⟩ | ⟨x, rfl, hlc, hcm, hz, hcell, hwf⟩
  · exact ⟨[], ⟨rfl, by simp, by simp⟩, by omega, by omega, fun _ => rfl⟩
  · have hb : ∀ n ∈ zs, 0 ≤ n ∧ n ≤ 255 := fun n hn => bounds_u8 (hwf n hn)
    refine ⟨(zs.take len).map Int.toNat, ⟨by simp; omega, ?_, ?_⟩, hlc, by unfold maxLen at hcm; omega, by simp⟩
    · intro c hc
      obtain ⟨n, hn, rfl⟩ := List.mem_map.1 hc
      have := hb n (List.mem_of_mem_take hn)
      omega
    · intro hpos
      obtain ⟨b, off, rfl, hc⟩ := ints_at hcell (by omega)
      refine ⟨b, off, rfl, World.block_lt_of_cell? w ⟨b, off + 0, none⟩ (hc 0 (by omega)), ?_⟩
      intro i hi
      rw [hc i (by omega)]
      have hzi : i < zs.length := by omega
      have hm := hb zs[i] (List.getElem_mem hzi)
      have e : ((zs.take len).map Int.toNat).getD i 0 = zs[i].toNat := by
        simp [List.getD, hi, hzi]
      rw [e]
      have e2 : zs.getD i 0 = zs[i] := by simp [List.getD, hzi]
      rw [e2]
      congr 2
      omega
/-- The same, with the form's own reach. -/
theorem bytes_of_sized_row {w : World} {a : Option Addr} {len cap : Nat} {zs : List Int}
    (h : (a = none ∧ len = 0 ∧ cap = 0 ∧ zs = []) ∨
      ∃ x, a = some x ∧ len ≤ cap ∧ cap ≤ maxLen ∧ zs.length = cap ∧ (∀ i, i < zs.length → w.cell? (x.add i) = some (.int .u8 (zs.getD i 0))) ∧ (∀ n ∈ zs, (Lit.int .u8 n).wf = true) ∧ cap ≤ 140737488351232) :
    ∃ l, BytesAt w w.heap.size a len l ∧ len ≤ 140737488351232 ∧ (a = none → cap = 0) := by
  have hc : cap ≤ 140737488351232 := by
    rcases h with ⟨_, _, h, _⟩ | ⟨_, _, _, _, _, _, _, h⟩ <;> omega
  obtain ⟨l, h1, h2, _, h4⟩ := bytes_of_row (w := w) (a := a) (len := len) (cap := cap) (zs := zs) (h.imp id (fun ⟨x, h1, h2, h3, h4, h5, h6, _⟩ => ⟨x, h1, h2, h3, h4, h5, h6⟩))
  exact ⟨l, h1, by omega, h4⟩
end Go.Proofs.YtifkoihhlhadhaaGreatDoor
