/-
 slots.All, asked of the slots that it yields alone. Conditions: the words have 64 bits; the table of math/bits is laid; each round keeps what lay below.
-/
import Derived.Test.YtmhmlhlplfkpaaaGreatDoorSlAA
set_option maxRecDepth 100000
namespace Go.Proofs.YtmhmlhlplfkpaaaGreatDoor
open Go.RowKit Go.Shelf
attribute [local go_sem] Oper.semAt_some
abbrev SlotT := { x : Int // 0 ≤ x ∧ x < 256 }
theorem slot_in (s : Sl.Four) {x : Int} (h : x ∈ s.list) : 0 ≤ x ∧ x < 256 := by
 obtain ⟨k, hk, _, rfl⟩ := (Sl.mem_list s x).1 h
 omega
theorem allp_stops (n : Nat) (hn : 1 ≤ n) (Bs n₀ : Nat) (s : Sl.Four) (hs : s.ok) (w : World) (hB : SetAt w Bs s) (hT : Tab w) (h1n : 0 < n₀) (hn₀ : n₀ ≤ w.heap.size) :
   SeqStopsK Fence.wide n Tryz.prog 92 #[.pointer (some ⟨Bs, 0, none⟩)] (fun x : SlotT => #[Value.int .i64 x.1]) (Below n₀) (fun ys => ys.map (·.1) = s.list) (fun pre => pre.map (·.1) <+: s.list) s.list.length w := by
 intro l J Jx W hW _ _ hY h0
 refine (all1p_in n hn l Bs n₀ s hs h1n (fun pre W => ∃ p : List SlotT, p.map (·.1) = pre ∧ J p W) (fun pre W => ∃ p : List SlotT, p.map (·.1) = pre ∧ Jx p W) ?_ W (hB.below hW hB.lt) (tab_below hT hW (Nat.lt_of_lt_of_le h1n hn₀)) ⟨[], rfl, h0⟩).mono ?_
 · rintro pre x W1 ⟨p, hp, hJ⟩ hx
   have hm : x ∈ s.list := hx.subset (by simp)
   have hl : p.length < s.list.length := by
     have h1 := hx.length_le
     rw [List.length_append, List.length_singleton, ← hp, List.length_map] at h1
     omega
   refine (hY p ⟨x, slot_in s hm⟩ W1 hJ hl).mono ?_
   rintro e W' (⟨he, hJ', hk⟩ | ⟨he, hJ'⟩)
   · exact .inl ⟨he, ⟨_, by rw [List.map_append, hp]; rfl, hJ'⟩, hk⟩
   · exact .inr ⟨he, _, by rw [List.map_append, hp]; rfl, hJ'⟩
 · rintro e W' ⟨he, h⟩
   refine ⟨he, ?_⟩
   rcases h with ⟨ys, hys, p, hp, hJ⟩ | ⟨pre, hpre, p, hp, hJ⟩
   · exact .inl ⟨p, hp.trans hys, hJ⟩
   · exact .inr ⟨p, by show _ <+: _; rw [hp]; exact hpre, hJ⟩
end Go.Proofs.YtmhmlhlplfkpaaaGreatDoor
