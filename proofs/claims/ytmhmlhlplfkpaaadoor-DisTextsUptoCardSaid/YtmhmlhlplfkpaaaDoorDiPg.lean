/-
 A page of text in memory: what is written on it, and what it tells. Conditions: the page was made by the call and has only been written; lengths within the reach.
-/
import Derived.Test.YtmhmlhlplfkpaaaDoorBlR
import Derived.Test.YtmhmlhlplfkpaaaDoorPMa
import Derived.BigRegion
set_option maxRecDepth 100000
namespace Go.Proofs.YtmhmlhlplfkpaaaDoor
open Go.RowKit
def Pg (B b : Nat) (l : List UInt8) (w : World) : Prop :=
 ∃ p v, (p = .pointer none ∨ p = .pointer (some ⟨b, 0, none⟩)) ∧ B ≤ b ∧ w.heap[b]? = some (.cells #[p, v] 43 (0, 0)) ∧ w.ownsRowF B 5 1 v l.length (Lib.byteCells l) ∧ (l = [] → v = .slice none 0 0)
def OffP (b : Nat) (w w' : World) : Prop := Lib.OthersKept 5 (some b) w w'
section
variable {B b : Nat} {l : List UInt8} {w w' : World}
theorem Pg.new (w : World) (hB : B ≤ w.heap.size) : Pg B w.heap.size [] (w.alloc (.cells #[.pointer none, .slice none 0 0] 43)) :=
 ⟨_, _, .inl rfl, hB, heap_alloc_new w _, World.ownsRowF_nil _ _ _ _, fun _ => rfl⟩
theorem Pg.lt (h : Pg B b l w) : b < w.heap.size := by
 obtain ⟨p, v, _, _, hb, _⟩ := h
 exact (Array.getElem?_eq_some_iff.1 hb).1
theorem Pg.base (h : Pg B b l w) : B ≤ b := by
 obtain ⟨p, v, _, h, _⟩ := h
 exact h
theorem Pg.below (h : Pg B b l w) (hb : Below w.heap.size w w') : Pg B b l w' := by
 have hlt := h.lt
 obtain ⟨p, v, hp, hB, hbk, hown, hn⟩ := h
 exact ⟨p, v, hp, hB, (hb.block b hlt).trans hbk, hown.kept (row := none) ⟨hb.os, hb.tape, hb.output, hb.size, fun k hk _ => hb.block k hk⟩ (Classical.em _), hn⟩
theorem Pg.cells (h : Pg B b l w) (hc : ∀ (k : Nat) (c : Array Value) (T : TypeId) (z : Nat × Nat), w.heap[k]? = some (.cells c T z) → w'.heap[k]? = some (.cells c T z)) : Pg B b l w' := by
 obtain ⟨p, v, hp, hB, hbk, ⟨ho1, ho2⟩, hn⟩ := h
 refine ⟨p, v, hp, hB, hc _ _ _ _ hbk, ⟨ho1, ?_⟩, hn⟩
 rcases ho2 with h | ⟨g, cap, cur, fz, hv, hg, hh, hr⟩
 · exact .inl h
 · exact .inr ⟨g, cap, cur, fz, hv, hg, hc _ _ _ _ hh, hr⟩
theorem OffP.refl (b : Nat) (w : World) : OffP b w w := Lib.OthersKept.refl _ _ _
theorem OffP.trans {w2 : World} (h : OffP b w w') (h2 : OffP b w' w2) : OffP b w w2 := Lib.OthersKept.trans h h2
theorem OffP.of (hb : Below w.heap.size w w') : OffP b w w' := fun k _ hk _ _ => (hb.block k (Array.getElem?_eq_some_iff.1 hk).1).trans hk
theorem OffP.cells (h : OffP b w w') {k : Nat} {c : Array Value} {T : TypeId} {z : Nat × Nat} (hk : w.heap[k]? = some (.cells c T z)) (hb : k ≠ b) (hT : T ≠ 5) : w'.heap[k]? = some (.cells c T z) :=
 h k _ hk (by intro e; injection e with e; exact hb e) (fun c' z' e => by injection e with _ e; exact hT e)
end
set_option maxHeartbeats 1000000 in
theorem pg_fresh (b : Nat) (w : World) (h0 : w.cell? ⟨b, 0, none⟩ = some (.pointer none)) (hsh : w.shape? b = some (43, 2)) (hfz : w.frozen? ⟨b, 0, none⟩ = false) :
   Calls Tryd.prog 32 #[.pointer (some ⟨b, 0, none⟩)] w fun e w' => e = .returned (.tuple #[]) ∧ w' = w.setCell ⟨b, 0, none⟩ (.pointer (some ⟨b, 0, none⟩)) := by
 obtain ⟨j, hj, hjs⟩ := Option.map_eq_some_iff.1 Tryd.builder_extra.sizeBuilder
 go_enter Tryd.func32, Tryd.ntmps32
 go_wp2
 rw [Lib.run_to_unsafe w ⟨b, 0, none⟩ Tryd.underlying38 Tryd.underlying77 hj (by rw [hjs]; decide) hsh (Nat.zero_lt_succ 1)]
 simp only [Result.andThen]
 rw [Oper.upon_value]
 go_wp2
 rw [run_callFunc_extern Tryd.func45 (by kernel_rfl) (by kernel_rfl) (by kernel_rfl) (e := Extern.AbiNoEscape.same) (by kernel_rfl)]
 rw [Lib.run_noEscape]
 simp only [Result.andThen]
 rw [Oper.upon_value]
 go_wp2
 rw [Lib.run_from_unsafe w ⟨b, 0, none⟩ Tryd.underlying77 Tryd.underlying38 hj hsh (by kernel_rfl)]
 simp only [Result.andThen]
 rw [Oper.upon_value]
 go_wp2
 go_end0
 exact ⟨rfl, rfl⟩
theorem pg_check (B b : Nat) (l : List UInt8) (w : World) (h : Pg B b l w) :
   Calls Tryd.prog 32 #[.pointer (some ⟨b, 0, none⟩)] w fun e w' => e = .returned (.tuple #[]) ∧ (∃ v, w'.heap[b]? = some (.cells #[.pointer (some ⟨b, 0, none⟩), v] 43 (0, 0)) ∧ w'.ownsRowF B 5 1 v l.length (Lib.byteCells l) ∧ (l = [] → v = .slice none 0 0)) ∧ Below B w w' ∧ OffP b w w' := by
 obtain ⟨p, v, hp, hB, hb, hown, hn⟩ := h
 have c0 : w.cell? ⟨b, 0, none⟩ = some p := by rw [Lib.cell_of_heap hb]; rfl
 have hne := Lib.ownBlock_neF hown hb (by decide)
 rcases hp with rfl | rfl
 · refine (pg_fresh b w c0 (by simp [World.shape?, hb]) (Lib.frozen_of_heap hb 0)).mono ?_
   rintro e w' ⟨rfl, rfl⟩
   refine ⟨rfl, ⟨v, ?_, ?_, hn⟩, (Below.refl B w).setCell (p := ⟨b, 0, none⟩) hB _, (Lib.OthersKept.refl _ _ w).setCell ⟨b, 0, none⟩ rfl _⟩
   · simp [World.setCell, Array.getElem?_modify, hb]
   · exact hown.kept (row := some b) ⟨rfl, rfl, rfl, by simp [World.setCell], fun k _ hk => Below.heap_setCell _ _ _ _ (fun e => hk (by simp [e]))⟩ (Or.inr hne)
 · refine (bld_used b w c0).mono ?_
   rintro e w' ⟨rfl, rfl⟩
   exact ⟨rfl, ⟨v, hb, hown, hn⟩, Below.refl B _, OffP.refl _ _⟩
set_option maxHeartbeats 4000000 in
theorem pg_text (B b : Nat) (l : List UInt8) (s : ByteArray) (w : World) (h : Pg B b l w) (hlen : l.length + s.size ≤ 140737488355328) (hBw : B ≤ w.heap.size) :
   Calls Tryd.prog 20 #[.pointer (some ⟨b, 0, none⟩), .string s] w fun e w' => e = .returned (.tuple #[.int .i64 s.size, .nilIface]) ∧ Pg B b (l ++ s.data.toList) w' ∧ Below B w w' ∧ OffP b w w' := by
 obtain ⟨i0, hi, hz0, hz1, hz2⟩ := info_parts info_u8
 have HBb := Lib.hid h.base
 have HC := pg_check B b l w h
 clear h
 go_enter Tryd.func20, Tryd.ntmps20
 go_wp2_with (go_at_call 32; refine HC.mono ?_; rintro _ w1 ⟨rfl, ⟨v, hbk, hown, hn⟩, hb1, ho1⟩; refine Hid.out ?_)
 have c0 : w1.cell? ⟨b, 0, none⟩ = some (.pointer (some ⟨b, 0, none⟩)) := by rw [Lib.cell_of_heap hbk]; rfl
 have c1 : w1.cell? ⟨b, 1, none⟩ = some v := by rw [Lib.cell_of_heap hbk]; rfl
 have HHb := Lib.hid hbk
 have HOw := Lib.hid hown
 have HN := Lib.hid hn
 have HB1 := Lib.hid hb1
 have HO1 := Lib.hid ho1
 clear hbk hown hn hb1 ho1
 refine Lib.hid ?_
 go_wp2_with (at_builtin; refine Lib.wpList_append_own_stringF _ rfl _ _ 39 9 rfl B 5 i0 Tryd.underlying39 Tryd.underlying9 hi hz0 hz1 hz2 _ _ _ rfl HOw.out s rfl ?c3 ?c4 ?c5 ?_)
 case c3 => unfold maxLen; omega
 case c4 => omega
 case c5 => have := HB1.out.size; omega
 intro v' w2 hown' hgrow hnil
 have hne := Lib.ownBlock_neF HOw.out HHb.out (by decide)
 have hlt : b < w1.heap.size := (Array.getElem?_eq_some_iff.1 HHb.out).1
 have hb2 : w2.heap[b]? = some (.cells #[.pointer (some ⟨b, 0, none⟩), v] 43 (0, 0)) := (hgrow.block b hlt (fun e => hne e.symm)).trans HHb.out
 have d0 : w2.cell? ⟨b, 0, none⟩ = some (.pointer (some ⟨b, 0, none⟩)) := by rw [Lib.cell_of_heap hb2]; rfl
 have d1 : w2.cell? ⟨b, 1, none⟩ = some v := by rw [Lib.cell_of_heap hb2]; rfl
 have f1 : w2.frozen? ⟨b, 1, none⟩ = false := Lib.frozen_of_heap hb2 1
 obtain ⟨ao, n', cap, hv'⟩ : ∃ ao n' cap, v' = .slice ao n' cap := by
   rcases hown'.2 with ⟨hv, _⟩ | ⟨g, cap, cur, fz, hv, _⟩
   · exact ⟨_, _, _, hv⟩
   · exact ⟨_, _, _, hv⟩
 subst hv'
 have HH2 := Lib.hid hb2
 have HO2 := Lib.hid hown'
 have HG := Lib.hid hgrow
 have HNil := Lib.hid hnil
 have HNe := Lib.hid (Lib.ownBlock_neF hown' hb2 (by decide))
 clear hb2 hown' hgrow hnil hne hlt
 go_wp2
 go_ret2
 have hk : Lib.byteCells (l ++ s.data.toList) = Lib.byteCells l ++ Lib.strCells s := by rw [Lib.byteCells_append, ← Lib.strCells_eq]
 refine ⟨rfl, ⟨.pointer (some ⟨b, 0, none⟩), .slice ao n' cap, .inr rfl, HBb.out, ?_, ?_, ?_⟩, ?_, ?_⟩
 · have := HH2.out
   simp [World.setCell, Array.getElem?_modify, this]
 · rw [hk, List.length_append, ← Lib.size_eq]
   exact HO2.out.kept (row := some b) ⟨rfl, rfl, rfl, by simp [World.setCell], fun k _ hk => Below.heap_setCell _ _ _ _ (fun e => hk (by simp [e]))⟩ (Or.inr HNe.out)
 · intro e
   have h1 : l = [] := (List.append_eq_nil_iff.1 e).1
   have h2 : s = ByteArray.empty := In.list_ext (List.append_eq_nil_iff.1 e).2
   exact HNil.out.2 ⟨HN.out h1, h2⟩
 · exact (HB1.out.grown HG.out (by have := HB1.out.size; omega) (fun k hk => (HOw.out.lt k hk).1)).setCell (p := ⟨b, 1, none⟩) HBb.out _
 · exact (HO1.out.grown HG.out (Lib.ownsRowF_kind HOw.out)).setCell ⟨b, 1, none⟩ rfl _
set_option maxHeartbeats 4000000 in
theorem pg_string (B b : Nat) (l : List UInt8) (w : World) (h : Pg B b l w) :
   Calls Tryd.prog 13 #[.pointer (some ⟨b, 0, none⟩)] w fun e w' => e = .returned (.string ⟨l.toArray⟩) ∧ Below B w w' := by
 obtain ⟨p, v, _, hB, hbk, hown, hn⟩ := h
 by_cases h0 : l = []
 · obtain rfl := hn h0
   subst h0
   have c1 : w.drew.cell? ⟨b, 1, none⟩ = some (.slice none 0 0) := by
     have : w.drew.heap[b]? = some (.cells #[p, .slice none 0 0] 43 (0, 0)) := hbk
     rw [Lib.cell_of_heap this]; rfl
   have hUS : ∀ (W : World) (q : Option Addr), (Builtin.unsafeString_ #[62, 3] 9 #[.pointer q, .int .i64 0]).run Tryd.prog W = .ok (.string .empty) W := fun W q => Lib.run_unsafeString_none W _ _ _ q
   have hSD : (Builtin.unsafeSliceData_ #[39] 62 #[.slice none 0 0]).run Tryd.prog w.drew = .ok (.pointer none) w.drew := rfl
   go_enter Tryd.func13, Tryd.ntmps13
   go_wp2
   go_region
   all_goals (go_wp2; go_ret; exact ⟨rfl, Below.drew (Below.refl B w)⟩)
 · obtain ⟨g, cap, cur, fz, rfl, hbg, hg, hfz, hnc, hcm, hcs, ht⟩ : ∃ g cap cur fz, v = .slice (some ⟨g, 0, none⟩) l.length cap ∧ B ≤ g ∧ w.heap[g]? = some (.cells cur 5 fz) ∧ fz.2 ≤ l.length * 1 ∧ l.length ≤ cap ∧ cap ≤ maxLen ∧ cur.size = cap * 1 ∧ cur.toList.take (l.length * 1) = Lib.byteCells l := by
     rcases hown.2 with ⟨_, hz⟩ | ⟨g, cap, cur, fz, hv, r⟩
     · exact absurd (List.length_eq_zero_iff.1 hz) h0
     · exact ⟨g, cap, cur, fz, hv, r⟩
   have hl0 : l.length ≠ 0 := fun e => h0 (List.length_eq_zero_iff.1 e)
   have c1 : w.drew.cell? ⟨b, 1, none⟩ = some (.slice (some ⟨g, 0, none⟩) l.length cap) := by
     have : w.drew.heap[b]? = some (.cells #[p, .slice (some ⟨g, 0, none⟩) l.length cap] 43 (0, 0)) := hbk
     rw [Lib.cell_of_heap this]; rfl
   have hSD : (Builtin.unsafeSliceData_ #[39] 62 #[.slice (some ⟨g, 0, none⟩) l.length cap]).run Tryd.prog w.drew = .ok (.pointer (some ⟨g, 0, none⟩)) w.drew := Lib.run_unsafeSliceData_row _ _ _ _ _ _ (by omega)
   have hUS : (Builtin.unsafeString_ #[62, 3] 9 #[.pointer (some ⟨g, 0, none⟩), .int .i64 l.length]).run Tryd.prog w.drew = .ok (.string ⟨l.toArray⟩) (w.drew.freeze ⟨g, 0, none⟩ l.length) := by
     refine Lib.run_unsafeString_row w.drew 62 3 9 5 Tryd.underlying62 Tryd.builder_extra.cellsByte g cur.size (by have hg' : w.drew.heap[g]? = some (.cells cur 5 fz) := hg; simp [World.shape?, hg']) l h0 (by omega) (by unfold maxLen at hcm; omega) ?_
     intro j x hx
     exact hown.cells (g := g) rfl j (.int .u8 x.toNat) (by simp [Lib.byteCells, hx])
   have HFz := Lib.hid (Lib.below_freeze (Below.drew (Below.refl B w)) (p := ⟨g, 0, none⟩) hbg l.length)
   clear hown hg ht hcs hbk
   go_enter Tryd.func13, Tryd.ntmps13
   go_wp2
   go_region
   all_goals (go_wp2; go_ret; exact ⟨rfl, HFz.out⟩)
end Go.Proofs.YtmhmlhlplfkpaaaDoor
