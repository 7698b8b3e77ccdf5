/-
 What dis.node tells; a function that leaves with many marks among its deferred calls. Conditions: the function's lists can be read.
-/
import Derived.Test.YtmhmlhlplfkpaaaGreatDoorDiMath
import Derived.Maps.AppendAt
set_option maxRecDepth 100000
namespace Go.Proofs.YtmhmlhlplfkpaaaGreatDoor
open Go.RowKit
set_option maxHeartbeats 4000000 in
theorem dnode_any (v : FnV) (f : Fn.F) (k : Nat) (w : World) (h : FnOk w w.heap.size v f) :
   Calls Tryz.prog 58 #[.agg v.cells, .int .i64 (k : Int)] w fun e w' => e = .returned (.int .i64 (Di.at_ f k)) ∧ Below w.heap.size w w' := by
 have b0 := (Below.refl w.heap.size w).alloc (Nat.le_refl _) (.cells v.cells 28)
 have h1 := h.on b0
 have c9 := (FnAt.new w v).c9
 have HB := Lib.hid b0
 have hn := h.n_at
 by_cases hk : k < v.at_.n
 · obtain ⟨b, off, x, ea, hlt, hc, hx, hkl⟩ := ints_cell h1.at_.1 hk
   have hki : (k : Int) < (v.at_.n : Int) := by omega
   have hd : decide ((v.at_.n : Int) ≤ (k : Int)) = false := decide_eq_false (by omega)
   have HE : Hid (Di.at_ f k = x) := Lib.hid hx
   rw [ea] at c9
   clear h h1 b0 hn hlt hx hkl hk
   go_enter Tryz.func58, Tryz.ntmps58
   go_wp2
   go_ret
   exact ⟨by rw [HE.out]; rfl, HB.out⟩
 · have hd : decide ((v.at_.n : Int) ≤ (k : Int)) = true := decide_eq_true (by omega)
   have HE : Hid (Di.at_ f k = 0) := Lib.hid (by
     unfold Di.at_
     rw [List.getD_eq_getElem?_getD, List.getElem?_eq_none (by omega)]
     rfl)
   clear h h1 b0 hn
   go_enter Tryz.func58, Tryz.ntmps58
   go_wp2
   go_ret
   exact ⟨by rw [HE.out]; rfl, HB.out⟩
def Marks (B : Nat) : List Deferred → World → Prop
 | [], _ => True
 | d :: ds, w => (∃ D, d = { target := .collected D, args := #[] } ∧ B ≤ D ∧ w.heap[D]? = some (.deferred (some [])) ∧ ∀ e ∈ ds, e ≠ d) ∧ Marks B ds w
theorem Marks.kept {B : Nat} : ∀ {ds : List Deferred} {w w' : World}, Marks B ds w → (∀ D, w.heap[D]? = some (.deferred (some [])) → ({ target := .collected D, args := #[] } : Deferred) ∈ ds → w'.heap[D]? = some (.deferred (some []))) → Marks B ds w'
 | [], _, _, _, _ => trivial
 | d :: ds, w, w', ⟨⟨D, hd, hB, hD, hne⟩, hr⟩, hk => ⟨⟨D, hd, hB, hk D hD (by rw [← hd]; exact List.mem_cons_self), hne⟩, Marks.kept hr fun E hE hm => hk E hE (List.mem_cons_of_mem _ hm)⟩
theorem leaves_marks {F : Fence} {n : Nat} {P : Program} {fn : Func} {tmps : Array Value} {R : Ending → World → Prop} {B : Nat} : ∀ (ds : List Deferred) (w : World), Marks B ds w →
   (∀ w' : World, Below B w w' → (∀ (k : Nat) (c : Array Value) (T : TypeId) (z : Nat × Nat), w.heap[k]? = some (Obj.cells c T z) → w'.heap[k]? = some (Obj.cells c T z)) → LeavesIn F n P fn tmps R [] .returning w') → LeavesInM F n P fn tmps R ds .returning w
 | [], w, _, h => h w (Below.refl _ _) (fun _ _ _ _ e => e)
 | d :: ds, w, ⟨⟨D, hd, hB, hD, hne⟩, hr⟩, h => by
   refine ⟨by simp, .inl ⟨D, w.putObj D (.deferred none), by rw [hd], run_takeDeferred hD, ?_⟩⟩
   have hlt : D < w.heap.size := (Array.getElem?_eq_some_iff.1 hD).1
   have hp : ∀ k, k ≠ D → (w.putObj D (.deferred none)).heap[k]? = w.heap[k]? := fun k hk => by
     simp only [World.putObj, Array.getElem?_setIfInBounds]
     rw [if_neg (Ne.symm hk)]
   have hbl : Below B w (w.putObj D (.deferred none)) := ⟨rfl, rfl, rfl, by simp [World.putObj], fun k hk => hp k (by omega)⟩
   refine leaves_marks ds _ (hr.kept fun E hE hm => ?_) fun w' hb hc => ?_
   · rw [hp E]
     · exact hE
     · rintro rfl
       exact hne _ hm hd.symm
   · refine h w' (hbl.trans hb) fun k c T z hk => hc k c T z ?_
     rw [hp k]
     · exact hk
     · rintro rfl
       rw [hD] at hk
       cases hk
end Go.Proofs.YtmhmlhlplfkpaaaGreatDoor
