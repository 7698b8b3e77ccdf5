/-
 A line of words written on a page. Conditions: the words can be read; lengths within the reach.
-/
import Derived.Test.YtmhmlhlplfkpaaaDoorDiPg
import Derived.Test.YtmhmlhlplfkpaaaDoorDiJoin
import Derived.Test.YtmhmlhlplfkpaaaDoorReg
import Derived.Deep.DeepMust
set_option maxRecDepth 100000
namespace Go.Proofs.YtmhmlhlplfkpaaaDoor
open Go.RowKit
def PgP (B b : Nat) (l : List UInt8) (w : World) (e : Ending) (w' : World) : Prop := e = .returned (.tuple #[]) ∧ Pg B b l w' ∧ Below B w w' ∧ OffP b w w'
structure LwC (B b : Nat) (l l2 : List UInt8) (A : Option Addr) (n : Nat) (zs : List ByteArray) (w1 : World) (D : Nat → Bool) (W : World) : Prop where
 page : Pg B b (if D 5 = true then l2 else l) W
 names : D 5 = false → NamesAt W W.heap.size A n zs
 below : Below B w1 W
 off : OffP b w1 W
section
variable {B b n : Nat} {l l2 : List UInt8} {A : Option Addr} {zs : List ByteArray} {w1 : World} {D : Nat → Bool} {W : World}
theorem LwC.up (h : LwC B b l l2 A n zs w1 D W) {i : Nat} (hi : (5 == i) = false) : LwC B b l l2 A n zs w1 (add D i) W := ⟨by rw [up_other hi]; exact h.page, by rw [up_other hi]; exact h.names, h.below, h.off⟩
theorem LwC.page0 (h : LwC B b l l2 A n zs w1 D W) (hD : D 5 = false) : Pg B b l W := by
 have := h.page
 rw [hD] at this
 exact this
theorem LwC.kept (h : LwC B b l l2 A n zs w1 D W) {W' : World} (hb : Below W.heap.size W W') : LwC B b l l2 A n zs w1 D W' :=
 ⟨h.page.below hb, fun e => ((h.names e).below hb).more hb.size, h.below.trans (hb.mono (Nat.le_trans h.page.base (Nat.le_of_lt h.page.lt))), h.off.trans (OffP.of hb)⟩
theorem LwC.drew (h : LwC B b l l2 A n zs w1 D W) : LwC B b l l2 A n zs w1 D W.drew := h.kept (Below.refl _ _).drew
theorem LwC.wrote (h : LwC B b l l2 A n zs w1 D W) {W' : World} (h1 : Pg B b l2 W') (h2 : Below B W W') (h3 : OffP b W W') : LwC B b l l2 A n zs w1 (add D 5) W' :=
 ⟨by rw [show add D 5 5 = true by simp [add], if_pos rfl]; exact h1, fun e => by simp [add] at e, h.below.trans h2, h.off.trans h3⟩
end
def PlG (b n c : Nat) (A : Option Addr) (s : ByteArray) (_ : Unit) : Nat → Value → Prop
 | 0, vv => vv = .pointer (some ⟨b, 0, none⟩)
 | 1, vv => vv = .pointer (some ⟨b, 0, none⟩)
 | 2, vv => vv = .pointer (some ⟨b, 0, none⟩)
 | 3, vv => vv = .slice A n c
 | 4, vv => vv = .string s
 | 5, vv => vv = .tuple #[.int .i64 s.size, .nilIface]
 | _, _ => True
set_option maxHeartbeats 4000000 in
theorem pgline_any (B b : Nat) (l : List UInt8) (A : Option Addr) (n c : Nat) (zs : List ByteArray) (w : World) (h : Pg B b l w) (hz : NamesAt w w.heap.size A n zs) (hn : n ≤ 140737488355328) (hc : n ≤ c) (hs : l.length + (Di.join zs).size + 1 ≤ 140737488355328) :
   Calls Tryd.prog 12 #[.pointer (some ⟨b, 0, none⟩), .slice A n c] w (PgP B b (l ++ (Di.join zs ++ Di.nl).data.toList) w) := by
 have HJ := Lib.hid (fun (W : World) (hW : NamesAt W W.heap.size A n zs) => djoin_any A n c zs W hW hn hc (by omega))
 have hB : B ≤ w.heap.size := Nat.le_trans h.base (Nat.le_of_lt h.lt)
 generalize Di.join zs = s at HJ hs ⊢
 have hlen : l.length + s.size ≤ 140737488355328 := by omega
 have hC : LwC B b l (l ++ s.data.toList) A n zs w (fun _ => false) w := ⟨h, fun _ => hz, Below.refl _ _, OffP.refl _ _⟩
 have HL2 : Hid ((l ++ s.data.toList).length + Di.nl.size ≤ 140737488355328) := Lib.hid (by
   have h1 : Di.nl.size = 1 := rfl
   rw [List.length_append, ← Lib.size_eq]
   omega)
 have HE : Hid (l ++ (s ++ Di.nl).data.toList = l ++ s.data.toList ++ Di.nl.data.toList) := Lib.hid (by simp)
 clear h hz hs
 go_enter Tryd.func12, Tryd.ntmps12
 go_wp2
 refine region_k () 14 (fun _ D W => LwC B b l (l ++ s.data.toList) A n zs w D W) (PlG b n c A s) (by kernel_rfl) (by kernel_rfl) (by kernel_rfl) rfl rfl hC.drew ?_ ?_
 · refine ⟨?_, ?_, ?_, ?_, ?_, ?_, trivial⟩
   · intro x D a w hI hdep hD0 K hK
     have e0 : a.eval (.tmp 0) = .pointer (some ⟨b, 0, none⟩) := hI.read 0 rfl
     refine ok_value (wanted_none rfl) (v := .pointer (some ⟨b, 0, none⟩)) ?_ (hK x _ _ (hI.world.up rfl) (fun _ _ _ h => h) rfl)
     obtain ⟨ec, ef⟩ := ecs a; clear hI hdep hK; generalize a.eval = ρ at e0 ec ef ⊢; go_simp
   · intro x D a w hI hdep hD0 K hK
     have e4 : a.eval (.tmp 4) = .pointer (some ⟨b, 0, none⟩) := hI.good 0 4 (dep_of hdep 0 rfl) rfl
     refine ok_value (wanted_none rfl) (v := .pointer (some ⟨b, 0, none⟩)) ?_ (hK x _ _ (hI.world.up rfl) (fun _ _ _ h => h) rfl)
     obtain ⟨ec, ef⟩ := ecs a; clear hI hdep hK; generalize a.eval = ρ at e4 ec ef ⊢; go_simp
   · intro x D a w hI hdep hD0 K hK
     have e5 : a.eval (.tmp 5) = .pointer (some ⟨b, 0, none⟩) := hI.good 1 5 (dep_of hdep 1 rfl) rfl
     refine ok_value (wanted_none rfl) (v := .pointer (some ⟨b, 0, none⟩)) ?_ (hK x _ _ (hI.world.up rfl) (fun _ _ _ h => h) rfl)
     obtain ⟨ec, ef⟩ := ecs a; clear hI hdep hK; generalize a.eval = ρ at e5 ec ef ⊢; go_simp
   · intro x D a w hI hdep hD0 K hK
     have e1 : a.eval (.tmp 1) = .slice A n c := hI.read 1 rfl
     refine ok_value (wanted_none rfl) (v := .slice A n c) ?_ (hK x _ _ (hI.world.up rfl) (fun _ _ _ h => h) rfl)
     obtain ⟨ec, ef⟩ := ecs a; clear hI hdep hK; generalize a.eval = ρ at e1 ec ef ⊢; go_simp
   · intro x D a w hI hdep hD0 K hK
     have e7 : a.eval (.tmp 7) = .slice A n c := hI.good 3 7 (dep_of hdep 3 rfl) rfl
     refine ok_call (wanted_none rfl) (f := 16) (args := #[.slice A n c]) ?_ (HJ.out w (hI.world.names (hI.not_up hD0 5 rfl))) ?_
     · obtain ⟨ec, ef⟩ := ecs a; clear hI hdep hK; generalize a.eval = ρ at e7 ec ef ⊢; go_simp
     · rintro e w2 ⟨rfl, hb2⟩
       exact ⟨_, rfl, hK x _ _ ((hI.world.up rfl).kept hb2) (fun _ _ _ h => h) rfl⟩
   · intro x D a w hI hdep hD0 K hK
     have e6 : a.eval (.tmp 6) = .pointer (some ⟨b, 0, none⟩) := hI.good 2 6 (dep_of hdep 2 rfl) rfl
     have e8 : a.eval (.tmp 8) = .string s := hI.good 4 8 (dep_of hdep 4 rfl) rfl
     refine ok_call (wanted_none rfl) (f := 20) (args := #[.pointer (some ⟨b, 0, none⟩), .string s]) ?_ (pg_text B b l s w (hI.world.page0 hD0) hlen (Nat.le_trans hB (hI.world.below.size))) ?_
     · obtain ⟨ec, ef⟩ := ecs a; clear hI hdep hK; generalize a.eval = ρ at e6 e8 ec ef ⊢; go_simp
     · rintro e w2 ⟨rfl, hp, hb2, ho2⟩
       exact ⟨_, rfl, hK x _ _ (hI.world.wrote hp hb2 ho2) (fun _ _ _ h => h) rfl⟩
 · intro x D a w2 hI hD
   have hfr := hI.frame [(4, .pointer (some ⟨b, 0, none⟩)), (5, .pointer (some ⟨b, 0, none⟩)), (6, .pointer (some ⟨b, 0, none⟩)), (7, .slice A n c), (8, .string s), (9, .tuple #[.int .i64 s.size, .nilIface])] (all_cons (hI.good 0 4 (hD 0 (by decide)) rfl) (all_cons (hI.good 1 5 (hD 1 (by decide)) rfl) (all_cons (hI.good 2 6 (hD 2 (by decide)) rfl) (all_cons (hI.good 3 7 (hD 3 (by decide)) rfl) (all_cons (hI.good 4 8 (hD 4 (by decide)) rfl) (all_cons (hI.good 5 9 (hD 5 (by decide)) rfl) all_nil)))))) rfl
   have hW := hI.world
   clear hI
   subst hfr
   simp only [List.foldl_cons, List.foldl_nil, List.setIfInBounds_toArray, List.set_cons_succ, List.set_cons_zero]
   have hp := hW.page
   rw [hD 5 (by decide), if_pos rfl] at hp
   have HT := Lib.hid (pg_text B b _ Di.nl w2 hp HL2.out (Nat.le_trans hB hW.below.size))
   have HB2 := Lib.hid hW.below
   have HO2 := Lib.hid hW.off
   clear hW hp hC HJ
   unfold Di.nl at HT
   go_wp2_with (go_at_call 20; refine HT.out.mono ?_; rintro _ w3 ⟨rfl, hp3, hb3, ho3⟩)
   go_end0
   refine ⟨rfl, ?_, HB2.out.trans hb3, HO2.out.trans ho3⟩
   rw [HE.out]
   exact hp3
end Go.Proofs.YtmhmlhlplfkpaaaDoor
