/-
 Parts as a group answers them: each is a function that may be called wherever those ahead of it have been. Conditions: none.
-/
import Derived.Test.YtdopheoedpldiaaGreatDoorFnMG
import Derived.Test.YtdopheoedpldiaaGreatDoorFnBody
set_option maxRecDepth 100000
namespace Go.Proofs.YtdopheoedpldiaaGreatDoor
open Go.RowKit
theorem tab_in {W : World} (h : Tab W) : 0 < W.heap.size := World.block_lt_of_cell? W ⟨0, 0, none⟩ (h 0 (by decide))
theorem tab_off {g p : Nat} {W W' : World} (h : Tab W) (ho : Off g p W W') (hg : g ≠ 0) (hp : p ≠ 0) : Tab W' := by
 intro j hj
 have hlt := tab_in h
 have hb := ho.block 0 hlt (fun e => hg e.symm) (fun e => hp e.symm)
 have hc := h j hj
 unfold World.cell? at hc ⊢
 rw [hb]
 exact hc
def Enters (k : Nat) : Prop := ∀ (args : Array Value) (w : World), (callFunc k args).run Tryz.prog w = .ok (.enter k args) w
theorem en_title_1 : Enters 161 := fun _ _ => by kernel_rfl
theorem en_title_2 : Enters 164 := fun _ _ => by kernel_rfl
theorem en_types_1_1 : Enters 167 := fun _ _ => by kernel_rfl
theorem en_types_2 : Enters 169 := fun _ _ => by kernel_rfl
theorem en_body_1 : Enters 170 := fun _ _ => by kernel_rfl
theorem en_body_2 : Enters 171 := fun _ _ => by kernel_rfl
theorem en_body_3 : Enters 173 := fun _ _ => by kernel_rfl
theorem en_tables_1 : Enters 175 := fun _ _ => by kernel_rfl
theorem en_tables_2 : Enters 177 := fun _ _ => by kernel_rfl
theorem en_tables_3 : Enters 179 := fun _ _ => by kernel_rfl
theorem en_title : Enters 136 := fun _ _ => by kernel_rfl
theorem en_types : Enters 137 := fun _ _ => by kernel_rfl
theorem en_body : Enters 138 := fun _ _ => by kernel_rfl
theorem en_tables : Enters 139 := fun _ _ => by kernel_rfl
structure PartsOk (g p : Nat) (ps : List (Fn.St → Fn.St)) (A : Option Addr) (K : World → Prop) (I : Nat → Fn.St → Prop) : Prop where
 off : ∀ W W', K W → Off g p W W' → K W'
 part : ∀ j (h : j < ps.length) W, K W → ∃ b k cap, A = some ⟨b, 0, none⟩ ∧ W.cell? ⟨b, j, none⟩ = some (.func (.func k) #[] cap) ∧ Enters k ∧ ∀ v t, I j t → TkAt g p v t W → Calls Tryz.prog k cap W (PartP g p (ps[j] t) W)
 ok : ∀ j (h : j < ps.length) (t : Fn.St), I j t → (∀ c ∈ t.s.1, c < 256) → I (j + 1) (ps[j] t)
def AllP (g p : Nat) (ps : List (Fn.St → Fn.St)) (J J' : Fn.St → Prop) (w : World) (e : Ending) (w' : World) : Prop :=
 ∃ A c K I, e = .returned (.slice A ps.length c) ∧ PartsOk g p ps A K I ∧ (∀ t, J t → I 0 t) ∧ (∀ t, I ps.length t → J' t) ∧ K w' ∧ Below w.heap.size w w'
structure BoxK (g p q b : Nat) (l : Array Value) (W : World) : Prop where
 pt : PtAt q p W
 at_ : W.heap[b]? = some (.cells l 161 (0, 0))
 tab : Tab W
 qg : q ≠ g
 qp : q ≠ p
 bg : b ≠ g
 bp : b ≠ p
 tg : g ≠ 0
 tp : p ≠ 0
theorem BoxK.off {g p q b : Nat} {l : Array Value} {W W' : World} (h : BoxK g p q b l W) (ho : Off g p W W') : BoxK g p q b l W' :=
 ⟨h.pt.off ho h.qg h.qp, (ho.block b (heap_lt h.at_) h.bg h.bp).trans h.at_, tab_off h.tab ho h.tg h.tp, h.qg, h.qp, h.bg, h.bp, h.tg, h.tp⟩
theorem all_of {g p : Nat} {v : FnV} {t : Fn.St} {w w' : World} {e : Ending} {l : Nat → Array Value} {ps : List (Fn.St → Fn.St)} {J J' : Fn.St → Prop} (I : Nat → Fn.St → Prop) (h : TkAt g p v t w) (hT : Tab w) (hg : g ≠ 0) (hp : p ≠ 0)
   (hG : GroupP p l w e w') (hn : ∀ q, (l q).size = ps.length)
   (hP : ∀ q b, ∀ j (h : j < ps.length) W, BoxK g p q b (l q) W → ∃ k, (l q)[j]? = some (partF k q) ∧ Enters k ∧ ∀ v t, I j t → TkAt g p v t W → Calls Tryz.prog k #[.pointer (some ⟨q, 0, none⟩)] W (PartP g p (ps[j] t) W))
   (hO : ∀ j (h : j < ps.length) (t : Fn.St), I j t → (∀ c ∈ t.s.1, c < 256) → I (j + 1) (ps[j] t)) (h0 : ∀ t, J t → I 0 t) (h1 : ∀ t, I ps.length t → J' t) : AllP g p ps J J' w e w' := by
 obtain ⟨q, b, rfl, hq, hb, hpt, hbx, hbl⟩ := hG
 have hlt := h.lt
 have hgp := h.gp
 refine ⟨some ⟨b, 0, none⟩, (l q).size, BoxK g p q b (l q), I, by rw [hn], ⟨fun _ _ k ho => k.off ho, fun j hj W k => ?_, hO⟩, h0, h1, ⟨hpt, hbx, tab_below hT hbl (tab_in hT), by omega, by omega, by omega, by omega, hg, hp⟩, hbl⟩
 obtain ⟨f, hf, he, hc⟩ := hP q b j hj W k
 exact ⟨b, f, _, rfl, (cell_of_row W b j _ _ _ k.at_).trans hf, he, hc⟩
def Fn.St.Fresh (t : Fn.St) : Prop := t.Ok ∧ t.f.code = []
def bodyI : Nat → Fn.St → Prop
 | 0, t => t.Fresh
 | 1, t => t.Fresh
 | _, t => t.Ok
theorem two_of {m : Nat} (h : m < 2) : m = 0 ∨ m = 1 := by omega
theorem three_of {m : Nat} (h : m < 3) : m = 0 ∨ m = 1 ∨ m = 2 := by omega
theorem title_all (g p : Nat) (v : FnV) (t : Fn.St) (W : World) (h : TkAt g p v t W) (hT : Tab W) (hg : g ≠ 0) (hp : p ≠ 0) :
   Calls Tryz.prog 136 #[.pointer (some ⟨p, 0, none⟩)] W (AllP g p (Fn.gTitle t) Fn.St.Fresh Fn.St.Fresh W) :=
 (title_any p W).mono fun e w' hG => all_of (fun _ => Fn.St.Fresh) h hT hg hp hG (fun _ => rfl)
   (fun q b j hj W k => by
     rcases two_of hj with rfl | rfl
     · exact ⟨_, rfl, en_title_1, fun v t _ ht => name_part g p q v t W ht k.pt k.qg k.qp⟩
     · exact ⟨_, rfl, en_title_2, fun v t _ ht => mark_part g p q v t W ht k.pt k.qg k.qp⟩)
   (fun j hj t ho hb => by
     rcases two_of hj with rfl | rfl
     · exact ⟨Fn.ok_name ho.1, ho.2⟩
     · exact ⟨Fn.ok_mark ho.1 hb, ho.2⟩) (fun _ h => h) (fun _ h => h)
theorem body_all (g p : Nat) (v : FnV) (t : Fn.St) (W : World) (h : TkAt g p v t W) (hT : Tab W) (hg : g ≠ 0) (hp : p ≠ 0) :
   Calls Tryz.prog 138 #[.pointer (some ⟨p, 0, none⟩)] W (AllP g p (Fn.gBody t) Fn.St.Fresh Fn.St.Ok W) :=
 (body_any p W).mono fun e w' hG => all_of bodyI h hT hg hp hG (fun _ => rfl)
   (fun q b j hj W k => by
     rcases three_of hj with rfl | rfl | rfl
     · exact ⟨_, rfl, en_body_1, fun v t _ ht => many_part g p q v t W ht k.pt k.qg k.qp⟩
     · exact ⟨_, rfl, en_body_2, fun v t ho ht => code_part g p q v t W ht k.pt k.qg k.qp ho.1.many ho.2⟩
     · exact ⟨_, rfl, en_body_3, fun v t ho ht => lines_part g p q v t W ht k.pt k.qg k.qp ho.many⟩)
   (fun j hj t ho hb => by
     rcases three_of hj with rfl | rfl | rfl
     · exact ⟨Fn.ok_many ho.1, ho.2⟩
     · exact Fn.ok_code ho.1
     · exact Fn.ok_lines ho) (fun _ h => h) (fun _ h => h)
theorem all_none (g p : Nat) (J : Fn.St → Prop) (w w' : World) (h : Below w.heap.size w w') : AllP g p [] J J w (.returned (.slice none 0 0)) w' :=
 ⟨none, 0, fun _ => True, fun _ => J, rfl, ⟨fun _ _ _ _ => trivial, fun j hj => absurd hj (Nat.not_lt_zero j), fun j hj => absurd hj (Nat.not_lt_zero j)⟩, fun _ h => h, fun _ h => h, trivial, h⟩
theorem tables_all (g p : Nat) (v : FnV) (t : Fn.St) (W : World) (h : TkAt g p v t W) (hk : t.Ok) (hT : Tab W) (hg : g ≠ 0) (hp : p ≠ 0) :
   Calls Tryz.prog 139 #[.pointer (some ⟨p, 0, none⟩)] W (AllP g p (Fn.gTables t) Fn.St.Ok Fn.St.Ok W) :=
 (tables_any g p v t W h hk.marks).mono fun e w' hG => by
   rcases hG with ⟨hm, rfl, hb⟩ | ⟨hm, hG⟩
   · rw [Fn.gTables_bare hm]
     exact all_none g p _ W w' hb
   · rw [Fn.gTables_not hm]
     refine all_of (fun _ => Fn.St.Ok) h hT hg hp hG (fun _ => rfl)
       (fun q b j hj W k => by
         rcases three_of hj with rfl | rfl | rfl
         · exact ⟨_, rfl, en_tables_1, fun v t _ ht => nodes_part g p q v t W ht k.pt k.qg k.qp⟩
         · exact ⟨_, rfl, en_tables_2, fun v t ho ht => at_part g p q v t W ht k.pt k.qg k.qp ho.many⟩
         · exact ⟨_, rfl, en_tables_3, fun v t ho ht => live_part g p q v t W ht k.pt k.qg k.qp ho.many (by have := ho.slots; omega) k.tab (tab_in k.tab) k.tg⟩)
       (fun j hj t ho hb => by
         rcases three_of hj with rfl | rfl | rfl
         · exact Fn.ok_nodes ho
         · exact Fn.ok_at ho
         · exact Fn.ok_live ho) (fun _ h => h) (fun _ h => h)
end Go.Proofs.YtdopheoedpldiaaGreatDoor
