/-
 What tree.Text tells. Conditions: the nodes are a tree and can be read; numbers of their type; the table of powers of ten is laid.
-/
import Derived.Test.YtmhmlhlplfkpaaaGreatDoorBlR
import Derived.Test.YtmhmlhlplfkpaaaGreatDoorPow
import Derived.Test.YtmhmlhlplfkpaaaGreatDoorTrT
set_option maxRecDepth 100000
namespace Go.Proofs.YtmhmlhlplfkpaaaGreatDoor
open Go.RowKit
structure TxC (B0 b0 p : Nat) (y : Tr.Nd) (t1 t2 : List UInt8) (w1 : World) (D : Nat → Bool) (W : World) : Prop where
 bld : Bld B0 b0 (if D 13 = true then t2 else t1) W
 node : D 13 = false → NodeAt W p 93 y
 below : Below B0 w1 W
 pow : Pow W
section
variable {B0 b0 p : Nat} {y : Tr.Nd} {t1 t2 : List UInt8} {w1 : World} {D : Nat → Bool} {W : World}
theorem TxC.up (h : TxC B0 b0 p y t1 t2 w1 D W) {i : Nat} (hi : (13 == i) = false) : TxC B0 b0 p y t1 t2 w1 (add D i) W := ⟨by rw [up_other hi]; exact h.bld, by rw [up_other hi]; exact h.node, h.below, h.pow⟩
theorem TxC.bldB (h : TxC B0 b0 p y t1 t2 w1 D W) (hD : D 13 = false) : Bld B0 b0 t1 W := by
 have := h.bld
 rw [hD] at this
 exact this
theorem TxC.kept (h : TxC B0 b0 p y t1 t2 w1 D W) {W' : World} (hb : Below W.heap.size W W') : TxC B0 b0 p y t1 t2 w1 D W' :=
 ⟨h.bld.below hb, fun e => (h.node e).below hb (h.node e).lt, h.below.trans (hb.mono (by
   have := h.bld.lt
   rcases h.bld with h | h
   · have := h.1; omega
   · have := h.1; omega)), h.pow.below hb⟩
theorem TxC.drew (h : TxC B0 b0 p y t1 t2 w1 D W) : TxC B0 b0 p y t1 t2 w1 D W.drew := h.kept (Below.refl _ _).drew
theorem TxC.wrote (h : TxC B0 b0 p y t1 t2 w1 D W) (hp : 2 < B0) {W' : World} (h1 : Bld B0 b0 t2 W') (h2 : Below B0 W W') : TxC B0 b0 p y t1 t2 w1 (add D 13) W' :=
 ⟨by rw [show add D 13 13 = true by simp [add], if_pos rfl]; exact h1, fun e => by simp [add] at e, h.below.trans h2, pow_upto h.pow h2 hp⟩
end
def TxtG (k p : Nat) (p1 p2 : Int) (dk df dl s1 s2 s3 s4 s5 : ByteArray) (_ : Unit) : Nat → Value → Prop
 | 0, v => v = .int .i64 (k : Int)
 | 1, v => v = .string dk
 | 2, v => v = .string s1
 | 3, v => v = .pointer (some ⟨p, 1, none⟩)
 | 4, v => v = .int .i64 p1
 | 5, v => v = .string df
 | 6, v => v = .string s2
 | 7, v => v = .string s3
 | 8, v => v = .pointer (some ⟨p, 2, none⟩)
 | 9, v => v = .int .i64 p2
 | 10, v => v = .string dl
 | 11, v => v = .string s4
 | 12, v => v = .string s5
 | 13, v => v = .tuple #[.int .i64 s5.size, .nilIface]
 | _, _ => True
theorem retT {a b : ByteArray} (h : a = b) : Ending.returned (.string a) = .returned (.string b) := by rw [h]
def TtxRel (n : Nat) (l : List Tr.Nd) (w : World) (i : Value) (wr : World) : Prop :=
 ∃ k : Nat, k ≤ n ∧ i = .int .i64 (k : Int) ∧ Bld w.heap.size w.heap.size (Tr.textTo l k).data.toList wr ∧ Below w.heap.size w wr
set_option maxHeartbeats 8000000 in
theorem trtext_any (a : Option Addr) (n c : Nat) (l : List Tr.Nd) (w : World) (h : NodesAt w w.heap.size a n l) (hr : Tr.right l = true) (hwf : ∀ nd ∈ l, nd.wf) (hpw : Pow w) :
   Calls Tryz.prog 28 #[.slice a n c] w (StrP (Tr.text l) w) := by
 have hl : l.length = n := h.1
 have hn120 := (Tr.right_run hr).2.1
 have H := Lib.hid h
 have HL := Lib.hid (And.intro hl hn120)
 have HWf := Lib.hid hwf
 have HPw := Lib.hid hpw
 have HDep := Lib.hid (fun (W : World) (x : Int) (hW : NodesAt W W.heap.size a n l) (hx : -9223372036854775808 ≤ x ∧ x ≤ 9223372036854775807) => trdepth_any a n c l x W hW hr hx)
 have HUp := Lib.hid (fun (x : Int) (hx : 0 ≤ x ∧ x < (l.length : Int)) => Tr.ups_in hr hx)
 have HUl := Lib.hid (fun (x : Int) => Nat.le_trans (Tr.ups_len hr x) hn120)
 clear h hr hl hn120 hwf hpw
 go_enter Tryz.func28, Tryz.ntmps28
 go_wp2
 go_loopw [4, 5, 8] (fun _ _ i wr => TtxRel n l w i wr) (fun _ _ i _ => n - (intOf i).toNat)
 case atStart => exact ⟨0, Nat.zero_le _, rfl, Lib.IsBuilderF.of (Lib.fresh_isBuilder 55 5 w), (Below.refl _ _).alloc (Nat.le_refl _) _⟩
 case round =>
   obtain ⟨k, hk, rfl, hI, hB⟩ := hrel
   have HB := Lib.hid hB
   have HI := Lib.hid hI
   clear hB hI
   by_cases hlt : k < n
   · obtain ⟨b, off, y, rfl, hltb, hy, hky, d0, d1, d2, d3, d4, d5, d6⟩ := nodes_cell (H.out.below HB.out) hlt
     have HY : Hid (y.wf ∧ Tr.textTo l (k + 1) = Tr.textTo l k ++ Tr.ind ((Tr.ups l (k : Int)).length - 1) ++ Tr.row (k : Int) y) := Lib.hid (by have h1 := Tr.wf_of HWf.out hky; rw [hy] at h1; exact ⟨h1, by rw [Tr.textTo, hy]⟩)
     have HTS : Hid ((Tr.textTo l k).size ≤ 1073741824) := Lib.hid (Tr.textTo_small l HWf.out (by have := HL.out; omega) (by have := HL.out; omega))
     obtain ⟨m, hm⟩ : ∃ m, (Tr.ups l (k : Int)).length = m + 1 := ⟨(Tr.ups l (Tr.Nd.p (l.getD k Tr.Nd.nil))).length, by rw [HUp.out (k : Int) ⟨by omega, by omega⟩]; simp⟩
     have hm120 : m ≤ 120 := by have := HUl.out (k : Int); omega
     rw [hm, Nat.add_sub_cancel] at HY
     have hn2 : n ≤ 120 := by have := HL.out; omega
     have HD := Lib.hid (fun (W : World) (hW : NodesAt W W.heap.size (some ⟨b, off, none⟩) n l) => HDep.out W (k : Int) hW (by omega))
     rw [hm] at HD
     rw [show ((m + 1 : Nat) : Int) = (m : Int) + 1 by omega] at HD
     have HRep := Lib.hid (fun W => repeat_any ⟨#[32, 32]⟩ m W (by omega) (by show 2 * m ≤ _; omega))
     rw [show (⟨(Lib.repeatL (⟨#[32, 32]⟩ : ByteArray).data.toList m).toArray⟩ : ByteArray) = Tr.ind m by rfl] at HRep
     have HInd : Hid ((Tr.ind m).size = 2 * m) := Lib.hid (Tr.ind_size m)
     clear hy hky hm
     obtain ⟨p0, p1, p2, p3, p4, p5, p6⟩ := y
     dsimp only at d0 d1 d2 d3 d4 d5 d6
     go_wp2_with (first
       | (go_at_call 56; go_must (refine (HD.out _ (H.out.on (HB.out.alloc HB.out.size (.cells #[.int .i64 p0, .int .i64 p1, .int .i64 p2, .int .i64 p3, .int .i64 p4, .int .i64 p5, .int .i64 p6] 93)))).mono ?_; rintro _ w1 ⟨rfl, hb1⟩; have HB1 := Lib.hid hb1; clear hb1))
       | (go_at_call 55; go_must (refine (HRep.out _).mono ?_; rintro _ w2 ⟨rfl, hb2⟩; have HB2 := Lib.hid hb2; clear hb2))
       | (go_at_call 27; go_must (refine (bld_text w.heap.size w.heap.size (Tr.textTo l k).data.toList (Tr.ind m) w2 (((HI.out.below ((Below.refl wr.heap.size wr).alloc (Nat.le_refl _) (.cells #[.int .i64 p0, .int .i64 p1, .int .i64 p2, .int .i64 p3, .int .i64 p4, .int .i64 p5, .int .i64 p6] 93))).below HB1.out).below HB2.out) (by have h1 := HTS.out; have h2 := HInd.out; rw [Lib.size_eq] at h1; omega) (Nat.le_trans (Nat.le_trans (Nat.le_trans HB.out.size (by simp)) HB1.out.size) HB2.out.size)).mono ?_; rintro _ w3 ⟨rfl, hI3, hb3, ho3⟩; have HI3 := Lib.hid hI3; have HB3 := Lib.hid hb3; have HO3 := Lib.hid ho3; clear hI3 hb3 ho3)))
     have hne : wr.heap.size ≠ w.heap.size := by have := HI.out.lt; omega
     have HN0 := Lib.hid (((NodeAt.new wr 93 ⟨p0, p1, p2, p3, p4, p5, p6⟩).below HB1.out (by simp)).below HB2.out (by have := HB1.out.size; simp at this; omega))
     have HN3 : Hid (NodeAt w3 wr.heap.size 93 ⟨p0, p1, p2, p3, p4, p5, p6⟩) := Lib.hid (HO3.out _ _ HN0.out (by intro e; injection e with e; exact hne e) (by intro c fz e; injection e with _ e; exact absurd e (by decide)))
     have HB03 := Lib.hid ((((HB.out.alloc HB.out.size (.cells #[.int .i64 p0, .int .i64 p1, .int .i64 p2, .int .i64 p3, .int .i64 p4, .int .i64 p5, .int .i64 p6] 93)).trans (HB1.out.mono (Nat.le_trans HB.out.size (by simp)))).trans (HB2.out.mono (Nat.le_trans (Nat.le_trans HB.out.size (by simp)) HB1.out.size))).trans HB3.out)
     have HP3 := Lib.hid (HPw.out.below HB03.out)
     have HDk := Lib.hid (fun W (hW : Pow W) => indigits_pow (k : Int) (by omega) (by omega) W hW)
     have hw1 := HY.out.1 p1 (by simp [Tr.Nd.list])
     have hw2 := HY.out.1 p2 (by simp [Tr.Nd.list])
     have HDf := Lib.hid (fun W (hW : Pow W) => indigits_pow p1 hw1.1 hw1.2 W hW)
     have HDl := Lib.hid (fun W (hW : Pow W) => indigits_pow p2 hw2.1 hw2.2 W hW)
     have hz0 := txt_size (k : Int) (by omega) (by omega)
     have hz1 := txt_size p1 hw1.1 hw1.2
     have hz2 := txt_size p2 hw2.1 hw2.2
     have HLine : Hid (Tr.row (k : Int) ⟨p0, p1, p2, p3, p4, p5, p6⟩ = In.txt (k : Int) ++ ⟨#[32]⟩ ++ In.txt p1 ++ ⟨#[32]⟩ ++ In.txt p2 ++ ⟨#[10]⟩) := Lib.hid rfl
     generalize In.txt (k : Int) = dk at HDk hz0 HLine
     generalize In.txt p1 = df at HDf hz1 HLine
     generalize In.txt p2 = dl at HDl hz2 HLine
     obtain ⟨s1, E1⟩ : ∃ s, dk ++ ⟨#[32]⟩ = s := ⟨_, rfl⟩
     obtain ⟨s2, E2⟩ : ∃ s, s1 ++ df = s := ⟨_, rfl⟩
     obtain ⟨s3, E3⟩ : ∃ s, s2 ++ ⟨#[32]⟩ = s := ⟨_, rfl⟩
     obtain ⟨s4, E4⟩ : ∃ s, s3 ++ dl = s := ⟨_, rfl⟩
     obtain ⟨s5, E5⟩ : ∃ s, s4 ++ ⟨#[10]⟩ = s := ⟨_, rfl⟩
     have z1 : s1.size = dk.size + 1 := by rw [← E1, ByteArray.size_append]; rfl
     have z2 : s2.size = s1.size + df.size := by rw [← E2, ByteArray.size_append]
     have z3 : s3.size = s2.size + 1 := by rw [← E3, ByteArray.size_append]; rfl
     have z4 : s4.size = s3.size + dl.size := by rw [← E4, ByteArray.size_append]
     have z5 : s5.size = s4.size + 1 := by rw [← E5, ByteArray.size_append]; rfl
     rw [E1, E2, E3, E4, E5] at HLine
     have HTx : Hid (Tr.textTo l (k + 1) = Tr.textTo l k ++ Tr.ind m ++ s5) := Lib.hid (by rw [HY.out.2, HLine.out])
     have hB1 : w.heap.size ≤ w3.heap.size := HB03.out.size
     have hgp : 2 < w.heap.size := pow_lt HPw.out
     have hlen : ((Tr.textTo l k).data.toList ++ (Tr.ind m).data.toList).length + s5.size ≤ 140737488355328 := by have h1 := HTS.out; have h2 := HInd.out; rw [Lib.size_eq] at h1 h2; rw [List.length_append]; omega
     have hC : TxC w.heap.size w.heap.size wr.heap.size ⟨p0, p1, p2, p3, p4, p5, p6⟩ ((Tr.textTo l k).data.toList ++ (Tr.ind m).data.toList) (Tr.textTo l (k + 1)).data.toList w3 (fun _ => false) w3 := ⟨HI3.out, fun _ => HN3.out, Below.refl _ _, HP3.out⟩
     have HW5 : Hid (∀ W', Bld w.heap.size w.heap.size (((Tr.textTo l k).data.toList ++ (Tr.ind m).data.toList) ++ s5.data.toList) W' → Bld w.heap.size w.heap.size (Tr.textTo l (k + 1)).data.toList W') := Lib.hid (fun W' h => by rw [HTx.out]; simpa using h)
     generalize (Tr.textTo l k).data.toList ++ (Tr.ind m).data.toList = t1 at hC hlen HW5
     generalize hB0 : w.heap.size = B0 at *
     generalize wr.heap.size = p at *
     clear hne
     refine region_k () 35 (fun _ D W => TxC B0 B0 p ⟨p0, p1, p2, p3, p4, p5, p6⟩ t1 (Tr.textTo l (k + 1)).data.toList w3 D W) (TxtG k p p1 p2 dk df dl s1 s2 s3 s4 s5) (by kernel_rfl) (by kernel_rfl) (by kernel_rfl) rfl rfl hC.drew ?_ ?_
     · refine ⟨?_, ?_, ?_, ?_, ?_, ?_, ?_, ?_, ?_, ?_, ?_, ?_, ?_, ?_, trivial⟩
       · intro x D a w hI hdep hD0 K hK
         have e4 : a.eval (.tmp 4) = .int .i64 (k : Int) := hI.read 4 rfl
         refine ok_value (wanted_none rfl) (v := .int .i64 (k : Int)) ?_ (hK x _ _ (hI.world.up rfl) (fun _ _ _ h => h) rfl)
         obtain ⟨ec, ef⟩ := ecs a; clear hI hdep hK; generalize a.eval = ρ at e4 ec ef ⊢; go_simp
       · intro x D a w hI hdep hD0 K hK
         have e19 : a.eval (.tmp 19) = .int .i64 (k : Int) := hI.good 0 19 (dep_of hdep 0 rfl) rfl
         refine ok_call (wanted_none rfl) (f := 57) (args := #[.int .i64 (k : Int)]) ?_ (HDk.out w hI.world.pow) ?_
         · obtain ⟨ec, ef⟩ := ecs a; clear hI hdep hK; generalize a.eval = ρ at e19 ec ef ⊢; go_simp
         · rintro e w2 ⟨rfl, hb2⟩
           exact ⟨_, rfl, hK x _ _ ((hI.world.up rfl).kept hb2) (fun _ _ _ h => h) rfl⟩
       · intro x D a w hI hdep hD0 K hK
         have e20 : a.eval (.tmp 20) = .string dk := hI.good 1 20 (dep_of hdep 1 rfl) rfl
         refine ok_value (wanted_none rfl) (v := .string s1) ?_ (hK x _ _ (hI.world.up rfl) (fun _ _ _ h => h) rfl)
         obtain ⟨ec, ef⟩ := ecs a; clear hI hdep hK; generalize a.eval = ρ at e20 ec ef ⊢; go_simp
         omega
       · intro x D a w hI hdep hD0 K hK
         have e5 : a.eval (.tmp 5) = .pointer (some ⟨p, 0, none⟩) := hI.read 5 rfl
         refine ok_value (wanted_none rfl) (v := .pointer (some ⟨p, 1, none⟩)) ?_ (hK x _ _ (hI.world.up rfl) (fun _ _ _ h => h) rfl)
         obtain ⟨ec, ef⟩ := ecs a; clear hI hdep hK; generalize a.eval = ρ at e5 ec ef ⊢; go_simp
       · intro x D a w hI hdep hD0 K hK
         have e22 : a.eval (.tmp 22) = .pointer (some ⟨p, 1, none⟩) := hI.good 3 22 (dep_of hdep 3 rfl) rfl
         obtain ⟨z0, z1, z2, z3, z4, z5, z6⟩ := (hI.world.node (hI.not_up (hI.not_up (hI.not_up (hI.not_up (hI.not_up (hI.not_up hD0 5 rfl) 6 rfl) 7 rfl) 11 rfl) 12 rfl) 13 rfl)).cells
         refine ok_value (wanted_none rfl) (v := .int .i64 p1) ?_ (hK x _ _ (hI.world.up rfl) (fun _ _ _ h => h) rfl)
         clear z0 z2 z3 z4 z5 z6
         obtain ⟨ec, ef⟩ := ecs a; clear hI hdep hK; generalize a.eval = ρ at e22 ec ef ⊢; go_simp
       · intro x D a w hI hdep hD0 K hK
         have e23 : a.eval (.tmp 23) = .int .i64 p1 := hI.good 4 23 (dep_of hdep 4 rfl) rfl
         refine ok_call (wanted_none rfl) (f := 57) (args := #[.int .i64 p1]) ?_ (HDf.out w hI.world.pow) ?_
         · obtain ⟨ec, ef⟩ := ecs a; clear hI hdep hK; generalize a.eval = ρ at e23 ec ef ⊢; go_simp
         · rintro e w2 ⟨rfl, hb2⟩
           exact ⟨_, rfl, hK x _ _ ((hI.world.up rfl).kept hb2) (fun _ _ _ h => h) rfl⟩
       · intro x D a w hI hdep hD0 K hK
         have e21 : a.eval (.tmp 21) = .string s1 := hI.good 2 21 (dep_of hdep 2 rfl) rfl
         have e24 : a.eval (.tmp 24) = .string df := hI.good 5 24 (dep_of hdep 5 rfl) rfl
         refine ok_value (wanted_none rfl) (v := .string s2) ?_ (hK x _ _ (hI.world.up rfl) (fun _ _ _ h => h) rfl)
         obtain ⟨ec, ef⟩ := ecs a; clear hI hdep hK; generalize a.eval = ρ at e21 e24 ec ef ⊢; go_simp
         omega
       · intro x D a w hI hdep hD0 K hK
         have e25 : a.eval (.tmp 25) = .string s2 := hI.good 6 25 (dep_of hdep 6 rfl) rfl
         refine ok_value (wanted_none rfl) (v := .string s3) ?_ (hK x _ _ (hI.world.up rfl) (fun _ _ _ h => h) rfl)
         obtain ⟨ec, ef⟩ := ecs a; clear hI hdep hK; generalize a.eval = ρ at e25 ec ef ⊢; go_simp
         omega
       · intro x D a w hI hdep hD0 K hK
         have e5 : a.eval (.tmp 5) = .pointer (some ⟨p, 0, none⟩) := hI.read 5 rfl
         refine ok_value (wanted_none rfl) (v := .pointer (some ⟨p, 2, none⟩)) ?_ (hK x _ _ (hI.world.up rfl) (fun _ _ _ h => h) rfl)
         obtain ⟨ec, ef⟩ := ecs a; clear hI hdep hK; generalize a.eval = ρ at e5 ec ef ⊢; go_simp
       · intro x D a w hI hdep hD0 K hK
         have e27 : a.eval (.tmp 27) = .pointer (some ⟨p, 2, none⟩) := hI.good 8 27 (dep_of hdep 8 rfl) rfl
         obtain ⟨z0, z1, z2, z3, z4, z5, z6⟩ := (hI.world.node (hI.not_up (hI.not_up (hI.not_up (hI.not_up hD0 10 rfl) 11 rfl) 12 rfl) 13 rfl)).cells
         refine ok_value (wanted_none rfl) (v := .int .i64 p2) ?_ (hK x _ _ (hI.world.up rfl) (fun _ _ _ h => h) rfl)
         clear z0 z1 z3 z4 z5 z6
         obtain ⟨ec, ef⟩ := ecs a; clear hI hdep hK; generalize a.eval = ρ at e27 ec ef ⊢; go_simp
       · intro x D a w hI hdep hD0 K hK
         have e28 : a.eval (.tmp 28) = .int .i64 p2 := hI.good 9 28 (dep_of hdep 9 rfl) rfl
         refine ok_call (wanted_none rfl) (f := 57) (args := #[.int .i64 p2]) ?_ (HDl.out w hI.world.pow) ?_
         · obtain ⟨ec, ef⟩ := ecs a; clear hI hdep hK; generalize a.eval = ρ at e28 ec ef ⊢; go_simp
         · rintro e w2 ⟨rfl, hb2⟩
           exact ⟨_, rfl, hK x _ _ ((hI.world.up rfl).kept hb2) (fun _ _ _ h => h) rfl⟩
       · intro x D a w hI hdep hD0 K hK
         have e26 : a.eval (.tmp 26) = .string s3 := hI.good 7 26 (dep_of hdep 7 rfl) rfl
         have e29 : a.eval (.tmp 29) = .string dl := hI.good 10 29 (dep_of hdep 10 rfl) rfl
         refine ok_value (wanted_none rfl) (v := .string s4) ?_ (hK x _ _ (hI.world.up rfl) (fun _ _ _ h => h) rfl)
         obtain ⟨ec, ef⟩ := ecs a; clear hI hdep hK; generalize a.eval = ρ at e26 e29 ec ef ⊢; go_simp
         omega
       · intro x D a w hI hdep hD0 K hK
         have e30 : a.eval (.tmp 30) = .string s4 := hI.good 11 30 (dep_of hdep 11 rfl) rfl
         refine ok_value (wanted_none rfl) (v := .string s5) ?_ (hK x _ _ (hI.world.up rfl) (fun _ _ _ h => h) rfl)
         obtain ⟨ec, ef⟩ := ecs a; clear hI hdep hK; generalize a.eval = ρ at e30 ec ef ⊢; go_simp
         omega
       · intro x D a w hI hdep hD0 K hK
         have e31 : a.eval (.tmp 31) = .string s5 := hI.good 12 31 (dep_of hdep 12 rfl) rfl
         have e3 : a.eval (.tmp 3) = .pointer (some ⟨B0, 0, none⟩) := hI.read 3 rfl
         refine ok_call (wanted_none rfl) (f := 27) (args := #[.pointer (some ⟨B0, 0, none⟩), .string s5]) ?_ (bld_text B0 B0 t1 s5 w (hI.world.bldB hD0) hlen (Nat.le_trans hB1 hI.world.below.size)) ?_
         · obtain ⟨ec, ef⟩ := ecs a; clear hI hdep hK; generalize a.eval = ρ at e31 e3 ec ef ⊢; go_simp
         · rintro e w2 ⟨rfl, hb2, hb3, hb4⟩
           exact ⟨_, rfl, hK x _ _ (hI.world.wrote hgp (HW5.out _ hb2) hb3) (fun _ _ _ h => h) rfl⟩
     · intro x D a w2 hI hD
       have hfr := hI.frame [(19, .int .i64 (k : Int)), (20, .string dk), (21, .string s1), (22, .pointer (some ⟨p, 1, none⟩)), (23, .int .i64 p1), (24, .string df), (25, .string s2), (26, .string s3), (27, .pointer (some ⟨p, 2, none⟩)), (28, .int .i64 p2), (29, .string dl), (30, .string s4), (31, .string s5), (32, .tuple #[.int .i64 s5.size, .nilIface])] (all_cons (hI.good 0 19 (hD 0 (by decide)) rfl) (all_cons (hI.good 1 20 (hD 1 (by decide)) rfl) (all_cons (hI.good 2 21 (hD 2 (by decide)) rfl) (all_cons (hI.good 3 22 (hD 3 (by decide)) rfl) (all_cons (hI.good 4 23 (hD 4 (by decide)) rfl) (all_cons (hI.good 5 24 (hD 5 (by decide)) rfl) (all_cons (hI.good 6 25 (hD 6 (by decide)) rfl) (all_cons (hI.good 7 26 (hD 7 (by decide)) rfl) (all_cons (hI.good 8 27 (hD 8 (by decide)) rfl) (all_cons (hI.good 9 28 (hD 9 (by decide)) rfl) (all_cons (hI.good 10 29 (hD 10 (by decide)) rfl) (all_cons (hI.good 11 30 (hD 11 (by decide)) rfl) (all_cons (hI.good 12 31 (hD 12 (by decide)) rfl) (all_cons (hI.good 13 32 (hD 13 (by decide)) rfl) all_nil)))))))))))))) rfl
       have hW := hI.world
       clear hI
       subst hfr
       simp only [List.foldl_cons, List.foldl_nil, List.setIfInBounds_toArray, List.set_cons_succ, List.set_cons_zero]
       have hb := hW.bld
       rw [hD 13 (by decide), if_pos rfl] at hb
       have HBf := Lib.hid hb
       have HBl := Lib.hid (HB03.out.trans hW.below)
       clear hW hb hD
       subst hB0
       go_wp2
       go_roundw
       case rel => exact ⟨k + 1, hlt, by go_num, HBf.out, HBl.out⟩
       case measure => simp [intOf]; omega
   · have hkn : k = n := by omega
     subst hkn
     have HE : Hid (Tr.text l = Tr.textTo l k) := Lib.hid (by unfold Tr.text; rw [HL.out.1])
     have HSt := Lib.hid (bld_string w.heap.size w.heap.size _ wr HI.out HB.out.size)
     go_wp2_with (go_at_call 31; refine HSt.out.mono ?_; rintro _ w2 ⟨rfl, _, hb2⟩)
     go_ret
     exact ⟨retT (by rw [HE.out]), HB.out.trans hb2⟩
end Go.Proofs.YtmhmlhlplfkpaaaGreatDoor
namespace Go.Proofs.YtmhmlhlplfkpaaaGreatDoor
open Go.RowKit
def TyG (b off n c k : Nat) (p1 p2 : Int) (s0 dk df dl s1 s2 s3 s4 s5 s6 : ByteArray) (_ : Unit) : Nat → Value → Prop
 | 0, v => v = .string s0
 | 1, v => v = .int .i64 (k : Int)
 | 2, v => v = .string dk
 | 3, v => v = .string s1
 | 4, v => v = .string s2
 | 5, v => v = .slice (some ⟨b, off, none⟩) n c
 | 6, v => v = .int .i64 (k : Int)
 | 7, v => v = .pointer (some ⟨b, off + k * 7, none⟩)
 | 8, v => v = .pointer (some ⟨b, off + k * 7 + 1, none⟩)
 | 9, v => v = .int .i64 p1
 | 10, v => v = .string df
 | 11, v => v = .string s3
 | 12, v => v = .string s4
 | 13, v => v = .slice (some ⟨b, off, none⟩) n c
 | 14, v => v = .int .i64 (k : Int)
 | 15, v => v = .pointer (some ⟨b, off + k * 7, none⟩)
 | 16, v => v = .pointer (some ⟨b, off + k * 7 + 2, none⟩)
 | 17, v => v = .int .i64 p2
 | 18, v => v = .string dl
 | 19, v => v = .string s5
 | 20, v => v = .string s6
 | 21, v => v = .string s6
 | _, _ => True
theorem retY {a b : ByteArray} (h : a = b) : Ending.returned (.string a) = .returned (.string b) := by rw [h]
def TtyRel (n : Nat) (l : List Tr.Nd) (w : World) (s i : Value) (wr : World) : Prop :=
 ∃ k : Nat, k ≤ n ∧ s = .string (Tr.textTo l k) ∧ i = .int .i64 (k : Int) ∧ Below w.heap.size w wr
set_option maxHeartbeats 8000000 in
theorem rtrtext_any (a : Option Addr) (n c : Nat) (l : List Tr.Nd) (w : World) (h : NodesAt w w.heap.size a n l) (hr : Tr.right l = true) (hwf : ∀ nd ∈ l, nd.wf) :
   Calls Tryz.prog 32 #[.slice a n c] w (StrP (Tr.text l) w) := by
 have hl : l.length = n := h.1
 have hn120 := (Tr.right_run hr).2.1
 have H := Lib.hid h
 have HL := Lib.hid (And.intro hl hn120)
 have HWf := Lib.hid hwf
 have HUpc := Lib.hid (fun (W : World) (x : Int) (hW : NodesAt W W.heap.size a n l) => rtrup_any a n c l x W hW hr)
 have HUp := Lib.hid (fun (x : Int) (hx : 0 ≤ x ∧ x < (l.length : Int)) => Tr.ups_in hr hx)
 have HUl := Lib.hid (fun (x : Int) => Nat.le_trans (Tr.ups_len hr x) hn120)
 clear h hr hl hn120 hwf
 go_enter Tryz.func32, Tryz.ntmps32
 go_wp2
 go_loopw [3, 4] (fun s i wr => TtyRel n l w s i wr) (fun _ i _ => n - (intOf i).toNat)
 case atStart => exact ⟨0, Nat.zero_le _, rfl, rfl, Below.refl _ _⟩
 case round =>
   obtain ⟨k, hk, rfl, rfl, hB⟩ := hrel
   have HB := Lib.hid hB
   clear hB
   by_cases hlt : k < n
   · obtain ⟨b, off, y, rfl, hltb, hy, hky, d0, d1, d2, d3, d4, d5, d6⟩ := nodes_cell (H.out.below HB.out) hlt
     have HY : Hid (y.wf ∧ Tr.textTo l (k + 1) = Tr.textTo l k ++ Tr.ind ((Tr.ups l (k : Int)).length - 1) ++ Tr.row (k : Int) y) := Lib.hid (by have h1 := Tr.wf_of HWf.out hky; rw [hy] at h1; exact ⟨h1, by rw [Tr.textTo, hy]⟩)
     have HTS : Hid ((Tr.textTo l k).size ≤ 1073741824) := Lib.hid (Tr.textTo_small l HWf.out (by have := HL.out; omega) (by have := HL.out; omega))
     obtain ⟨m, hm⟩ : ∃ m, (Tr.ups l (k : Int)).length = m + 1 := ⟨(Tr.ups l (Tr.Nd.p (l.getD k Tr.Nd.nil))).length, by rw [HUp.out (k : Int) ⟨by omega, by omega⟩]; simp⟩
     have hm120 : m ≤ 120 := by have := HUl.out (k : Int); omega
     rw [hm, Nat.add_sub_cancel] at HY
     have hn2 : n ≤ 120 := by have := HL.out; omega
     have HU := Lib.hid (fun (W : World) (hW : NodesAt W W.heap.size (some ⟨b, off, none⟩) n l) => HUpc.out W (k : Int) hW)
     have HM := Lib.hid hm
     clear hy hky hm
     generalize Tr.ups l (k : Int) = us at HU HM
     generalize Tr.textTo l k = t at HTS HY ⊢
     obtain ⟨p0, p1, p2, p3, p4, p5, p6⟩ := y
     dsimp only at d0 d1 d2 d3 d4 d5 d6
     go_wp2_with (go_at_call 61; go_must (refine (HU.out _ (H.out.on HB.out)).mono ?_; rintro _ w1 ⟨A, cc, rfl, _, hb1⟩; have HB1 := Lib.hid hb1; clear hb1))
     have hlm : ((us.length : Nat) : Int) = (m : Int) + 1 := by rw [HM.out]; omega
     have HCs := Lib.hid (And.intro ((HB1.out.cell (p := ⟨b, off + k * 7 + 1, none⟩) (by have := HB.out.size; show b < _; omega)).trans d1) ((HB1.out.cell (p := ⟨b, off + k * 7 + 2, none⟩) (by have := HB.out.size; show b < _; omega)).trans d2))
     have HBw := Lib.hid (HB.out.trans (HB1.out.mono HB.out.size))
     clear d0 d1 d2 d3 d4 d5 d6 HB1
     go_loopw [3, 6] (fun s j W => ∃ i : Nat, i ≤ m ∧ s = .string (t ++ Tr.ind i) ∧ j = .int .i64 ((i : Int) + 1) ∧ W = w1) (fun _ j _ => m + 1 - (intOf j).toNat)
     case atStart => exact ⟨0, Nat.zero_le _, by rw [Tr.ind_zero, ByteArray.append_empty], rfl, rfl⟩
     case round =>
       obtain ⟨i, him, rfl, rfl, hWe⟩ := hrel
       subst hWe
       by_cases hi : i < m
       · have HS : Hid (t ++ Tr.ind (i + 1) = t ++ Tr.ind i ++ ⟨#[32, 32]⟩) := Lib.hid (by rw [Tr.ind_succ, ByteArray.append_assoc])
         have hz : (t ++ Tr.ind i).size ≤ 1073742064 := by rw [ByteArray.size_append, Tr.ind_size]; have := HTS.out; omega
         generalize t ++ Tr.ind i = t' at *
         go_wp2
         go_roundw
         case rel => exact ⟨i + 1, hi, by rw [HS.out], by go_num, by trivial⟩
         case measure => simp [intOf]; omega
       · obtain rfl : i = m := by omega
         obtain ⟨c1, c2⟩ := HCs.out
         have hlw : b < wr.heap.size := by have := HBw.out.size; omega
         have HDk := Lib.hid (fun W => rdigits_any (k : Int) (by omega) (by omega) W)
         have hw1 := HY.out.1 p1 (by simp [Tr.Nd.list])
         have hw2 := HY.out.1 p2 (by simp [Tr.Nd.list])
         have HDf := Lib.hid (fun W => rdigits_any p1 hw1.1 hw1.2 W)
         have HDl := Lib.hid (fun W => rdigits_any p2 hw2.1 hw2.2 W)
         have hz0 := txt_size (k : Int) (by omega) (by omega)
         have hz1 := txt_size p1 hw1.1 hw1.2
         have hz2 := txt_size p2 hw2.1 hw2.2
         have HLine : Hid (Tr.row (k : Int) ⟨p0, p1, p2, p3, p4, p5, p6⟩ = In.txt (k : Int) ++ ⟨#[32]⟩ ++ In.txt p1 ++ ⟨#[32]⟩ ++ In.txt p2 ++ ⟨#[10]⟩) := Lib.hid rfl
         generalize In.txt (k : Int) = dk at HDk hz0 HLine
         generalize In.txt p1 = df at HDf hz1 HLine
         generalize In.txt p2 = dl at HDl hz2 HLine
         have hz : (t ++ Tr.ind i).size ≤ 1073742064 := by rw [ByteArray.size_append, Tr.ind_size]; have := HTS.out; omega
         obtain ⟨s0, E0⟩ : ∃ s, t ++ Tr.ind i = s := ⟨_, rfl⟩
         rw [E0] at hz ⊢
         obtain ⟨s1, E1⟩ : ∃ s, s0 ++ dk = s := ⟨_, rfl⟩
         obtain ⟨s2, E2⟩ : ∃ s, s1 ++ ⟨#[32]⟩ = s := ⟨_, rfl⟩
         obtain ⟨s3, E3⟩ : ∃ s, s2 ++ df = s := ⟨_, rfl⟩
         obtain ⟨s4, E4⟩ : ∃ s, s3 ++ ⟨#[32]⟩ = s := ⟨_, rfl⟩
         obtain ⟨s5, E5⟩ : ∃ s, s4 ++ dl = s := ⟨_, rfl⟩
         obtain ⟨s6, E6⟩ : ∃ s, s5 ++ ⟨#[10]⟩ = s := ⟨_, rfl⟩
         have z1 : s1.size = s0.size + dk.size := by rw [← E1, ByteArray.size_append]
         have z2 : s2.size = s1.size + 1 := by rw [← E2, ByteArray.size_append]; rfl
         have z3 : s3.size = s2.size + df.size := by rw [← E3, ByteArray.size_append]
         have z4 : s4.size = s3.size + 1 := by rw [← E4, ByteArray.size_append]; rfl
         have z5 : s5.size = s4.size + dl.size := by rw [← E5, ByteArray.size_append]
         have HTx : Hid (Tr.textTo l (k + 1) = s6) := Lib.hid (by rw [HY.out.2, HLine.out, E0, ← E6, ← E5, ← E4, ← E3, ← E2, ← E1]; simp only [ByteArray.append_assoc])
         clear E0
         go_wp2
         refine region_k () 46 (fun _ _ W => Below wr.heap.size wr W) (TyG b off n c k p1 p2 s0 dk df dl s1 s2 s3 s4 s5 s6) (by kernel_rfl) (by kernel_rfl) (by kernel_rfl) rfl rfl (Below.refl _ _).drew ?_ ?_
         · refine ⟨?_, ?_, ?_, ?_, ?_, ?_, ?_, ?_, ?_, ?_, ?_, ?_, ?_, ?_, ?_, ?_, ?_, ?_, ?_, ?_, ?_, ?_, trivial⟩
           · intro x D a w hI hdep hD0 K hK
             have e3 : a.eval (.tmp 3) = .string s0 := hI.ahead 3 21 (hI.not_up (hI.not_up (hI.not_up (hI.not_up (hI.not_up (hI.not_up (hI.not_up hD0 3 rfl) 4 rfl) 11 rfl) 12 rfl) 19 rfl) 20 rfl) 21 rfl) rfl
             refine ok_value (wanted_none rfl) (v := .string s0) ?_ (hK x _ _ (hI.world) (fun _ _ _ h => h) rfl)
             have ec : ∀ c, a.eval (.const c) = c := fun _ => rfl
             clear hI hdep hK hD0
             generalize a.eval = ρ at e3 ec ⊢
             go_simp
           · intro x D a w hI hdep hD0 K hK
             have e4 : a.eval (.tmp 4) = .int .i64 (k : Int) := hI.read 4 rfl
             refine ok_value (wanted_none rfl) (v := .int .i64 (k : Int)) ?_ (hK x _ _ (hI.world) (fun _ _ _ h => h) rfl)
             obtain ⟨ec, ef⟩ := ecs a; clear hI hdep hK; generalize a.eval = ρ at e4 ec ef ⊢; go_simp
           · intro x D a w hI hdep hD0 K hK
             have e25 : a.eval (.tmp 25) = .int .i64 (k : Int) := hI.good 1 25 (dep_of hdep 1 rfl) rfl
             refine ok_call (wanted_none rfl) (f := 33) (args := #[.int .i64 (k : Int)]) ?_ (HDk.out w) ?_
             · obtain ⟨ec, ef⟩ := ecs a; clear hI hdep hK; generalize a.eval = ρ at e25 ec ef ⊢; go_simp
             · rintro e w2 ⟨rfl, hb2⟩
               exact ⟨_, rfl, hK x _ _ (below_self hI.world hb2) (fun _ _ _ h => h) rfl⟩
           · intro x D a w hI hdep hD0 K hK
             have e24 : a.eval (.tmp 24) = .string s0 := hI.good 0 24 (dep_of hdep 0 rfl) rfl
             have e26 : a.eval (.tmp 26) = .string dk := hI.good 2 26 (dep_of hdep 2 rfl) rfl
             refine ok_value (wanted_none rfl) (v := .string s1) ?_ (hK x _ _ (hI.world) (fun _ _ _ h => h) rfl)
             obtain ⟨ec, ef⟩ := ecs a; clear hI hdep hK; generalize a.eval = ρ at e24 e26 ec ef ⊢; go_simp
             omega
           · intro x D a w hI hdep hD0 K hK
             have e27 : a.eval (.tmp 27) = .string s1 := hI.good 3 27 (dep_of hdep 3 rfl) rfl
             refine ok_value (wanted_none rfl) (v := .string s2) ?_ (hK x _ _ (hI.world) (fun _ _ _ h => h) rfl)
             obtain ⟨ec, ef⟩ := ecs a; clear hI hdep hK; generalize a.eval = ρ at e27 ec ef ⊢; go_simp
             omega
           · intro x D a w hI hdep hD0 K hK
             have e0 : a.eval (.tmp 0) = .slice (some ⟨b, off, none⟩) n c := hI.read 0 rfl
             refine ok_value (wanted_none rfl) (v := .slice (some ⟨b, off, none⟩) n c) ?_ (hK x _ _ (hI.world) (fun _ _ _ h => h) rfl)
             obtain ⟨ec, ef⟩ := ecs a; clear hI hdep hK; generalize a.eval = ρ at e0 ec ef ⊢; go_simp
           · intro x D a w hI hdep hD0 K hK
             have e4 : a.eval (.tmp 4) = .int .i64 (k : Int) := hI.read 4 rfl
             refine ok_value (wanted_none rfl) (v := .int .i64 (k : Int)) ?_ (hK x _ _ (hI.world) (fun _ _ _ h => h) rfl)
             obtain ⟨ec, ef⟩ := ecs a; clear hI hdep hK; generalize a.eval = ρ at e4 ec ef ⊢; go_simp
           · intro x D a w hI hdep hD0 K hK
             have e29 : a.eval (.tmp 29) = .slice (some ⟨b, off, none⟩) n c := hI.good 5 29 (dep_of hdep 5 rfl) rfl
             have e30 : a.eval (.tmp 30) = .int .i64 (k : Int) := hI.good 6 30 (dep_of hdep 6 rfl) rfl
             refine ok_value (wanted_none rfl) (v := .pointer (some ⟨b, off + k * 7, none⟩)) ?_ (hK x _ _ (hI.world) (fun _ _ _ h => h) rfl)
             obtain ⟨ec, ef⟩ := ecs a; clear hI hdep hK; generalize a.eval = ρ at e29 e30 ec ef ⊢; go_simp
           · intro x D a w hI hdep hD0 K hK
             have e31 : a.eval (.tmp 31) = .pointer (some ⟨b, off + k * 7, none⟩) := hI.good 7 31 (dep_of hdep 7 rfl) rfl
             refine ok_value (wanted_none rfl) (v := .pointer (some ⟨b, off + k * 7 + 1, none⟩)) ?_ (hK x _ _ (hI.world) (fun _ _ _ h => h) rfl)
             obtain ⟨ec, ef⟩ := ecs a; clear hI hdep hK; generalize a.eval = ρ at e31 ec ef ⊢; go_simp
           · intro x D a w hI hdep hD0 K hK
             have e32 : a.eval (.tmp 32) = .pointer (some ⟨b, off + k * 7 + 1, none⟩) := hI.good 8 32 (dep_of hdep 8 rfl) rfl
             have x0 := (hI.world.cell (p := ⟨b, off + k * 7 + 1, none⟩) hlw).trans c1
             refine ok_value (wanted_none rfl) (v := .int .i64 p1) ?_ (hK x _ _ (hI.world) (fun _ _ _ h => h) rfl)
             obtain ⟨ec, ef⟩ := ecs a; clear hI hdep hK; generalize a.eval = ρ at e32 ec ef ⊢; go_simp
           · intro x D a w hI hdep hD0 K hK
             have e33 : a.eval (.tmp 33) = .int .i64 p1 := hI.good 9 33 (dep_of hdep 9 rfl) rfl
             refine ok_call (wanted_none rfl) (f := 33) (args := #[.int .i64 p1]) ?_ (HDf.out w) ?_
             · obtain ⟨ec, ef⟩ := ecs a; clear hI hdep hK; generalize a.eval = ρ at e33 ec ef ⊢; go_simp
             · rintro e w2 ⟨rfl, hb2⟩
               exact ⟨_, rfl, hK x _ _ (below_self hI.world hb2) (fun _ _ _ h => h) rfl⟩
           · intro x D a w hI hdep hD0 K hK
             have e28 : a.eval (.tmp 28) = .string s2 := hI.good 4 28 (dep_of hdep 4 rfl) rfl
             have e34 : a.eval (.tmp 34) = .string df := hI.good 10 34 (dep_of hdep 10 rfl) rfl
             refine ok_value (wanted_none rfl) (v := .string s3) ?_ (hK x _ _ (hI.world) (fun _ _ _ h => h) rfl)
             obtain ⟨ec, ef⟩ := ecs a; clear hI hdep hK; generalize a.eval = ρ at e28 e34 ec ef ⊢; go_simp
             omega
           · intro x D a w hI hdep hD0 K hK
             have e35 : a.eval (.tmp 35) = .string s3 := hI.good 11 35 (dep_of hdep 11 rfl) rfl
             refine ok_value (wanted_none rfl) (v := .string s4) ?_ (hK x _ _ (hI.world) (fun _ _ _ h => h) rfl)
             obtain ⟨ec, ef⟩ := ecs a; clear hI hdep hK; generalize a.eval = ρ at e35 ec ef ⊢; go_simp
             omega
           · intro x D a w hI hdep hD0 K hK
             have e0 : a.eval (.tmp 0) = .slice (some ⟨b, off, none⟩) n c := hI.read 0 rfl
             refine ok_value (wanted_none rfl) (v := .slice (some ⟨b, off, none⟩) n c) ?_ (hK x _ _ (hI.world) (fun _ _ _ h => h) rfl)
             obtain ⟨ec, ef⟩ := ecs a; clear hI hdep hK; generalize a.eval = ρ at e0 ec ef ⊢; go_simp
           · intro x D a w hI hdep hD0 K hK
             have e4 : a.eval (.tmp 4) = .int .i64 (k : Int) := hI.read 4 rfl
             refine ok_value (wanted_none rfl) (v := .int .i64 (k : Int)) ?_ (hK x _ _ (hI.world) (fun _ _ _ h => h) rfl)
             obtain ⟨ec, ef⟩ := ecs a; clear hI hdep hK; generalize a.eval = ρ at e4 ec ef ⊢; go_simp
           · intro x D a w hI hdep hD0 K hK
             have e37 : a.eval (.tmp 37) = .slice (some ⟨b, off, none⟩) n c := hI.good 13 37 (dep_of hdep 13 rfl) rfl
             have e38 : a.eval (.tmp 38) = .int .i64 (k : Int) := hI.good 14 38 (dep_of hdep 14 rfl) rfl
             refine ok_value (wanted_none rfl) (v := .pointer (some ⟨b, off + k * 7, none⟩)) ?_ (hK x _ _ (hI.world) (fun _ _ _ h => h) rfl)
             obtain ⟨ec, ef⟩ := ecs a; clear hI hdep hK; generalize a.eval = ρ at e37 e38 ec ef ⊢; go_simp
           · intro x D a w hI hdep hD0 K hK
             have e39 : a.eval (.tmp 39) = .pointer (some ⟨b, off + k * 7, none⟩) := hI.good 15 39 (dep_of hdep 15 rfl) rfl
             refine ok_value (wanted_none rfl) (v := .pointer (some ⟨b, off + k * 7 + 2, none⟩)) ?_ (hK x _ _ (hI.world) (fun _ _ _ h => h) rfl)
             obtain ⟨ec, ef⟩ := ecs a; clear hI hdep hK; generalize a.eval = ρ at e39 ec ef ⊢; go_simp
           · intro x D a w hI hdep hD0 K hK
             have e40 : a.eval (.tmp 40) = .pointer (some ⟨b, off + k * 7 + 2, none⟩) := hI.good 16 40 (dep_of hdep 16 rfl) rfl
             have x0 := (hI.world.cell (p := ⟨b, off + k * 7 + 2, none⟩) hlw).trans c2
             refine ok_value (wanted_none rfl) (v := .int .i64 p2) ?_ (hK x _ _ (hI.world) (fun _ _ _ h => h) rfl)
             obtain ⟨ec, ef⟩ := ecs a; clear hI hdep hK; generalize a.eval = ρ at e40 ec ef ⊢; go_simp
           · intro x D a w hI hdep hD0 K hK
             have e41 : a.eval (.tmp 41) = .int .i64 p2 := hI.good 17 41 (dep_of hdep 17 rfl) rfl
             refine ok_call (wanted_none rfl) (f := 33) (args := #[.int .i64 p2]) ?_ (HDl.out w) ?_
             · obtain ⟨ec, ef⟩ := ecs a; clear hI hdep hK; generalize a.eval = ρ at e41 ec ef ⊢; go_simp
             · rintro e w2 ⟨rfl, hb2⟩
               exact ⟨_, rfl, hK x _ _ (below_self hI.world hb2) (fun _ _ _ h => h) rfl⟩
           · intro x D a w hI hdep hD0 K hK
             have e36 : a.eval (.tmp 36) = .string s4 := hI.good 12 36 (dep_of hdep 12 rfl) rfl
             have e42 : a.eval (.tmp 42) = .string dl := hI.good 18 42 (dep_of hdep 18 rfl) rfl
             refine ok_value (wanted_none rfl) (v := .string s5) ?_ (hK x _ _ (hI.world) (fun _ _ _ h => h) rfl)
             obtain ⟨ec, ef⟩ := ecs a; clear hI hdep hK; generalize a.eval = ρ at e36 e42 ec ef ⊢; go_simp
             omega
           · intro x D a w hI hdep hD0 K hK
             have e43 : a.eval (.tmp 43) = .string s5 := hI.good 19 43 (dep_of hdep 19 rfl) rfl
             refine ok_value (wanted_none rfl) (v := .string s6) ?_ (hK x _ _ (hI.world) (fun _ _ _ h => h) rfl)
             obtain ⟨ec, ef⟩ := ecs a; clear hI hdep hK; generalize a.eval = ρ at e43 ec ef ⊢; go_simp
             omega
           · intro x D a w hI hdep hD0 K hK
             have e44 : a.eval (.tmp 44) = .string s6 := hI.good 20 44 (dep_of hdep 20 rfl) rfl
             refine ok_value (wanted_none rfl) (v := .string s6) ?_ (hK x _ _ (hI.world) (fun _ _ _ h => h) rfl)
             obtain ⟨ec, ef⟩ := ecs a; clear hI hdep hK; generalize a.eval = ρ at e44 ec ef ⊢; go_simp
         · intro x D a w2 hI hD
           have hfr := hI.frame [(24, .string s0), (25, .int .i64 (k : Int)), (26, .string dk), (27, .string s1), (28, .string s2), (29, .slice (some ⟨b, off, none⟩) n c), (30, .int .i64 (k : Int)), (31, .pointer (some ⟨b, off + k * 7, none⟩)), (32, .pointer (some ⟨b, off + k * 7 + 1, none⟩)), (33, .int .i64 p1), (34, .string df), (35, .string s3), (36, .string s4), (37, .slice (some ⟨b, off, none⟩) n c), (38, .int .i64 (k : Int)), (39, .pointer (some ⟨b, off + k * 7, none⟩)), (40, .pointer (some ⟨b, off + k * 7 + 2, none⟩)), (41, .int .i64 p2), (42, .string dl), (43, .string s5), (44, .string s6), (3, .string s6)] (all_cons (hI.good 0 24 (hD 0 (by decide)) rfl) (all_cons (hI.good 1 25 (hD 1 (by decide)) rfl) (all_cons (hI.good 2 26 (hD 2 (by decide)) rfl) (all_cons (hI.good 3 27 (hD 3 (by decide)) rfl) (all_cons (hI.good 4 28 (hD 4 (by decide)) rfl) (all_cons (hI.good 5 29 (hD 5 (by decide)) rfl) (all_cons (hI.good 6 30 (hD 6 (by decide)) rfl) (all_cons (hI.good 7 31 (hD 7 (by decide)) rfl) (all_cons (hI.good 8 32 (hD 8 (by decide)) rfl) (all_cons (hI.good 9 33 (hD 9 (by decide)) rfl) (all_cons (hI.good 10 34 (hD 10 (by decide)) rfl) (all_cons (hI.good 11 35 (hD 11 (by decide)) rfl) (all_cons (hI.good 12 36 (hD 12 (by decide)) rfl) (all_cons (hI.good 13 37 (hD 13 (by decide)) rfl) (all_cons (hI.good 14 38 (hD 14 (by decide)) rfl) (all_cons (hI.good 15 39 (hD 15 (by decide)) rfl) (all_cons (hI.good 16 40 (hD 16 (by decide)) rfl) (all_cons (hI.good 17 41 (hD 17 (by decide)) rfl) (all_cons (hI.good 18 42 (hD 18 (by decide)) rfl) (all_cons (hI.good 19 43 (hD 19 (by decide)) rfl) (all_cons (hI.good 20 44 (hD 20 (by decide)) rfl) (all_cons (hI.good 21 3 (hD 21 (by decide)) rfl) all_nil)))))))))))))))))))))) rfl
           have hW := hI.world
           clear hI
           subst hfr
           simp only [List.foldl_cons, List.foldl_nil, List.setIfInBounds_toArray, List.set_cons_succ, List.set_cons_zero]
           have HBl := Lib.hid (HBw.out.trans (hW.mono HBw.out.size))
           clear hW hD c1 c2
           go_wp2
           go_roundw
           case rel => exact ⟨k + 1, hlt, by rw [HTx.out], by go_num, HBl.out⟩
           case measure => simp [intOf]; omega
   · have hkn : k = n := by omega
     subst hkn
     have HE : Hid (Tr.text l = Tr.textTo l k) := Lib.hid (by unfold Tr.text; rw [HL.out.1])
     generalize Tr.textTo l k = t at HE ⊢
     go_wp2
     go_ret
     exact ⟨retY (by rw [HE.out]), HB.out⟩
end Go.Proofs.YtmhmlhlplfkpaaaGreatDoor
