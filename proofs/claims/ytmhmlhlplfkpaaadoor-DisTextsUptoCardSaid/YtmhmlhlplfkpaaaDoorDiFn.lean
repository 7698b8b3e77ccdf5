/-
 What dis.function, Func, Text write and tell. Conditions: the functions' lists can be read; numbers of their type; the table of powers of ten is laid; lengths within the reach.
-/
import Derived.Test.YtmhmlhlplfkpaaaDoorDiLine
import Derived.Test.YtmhmlhlplfkpaaaDoorDiHead
import Derived.Test.YtmhmlhlplfkpaaaDoorPow
import Derived.Test.YtmhmlhlplfkpaaaDoorFlA
import Derived.Test.YtmhmlhlplfkpaaaDoorFnCanL
import Derived.Test.YtmhmlhlplfkpaaaDoorInO
set_option maxRecDepth 100000
namespace Go.Proofs.YtmhmlhlplfkpaaaDoor
open Go.RowKit
structure DfI (B b q : Nat) (t : List UInt8) (v : FnV) (f : Fn.F) (w W : World) : Prop where
 page : Pg B b t W
 at_ : FnAt W q v
 ok : FnOk W B v f
 below : Below B w W
 off : OffP b w W
 pow : Pow W
section
variable {B b q : Nat} {t t2 : List UInt8} {v : FnV} {f : Fn.F} {w W W' : World}
theorem DfI.size (h : DfI B b q t v f w W) : B ≤ W.heap.size := Nat.le_trans h.page.base (Nat.le_of_lt h.page.lt)
theorem DfI.on (h : DfI B b q t v f w W) (hb : Below W.heap.size W W') : DfI B b q t v f w W' :=
 ⟨h.page.below hb, h.at_.on hb, h.ok.below (hb.mono h.size), h.below.trans (hb.mono h.size), h.off.trans (OffP.of hb), h.pow.below hb⟩
theorem DfI.wrote (h : DfI B b q t v f w W) (hq : q ≠ b) (hg : 1 < B) (h1 : Pg B b t2 W') (h2 : Below B W W') (h3 : OffP b W W') : DfI B b q t2 v f w W' :=
 ⟨h1, h3.cells h.at_ hq (by decide), h.ok.below h2, h.below.trans h2, h.off.trans h3, pow_upto h.pow h2 hg⟩
theorem DfI.fok (h : DfI B b q t v f w W) : FnOk W W.heap.size v f := h.ok.more h.size
end
theorem dinames_new1 (w : World) (x : ByteArray) : NamesAt (w.alloc (.cells #[.string x] 9)) (w.alloc (.cells #[.string x] 9)).heap.size (some ⟨w.heap.size, 0, none⟩) 1 [x] := by
 refine ⟨rfl, fun _ => ⟨w.heap.size, 0, rfl, by simp, fun i hi => ?_⟩⟩
 obtain rfl : i = 0 := by omega
 exact cell_of_row _ _ 0 _ _ _ (heap_alloc_new w _)
theorem dinames_new2 (w : World) (x y : ByteArray) : NamesAt (w.alloc (.cells #[.string x, .string y] 9)) (w.alloc (.cells #[.string x, .string y] 9)).heap.size (some ⟨w.heap.size, 0, none⟩) 2 [x, y] := by
 refine ⟨rfl, fun _ => ⟨w.heap.size, 0, rfl, by simp, fun i hi => ?_⟩⟩
 obtain rfl | rfl : i = 0 ∨ i = 1 := by omega
 · exact cell_of_row _ _ 0 _ _ _ (heap_alloc_new w _)
 · exact cell_of_row _ _ 1 _ _ _ (heap_alloc_new w _)
structure DfC (B b q p : Nat) (t t2 : List UInt8) (v : FnV) (f : Fn.F) (w : World) (op a0 : Int) (dg tx : ByteArray) (x : Nat) (D : Nat → Bool) (W : World) : Prop where
 i : DfI B b q (if D 9 = true then t2 else t) v f w W
 ins : Ins W p op a0
 row : D 8 = true → D 9 = false → NamesAt W W.heap.size (some ⟨x, 0, none⟩) 2 [dg, tx]
section
variable {B b q p : Nat} {t t2 : List UInt8} {v : FnV} {f : Fn.F} {w W W' : World} {op a0 : Int} {dg tx : ByteArray} {x : Nat} {D : Nat → Bool}
theorem DfC.up (h : DfC B b q p t t2 v f w op a0 dg tx x D W) {i : Nat} (h8 : (8 == i) = false) (h9 : (9 == i) = false) : DfC B b q p t t2 v f w op a0 dg tx x (add D i) W := ⟨by rw [up_other h9]; exact h.i, h.ins, by rw [up_other h8, up_other h9]; exact h.row⟩
theorem DfC.kept (h : DfC B b q p t t2 v f w op a0 dg tx x D W) (hb : Below W.heap.size W W') : DfC B b q p t t2 v f w op a0 dg tx x D W' := ⟨h.i.on hb, h.ins.on hb, fun e1 e2 => ((h.row e1 e2).below hb).more hb.size⟩
theorem DfC.drew (h : DfC B b q p t t2 v f w op a0 dg tx x D W) : DfC B b q p t t2 v f w op a0 dg tx x D W.drew := h.kept (Below.refl _ _).drew
theorem DfC.newed (h : DfC B b q p t t2 v f w op a0 dg tx x D W) : DfC B b q p t t2 v f w op a0 dg tx W.heap.size (add D 8) (W.alloc (.cells #[.string dg, .string tx] 9)) := by
 have hb := (Below.refl W.heap.size W).alloc (Nat.le_refl _) (.cells #[.string dg, .string tx] 9)
 exact ⟨by rw [up_other rfl]; exact h.i.on hb, h.ins.on hb, fun _ _ => dinames_new2 W dg tx⟩
theorem DfC.page0 (h : DfC B b q p t t2 v f w op a0 dg tx x D W) (hD : D 9 = false) : Pg B b t W := by
 have := h.i.page
 rw [hD] at this
 exact this
theorem DfC.wrote (h : DfC B b q p t t2 v f w op a0 dg tx x D W) (hn : p ≠ b ∧ q ≠ b ∧ 1 < B) (h1 : Pg B b t2 W') (h2 : Below B W W') (h3 : OffP b W W') : DfC B b q p t t2 v f w op a0 dg tx x (add D 9) W' :=
 ⟨by rw [show add D 9 9 = true by simp [add], if_pos rfl]; exact h.i.wrote hn.2.1 hn.2.2 h1 h2 h3, h3.cells h.ins hn.1 (by decide), fun _ e => by simp [add] at e⟩
end
def DfG (q b : Nat) (v : FnV) (k : Nat) (ln op a0 : Int) (dg tx : ByteArray) (x : Nat) : Nat → Value → Prop
 | 0, vv => vv = .func (.func 12) #[.pointer (some ⟨b, 0, none⟩)] #[]
 | 1, vv => vv = .pointer (some ⟨q, 7, none⟩)
 | 2, vv => vv = .slice v.lines.a v.lines.n v.lines.c
 | 3, vv => vv = .int .i64 (k : Int)
 | 4, vv => vv = .int .i64 ln
 | 5, vv => vv = .string dg
 | 6, vv => vv = .agg #[.int .i64 op, .int .i64 a0]
 | 7, vv => vv = .string tx
 | 8, vv => vv = .slice (some ⟨x, 0, none⟩) 2 2
 | 9, vv => vv = .tuple #[]
 | _, _ => True
theorem df_new {q b : Nat} {v : FnV} {k : Nat} {ln op a0 : Int} {dg tx : ByteArray} {x z : Nat} {D : Nat → Bool} (h8 : D 8 = false) : ∀ (j : Nat) (u : Value), D j = true → DfG q b v k ln op a0 dg tx x j u → DfG q b v k ln op a0 dg tx z j u := by
 intro j u hj h
 have e1 : j ≠ 8 := fun e => by rw [e, h8] at hj; cases hj
 unfold DfG at h ⊢
 split at h <;> first | exact h | exact absurd rfl e1
theorem PgP.of {B b : Nat} {t t2 : List UInt8} {w : World} {e : Ending} {w' : World} (h : PgP B b t w e w') (ht : t = t2) : PgP B b t2 w e w' := ht ▸ h
set_option maxHeartbeats 8000000 in
theorem dfunction_any (B b : Nat) (l : List UInt8) (v : FnV) (f : Fn.F) (w : World) (h : Pg B b l w) (hk : FnOk w B v f) (hf : DiFit v) (hl : v.Len) (hw : f.Wf) (hp : Pow w) (hgp : 1 < B) (hs : l.length + (Di.func f).size ≤ 140737488355328) :
   Calls Tryd.prog 11 #[.agg v.cells, .func (.func 12) #[.pointer (some ⟨b, 0, none⟩)] #[]] w (PgP B b (l ++ (Di.func f).data.toList) w) := by
 have hB : B ≤ w.heap.size := Nat.le_trans h.base (Nat.le_of_lt h.lt)
 have hqb : w.heap.size ≠ b := fun e => absurd h.lt (by omega)
 have bA := (Below.refl w.heap.size w).alloc (Nat.le_refl _) (.cells v.cells 35)
 have hI0 : DfI B b w.heap.size l v f w (w.alloc (.cells v.cells 35)) := ⟨h.below bA, FnAt.new w v, hk.below (bA.mono hB), bA.mono hB, OffP.of bA, hp.below bA⟩
 have HLen : Hid (∀ k, k ≤ f.code.length → l.length + (Di.upTo f k).size + 4 ≤ 140737488355328) := Lib.hid (fun k hk => by have := Di.upTo_le f hk; omega)
 have HHd := Lib.hid (Di.upTo_head f 0)
 have HN := Lib.hid hk.n_code
 have HNc := Lib.hid hl.code
 have HLn := Lib.hid hl.lines
 have HWf := Lib.hid hw
 have HI0 := Lib.hid hI0
 have HH := Lib.hid (dhead_any v f _ hI0.fok hf)
 clear h hk hp hf hl hw hs bA hI0
 have HQ := Lib.hid (And.intro hqb hgp)
 clear hqb hgp
 obtain ⟨ca, hca⟩ : ∃ x, v.code.a = x := ⟨_, rfl⟩
 obtain ⟨cn, hcn⟩ : ∃ x, v.code.n = x := ⟨_, rfl⟩
 obtain ⟨cc, hcc⟩ : ∃ x, v.code.c = x := ⟨_, rfl⟩
 have HCa := Lib.hid (And.intro hca (And.intro hcn hcc))
 have c0 := HI0.out.at_.all
 obtain ⟨c0, c1, c2, c3, c4, c5, c6, c7, c8, c9, c10⟩ := c0
 clear hca hcn hcc
 go_enter Tryd.func11, Tryd.ntmps11
 go_wp2_with fail
 refine HH.out.mono ?_
 rintro _ w1 ⟨rfl, hb1⟩
 have hI1 := HI0.out.on hb1
 have hA1 := (Below.refl w1.heap.size w1).alloc (Nat.le_refl _) (.cells #[.string (Di.head f)] 9)
 have hI1a := hI1.on hA1
 have HL1 := Lib.hid ((pgline_any B b l (some ⟨w1.heap.size, 0, none⟩) 1 1 [Di.head f] _ hI1a.page (dinames_new1 w1 (Di.head f)) (by decide) (by decide) (by have h1 := HLen.out 0 (Nat.zero_le _); have h2 := HHd.out; show l.length + (Di.head f).size + 1 ≤ _; omega)).mono fun e w' h => h.of (t2 := l ++ (Di.upTo f 0).data.toList) (by rw [Di.upTo_zero]; rfl))
 have HI1a := Lib.hid hI1a
 clear HH hI1 hI1a hA1 hb1 c0 c1 c2 c3 c4 c5 c6 c7 c8 c9 c10
 go_wp2_with (go_at_call 12; refine HL1.out.mono ?_; rintro _ w2 ⟨rfl, hp2, hb2, ho2⟩; refine Hid.out ?_)
 have hI2 := HI1a.out.wrote HQ.out.1 HQ.out.2 hp2 hb2 ho2
 have c6 := hI2.at_.c6
 rw [HCa.out.1, HCa.out.2.1, HCa.out.2.2] at c6
 have HI2 := Lib.hid hI2
 clear HL1 HI1a hp2 hb2 ho2 hI2
 refine Lib.hid ?_
 go_wp2
 go_loopw [4, 5, 14] (fun _ _ i wr => ∃ k : Nat, k ≤ cn ∧ i = .int .i64 (k : Int) ∧ DfI B b w.heap.size (l ++ (Di.upTo f k).data.toList) v f w wr) (fun _ _ i _ => cn - (intOf i).toNat)
 case atStart => exact ⟨0, Nat.zero_le _, rfl, HI2.out⟩
 case round =>
   obtain ⟨k, hk, rfl, hI⟩ := hrel
   by_cases hlt : k < cn
   · have hco := hI.ok.code.1
     rw [HCa.out.1, HCa.out.2.1] at hco
     obtain ⟨bk, off, ⟨op, a0⟩, rfl, _, hy, hkl, q0, q1⟩ := pairs_cell hco hlt
     have hki : (k : Int) < (cn : Int) := by omega
     have hcw := Di.code_in HWf.out.code k
     have hlw := Di.at_in HWf.out.lines (k : Int)
     have hLine : Di.line f k = Di.join [In.txt (Li.at_ f.lines (k : Int)), In.text op a0] := by unfold Di.line Di.lwords; rw [hy]
     rw [hy] at hcw
     have hls := HLen.out (k + 1) (by omega)
     have hup := Di.upTo_succ f k
     have hus : (Di.upTo f (k + 1)).size = (Di.upTo f k).size + (Di.line f k).size + 1 := by
       rw [hup, ByteArray.size_append, ByteArray.size_append]
       rfl
     have HAt := Lib.hid (fun (W : World) (hW : IntsAt W B v.lines.a v.lines.n f.lines) => liat_any v.lines.a v.lines.n v.lines.c B f.lines (k : Int) W hW HLn.out)
     have HDg := Lib.hid (fun (W : World) (hW : Pow W) => indigits_pow (Li.at_ f.lines (k : Int)) hlw.1 hlw.2 W hW)
     have HTx := Lib.hid (fun (W : World) (hW : Pow W) => intext_pow op a0 hcw.2.1 hcw.2.2 W hW)
     have hlen : (l ++ (Di.upTo f k).data.toList).length + (Di.join [In.txt (Li.at_ f.lines (k : Int)), In.text op a0]).size + 1 ≤ 140737488355328 := by
       rw [← hLine, List.length_append, ← Lib.size_eq]
       omega
     have HW9 : Hid (∀ W', Pg B b (l ++ (Di.upTo f k).data.toList ++ (Di.join [In.txt (Li.at_ f.lines (k : Int)), In.text op a0] ++ Di.nl).data.toList) W' → Pg B b (l ++ (Di.upTo f (k + 1)).data.toList) W') := Lib.hid (fun W' h => by
       rw [hup, hLine]
       simpa using h)
     have hpb : wr.heap.size ≠ b ∧ w.heap.size ≠ b ∧ 1 < B := ⟨fun e => absurd hI.page.lt (by omega), HQ.out.1, HQ.out.2⟩
     have bA := (Below.refl wr.heap.size wr).alloc (Nat.le_refl _) (.cells #[.int .i64 op, .int .i64 a0] 52)
     have hC : DfC B b w.heap.size wr.heap.size (l ++ (Di.upTo f k).data.toList) (l ++ (Di.upTo f (k + 1)).data.toList) v f w op a0 (In.txt (Li.at_ f.lines (k : Int))) (In.text op a0) 0 (fun _ => false) (wr.alloc (.cells #[.int .i64 op, .int .i64 a0] 52)) := ⟨hI.on bA, Ins.new wr op a0, fun e => by cases e⟩
     have HK := Lib.hid (And.intro hk hlt)
     clear hI hco hy hkl hcw hlw hLine hls hup hus bA HLen HHd HI2 hk hlt
     generalize l ++ (Di.upTo f k).data.toList = t at *
     generalize hT2 : l ++ (Di.upTo f (k + 1)).data.toList = t2 at *
     generalize In.text op a0 = tx at *
     generalize hln : Li.at_ f.lines (k : Int) = ln at *
     generalize In.txt ln = dg at *
     clear hln
     go_wp2
     generalize hW0 : wr.alloc (.cells #[.int .i64 op, .int .i64 a0] 52) = W0 at *
     generalize hq : w.heap.size = q at *
     generalize hpp : wr.heap.size = p at *
     refine region_k 0 33 (fun x D W => DfC B b q p t t2 v f w op a0 dg tx x D W) (fun x => DfG q b v k ln op a0 dg tx x) (by kernel_rfl) (by kernel_rfl) (by kernel_rfl) rfl rfl hC.drew ?_ ?_
     · refine ⟨?_, ?_, ?_, ?_, ?_, ?_, ?_, ?_, ?_, ?_, trivial⟩
       · intro x D a w hI hdep hD0 K hK
         have e1 : a.eval (.tmp 1) = .func (.func 12) #[.pointer (some ⟨b, 0, none⟩)] #[] := hI.read 1 rfl
         refine ok_value (wanted_none rfl) (v := .func (.func 12) #[.pointer (some ⟨b, 0, none⟩)] #[]) ?_ (hK x _ _ (hI.world.up rfl rfl) (fun _ _ _ h => h) rfl)
         obtain ⟨ec, ef⟩ := ecs a; clear hI hdep hK; generalize a.eval = ρ at e1 ec ef ⊢; go_simp
       · intro x D a w hI hdep hD0 K hK
         have e2 : a.eval (.tmp 2) = .pointer (some ⟨q, 0, none⟩) := hI.read 2 rfl
         refine ok_value (wanted_none rfl) (v := .pointer (some ⟨q, 7, none⟩)) ?_ (hK x _ _ (hI.world.up rfl rfl) (fun _ _ _ h => h) rfl)
         obtain ⟨ec, ef⟩ := ecs a; clear hI hdep hK; generalize a.eval = ρ at e2 ec ef ⊢; go_simp
       · intro x D a w hI hdep hD0 K hK
         have e20 : a.eval (.tmp 20) = .pointer (some ⟨q, 7, none⟩) := hI.good 1 20 (dep_of hdep 1 rfl) rfl
         have x0 := hI.world.i.at_.c7
         refine ok_value (wanted_none rfl) (v := .slice v.lines.a v.lines.n v.lines.c) ?_ (hK x _ _ (hI.world.up rfl rfl) (fun _ _ _ h => h) rfl)
         obtain ⟨ec, ef⟩ := ecs a; clear hI hdep hK; generalize a.eval = ρ at e20 ec ef ⊢; go_simp
       · intro x D a w hI hdep hD0 K hK
         have e4 : a.eval (.tmp 4) = .int .i64 (k : Int) := hI.read 4 rfl
         refine ok_value (wanted_none rfl) (v := .int .i64 (k : Int)) ?_ (hK x _ _ (hI.world.up rfl rfl) (fun _ _ _ h => h) rfl)
         obtain ⟨ec, ef⟩ := ecs a; clear hI hdep hK; generalize a.eval = ρ at e4 ec ef ⊢; go_simp
       · intro x D a w hI hdep hD0 K hK
         have e21 : a.eval (.tmp 21) = .slice v.lines.a v.lines.n v.lines.c := hI.good 2 21 (dep_of hdep 2 rfl) rfl
         have e22 : a.eval (.tmp 22) = .int .i64 (k : Int) := hI.good 3 22 (dep_of hdep 3 rfl) rfl
         refine ok_call (wanted_none rfl) (f := 18) (args := #[.slice v.lines.a v.lines.n v.lines.c, .int .i64 (k : Int)]) ?_ (HAt.out w hI.world.i.ok.lines.1) ?_
         · obtain ⟨ec, ef⟩ := ecs a; clear hI hdep hK; generalize a.eval = ρ at e21 e22 ec ef ⊢; go_simp
         · rintro e w2 ⟨rfl, rfl⟩
           exact ⟨_, rfl, hK x _ _ (hI.world.up rfl rfl) (fun _ _ _ h => h) rfl⟩
       · intro x D a w hI hdep hD0 K hK
         have e23 : a.eval (.tmp 23) = .int .i64 ln := hI.good 4 23 (dep_of hdep 4 rfl) rfl
         refine ok_call (wanted_none rfl) (f := 17) (args := #[.int .i64 ln]) ?_ (HDg.out w hI.world.i.pow) ?_
         · obtain ⟨ec, ef⟩ := ecs a; clear hI hdep hK; generalize a.eval = ρ at e23 ec ef ⊢; go_simp
         · rintro e w2 ⟨rfl, hb2⟩
           exact ⟨_, rfl, hK x _ _ ((hI.world.up rfl rfl).kept hb2) (fun _ _ _ h => h) rfl⟩
       · intro x D a w hI hdep hD0 K hK
         have e5 : a.eval (.tmp 5) = .pointer (some ⟨p, 0, none⟩) := hI.read 5 rfl
         have x0 := hI.world.ins.c0
         have x1 := hI.world.ins.c1
         refine ok_value (wanted_none rfl) (v := .agg #[.int .i64 op, .int .i64 a0]) ?_ (hK x _ _ (hI.world.up rfl rfl) (fun _ _ _ h => h) rfl)
         obtain ⟨ec, ef⟩ := ecs a; clear hI hdep hK; generalize a.eval = ρ at e5 ec ef ⊢; go_simp
       · intro x D a w hI hdep hD0 K hK
         have e25 : a.eval (.tmp 25) = .agg #[.int .i64 op, .int .i64 a0] := hI.good 6 25 (dep_of hdep 6 rfl) rfl
         refine ok_call (wanted_none rfl) (f := 19) (args := #[.agg #[.int .i64 op, .int .i64 a0]]) ?_ (HTx.out w hI.world.i.pow) ?_
         · obtain ⟨ec, ef⟩ := ecs a; clear hI hdep hK; generalize a.eval = ρ at e25 ec ef ⊢; go_simp
         · rintro e w2 ⟨rfl, hb2⟩
           exact ⟨_, rfl, hK x _ _ ((hI.world.up rfl rfl).kept hb2) (fun _ _ _ h => h) rfl⟩
       · intro x D a w hI hdep hD0 K hK
         have e24 : a.eval (.tmp 24) = .string dg := hI.good 5 24 (dep_of hdep 5 rfl) rfl
         have e26 : a.eval (.tmp 26) = .string tx := hI.good 7 26 (dep_of hdep 7 rfl) rfl
         refine ok_new (wanted_none rfl) (v := .slice (some ⟨w.heap.size, 0, none⟩) 2 2) (w' := w.alloc (.cells #[.string dg, .string tx] 9)) (by have ec : ∀ c, a.eval (.const c) = c := fun _ => rfl; generalize a.eval = ρ at e24 e26 ec ⊢; go_simp) ?_
         exact hK w.heap.size _ _ hI.world.newed (df_new hD0) rfl
       · intro x D a w hI hdep hD0 K hK
         have e19 : a.eval (.tmp 19) = .func (.func 12) #[.pointer (some ⟨b, 0, none⟩)] #[] := hI.good 0 19 (dep_of hdep 0 rfl) rfl
         have e27 : a.eval (.tmp 27) = .slice (some ⟨x, 0, none⟩) 2 2 := hI.good 8 27 (dep_of hdep 8 rfl) rfl
         have e27 : a.eval (.tmp 27) = .slice (some ⟨x, 0, none⟩) 2 2 := e27
         refine ok_call (wanted_none rfl) (f := 12) (args := #[.pointer (some ⟨b, 0, none⟩), .slice (some ⟨x, 0, none⟩) 2 2]) ?_ (pgline_any B b t (some ⟨x, 0, none⟩) 2 2 [dg, tx] w (hI.world.page0 hD0) (hI.world.row (dep_of hdep 8 rfl) hD0) (by decide) (by decide) hlen) ?_
         · obtain ⟨ec, ef⟩ := ecs a; clear hI hdep hK; generalize a.eval = ρ at e19 e27 ec ef ⊢; go_simp
         · rintro e w2 ⟨rfl, hp, hb2, ho2⟩
           exact ⟨_, rfl, hK x _ _ (hI.world.wrote hpb (HW9.out _ hp) hb2 ho2) (fun _ _ _ h => h) rfl⟩
     · intro x D a w3 hI hD
       have hfr := hI.frame [(19, .func (.func 12) #[.pointer (some ⟨b, 0, none⟩)] #[]), (20, .pointer (some ⟨q, 7, none⟩)), (21, .slice v.lines.a v.lines.n v.lines.c), (22, .int .i64 (k : Int)), (23, .int .i64 ln), (24, .string dg), (25, .agg #[.int .i64 op, .int .i64 a0]), (26, .string tx), (27, .slice (some ⟨x, 0, none⟩) 2 2), (28, .tuple #[])] (all_cons (hI.good 0 19 (hD 0 (by decide)) rfl) (all_cons (hI.good 1 20 (hD 1 (by decide)) rfl) (all_cons (hI.good 2 21 (hD 2 (by decide)) rfl) (all_cons (hI.good 3 22 (hD 3 (by decide)) rfl) (all_cons (hI.good 4 23 (hD 4 (by decide)) rfl) (all_cons (hI.good 5 24 (hD 5 (by decide)) rfl) (all_cons (hI.good 6 25 (hD 6 (by decide)) rfl) (all_cons (hI.good 7 26 (hD 7 (by decide)) rfl) (all_cons (hI.good 8 27 (hD 8 (by decide)) rfl) (all_cons (hI.good 9 28 (hD 9 (by decide)) rfl) all_nil)))))))))) rfl
       have hW := hI.world
       clear hI
       subst hfr
       simp only [List.foldl_cons, List.foldl_nil, List.setIfInBounds_toArray, List.set_cons_succ, List.set_cons_zero]
       have hi := hW.i
       rw [hD 9 (by decide), if_pos rfl] at hi
       have HI := Lib.hid hi
       clear hW hi hD hC hW0 hpb hlen HAt HDg HTx HW9
       subst hq hpp hT2
       have hcb : cn ≤ 9223372036854775807 := by have h1 := HNc.out; rw [HCa.out.2.1] at h1; exact h1
       have hk1 : k + 1 ≤ cn := HK.out.2
       go_wp2
       go_roundw
       case rel => exact ⟨k + 1, HK.out.2, by go_num, HI.out⟩
       case measure => have := HK.out; simp [intOf]; omega
   · obtain rfl : k = cn := by omega
     have HI := Lib.hid hI
     have hA1 := (Below.refl wr.heap.size wr).alloc (Nat.le_refl _) (.cells #[.string Di.fin] 9)
     have hI1 := hI.on hA1
     have hkn : k = f.code.length := by rw [HN.out, HCa.out.2.1]
     have hls := HLen.out k (by omega)
     have HL1 := Lib.hid ((pgline_any B b (l ++ (Di.upTo f k).data.toList) (some ⟨wr.heap.size, 0, none⟩) 1 1 [Di.fin] _ hI1.page (dinames_new1 wr Di.fin) (by decide) (by decide) (by have h1 : Di.fin.size = 3 := rfl; rw [List.length_append, ← Lib.size_eq]; show _ + Di.fin.size + 1 ≤ _; omega)).mono fun e w' h => h.of (t2 := l ++ (Di.func f).data.toList) (by unfold Di.func; rw [← hkn]; show l ++ (Di.upTo f k).data.toList ++ (Di.fin ++ Di.nl).data.toList = _; simp))
     have HI1 := Lib.hid hI1
     clear hI hI1 hA1 hkn hls hlt hk HLen HHd HI2
     unfold Di.fin at HL1 HI1
     go_wp2_with (go_at_call 12; refine HL1.out.mono ?_; rintro _ w3 ⟨rfl, hp3, hb3, ho3⟩)
     go_end0
     exact ⟨rfl, hp3, HI1.out.below.trans hb3, HI1.out.off.trans ho3⟩
end Go.Proofs.YtmhmlhlplfkpaaaDoor
