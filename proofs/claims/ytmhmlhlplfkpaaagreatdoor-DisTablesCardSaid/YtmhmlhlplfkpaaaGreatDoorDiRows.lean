/-
 What dis.rows writes. Conditions: the function's lists can be read; numbers of their type; the tables of powers of ten and of math/bits are laid; lengths within the reach.
-/
import Derived.Test.YtmhmlhlplfkpaaaGreatDoorDiRw
set_option maxRecDepth 100000
namespace Go.Proofs.YtmhmlhlplfkpaaaGreatDoor
open Go.RowKit Go.Shelf
attribute [local go_sem] Oper.semAt_some
def DrI (B b q : Nat) (l : List UInt8) (v : FnV) (f : Fn.F) (w : World) (ca : Option Addr) (cn cc : Nat) (a : Act) (W : World) : Prop :=
 ∃ (k : Nat) (z : Int) (ds : List Deferred) (u4 u5 u11 u12 u13 u14 u15 u16 u17 u18 u19 u20 u21 u22 u23 u24 u31 u32 u33 u34 : Value), a = { tmps := #[.agg v.cells, .func (.func 30) #[.pointer (some ⟨b, 0, none⟩)] #[], .pointer (some ⟨q, 0, none⟩), undef, u4, u5, undef, .pointer (some ⟨q, 6, none⟩), .slice ca cn cc, .int .i64 (cn : Int), .int .i64 z, u11, u12, u13, u14, u15, u16, u17, u18, u19, u20, u21, u22, u23, u24, undef, undef, undef, undef, undef, undef, u31, u32, u33, u34], defers := ds } ∧ k ≤ cn ∧ z = (k : Int) ∧ RwI B b q (l ++ (Di.rowsTo f k).data.toList) v f w ds W
def SlI (n0 p : Nat) (dk dn : ByteArray) (W0 : World) (pre : List SlotT) (W : World) : Prop :=
 (∃ u, Boxed W p 73 u ∧ W.ownsRow n0 9 1 u (pre.length + 2) (strs (dk :: dn :: pre.map (fun x => In.txt x.1)))) ∧ Below n0 W0 W
theorem slI_own (n0 p : Nat) (dk dn : ByteArray) (W0 : World) {Bs : Nat} (h0 : n0 ≤ W0.heap.size) (hB : n0 ≤ Bs) : OwnFrom Bs (SlI n0 p dk dn W0) :=
 OwnFrom.and (Own.from (fun pre X Y row ⟨u, hb, ho⟩ hg hr => ⟨u, hb.kept hg (fun e => by obtain ⟨o, h1, h2⟩ := hr p e.symm; rw [show X.heap[p]? = _ from hb] at h1; injection h1 with h1; subst h1; cases h2), row_kept ho fun g e => hg.block g (ho.lt g e).2 (fun e2 => by
   obtain ⟨o, h1, h2⟩ := hr g e2.symm
   rcases ho.2 with ⟨hu, _⟩ | ⟨g2, cap, cur, hu, _, hc, _⟩
   · rw [hu] at e; cases e
   · rw [hu] at e
     injection e with e
     subst e
     rw [hc] at h1
     injection h1 with h1
     subst h1
     cases h2)⟩) _) (ownFrom_below h0 hB)
set_option maxHeartbeats 8000000 in
theorem drows_any (B b : Nat) (l : List UInt8) (v : FnV) (f : Fn.F) (w : World) (h : Pg B b l w) (hk : FnOk w B v f) (hl : v.Len) (hw : f.Wf) (hp : Pow w) (hgp : 2 < B) (hT : Tab w) (hgt : 0 < B)
   (hs : l.length + (Di.rowsTo f f.code.length).size ≤ 140737488355328) :
   Calls Tryz.prog 29 #[.agg v.cells, .func (.func 30) #[.pointer (some ⟨b, 0, none⟩)] #[]] w (PgP B b (l ++ (Di.rowsTo f f.code.length).data.toList) w) := by
 have hB : B ≤ w.heap.size := Nat.le_trans h.base (Nat.le_of_lt h.lt)
 have hqb : w.heap.size ≠ b := fun e => absurd h.lt (by omega)
 have bA := (Below.refl w.heap.size w).alloc (Nat.le_refl _) (.cells v.cells 28)
 have hI0 : RwI B b w.heap.size l v f w [] (w.alloc (.cells v.cells 28)) := ⟨⟨h.below bA, FnAt.new w v, hk.below (bA.mono hB), bA.mono hB, OffP.of bA, hp.below bA⟩, tab_below hT bA (Nat.lt_of_lt_of_le hgt hB), trivial⟩
 have HI0 := Lib.hid hI0
 have HLen : Hid (∀ k, k ≤ f.code.length → l.length + (Di.rowsTo f k).size ≤ 140737488355328) := Lib.hid (fun k hk => by have := Di.rowsTo_grows f hk; omega)
 have HN := Lib.hid hk.n_code
 have HNc := Lib.hid hl.code
 have HWf := Lib.hid hw
 have HQ := Lib.hid (And.intro hqb (And.intro hgp hgt))
 have HBw := Lib.hid hB
 have c6 := (FnAt.new w v).c6
 clear h hk hp hl hw hs bA hI0 hqb hgp hgt hT hB
 obtain ⟨ca, hca⟩ : ∃ x, v.code.a = x := ⟨_, rfl⟩
 obtain ⟨cn, hcn⟩ : ∃ x, v.code.n = x := ⟨_, rfl⟩
 obtain ⟨cc, hcc⟩ : ∃ x, v.code.c = x := ⟨_, rfl⟩
 rw [hca, hcn, hcc] at c6
 rw [hcn] at HN HNc
 clear hca hcn hcc
 refine (callsIn_wide (n := 9)).1 ?_
 refine callsIn_of_wp_marks Tryz.func29 rfl trivial ?_ rfl
 simp only [Tryz.ntmps29, List.size_toArray, List.length_cons, List.length_nil, Nat.reduceAdd, Nat.reduceSub, Array.replicate_succ, Array.replicate_zero, List.push_toArray, List.append_toArray, List.nil_append, List.cons_append]
 gi_wp2
 clear c6
 refine wpIn_loop (DrI B b w.heap.size l v f w ca cn cc) (fun a _ => cn - (intOf (a.tmps.getD 10 undef)).toNat) ⟨0, 0, [], _, _, _, _, _, _, _, _, _, _, _, _, _, _, _, _, _, _, _, _, rfl, Nat.zero_le _, rfl, by rw [show l ++ (Di.rowsTo f 0).data.toList = l from List.append_nil l]; exact HI0.out⟩ ?_
 rintro _ wr ⟨k, z, ds, u4, u5, u11, u12, u13, u14, u15, u16, u17, u18, u19, u20, u21, u22, u23, u24, u31, u32, u33, u34, rfl, hk, hz, hI⟩
 obtain rfl := hz
 by_cases hlt : k < cn
 · have hki : (k : Int) < (cn : Int) := by omega
   have hkl : k < f.code.length := by rw [HN.out]; exact hlt
   have hk64 : (k : Int) ≤ 9223372036854775807 := by have := HNc.out; omega
   have hnd : -9223372036854775808 ≤ Di.at_ f k ∧ Di.at_ f k ≤ 9223372036854775807 := Di.node_in HWf.out.at_ k
   have HI := Lib.hid hI
   have HK := Lib.hid (And.intro hk hlt)
   have HDk := Lib.hid (fun (W : World) (hW : Pow W) => indigits_pow (k : Int) (by omega) hk64 W hW)
   have HDn := Lib.hid (fun (W : World) (hW : Pow W) => indigits_pow (Di.at_ f k) hnd.1 hnd.2 W hW)
   have HNd := Lib.hid (fun (W : World) (hW : FnOk W W.heap.size v f) => dnode_any v f k W hW)
   have HRow : Hid (Di.row f k = Di.join (In.txt (k : Int) :: In.txt (Di.at_ f k) :: (Di.slotsOf f k).map In.txt)) := Lib.hid rfl
   have hC : RwC wr (In.txt (k : Int)) (In.txt (Di.at_ f k)) (0, 0) (fun _ => false) wr := ⟨Below.refl _ _, (fun e => by cases e), (fun e => by cases e), (fun e => by cases e)⟩
   clear hI hk hlt hkl hk64 hnd
   generalize Di.at_ f k = nd at *
   generalize In.txt nd = dn at *
   generalize In.txt (k : Int) = dk at *
   gi_wp2
   generalize hq : w.heap.size = q at *
   refine region_v (r := none) (0, 0) 35 (fun x D W => RwC wr dk dn x D W) (fun x => DrwG v k nd dk dn x) (by kernel_rfl) (by kernel_rfl) (by kernel_rfl) (by kernel_rfl) rfl hC.drew ?_ ?_
   · refine ⟨?_, ?_, ?_, ?_, ?_, ?_, ?_, ?_, ?_, trivial⟩
     · intro hs x D a w hI hdep hD0 K hK
       have e4 : a.eval (.tmp 4) = .int .i64 (k : Int) := hI.read 4 rfl
       refine rk_value ⟨wanted_none rfl, hs⟩ (v := .int .i64 (k : Int)) ?_ (hK x _ _ (hI.world.up rfl rfl rfl) (fun _ _ _ h => h) rfl)
       obtain ⟨ec, ef⟩ := ecs a; clear hI hdep hK; generalize a.eval = ρ at e4 ec ef ⊢; go_simp
     · intro hs x D a w hI hdep hD0 K hK
       have e13 : a.eval (.tmp 13) = .int .i64 (k : Int) := hI.good 0 13 (dep_of hdep 0 rfl) rfl
       refine rk_call ⟨wanted_none rfl, hs⟩ (f := 57) (args := #[.int .i64 (k : Int)]) ?_ (HDk.out w (hI.world.pow HI.out)) ?_
       · obtain ⟨ec, ef⟩ := ecs a; clear hI hdep hK; generalize a.eval = ρ at e13 ec ef ⊢; go_simp
       · rintro e w2 ⟨rfl, hb2⟩
         exact ⟨_, rfl, hK x _ _ ((hI.world.up rfl rfl rfl).kept hb2) (fun _ _ _ h => h) rfl⟩
     · intro hs x D a w hI hdep hD0 K hK
       have e2 : a.eval (.tmp 2) = .pointer (some ⟨q, 0, none⟩) := hI.read 2 rfl
       obtain ⟨x0, x1, x2, x3, x4, x5, x6, x7, x8, x9, x10⟩ := (hI.world.at_ HI.out).all
       refine rk_value ⟨wanted_none rfl, hs⟩ (v := .agg #[.string v.name, .bool v.inner, .slice v.outer.a v.outer.n v.outer.c, .slice v.params.a v.params.n v.params.c, .slice v.results.a v.results.n v.results.c, .slice v.locals.a v.locals.n v.locals.c, .slice v.code.a v.code.n v.code.c, .slice v.lines.a v.lines.n v.lines.c, .slice v.nodes.a v.nodes.n v.nodes.c, .slice v.at_.a v.at_.n v.at_.c, .slice v.live.a v.live.n v.live.c]) ?_ (hK x _ _ (hI.world.up rfl rfl rfl) (fun _ _ _ h => h) rfl)
       obtain ⟨ec, ef⟩ := ecs a; clear hI hdep hK; generalize a.eval = ρ at e2 ec ef ⊢; go_simp
     · intro hs x D a w hI hdep hD0 K hK
       have e4 : a.eval (.tmp 4) = .int .i64 (k : Int) := hI.read 4 rfl
       refine rk_value ⟨wanted_none rfl, hs⟩ (v := .int .i64 (k : Int)) ?_ (hK x _ _ (hI.world.up rfl rfl rfl) (fun _ _ _ h => h) rfl)
       obtain ⟨ec, ef⟩ := ecs a; clear hI hdep hK; generalize a.eval = ρ at e4 ec ef ⊢; go_simp
     · intro hs x D a w hI hdep hD0 K hK
       have e15 : a.eval (.tmp 15) = .agg #[.string v.name, .bool v.inner, .slice v.outer.a v.outer.n v.outer.c, .slice v.params.a v.params.n v.params.c, .slice v.results.a v.results.n v.results.c, .slice v.locals.a v.locals.n v.locals.c, .slice v.code.a v.code.n v.code.c, .slice v.lines.a v.lines.n v.lines.c, .slice v.nodes.a v.nodes.n v.nodes.c, .slice v.at_.a v.at_.n v.at_.c, .slice v.live.a v.live.n v.live.c] := hI.good 2 15 (dep_of hdep 2 rfl) rfl
       have e16 : a.eval (.tmp 16) = .int .i64 (k : Int) := hI.good 3 16 (dep_of hdep 3 rfl) rfl
       refine rk_call ⟨wanted_none rfl, hs⟩ (f := 58) (args := #[.agg #[.string v.name, .bool v.inner, .slice v.outer.a v.outer.n v.outer.c, .slice v.params.a v.params.n v.params.c, .slice v.results.a v.results.n v.results.c, .slice v.locals.a v.locals.n v.locals.c, .slice v.code.a v.code.n v.code.c, .slice v.lines.a v.lines.n v.lines.c, .slice v.nodes.a v.nodes.n v.nodes.c, .slice v.at_.a v.at_.n v.at_.c, .slice v.live.a v.live.n v.live.c], .int .i64 (k : Int)]) ?_ (HNd.out w (hI.world.fok HI.out)) ?_
       · obtain ⟨ec, ef⟩ := ecs a; clear hI hdep hK; generalize a.eval = ρ at e15 e16 ec ef ⊢; go_simp
       · rintro e w2 ⟨rfl, hb2⟩
         exact ⟨_, rfl, hK x _ _ ((hI.world.up rfl rfl rfl).kept hb2) (fun _ _ _ h => h) rfl⟩
     · intro hs x D a w hI hdep hD0 K hK
       have e17 : a.eval (.tmp 17) = .int .i64 nd := hI.good 4 17 (dep_of hdep 4 rfl) rfl
       refine rk_call ⟨wanted_none rfl, hs⟩ (f := 57) (args := #[.int .i64 nd]) ?_ (HDn.out w (hI.world.pow HI.out)) ?_
       · obtain ⟨ec, ef⟩ := ecs a; clear hI hdep hK; generalize a.eval = ρ at e17 ec ef ⊢; go_simp
       · rintro e w2 ⟨rfl, hb2⟩
         exact ⟨_, rfl, hK x _ _ ((hI.world.up rfl rfl rfl).kept hb2) (fun _ _ _ h => h) rfl⟩
     · intro hs x D a w hI hdep hD0 K hK
       have e14 : a.eval (.tmp 14) = .string dk := hI.good 1 14 (dep_of hdep 1 rfl) rfl
       have e18 : a.eval (.tmp 18) = .string dn := hI.good 5 18 (dep_of hdep 5 rfl) rfl
       refine rk_new ⟨wanted_none rfl, hs⟩ (v := .slice (some ⟨w.heap.size, 0, none⟩) 2 2) (w' := w.alloc (.cells #[.string dk, .string dn] 9)) (by have ec : ∀ c, a.eval (.const c) = c := fun _ => rfl; generalize a.eval = ρ at e14 e18 ec ⊢; go_simp) ?_
       exact hK (w.heap.size, x.2) _ _ (hI.world.newr (hI.not_up hD0 8 rfl)) (rw_r hD0) rfl
     · intro hs x D a w hI hdep hD0 K hK
       refine rk_new ⟨wanted_none rfl, hs⟩ (v := .pointer (some ⟨w.heap.size, 0, none⟩)) (w' := w.alloc (.cells #[.slice none 0 0] 73)) (by have ec : ∀ c, a.eval (.const c) = c := fun _ => rfl; generalize a.eval = ρ at ec ⊢; go_simp) ?_
       exact hK (x.1, w.heap.size) _ _ (hI.world.newp (hI.not_up hD0 8 rfl)) (rw_p hD0) rfl
     · intro hs x D a w hI hdep hD0 K hK
       have e19 : a.eval (.tmp 19) = .slice (some ⟨x.1, 0, none⟩) 2 2 := hI.good 6 19 (dep_of hdep 6 rfl) rfl
       have e5 : a.eval (.tmp 5) = .pointer (some ⟨x.2, 0, none⟩) := hI.good 7 5 (dep_of hdep 7 rfl) rfl
       have hc7 := hI.world.box (dep_of hdep 7 rfl) hD0
       have z0 := hc7.2.cell
       have z1 := hc7.2.frozen
       refine rk_store ⟨wanted_none rfl, hs⟩ (w' := w.setCell ⟨x.2, 0, none⟩ (.slice (some ⟨x.1, 0, none⟩) 2 2)) ?_ (hK x undef _ (hI.world.stored (dep_of hdep 6 rfl) (dep_of hdep 7 rfl) hD0) (fun _ _ _ h => h) trivial)
       clear hc7
       obtain ⟨ec, ef⟩ := ecs a; clear hI hdep hK; generalize a.eval = ρ at e19 e5 ec ef ⊢; go_simp
   · intro x D a w1 hI hD
     have hfr := hI.frame [(13, .int .i64 (k : Int)), (14, .string dk), (15, .agg #[.string v.name, .bool v.inner, .slice v.outer.a v.outer.n v.outer.c, .slice v.params.a v.params.n v.params.c, .slice v.results.a v.results.n v.results.c, .slice v.locals.a v.locals.n v.locals.c, .slice v.code.a v.code.n v.code.c, .slice v.lines.a v.lines.n v.lines.c, .slice v.nodes.a v.nodes.n v.nodes.c, .slice v.at_.a v.at_.n v.at_.c, .slice v.live.a v.live.n v.live.c]), (16, .int .i64 (k : Int)), (17, .int .i64 nd), (18, .string dn), (19, .slice (some ⟨x.1, 0, none⟩) 2 2), (5, .pointer (some ⟨x.2, 0, none⟩))] (all_cons (hI.good 0 13 (hD 0 (by decide)) rfl) (all_cons (hI.good 1 14 (hD 1 (by decide)) rfl) (all_cons (hI.good 2 15 (hD 2 (by decide)) rfl) (all_cons (hI.good 3 16 (hD 3 (by decide)) rfl) (all_cons (hI.good 4 17 (hD 4 (by decide)) rfl) (all_cons (hI.good 5 18 (hD 5 (by decide)) rfl) (all_cons (hI.good 6 19 (hD 6 (by decide)) rfl) (all_cons (hI.good 7 5 (hD 7 (by decide)) rfl) all_nil)))))))) rfl
     have hW := hI.world
     clear hI
     subst hfr
     simp only [List.foldl_cons, List.foldl_nil, List.setIfInBounds_toArray, List.set_cons_succ, List.set_cons_zero]
     obtain ⟨hr1, hr2⟩ := hW.row (hD 6 (by decide))
     obtain ⟨hp1, hp2⟩ := hW.full (hD 8 (by decide))
     have HB1 := Lib.hid hW.below
     clear hW hD HDk HDn HNd hC
     obtain ⟨r0, p⟩ := x
     simp only at hr1 hr2 hp1 hp2 ⊢
     have hI1 := HI.out.on HQ.out.2.2 HB1.out
     have c10 := hI1.i.at_.c10
     have HSo : Hid (Mp.at_ f.live (k : Int)).ok := Lib.hid (Di.slots_ok HWf.out.live k)
     have HAt := Lib.hid (mpat_any v.live.a v.live.n v.live.c f.live (k : Int) w1 hI1.i.fok.live.1)
     have HTb := Lib.hid hI1.tab
     have HSl : Hid (Di.slotsOf f k = (Mp.at_ f.live (k : Int)).list) := Lib.hid rfl
     clear hI1
     generalize Mp.at_ f.live (k : Int) = s at *
     gi_wp2_with (first
       | (refine ⟨trivial, ?_⟩; gi_at_call 60; refine (callsIn_wide.2 HAt.out).mono ?_; rintro e w2 ⟨rfl, hb2⟩; have HB2 := Lib.hid hb2; clear hb2)
       | (refine ⟨trivial, ?_⟩; gi_at_call 59; refine (all_in _ _ _).mono ?_; rintro e w' ⟨rfl, rfl⟩))
     have hA := SetAt.new w2 s
     obtain ⟨O, hO⟩ : ∃ O, (Obj.cells #[.int .u64 (s.a : Int), .int .u64 (s.b : Int), .int .u64 (s.c : Int), .int .u64 (s.d : Int)] 70) = O := ⟨_, rfl⟩
     rw [hO] at hA ⊢
     have b13 := HB2.out.trans ((Below.refl w2.heap.size w2).alloc (Nat.le_refl _) O |>.mono HB2.out.size)
     have hBx : Boxed (w2.alloc O) p 73 (.slice (some ⟨r0, 0, none⟩) 2 2) := (b13.block p hp2.lt).trans hp2
     have hOw : (w2.alloc O).ownsRow wr.heap.size 9 1 (.slice (some ⟨r0, 0, none⟩) 2 2) 2 (strs [dk, dn]) := ownsRow_below (own_block hr1 hr2 rfl (by simp) rfl) b13
     have HB3 := Lib.hid (HB1.out.trans (b13.mono HB1.out.size))
     have hT3 := tab_below HTb.out b13 (Nat.lt_of_lt_of_le (Nat.lt_of_lt_of_le HQ.out.2.2 HI.out.i.size) HB1.out.size)
     have hgw : 0 < wr.heap.size := Nat.lt_of_lt_of_le HQ.out.2.2 HI.out.i.size
     have hgp : 2 < wr.heap.size := Nat.lt_of_lt_of_le HQ.out.2.1 HI.out.i.size
     have HP := Lib.hid hp1
     have HGp := Lib.hid hgp
     clear b13 hr1 hr2 hp1 hp2 HAt HTb c10 hO hgp HB2
     refine wpIn_rangeFunc_ownF rfl (by omega) (gf := 92) (lb := #[.pointer (some ⟨w2.heap.size, 0, none⟩)]) rfl trivial (enters_of Tryz.func92 (by kernel_rfl) rfl)
       (allp_stops _ (by omega) w2.heap.size wr.heap.size s HSo.out _ hA hT3 hgw HB3.out.size) belowK_t (belowK_b HB3.out.size) (Below.refl _ _) (fun _ => rfl)
       (SlI wr.heap.size p dk dn wr) (fun _ _ _ => False) (slI_own wr.heap.size p dk dn wr (Nat.le_refl _) HB3.out.size) (fun _ _ _ _ _ hs _ _ => hs)
       ⟨⟨_, hBx, hOw⟩, HB3.out⟩
       (fun x : SlotT => { tmps := #[.agg v.cells, .func (.func 30) #[.pointer (some ⟨b, 0, none⟩)] #[], .pointer (some ⟨q, 0, none⟩), undef, .int .i64 (k : Int), .pointer (some ⟨p, 0, none⟩), .int .i64 x.1, .pointer (some ⟨q, 6, none⟩), .slice ca cn cc, .int .i64 (cn : Int), .int .i64 (k : Int), .bool true, .int .i64 (k : Int), .int .i64 (k : Int), .string dk, .agg #[.string v.name, .bool v.inner, .slice v.outer.a v.outer.n v.outer.c, .slice v.params.a v.params.n v.params.c, .slice v.results.a v.results.n v.results.c, .slice v.locals.a v.locals.n v.locals.c, .slice v.code.a v.code.n v.code.c, .slice v.lines.a v.lines.n v.lines.c, .slice v.nodes.a v.nodes.n v.nodes.c, .slice v.at_.a v.at_.n v.at_.c, .slice v.live.a v.live.n v.live.c], .int .i64 (k : Int), .int .i64 nd, .string dn, .slice (some ⟨r0, 0, none⟩) 2 2, .pointer (some ⟨q, 10, none⟩), .slice v.live.a v.live.n v.live.c, .int .i64 (k : Int), setV s, .func (.func 92) #[] #[.pointer (some ⟨w2.heap.size, 0, none⟩)], .int .i64 x.1, undef, undef, undef, undef, undef, u31, u32, u33, u34], defers := [] }) ?assign ?body ?done ?stop
     case assign =>
       intro l x W K hK
       gi_wp2
       exact hK
     case body =>
       rintro lr pre ⟨y, hy⟩ W ⟨⟨u, hb, ho⟩, hB⟩ hlen
       have hm : pre.length + 2 ≤ 1000 := by have := Di.list_len s; omega
       have HDx := Lib.hid (fun (W : World) (hW : Pow W) => indigits_pow y (by omega) (by omega) W hW)
       have HX : Hid (strs (dk :: dn :: (pre ++ [(⟨y, hy⟩ : SlotT)]).map (fun x : SlotT => In.txt x.1)) = strs ((dk :: dn :: pre.map (fun x : SlotT => In.txt x.1)) ++ [In.txt y])) := Lib.hid (by simp)
       have hC : RbC wr.heap.size p u (pre.length + 2) (dk :: dn :: pre.map (fun x : SlotT => In.txt x.1)) (In.txt y) W (0, undef) (fun _ => false) W := ⟨Below.refl _ _, KeepsOthers.refl _, ⟨hB.size, HP.out, HGp.out⟩, HI.out.i.pow.below hB, hb, ho, (fun e => by cases e), own_slice ho⟩
       have HBx := Lib.hid hB
       have HLn : Hid ((pre ++ [(⟨y, hy⟩ : SlotT)]).length + 2 = pre.length + 2 + 1) := Lib.hid (by rw [List.length_append, List.length_singleton])
       clear hb ho hB hlen hT3 hgw hBx hOw hA
       generalize dk :: dn :: pre.map (fun x : SlotT => In.txt x.1) = ws at *
       generalize In.txt y = dx at *
       generalize pre.length + 2 = m at *
       gi_wp2
       refine region_v (r := some lr) (0, undef) 35 (fun x D W' => RbC wr.heap.size p u m ws dx W x D W') (fun x => RbG u y dx x) (by kernel_rfl) (by kernel_rfl) (by kernel_rfl) (by kernel_rfl) rfl hC.drew ?_ ?_
       · refine ⟨?_, ?_, ?_, ?_, ?_, ?_, trivial⟩
         · intro hs x D a w hI hdep hD0 K hK
           have e5 : a.eval (.tmp 5) = .pointer (some ⟨p, 0, none⟩) := hI.read 5 rfl
           have x0 := (hI.world.box0 (hI.not_up (hI.not_up hD0 4 rfl) 5 rfl)).cell
           refine rk_value ⟨wanted_none rfl, hs⟩ (v := u) ?_ (hK x _ _ (hI.world.up rfl rfl rfl) (fun _ _ _ h => h) rfl)
           obtain ⟨ec, ef⟩ := ecs a; clear hI hdep hK; generalize a.eval = ρ at e5 ec ef ⊢; go_simp
         · intro hs x D a w hI hdep hD0 K hK
           have e6 : a.eval (.tmp 6) = .int .i64 y := hI.read 6 rfl
           refine rk_value ⟨wanted_none rfl, hs⟩ (v := .int .i64 y) ?_ (hK x _ _ (hI.world.up rfl rfl rfl) (fun _ _ _ h => h) rfl)
           obtain ⟨ec, ef⟩ := ecs a; clear hI hdep hK; generalize a.eval = ρ at e6 ec ef ⊢; go_simp
         · intro hs x D a w hI hdep hD0 K hK
           have e27 : a.eval (.tmp 27) = .int .i64 y := hI.good 1 27 (dep_of hdep 1 rfl) rfl
           refine rk_call ⟨wanted_none rfl, hs⟩ (f := 57) (args := #[.int .i64 y]) ?_ (HDx.out w hI.world.pow) ?_
           · obtain ⟨ec, ef⟩ := ecs a; clear hI hdep hK; generalize a.eval = ρ at e27 ec ef ⊢; go_simp
           · rintro e w2 ⟨rfl, hb2⟩
             exact ⟨_, rfl, hK x _ _ ((hI.world.up rfl rfl rfl).kept hb2) (fun _ _ _ h => h) rfl⟩
         · intro hs x D a w hI hdep hD0 K hK
           have e28 : a.eval (.tmp 28) = .string dx := hI.good 2 28 (dep_of hdep 2 rfl) rfl
           refine rk_new ⟨wanted_none rfl, hs⟩ (v := .slice (some ⟨w.heap.size, 0, none⟩) 1 1) (w' := w.alloc (.cells #[.string dx] 9)) (by have ec : ∀ c, a.eval (.const c) = c := fun _ => rfl; generalize a.eval = ρ at e28 ec ⊢; go_simp) ?_
           exact hK (w.heap.size, x.2) _ _ hI.world.newed (rb_new hD0) rfl
         · intro hs x D a w hI hdep hD0 K hK
           have e26 : a.eval (.tmp 26) = u := hI.good 0 26 (dep_of hdep 0 rfl) rfl
           have e29 : a.eval (.tmp 29) = .slice (some ⟨x.1, 0, none⟩) 1 1 := hI.good 3 29 (dep_of hdep 3 rfl) rfl
           obtain ⟨r, W', hr, hC⟩ := hI.world.app (dep_of hdep 3 rfl) hD0 (hI.not_up hD0 5 rfl) hm
           exact rk_append ⟨wanted_none rfl, hs⟩ (.tmp 26) (.tmp 29) 73 73 rfl (by rw [e26, e29]; exact hr) (hK (x.1, r) _ _ hC (rb_app hD0) rfl)
         · intro hs x D a w hI hdep hD0 K hK
           have e30 : a.eval (.tmp 30) = x.2 := hI.good 4 30 (dep_of hdep 4 rfl) rfl
           have e5 : a.eval (.tmp 5) = .pointer (some ⟨p, 0, none⟩) := hI.read 5 rfl
           have h4 := dep_of hdep 4 rfl
           have hc5 := hI.world.box0 hD0
           have z0 := hc5.cell
           have z1 := hc5.frozen
           obtain ⟨A, nn, cc, hu⟩ := hI.world.form0
           obtain ⟨A2, n2, c2, hu2⟩ := hI.world.form h4
           rw [hu] at z0
           refine rk_store ⟨wanted_none rfl, hs⟩ (w' := w.setCell ⟨p, 0, none⟩ x.2) ?_ (hK x undef _ (hI.world.stored h4 hD0) (fun _ _ _ h => h) trivial)
           clear hc5 hu h4
           rw [hu2] at e30 ⊢
           clear hu2
           obtain ⟨ec, ef⟩ := ecs a; clear hI hdep hK; generalize a.eval = ρ at e30 e5 ec ef ⊢; go_simp
       · intro x D a w5 hI hD
         have hW := hI.world
         have hbx := hW.box
         have how := hW.own
         rw [hD 5 (by decide), if_pos rfl] at hbx
         rw [hD 4 (by decide)] at how
         refine show KeepsOthers W w5 ∧ Below wr.heap.size W w5 ∧ SlI wr.heap.size p dk dn wr (pre ++ [⟨y, hy⟩]) w5 from ⟨hW.keeps, hW.below, ⟨x.2, hbx, ?_⟩, HBx.out.trans hW.below⟩
         rw [HX.out, HLn.out]
         exact how
     case done =>
       rintro D ys W hD hys ⟨⟨u, hb, ho⟩, hB⟩ hK
       have hI4 := HI.out.marked HQ.out.2.2 hB (Nat.le_trans HB3.out.size hD) hK
       have hws : dk :: dn :: ys.map (fun x : SlotT => In.txt x.1) = dk :: dn :: (Di.slotsOf f k).map In.txt := by
         rw [HSl.out, ← hys, List.map_map]
         rfl
       rw [hws] at ho
       have hml : ys.length + 2 ≤ 1000 := by
         have h1 := congrArg List.length hys
         rw [List.length_map] at h1
         have := Di.list_len s
         omega
       obtain ⟨A, m, c, rfl⟩ := own_slice ho
       obtain ⟨hmn, hna, hmc⟩ := words_own ho
       have hrs : (Di.rowsTo f (k + 1)).size = (Di.rowsTo f k).size + (Di.row f k).size + 1 := by
         rw [Di.rowsTo, ByteArray.size_append, ByteArray.size_append]
         rfl
       have hls := HLen.out (k + 1) (by rw [HN.out]; exact HK.out.2)
       have HL := Lib.hid ((pgline_any B b _ A m c _ W hI4.i.page hna (by omega) hmc (by rw [← HRow.out, List.length_append, ← Lib.size_eq]; omega)).mono fun e w' h => h.of (t2 := l ++ (Di.rowsTo f (k + 1)).data.toList) (by rw [← HRow.out, Di.rowsTo]; simp))
       have c5 := hb.cell
       have HI4 := Lib.hid hI4
       clear hb ho hB hws hml hmn hna hmc hrs hls hI4 hK hys hT3 hgw hBx hOw hA
       gi_wp2_with (refine ⟨trivial, ?_⟩; gi_at_call 30; refine (callsIn_wide.2 HL.out).mono ?_; rintro e w4 ⟨rfl, hp4, hb4, ho4⟩; have HI5 := Lib.hid (HI4.out.wrote HQ.out.1 HQ.out.2.1 HQ.out.2.2 hp4 hb4 ho4); clear hp4 hb4 ho4)
       have hw64 : wrap64 ((k : Int) + 1) = ((k + 1 : Nat) : Int) := by have := HNc.out; have := HK.out.2; unfold wrap64; omega
       rw [hw64]
       subst hq
       exact ⟨⟨k + 1, _, _, _, _, _, _, _, _, _, _, _, _, _, _, _, _, _, _, _, _, _, _, rfl, HK.out.2, rfl, HI5.out⟩, by have := HK.out.2; simp [intOf]; omega⟩
     case stop =>
       rintro D c pre W _ _ h _
       exact h.elim
 · obtain rfl : k = cn := by omega
   have hkn : k = f.code.length := HN.out.symm
   rw [hkn] at hI
   have HI := Lib.hid hI
   clear hI hk hlt
   gi_wp2
   refine leaves_marks ds wr HI.out.marks fun w' hb hc => ?_
   exact ⟨.tuple #[], by simp [results, Tryz.f29, go_sem], rfl, HI.out.i.page.cells hc, HI.out.i.below.trans (hb.mono HBw.out), fun j o hj h1 h2 => (hb.block j (Array.getElem?_eq_some_iff.1 hj).1).trans (HI.out.i.off j o hj h1 h2)⟩
end Go.Proofs.YtmhmlhlplfkpaaaGreatDoor
