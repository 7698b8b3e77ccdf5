/-
 What dis.Head tells. Conditions: the function's lists can be read; at most a million types each; the name within the reach.
-/
import Derived.Test.YtmhmlhlplfkpaaaDoorDiJoin
import Derived.Test.YtmhmlhlplfkpaaaDoorNmRow
import Derived.Test.YtmhmlhlplfkpaaaDoorSiC
import Derived.Test.YtmhmlhlplfkpaaaDoorReg
import Derived.Deep.DeepMust
set_option maxRecDepth 100000
namespace Go.Proofs.YtmhmlhlplfkpaaaDoor
open Go.RowKit
structure DiFit (v : FnV) : Prop where
 name : v.name.size ≤ 1073741824
 outer : v.outer.n ≤ 1048576
 params : v.params.n ≤ 1048576
 results : v.results.n ≤ 1048576
 locals : v.locals.n ≤ 1048576
theorem DiFit.head {w : World} {B : Nat} {v : FnV} {f : Fn.F} (h : DiFit v) (hk : FnOk w B v f) : (Di.head f).size ≤ 1080000000 := by
 have h1 := Di.head_size f
 have h2 := h.name; have h3 := h.outer; have h4 := h.params; have h5 := h.results; have h6 := h.locals
 rw [hk.name] at h2
 rw [hk.n_params, hk.n_results, hk.n_locals, hk.n_outer] at h1
 omega
theorem words_own {w : World} {b n : Nat} {A : Option Addr} {k c : Nat} {r : List ByteArray} (h : w.ownsRow b 9 1 (.slice A k c) n (strs r)) : k = n ∧ NamesAt w w.heap.size A k r ∧ k ≤ c := by
 obtain ⟨h1, h2⟩ := names_of_own h
 refine ⟨h1, h2, ?_⟩
 rcases h.2 with ⟨hv, hn⟩ | ⟨g, cap, cur, hv, hg, hh, hnc, _⟩
 · injection hv with _ e2 _
   omega
 · injection hv with _ e2 e3
   omega
theorem own_block {w : World} {b x : Nat} {zs : List ByteArray} {cur : Array Value} (hb : b ≤ x) (hc : w.heap[x]? = some (.cells cur 9 (0, 0))) (he : cur.toList = strs zs) (hn : zs.length ≤ 1000) {n : Nat} (hl : zs.length = n) : w.ownsRow b 9 1 (.slice (some ⟨x, 0, none⟩) n n) n (strs zs) := by
 have hs : (strs zs).length = n := by rw [← hl]; simp [strs]
 refine ⟨by rw [hs, Nat.mul_one], .inr ⟨x, n, cur, rfl, hb, hc, Nat.le_refl _, by unfold maxLen; omega, ?_, ?_⟩⟩
 · rw [← Array.length_toList, he, hs, Nat.mul_one]
 · rw [he, Nat.mul_one, List.take_of_length_le (by omega)]
structure DhC (q : Nat) (v : FnV) (f : Fn.F) (w1 : World) (x : Nat) (D : Nat → Bool) (W : World) : Prop where
 at_ : FnAt W q v
 ok : FnOk W W.heap.size v f
 below : Below w1.heap.size w1 W
 row : D 11 = true → w1.heap.size ≤ x ∧ W.heap[x]? = some (.cells #[.string Di.begin_, .string f.name, .string (Di.ty f.params), .string (Di.ty f.results), .string (Di.ty f.locals)] 9 (0, 0))
section
variable {q : Nat} {v : FnV} {f : Fn.F} {w1 : World} {x : Nat} {D : Nat → Bool} {W : World}
theorem DhC.up (h : DhC q v f w1 x D W) {i : Nat} (hi : (11 == i) = false) : DhC q v f w1 x (add D i) W := ⟨h.at_, h.ok, h.below, by rw [up_other hi]; exact h.row⟩
theorem DhC.kept (h : DhC q v f w1 x D W) {W' : World} (hb : Below W.heap.size W W') : DhC q v f w1 x D W' :=
 ⟨h.at_.on hb, h.ok.on hb, h.below.trans (hb.mono h.below.size), fun e => ⟨(h.row e).1, (hb.block x (Array.getElem?_eq_some_iff.1 (h.row e).2).1).trans (h.row e).2⟩⟩
theorem DhC.drew (h : DhC q v f w1 x D W) : DhC q v f w1 x D W.drew := h.kept (Below.refl _ _).drew
theorem DhC.newed (h : DhC q v f w1 x D W) : DhC q v f w1 W.heap.size (add D 11) (W.alloc (.cells #[.string Di.begin_, .string f.name, .string (Di.ty f.params), .string (Di.ty f.results), .string (Di.ty f.locals)] 9)) := by
 have hb := (Below.refl W.heap.size W).alloc (Nat.le_refl _) (.cells #[.string Di.begin_, .string f.name, .string (Di.ty f.params), .string (Di.ty f.results), .string (Di.ty f.locals)] 9)
 exact ⟨h.at_.on hb, h.ok.on hb, h.below.trans (hb.mono h.below.size), fun _ => ⟨h.below.size, heap_alloc_new W _⟩⟩
end
def DhG (q : Nat) (v : FnV) (f : Fn.F) (x : Nat) : Nat → Value → Prop
 | 0, vv => vv = .pointer (some ⟨q, 0, none⟩)
 | 1, vv => vv = .string f.name
 | 2, vv => vv = .pointer (some ⟨q, 3, none⟩)
 | 3, vv => vv = .slice v.params.a v.params.n v.params.c
 | 4, vv => vv = .string (Di.ty f.params)
 | 5, vv => vv = .pointer (some ⟨q, 4, none⟩)
 | 6, vv => vv = .slice v.results.a v.results.n v.results.c
 | 7, vv => vv = .string (Di.ty f.results)
 | 8, vv => vv = .pointer (some ⟨q, 5, none⟩)
 | 9, vv => vv = .slice v.locals.a v.locals.n v.locals.c
 | 10, vv => vv = .string (Di.ty f.locals)
 | 11, vv => vv = .slice (some ⟨x, 0, none⟩) 5 5
 | 12, vv => vv = .slice (some ⟨x, 0, none⟩) 5 5
 | _, _ => True
theorem dh_new {q : Nat} {v : FnV} {f : Fn.F} {x z : Nat} {D : Nat → Bool} (h11 : D 11 = false) (h12 : D 12 = false) : ∀ (j : Nat) (u : Value), D j = true → DhG q v f x j u → DhG q v f z j u := by
 intro j u hj h
 have e1 : j ≠ 11 := fun e => by rw [e, h11] at hj; cases hj
 have e2 : j ≠ 12 := fun e => by rw [e, h12] at hj; cases hj
 unfold DhG at h ⊢
 split at h <;> first | exact h | exact absurd rfl e1 | exact absurd rfl e2
set_option maxHeartbeats 8000000 in
theorem dhead_any (v : FnV) (f : Fn.F) (w : World) (h : FnOk w w.heap.size v f) (hf : DiFit v) :
   Calls Tryd.prog 9 #[.agg v.cells] w (StrP (Di.head f) w) := by
 obtain ⟨i0, hi, hz0, hz1, hz2⟩ := info_parts info_str
 have b0 := (Below.refl w.heap.size w).alloc (Nat.le_refl _) (.cells v.cells 35)
 have B0 := Lib.hid b0
 have HSz := Lib.hid (hf.head h)
 have HIn := Lib.hid h.inner
 have Hparams := Lib.hid (fun (W : World) (hW : IntsAt W W.heap.size v.params.a v.params.n f.params) => show Calls Tryd.prog 15 #[.slice v.params.a v.params.n v.params.c] W (StrP (Di.ty f.params) W) from sitext_any v.params.a v.params.n v.params.c f.params W hW hf.params)
 have Hresults := Lib.hid (fun (W : World) (hW : IntsAt W W.heap.size v.results.a v.results.n f.results) => show Calls Tryd.prog 15 #[.slice v.results.a v.results.n v.results.c] W (StrP (Di.ty f.results) W) from sitext_any v.results.a v.results.n v.results.c f.results W hW hf.results)
 have Hlocals := Lib.hid (fun (W : World) (hW : IntsAt W W.heap.size v.locals.a v.locals.n f.locals) => show Calls Tryd.prog 15 #[.slice v.locals.a v.locals.n v.locals.c] W (StrP (Di.ty f.locals) W) from sitext_any v.locals.a v.locals.n v.locals.c f.locals W hW hf.locals)
 have Houter := Lib.hid (fun (W : World) (hW : IntsAt W W.heap.size v.outer.a v.outer.n f.outer) => show Calls Tryd.prog 15 #[.slice v.outer.a v.outer.n v.outer.c] W (StrP (Di.ty f.outer) W) from sitext_any v.outer.a v.outer.n v.outer.c f.outer W hW hf.outer)
 have hC : DhC w.heap.size v f (w.alloc (.cells v.cells 35)) 0 (fun _ => false) (w.alloc (.cells v.cells 35)) := ⟨FnAt.new w v, h.on b0, Below.refl _ _, fun e => by cases e⟩
 clear h hf b0
 go_enter Tryd.func9, Tryd.ntmps9
 go_wp2
 generalize w.alloc (.cells v.cells 35) = w1 at *
 have HQ : Hid (w.heap.size = w.heap.size) := Lib.hid rfl
 generalize hq : w.heap.size = q at hC ⊢
 refine region_k 0 26 (fun x D W => DhC q v f w1 x D W) (fun x => DhG q v f x) (by kernel_rfl) (by kernel_rfl) (by kernel_rfl) rfl rfl hC.drew ?_ ?_
 · refine ⟨?_, ?_, ?_, ?_, ?_, ?_, ?_, ?_, ?_, ?_, ?_, ?_, ?_, trivial⟩
   · intro x D a w hI hdep hD0 K hK
     have e1 : a.eval (.tmp 1) = .pointer (some ⟨q, 0, none⟩) := hI.read 1 rfl
     refine ok_value (wanted_none rfl) (v := .pointer (some ⟨q, 0, none⟩)) ?_ (hK x _ _ (hI.world.up rfl) (fun _ _ _ h => h) rfl)
     obtain ⟨ec, ef⟩ := ecs a; clear hI hdep hK; generalize a.eval = ρ at e1 ec ef ⊢; go_simp
   · intro x D a w hI hdep hD0 K hK
     have e4 : a.eval (.tmp 4) = .pointer (some ⟨q, 0, none⟩) := hI.good 0 4 (dep_of hdep 0 rfl) rfl
     have x0 := hI.world.at_.c0
     rw [hI.world.ok.name] at x0
     refine ok_value (wanted_none rfl) (v := .string f.name) ?_ (hK x _ _ (hI.world.up rfl) (fun _ _ _ h => h) rfl)
     obtain ⟨ec, ef⟩ := ecs a; clear hI hdep hK; generalize a.eval = ρ at e4 ec ef ⊢; go_simp
   · intro x D a w hI hdep hD0 K hK
     have e1 : a.eval (.tmp 1) = .pointer (some ⟨q, 0, none⟩) := hI.read 1 rfl
     refine ok_value (wanted_none rfl) (v := .pointer (some ⟨q, 3, none⟩)) ?_ (hK x _ _ (hI.world.up rfl) (fun _ _ _ h => h) rfl)
     obtain ⟨ec, ef⟩ := ecs a; clear hI hdep hK; generalize a.eval = ρ at e1 ec ef ⊢; go_simp
   · intro x D a w hI hdep hD0 K hK
     have e6 : a.eval (.tmp 6) = .pointer (some ⟨q, 3, none⟩) := hI.good 2 6 (dep_of hdep 2 rfl) rfl
     have x0 := hI.world.at_.c3
     refine ok_value (wanted_none rfl) (v := .slice v.params.a v.params.n v.params.c) ?_ (hK x _ _ (hI.world.up rfl) (fun _ _ _ h => h) rfl)
     obtain ⟨ec, ef⟩ := ecs a; clear hI hdep hK; generalize a.eval = ρ at e6 ec ef ⊢; go_simp
   · intro x D a w hI hdep hD0 K hK
     have e7 : a.eval (.tmp 7) = .slice v.params.a v.params.n v.params.c := hI.good 3 7 (dep_of hdep 3 rfl) rfl
     refine ok_call (wanted_none rfl) (f := 15) (args := #[.slice v.params.a v.params.n v.params.c]) ?_ (Hparams.out w hI.world.ok.params.1) ?_
     · obtain ⟨ec, ef⟩ := ecs a; clear hI hdep hK; generalize a.eval = ρ at e7 ec ef ⊢; go_simp
     · rintro e w2 ⟨rfl, hb2⟩
       exact ⟨_, rfl, hK x _ _ ((hI.world.up rfl).kept hb2) (fun _ _ _ h => h) rfl⟩
   · intro x D a w hI hdep hD0 K hK
     have e1 : a.eval (.tmp 1) = .pointer (some ⟨q, 0, none⟩) := hI.read 1 rfl
     refine ok_value (wanted_none rfl) (v := .pointer (some ⟨q, 4, none⟩)) ?_ (hK x _ _ (hI.world.up rfl) (fun _ _ _ h => h) rfl)
     obtain ⟨ec, ef⟩ := ecs a; clear hI hdep hK; generalize a.eval = ρ at e1 ec ef ⊢; go_simp
   · intro x D a w hI hdep hD0 K hK
     have e9 : a.eval (.tmp 9) = .pointer (some ⟨q, 4, none⟩) := hI.good 5 9 (dep_of hdep 5 rfl) rfl
     have x0 := hI.world.at_.c4
     refine ok_value (wanted_none rfl) (v := .slice v.results.a v.results.n v.results.c) ?_ (hK x _ _ (hI.world.up rfl) (fun _ _ _ h => h) rfl)
     obtain ⟨ec, ef⟩ := ecs a; clear hI hdep hK; generalize a.eval = ρ at e9 ec ef ⊢; go_simp
   · intro x D a w hI hdep hD0 K hK
     have e10 : a.eval (.tmp 10) = .slice v.results.a v.results.n v.results.c := hI.good 6 10 (dep_of hdep 6 rfl) rfl
     refine ok_call (wanted_none rfl) (f := 15) (args := #[.slice v.results.a v.results.n v.results.c]) ?_ (Hresults.out w hI.world.ok.results.1) ?_
     · obtain ⟨ec, ef⟩ := ecs a; clear hI hdep hK; generalize a.eval = ρ at e10 ec ef ⊢; go_simp
     · rintro e w2 ⟨rfl, hb2⟩
       exact ⟨_, rfl, hK x _ _ ((hI.world.up rfl).kept hb2) (fun _ _ _ h => h) rfl⟩
   · intro x D a w hI hdep hD0 K hK
     have e1 : a.eval (.tmp 1) = .pointer (some ⟨q, 0, none⟩) := hI.read 1 rfl
     refine ok_value (wanted_none rfl) (v := .pointer (some ⟨q, 5, none⟩)) ?_ (hK x _ _ (hI.world.up rfl) (fun _ _ _ h => h) rfl)
     obtain ⟨ec, ef⟩ := ecs a; clear hI hdep hK; generalize a.eval = ρ at e1 ec ef ⊢; go_simp
   · intro x D a w hI hdep hD0 K hK
     have e12 : a.eval (.tmp 12) = .pointer (some ⟨q, 5, none⟩) := hI.good 8 12 (dep_of hdep 8 rfl) rfl
     have x0 := hI.world.at_.c5
     refine ok_value (wanted_none rfl) (v := .slice v.locals.a v.locals.n v.locals.c) ?_ (hK x _ _ (hI.world.up rfl) (fun _ _ _ h => h) rfl)
     obtain ⟨ec, ef⟩ := ecs a; clear hI hdep hK; generalize a.eval = ρ at e12 ec ef ⊢; go_simp
   · intro x D a w hI hdep hD0 K hK
     have e13 : a.eval (.tmp 13) = .slice v.locals.a v.locals.n v.locals.c := hI.good 9 13 (dep_of hdep 9 rfl) rfl
     refine ok_call (wanted_none rfl) (f := 15) (args := #[.slice v.locals.a v.locals.n v.locals.c]) ?_ (Hlocals.out w hI.world.ok.locals.1) ?_
     · obtain ⟨ec, ef⟩ := ecs a; clear hI hdep hK; generalize a.eval = ρ at e13 ec ef ⊢; go_simp
     · rintro e w2 ⟨rfl, hb2⟩
       exact ⟨_, rfl, hK x _ _ ((hI.world.up rfl).kept hb2) (fun _ _ _ h => h) rfl⟩
   · intro x D a w hI hdep hD0 K hK
     have e5 : a.eval (.tmp 5) = .string f.name := hI.good 1 5 (dep_of hdep 1 rfl) rfl
     have e8 : a.eval (.tmp 8) = .string (Di.ty f.params) := hI.good 4 8 (dep_of hdep 4 rfl) rfl
     have e11 : a.eval (.tmp 11) = .string (Di.ty f.results) := hI.good 7 11 (dep_of hdep 7 rfl) rfl
     have e14 : a.eval (.tmp 14) = .string (Di.ty f.locals) := hI.good 10 14 (dep_of hdep 10 rfl) rfl
     refine ok_new (wanted_none rfl) (v := .slice (some ⟨w.heap.size, 0, none⟩) 5 5) (w' := w.alloc (.cells #[.string Di.begin_, .string f.name, .string (Di.ty f.params), .string (Di.ty f.results), .string (Di.ty f.locals)] 9)) (by have ec : ∀ c, a.eval (.const c) = c := fun _ => rfl; have eb : Value.string Di.begin_ = Value.string ⟨#[102, 117, 110, 99]⟩ := rfl; generalize a.eval = ρ at e5 e8 e11 e14 ec ⊢; rw [eb]; go_simp) ?_
     exact hK w.heap.size _ _ (hI.world.newed) (dh_new hD0 (hI.not_up hD0 12 rfl)) rfl
   · intro x D a w hI hdep hD0 K hK
     have e15 : a.eval (.tmp 15) = .slice (some ⟨x, 0, none⟩) 5 5 := hI.good 11 15 (dep_of hdep 11 rfl) rfl
     refine ok_value (wanted_none rfl) (v := .slice (some ⟨x, 0, none⟩) 5 5) ?_ (hK x _ _ (hI.world.up rfl) (fun _ _ _ h => h) rfl)
     obtain ⟨ec, ef⟩ := ecs a; clear hI hdep hK; generalize a.eval = ρ at e15 ec ef ⊢; go_simp
 · intro x D a w2 hI hD
   have hfr := hI.frame [(4, .pointer (some ⟨q, 0, none⟩)), (5, .string f.name), (6, .pointer (some ⟨q, 3, none⟩)), (7, .slice v.params.a v.params.n v.params.c), (8, .string (Di.ty f.params)), (9, .pointer (some ⟨q, 4, none⟩)), (10, .slice v.results.a v.results.n v.results.c), (11, .string (Di.ty f.results)), (12, .pointer (some ⟨q, 5, none⟩)), (13, .slice v.locals.a v.locals.n v.locals.c), (14, .string (Di.ty f.locals)), (15, .slice (some ⟨x, 0, none⟩) 5 5), (3, .slice (some ⟨x, 0, none⟩) 5 5)] (all_cons (hI.good 0 4 (hD 0 (by decide)) rfl) (all_cons (hI.good 1 5 (hD 1 (by decide)) rfl) (all_cons (hI.good 2 6 (hD 2 (by decide)) rfl) (all_cons (hI.good 3 7 (hD 3 (by decide)) rfl) (all_cons (hI.good 4 8 (hD 4 (by decide)) rfl) (all_cons (hI.good 5 9 (hD 5 (by decide)) rfl) (all_cons (hI.good 6 10 (hD 6 (by decide)) rfl) (all_cons (hI.good 7 11 (hD 7 (by decide)) rfl) (all_cons (hI.good 8 12 (hD 8 (by decide)) rfl) (all_cons (hI.good 9 13 (hD 9 (by decide)) rfl) (all_cons (hI.good 10 14 (hD 10 (by decide)) rfl) (all_cons (hI.good 11 15 (hD 11 (by decide)) rfl) (all_cons (hI.good 12 3 (hD 12 (by decide)) rfl) all_nil))))))))))))) rfl
   have hW := hI.world
   clear hI
   subst hfr
   simp only [List.foldl_cons, List.foldl_nil, List.setIfInBounds_toArray, List.set_cons_succ, List.set_cons_zero]
   obtain ⟨hx1, hx2⟩ := hW.row (hD 11 (by decide))
   have hO : w2.ownsRow w1.heap.size 9 1 (.slice (some ⟨x, 0, none⟩) 5 5) 5 (strs [Di.begin_, f.name, Di.ty f.params, Di.ty f.results, Di.ty f.locals]) := own_block hx1 hx2 rfl (by simp) rfl
   have HA2 := Lib.hid hW.at_
   have HK2 := Lib.hid hW.ok
   have HB2 := Lib.hid (B0.out.trans (hW.below.mono B0.out.size))
   have HO := Lib.hid hO
   have HW1 := Lib.hid hW.below.size
   have c1 := hW.at_.c1
   have c2 := hW.at_.c2
   rw [HIn.out] at c1
   have hFive : Hid (Di.five f = [Di.begin_, f.name, Di.ty f.params, Di.ty f.results, Di.ty f.locals]) := Lib.hid rfl
   clear hW hC hO hx1 hx2 Hparams Hresults Hlocals hD
   cases hin : f.inner with
   | false =>
     have HE := Lib.hid (Di.head_plain hin)
     rw [hin] at c1
     have hJ := words_own HO.out
     have HJ := Lib.hid (djoin_any _ _ _ _ w2 hJ.2.1 (by decide) hJ.2.2 (by have h1 := HSz.out; rw [HE.out] at h1; exact Nat.le_trans h1 (by decide)))
     clear hin hJ c2
     go_wp2_with (go_at_call 16; refine HJ.out.mono ?_; rintro _ w3 ⟨rfl, hb3⟩)
     go_ret
     exact ⟨by rw [HE.out, hFive.out]; rfl, (HB2.out.trans (hb3.mono HB2.out.size))⟩
   | true =>
     have HE := Lib.hid (Di.head_inner hin)
     rw [hin] at c1
     have HT := Lib.hid (Houter.out w2 HK2.out.outer.1)
     clear hin Houter
     generalize hy : Di.ty f.outer = y at HT HE
     go_wp2_with (first
       | (go_at_call 15; refine HT.out.mono ?_; rintro _ w3 ⟨rfl, hb3⟩; have HB3 := Lib.hid hb3; clear hb3)
       | (at_builtin; refine wpList_append_lies _ rfl (.tmp 18) (.tmp 22) 48 rfl w1.heap.size 9 i0 (.string ⟨#[]⟩) 1 16 Tryd.underlying48 hi hz0 hz1 hz2 rfl (by decide) (.slice (some ⟨x, 0, none⟩) 5 5) 5 (strs [Di.begin_, f.name, Di.ty f.params, Di.ty f.results, Di.ty f.locals]) rfl ?c0 ⟨w3.heap.size, 0, none⟩ 1 1 (strs [y]) rfl rfl ?c1 (strs_one _) (by decide) ?c3 ?c4 ?c5 (w3.heap.size + 1) ?c6 ?_))
     case c0 => exact (ownsRow_below HO.out HB3.out).alloc _
     case c1 => exact new_str w3 _ _
     case c3 => unfold maxLen; omega
     case c4 => omega
     case c5 => have := HB3.out.size; have := HW1.out; simp; omega
     case c6 => simp
     intro g cap w4 hown4 hgrow4 hat4 _
     have HO3 := Lib.hid (ownsRow_below HO.out HB3.out)
     have hB3 := HB2.out.trans (HB3.out.mono HB2.out.size)
     have HB4 : Hid (Below w.heap.size w w4) := Lib.hid ((hB3.alloc hB3.size _).grown hgrow4 (by have := hB3.size; simp; omega) (fun k hk => by
       have := (HO3.out.lt k hk).1
       have := B0.out.size
       omega))
     rw [← strs_append] at hown4
     have hJ := words_own hown4
     have hJe : Di.join ([Di.begin_, f.name, Di.ty f.params, Di.ty f.results, Di.ty f.locals] ++ [y]) = Di.head f := by rw [HE.out, hFive.out]; exact Di.join_snoc (by simp) y
     have HJ := Lib.hid (djoin_any _ _ _ _ w4 hJ.2.1 (by decide) hJ.2.2 (by rw [hJe]; exact Nat.le_trans HSz.out (by decide)))
     rw [hJe] at HJ
     clear hJ hJe hown4 hgrow4 hat4 hB3
     go_wp2_with (go_at_call 16; refine HJ.out.mono ?_; rintro _ w5 ⟨rfl, hb5⟩)
     go_ret
     exact ⟨rfl, HB4.out.trans (hb5.mono HB4.out.size)⟩
end Go.Proofs.YtmhmlhlplfkpaaaDoor
