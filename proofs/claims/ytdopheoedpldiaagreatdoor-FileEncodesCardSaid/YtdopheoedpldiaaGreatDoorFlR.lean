/-
 Functions whose lists the call owns: what may turn beside them; functions that the call itself has made, read. Conditions: none.
-/
import Derived.Test.YtdopheoedpldiaaGreatDoorFlC
import Derived.Test.YtdopheoedpldiaaGreatDoorFnTake
set_option maxRecDepth 100000
namespace Go.Proofs.YtdopheoedpldiaaGreatDoor
open Go.RowKit
theorem row_other {w w' : World} {base n size : Nat} {e : TypeId} {v : Value} {xs : List Value} {row : Option Nat} (h : w.ownsRow base e size v n xs) (hg : w.grownBy w' row)
   (hr : ∀ b, row = some b → ∃ C t m, w.heap[b]? = some (.cells C t m) ∧ t ≠ e) : w'.ownsRow base e size v n xs := by
 refine row_kept h fun b hb => hg.block b (h.lt b hb).2 fun e' => ?_
 obtain ⟨C, t, m, h1, h2⟩ := hr b e'.symm
 rcases h.2 with ⟨rfl, _⟩ | ⟨g, cap, cur, rfl, _, hh, _⟩
 · cases hb
 · injection hb with hb
   subst hb
   rw [h1] at hh
   injection hh with hh
   injection hh with _ h3
   exact h2 h3
def Else (t : TypeId) : Prop := t ≠ 99 ∧ t ≠ 68 ∧ t ≠ 3 ∧ t ≠ 104 ∧ t ≠ 107
theorem FnOwn.kept {w w' : World} {base : Nat} {v : FnV} {f : Fn.F} {row : Option Nat} (h : FnOwn w base v f) (hg : w.grownBy w' row)
   (hr : ∀ b, row = some b → ∃ C t m, w.heap[b]? = some (.cells C t m) ∧ Else t) : FnOwn w' base v f := by
 have k : ∀ e, (∀ t, Else t → t ≠ e) → ∀ b, row = some b → ∃ C t m, w.heap[b]? = some (.cells C t m) ∧ t ≠ e := fun e he b hb => by
   obtain ⟨C, t, m, h1, h2⟩ := hr b hb
   exact ⟨C, t, m, h1, he t h2⟩
 exact ⟨h.name, h.inner, row_other h.outer hg (k _ fun t h => h.1), row_other h.params hg (k _ fun t h => h.1), row_other h.results hg (k _ fun t h => h.1), row_other h.locals hg (k _ fun t h => h.1), row_other h.code hg (k _ fun t h => h.2.1), row_other h.lines hg (k _ fun t h => h.2.2.1),
   row_other h.nodes hg (k _ fun t h => h.2.2.2.1), row_other h.at_ hg (k _ fun t h => h.2.2.1), row_other h.live hg (k _ fun t h => h.2.2.2.2)⟩
theorem FnOwn.below {w w' : World} {base : Nat} {v : FnV} {f : Fn.F} (h : FnOwn w base v f) (hb : Below w.heap.size w w') : FnOwn w' base v f :=
 h.kept (row := none) ⟨hb.os, hb.tape, hb.output, hb.size, fun j hj _ => hb.block j hj⟩ (fun _ e => by cases e)
theorem FnOwn.base {w : World} {b b' : Nat} {v : FnV} {f : Fn.F} (h : FnOwn w b v f) (hb : b' ≤ b) : FnOwn w b' v f :=
 ⟨h.name, h.inner, ownsRow_base h.outer hb, ownsRow_base h.params hb, ownsRow_base h.results hb, ownsRow_base h.locals hb, ownsRow_base h.code hb, ownsRow_base h.lines hb, ownsRow_base h.nodes hb, ownsRow_base h.at_ hb, ownsRow_base h.live hb⟩
theorem FnOwn.lens {b : Nat} {w : World} {v : FnV} {f : Fn.F} (h : FnOwn w b v f) (hn : f.name.size ≤ 9223372036854775807) : v.Len :=
 ⟨by rw [h.name]; exact hn, (nil_own h.outer).2, (nil_own h.params).2, (nil_own h.results).2, (nil_own h.locals).2, (nil_own h.code).2, (nil_own h.lines).2, (nil_own h.nodes).2, (nil_own h.at_).2, (nil_own h.live).2⟩
theorem else_func : Else 43 := by unfold Else; decide
theorem else_program : Else 24 := by unfold Else; decide
theorem info_func : (Tryz.prog.info? 43).map (fun i => (i.zero, i.size, i.bytes)) = some (some (.agg FnV.zero.cells), 11, 240) := by kernel_rfl
theorem row_funcs {w : World} {base n : Nat} {v : Value} {xs : List Value} (h : w.ownsRow base 43 11 v n xs) : ∀ b, v.ownBlock = some b → ∃ C t m, w.heap[b]? = some (.cells C t m) ∧ Else t := by
 intro b hb
 rcases h.2 with ⟨rfl, _⟩ | ⟨g, cap, cur, rfl, _, hh, _⟩
 · cases hb
 · injection hb with hb
   subst hb
   exact ⟨_, _, _, hh, else_func⟩
theorem funcs_of_own {w : World} {base n : Nat} {s : Sl3} {us : List FnV} {fs : List Fn.F} (h : w.ownsRow base 43 11 s.val n (fcs us)) (ho : ∀ k, k < n → FnOwn w base (us.getD k .zero) (fs.getD k .zero)) (hl : fs.length = n) (hn : ∀ f ∈ fs, f.name.size ≤ 9223372036854775807) :
   s.n = n ∧ FnsAt w w.heap.size s.a n us fs ∧ s.nilOk := by
 have hu : us.length = n := by have := h.1; rw [fcs_length] at this; omega
 have hlt := h.lt
 have hname : ∀ k, k < n → (fs.getD k .zero).name.size ≤ 9223372036854775807 := fun k hk => hn _ (by simp [List.getD, show k < fs.length by omega])
 have hok : ∀ k, k < n → FnOk w w.heap.size (us.getD k .zero) (fs.getD k .zero) := fun k hk => (ho k hk).ok
 have hln : ∀ k, k < n → (us.getD k .zero).Len := fun k hk => (ho k hk).lens (hname k hk)
 rcases h.2 with ⟨hv, hn⟩ | ⟨g, cap, cur, hv, hg, hh, hnc, hcm, hcs, ht⟩
 · unfold Sl3.val at hv
   injection hv with h1 h2 h3
   rw [h1, h2]
   exact ⟨hn.symm, ⟨hu, hl, hok, hln, fun h => absurd h (by omega)⟩, fun _ => h3⟩
 · unfold Sl3.val at hv
   injection hv with h1 h2 h3
   rw [h1, h2]
   refine ⟨rfl, ⟨hu, hl, hok, hln, fun hp => ⟨g, 0, rfl, (hlt g (by rw [Sl3.val, h1]; rfl)).2, fun i hi j hj => ?_⟩⟩, fun e => by rw [h1] at e; cases e⟩
   have e0 := fcs_get us i (by omega) j hj
   rw [← ht, List.getElem?_take, if_pos (by omega), Array.getElem?_toList] at e0
   rw [Nat.zero_add, cell_of_row w g _ cur _ _ hh]
   exact e0
theorem getD_last {α : Type} (l : List α) (x d : α) : (l ++ [x]).getD l.length d = x := by simp [List.getD]
theorem getD_init {α : Type} (l : List α) (x d : α) {j : Nat} (h : j < l.length) : (l ++ [x]).getD j d = l.getD j d := by simp [List.getD, List.getElem?_append_left h]
theorem FnsAt.names {w : World} {B n : Nat} {a : Option Addr} {vs : List FnV} {fs : List Fn.F} (h : FnsAt w B a n vs fs) : ∀ f ∈ fs, f.name.size ≤ 9223372036854775807 := by
 intro f hf
 obtain ⟨k, hk, rfl⟩ := List.mem_iff_getElem.1 hf
 have h1 := (h.ok k (by rw [← h.lenf]; exact hk)).name
 have h2 := (h.len k (by rw [← h.lenf]; exact hk)).name
 rw [h1] at h2
 simpa [List.getD, hk] using h2
def ProgP (fs : List Fn.F) (w : World) (e : Ending) (w' : World) : Prop := ∃ (s : Sl3) (us : List FnV), e = .returned (.agg #[s.val]) ∧ s.n = fs.length ∧ FnsAt w' w'.heap.size s.a s.n us fs ∧ s.nilOk ∧ Below w.heap.size w w'
theorem prog_cell {w : World} {b : Nat} {u : Value} {t : TypeId} (h : w.heap[b]? = some (.cells #[u] t (0, 0))) : w.cell? ⟨b, 0, none⟩ = some u ∧ w.frozen? ⟨b, 0, none⟩ = false := by
 refine ⟨cell_of_row w b 0 _ _ _ h, ?_⟩
 unfold World.frozen?
 rw [h]
 rfl
end Go.Proofs.YtdopheoedpldiaaGreatDoor
namespace Go.Proofs.YtdopheoedpldiaaGreatDoor
open Go.RowKit
namespace Fn
theorem ask_yes {ok : Bool} {er : Nat} {s : List Nat × Nat} (he : er ≠ 0) (h : (ask ok er s).2 = 0) : ok = true ∧ s.2 = 0 := by
 unfold ask at h
 cases ok with
 | true => exact ⟨rfl, h⟩
 | false => exact absurd h (fail_err he)
end Fn
def BadP (g : Nat) (er : Nat) (w : World) (e : Ending) (w' : World) : Prop := e = .panicked [{ v := .iface 28 (.int .i64 (er : Int)), recovered := false }] ∧ w.grownBy w' (some g)
theorem flnext_results {B : Nat} {tmps : Array Value} {v : FnV} {w : World} (h2 : tmps.getD 2 undef = .pointer (some ⟨B, 0, none⟩)) (hr : w.rangeAt B 0 v.cells.toList) : (results Tryz.f69 tmps).run Tryz.prog w = .ok (.agg v.cells) w := by
 have hl := run_loadVar_mid (P := Tryz.prog) w B 0 43 v.cells.toList _ hr Tryz.underlying43 rfl (by kernel_rfl)
 have h3 : tmps[2]?.getD undef = .pointer (some ⟨B, 0, none⟩) := by simpa using h2
 simp [results, Tryz.results69, asAddr, h3, hl]
theorem grown_tr {a b c : World} {row : Option Nat} (h : a.grownBy b row) (k : b.grownBy c row) : a.grownBy c row := Lib.grownBy_trans h k
theorem grown_of {a b : World} (row : Option Nat) (h : Below a.heap.size a b) : a.grownBy b row := ⟨h.os, h.tape, h.output, h.size, fun j hj _ => h.block j hj⟩
set_option maxHeartbeats 4000000 in
theorem flnext_ok (g : Nat) (s : List Nat × Nat) (W : World) (hc : Cur W g s) (hT : Tab W) (hgT : g ≠ 0) (hgt : 0 < W.heap.size) (o : Fn.F × (List Nat × Nat)) (ho : Fn.take s = o) (h0 : o.2.2 = 0) :
   Calls Tryz.prog 69 #[.pointer (some ⟨g, 0, none⟩)] W fun e W' => ∃ v : FnV, e = .returned (.agg v.cells) ∧ FnOwn W' W.heap.size v o.1 ∧ Cur W' g o.2 ∧ W.grownBy W' (some g) := by
 have hlt := hc.lt
 have b1 := (Below.refl W.heap.size W).alloc (Nat.le_refl _) (.cells FnV.zero.cells 43)
 have HTk := fntake_cur g s (W.alloc (.cells FnV.zero.cells 43)) (cur_grown hc b1) (tab_below hT b1 hgt) hgT
 rw [ho] at HTk
 unfold TkP at HTk
 have HB1 := Lib.hid b1
 have hb1 := heap_alloc_new W (.cells FnV.zero.cells 43)
 have HR := Lib.hid hb1
 have HSz := Lib.hid (World.size_alloc W (.cells FnV.zero.cells 43))
 have HEr := Lib.hid (fun W2 (h2 : Cur W2 g o.2) => err_cur g o.2 W2 h2)
 have HMk := Lib.hid (fun W2 => flmust_ok o.2.2 h0 W2)
 clear hc hT hb1 b1 ho h0
 go_enter Tryz.func69, Tryz.ntmps69
 go_wp2_with (go_at_call 108; refine HTk.mono ?_; rintro _ w2 ⟨v, rfl, hv, hc2, hg2⟩; clear HTk; refine Hid.out ?_)
 have b2 : Below w2.heap.size w2 (w2.alloc (.cells #[.string ⟨#[]⟩, .bool false, .slice none 0 0, .slice none 0 0, .slice none 0 0, .slice none 0 0, .slice none 0 0, .slice none 0 0, .slice none 0 0, .slice none 0 0, .slice none 0 0] 43)) := (Below.refl w2.heap.size w2).alloc (Nat.le_refl _) _
 have k0 := sets_grown w2.heap.size v.cells.toList 0 (w2.alloc (.cells #[.string ⟨#[]⟩, .bool false, .slice none 0 0, .slice none 0 0, .slice none 0 0, .slice none 0 0, .slice none 0 0, .slice none 0 0, .slice none 0 0, .slice none 0 0, .slice none 0 0] 43))
 have b3 : Below w2.heap.size w2 ((w2.alloc (.cells #[.string ⟨#[]⟩, .bool false, .slice none 0 0, .slice none 0 0, .slice none 0 0, .slice none 0 0, .slice none 0 0, .slice none 0 0, .slice none 0 0, .slice none 0 0, .slice none 0 0] 43)).setCells w2.heap.size 0 v.cells.toList) := b2.grown k0 b2.size (fun k e => by injection e with e; omega)
 have hz : (w2.alloc (.cells #[.string ⟨#[]⟩, .bool false, .slice none 0 0, .slice none 0 0, .slice none 0 0, .slice none 0 0, .slice none 0 0, .slice none 0 0, .slice none 0 0, .slice none 0 0, .slice none 0 0] 43)).heap[w2.heap.size]? = some (.cells FnV.zero.cells 43 (0, 0)) := heap_alloc_new w2 _
 have hT3 := there_block hz (o := 0) (n := v.cells.size) (Nat.le_of_ble_eq_true rfl)
 have hq3 := World.rangeAt_setCells_same (w2.alloc (.cells #[.string ⟨#[]⟩, .bool false, .slice none 0 0, .slice none 0 0, .slice none 0 0, .slice none 0 0, .slice none 0 0, .slice none 0 0, .slice none 0 0, .slice none 0 0, .slice none 0 0] 43)) w2.heap.size 0 v.cells.toList (there_block hz (by rw [Array.length_toList]; exact Nat.le_of_eq (by rfl)))
 have hr2 : w2.heap[W.heap.size]? = some (.cells FnV.zero.cells 43 (0, 0)) := (hg2.block _ (heap_lt HR.out) (fun e => by injection e with e; omega)).trans HR.out
 have hr3 := (b3.block _ (heap_lt hr2)).trans hr2
 generalize hw3 : (w2.alloc (.cells #[.string ⟨#[]⟩, .bool false, .slice none 0 0, .slice none 0 0, .slice none 0 0, .slice none 0 0, .slice none 0 0, .slice none 0 0, .slice none 0 0, .slice none 0 0, .slice none 0 0] 43)).setCells w2.heap.size 0 v.cells.toList = w3 at *
 have hT2 := there_block hr3 (o := 0) (n := v.cells.size) (Nat.le_of_ble_eq_true rfl)
 have hc3 := cur_grown hc2 b3
 have k1 := sets_grown W.heap.size v.cells.toList 0 w3
 have HF := Lib.hid (show FnOwn (w3.setCells W.heap.size 0 v.cells.toList) W.heap.size v o.1 ∧ Cur (w3.setCells W.heap.size 0 v.cells.toList) g o.2 ∧ W.grownBy (w3.setCells W.heap.size 0 v.cells.toList) (some g) from by
   refine ⟨((hv.below b3).base (by have := HSz.out; omega)).kept k1 (fun b e => by injection e with e; subst e; exact ⟨_, _, _, hr3, else_func⟩), hc3.kept k1 (fun k e => by injection e with e; omega), ?_⟩
   have g1 := grown_tr (grown_of (some g) HB1.out) (grown_tr hg2 (grown_of (some g) b3))
   exact ⟨k1.os.trans g1.os, k1.tape.trans g1.tape, k1.output.trans g1.output, Nat.le_trans g1.size k1.size, fun j hj h1 => (k1.block j (Nat.lt_of_lt_of_le hj g1.size) (fun e => by injection e with e; omega)).trans (g1.block j hj h1)⟩)
 have HRg := Lib.hid (World.rangeAt_setCells_same w3 W.heap.size 0 v.cells.toList (there_block hr3 (by rw [Array.length_toList]; exact Nat.le_of_eq (by rfl))))
 have HE3 := Lib.hid (HEr.out _ hc3)
 have HM3 := Lib.hid (HMk.out w3)
 clear hz hv hc2 hg2 b2 k0 b3 hr2 hr3 hc3 k1 HEr HMk
 refine Lib.hid ?_
 go_wp2_with (first
   | (go_at_call 107; refine HE3.out.mono ?_; rintro _ w4 ⟨rfl, he⟩; obtain rfl := he.symm)
   | (go_at_call 57; refine HM3.out.mono ?_; rintro _ w4 ⟨rfl, he⟩; obtain rfl := he.symm)
   | (with_reducible refine wpList_store_mid ?_ 43 (.tmp 3) (.tmp 5) ?_ w2.heap.size 0 v.cells ?_ ?_ hT3 ?_ ?_ ?_; rfl; rfl; go_must (go_simp; go_simp; kernel_rfl; kernel_rfl; rw [hw3]))
   | (with_reducible refine wpList_load_mid ?_ 43 (.tmp 3) ?_ w2.heap.size 0 ?_ v.cells.toList _ hq3 Tryz.underlying43 ?_ ?_ ?_; rfl; rfl; go_must (go_simp; rfl; kernel_rfl))
   | (with_reducible refine wpList_store_mid ?_ 43 (.tmp 2) (.tmp 9) ?_ W.heap.size 0 v.cells ?_ ?_ hT2 ?_ ?_ ?_; rfl; rfl; go_must (go_simp; kernel_rfl; kernel_rfl; kernel_rfl; generalize hw5 : w3.setCells W.heap.size 0 v.cells.toList = w5 at *; refine Hid.out ?_)))
 refine Lib.hid ?_
 go_wp2
 refine bodyPost_ret (flnext_results (by go_simp) HRg.out) rfl ?_
 exact ⟨v, rfl, HF.out.1, HF.out.2.1, HF.out.2.2⟩
set_option maxHeartbeats 4000000 in
theorem flnext_bad (g : Nat) (s : List Nat × Nat) (W : World) (hc : Cur W g s) (hT : Tab W) (hgT : g ≠ 0) (hgt : 0 < W.heap.size) (o : Fn.F × (List Nat × Nat)) (ho : Fn.take s = o) (h0 : o.2.2 ≠ 0) :
   Calls Tryz.prog 69 #[.pointer (some ⟨g, 0, none⟩)] W (BadP g o.2.2 W) := by
 have hlt := hc.lt
 have b1 := (Below.refl W.heap.size W).alloc (Nat.le_refl _) (.cells FnV.zero.cells 43)
 have HTk := fntake_cur g s (W.alloc (.cells FnV.zero.cells 43)) (cur_grown hc b1) (tab_below hT b1 hgt) hgT
 rw [ho] at HTk
 unfold TkP at HTk
 have HB1 := Lib.hid b1
 have HEr := Lib.hid (fun W2 (h2 : Cur W2 g o.2) => err_cur g o.2 W2 h2)
 have HMk := Lib.hid (fun W2 => flmust_bad o.2.2 h0 W2)
 clear hc hT b1 ho h0
 go_enter Tryz.func69, Tryz.ntmps69
 go_wp2_with (go_at_call 108; refine HTk.mono ?_; rintro _ w2 ⟨v, rfl, _, hc2, hg2⟩; clear HTk; refine Hid.out ?_)
 have hz : (w2.alloc (.cells #[.string ⟨#[]⟩, .bool false, .slice none 0 0, .slice none 0 0, .slice none 0 0, .slice none 0 0, .slice none 0 0, .slice none 0 0, .slice none 0 0, .slice none 0 0, .slice none 0 0] 43)).heap[w2.heap.size]? = some (.cells FnV.zero.cells 43 (0, 0)) := heap_alloc_new w2 _
 have hT3 := there_block hz (o := 0) (n := v.cells.size) (Nat.le_of_ble_eq_true rfl)
 have b2 : Below w2.heap.size w2 (w2.alloc (.cells #[.string ⟨#[]⟩, .bool false, .slice none 0 0, .slice none 0 0, .slice none 0 0, .slice none 0 0, .slice none 0 0, .slice none 0 0, .slice none 0 0, .slice none 0 0, .slice none 0 0] 43)) := (Below.refl w2.heap.size w2).alloc (Nat.le_refl _) _
 have k0 := sets_grown w2.heap.size v.cells.toList 0 (w2.alloc (.cells #[.string ⟨#[]⟩, .bool false, .slice none 0 0, .slice none 0 0, .slice none 0 0, .slice none 0 0, .slice none 0 0, .slice none 0 0, .slice none 0 0, .slice none 0 0, .slice none 0 0] 43))
 have b3 : Below w2.heap.size w2 ((w2.alloc (.cells #[.string ⟨#[]⟩, .bool false, .slice none 0 0, .slice none 0 0, .slice none 0 0, .slice none 0 0, .slice none 0 0, .slice none 0 0, .slice none 0 0, .slice none 0 0, .slice none 0 0] 43)).setCells w2.heap.size 0 v.cells.toList) := b2.grown k0 b2.size (fun k e => by injection e with e; omega)
 generalize hw3 : (w2.alloc (.cells #[.string ⟨#[]⟩, .bool false, .slice none 0 0, .slice none 0 0, .slice none 0 0, .slice none 0 0, .slice none 0 0, .slice none 0 0, .slice none 0 0, .slice none 0 0, .slice none 0 0] 43)).setCells w2.heap.size 0 v.cells.toList = w3 at *
 have HF := Lib.hid (grown_tr (grown_of (some g) HB1.out) (grown_tr hg2 (grown_of (some g) b3)))
 have HE3 := Lib.hid (HEr.out _ (cur_grown hc2 b3))
 have HM3 := Lib.hid (HMk.out w3)
 clear hz hc2 hg2 b2 k0 b3 HEr HMk
 refine Lib.hid ?_
 go_wp2_with (first
   | (go_at_call 107; refine HE3.out.mono ?_; rintro _ w4 ⟨rfl, he⟩; obtain rfl := he.symm)
   | (go_at_call 57; refine HM3.out.mono ?_; rintro _ w4 ⟨rfl, he⟩; obtain rfl := he.symm)
   | (with_reducible refine wpList_store_mid ?_ 43 (.tmp 3) (.tmp 5) ?_ w2.heap.size 0 v.cells ?_ ?_ hT3 ?_ ?_ ?_; rfl; rfl; go_must (go_simp; go_simp; kernel_rfl; kernel_rfl; rw [hw3])))
 exact ⟨rfl, rfl, HF.out⟩
def Fl.ask (s : List Nat × Nat) : Nat × (List Nat × Nat) := ((numA s 40).1, Fn.ask (decide (0 < (numA s 40).1) || decide ((numA s 40).2.2 ≠ 0)) 6 (numA s 40).2)
theorem Fl.num_le (s : List Nat × Nat) : (numA s 40).1 ≤ 40 := by
 unfold numA
 split
 · exact Nat.zero_le _
 · rename_i h
   simp only
   omega
set_option maxHeartbeats 4000000 in
theorem flhow_ok (g : Nat) (s : List Nat × Nat) (W : World) (hc : Cur W g s) (q : Nat × (List Nat × Nat)) (hq : Fl.ask s = q) (h0 : q.2.2 = 0) :
   Calls Tryz.prog 68 #[.pointer (some ⟨g, 0, none⟩)] W fun e W' => e = .returned (.int .i64 (q.1 : Int)) ∧ Cur W' g q.2 ∧ W.grownBy W' (some g) := by
 have HN := num_cur g s 40 W hc (by decide) (by decide)
 obtain ⟨r, hr⟩ : ∃ r, numA s 40 = r := ⟨_, rfl⟩
 have hle := Fl.num_le s
 unfold Fl.ask at hq
 rw [hr] at HN hq hle
 subst hq
 simp only at h0 ⊢
 obtain ⟨h1, h2⟩ := Fn.ask_yes (by decide) h0
 have hn : 0 < r.1 := by simpa [h2] using h1
 rw [Fn.ask_ok h1]
 have HEr := Lib.hid (fun W2 (h2 : Cur W2 g r.2) => err_cur g r.2 W2 h2)
 have HMk := Lib.hid (fun W2 => flmust_ok r.2.2 h2 W2)
 have HMn := Lib.hid (fun W2 => flmany_any r.1 W2)
 have HM2 := Lib.hid (fun W2 => flmust_ok (Fl.few r.1) (if_neg (by omega)) W2)
 clear hc hr hle h0 h1 h2 hn
 go_enter Tryz.func68, Tryz.ntmps68
 go_wp2_with (go_at_call 106; refine HN.mono ?_; rintro _ w2 ⟨rfl, hc2, hg2⟩; clear HN; refine Hid.out ?_)
 have HF := Lib.hid (And.intro hc2 hg2)
 have HE := Lib.hid (HEr.out _ hc2)
 have HK := Lib.hid (HMk.out w2)
 clear hc2 hg2 HEr HMk
 refine Lib.hid ?_
 go_wp2_with (first
   | (go_at_call 107; refine HE.out.mono ?_; rintro _ w4 ⟨rfl, he⟩; obtain rfl := he.symm)
   | (go_at_call 57; refine HK.out.mono ?_; clear HK; rintro _ w4 ⟨rfl, he⟩; obtain rfl := he.symm)
   | (go_at_call 58; refine (HMn.out _).mono ?_; rintro _ w4 ⟨rfl, he⟩; obtain rfl := he.symm)
   | (go_at_call 57; refine (HM2.out _).mono ?_; rintro _ w4 ⟨rfl, he⟩; obtain rfl := he.symm))
 go_ret
 exact ⟨rfl, HF.out.1, HF.out.2⟩
set_option maxHeartbeats 4000000 in
theorem flhow_bad (g : Nat) (s : List Nat × Nat) (W : World) (hc : Cur W g s) (q : Nat × (List Nat × Nat)) (hq : Fl.ask s = q) (h0 : q.2.2 ≠ 0) :
   Calls Tryz.prog 68 #[.pointer (some ⟨g, 0, none⟩)] W (BadP g q.2.2 W) := by
 have HN := num_cur g s 40 W hc (by decide) (by decide)
 obtain ⟨r, hr⟩ : ∃ r, numA s 40 = r := ⟨_, rfl⟩
 unfold Fl.ask at hq
 rw [hr] at HN hq
 subst hq
 simp only at h0 ⊢
 generalize hE0 : (Fn.ask (decide (0 < r.1) || decide (r.2.2 ≠ 0)) 6 r.2).2 = er at h0 ⊢
 have HEr := Lib.hid (fun W2 (h2 : Cur W2 g r.2) => err_cur g r.2 W2 h2)
 clear hc hr
 by_cases h2 : r.2.2 = 0
 · have hn : r.1 = 0 := by
     rcases Nat.eq_zero_or_pos r.1 with h | h
     · exact h
     · exact absurd (show er = 0 by rw [← hE0, Fn.ask_ok (by simp [h])]; exact h2) h0
   have hE : Hid (er = 6) := Lib.hid (by
     rw [← hE0]
     unfold Fn.ask failA
     simp [hn, h2])
   have HMk := Lib.hid (fun W2 => flmust_ok r.2.2 h2 W2)
   have HMn := Lib.hid (fun W2 => flmany_any r.1 W2)
   have HM2 := Lib.hid (fun W2 => flmust_bad (Fl.few r.1) (by rw [hn]; decide) W2)
   have HFw : Hid (Fl.few r.1 = 6) := Lib.hid (by rw [hn]; rfl)
   clear hn h0 h2 hE0
   go_enter Tryz.func68, Tryz.ntmps68
   go_wp2_with (go_at_call 106; refine HN.mono ?_; rintro _ w2 ⟨rfl, hc2, hg2⟩; clear HN; refine Hid.out ?_)
   have HF := Lib.hid hg2
   have HE := Lib.hid (HEr.out _ hc2)
   have HK := Lib.hid (HMk.out w2)
   clear hc2 hg2 HEr HMk
   refine Lib.hid ?_
   go_wp2_with (first
     | (go_at_call 107; refine HE.out.mono ?_; rintro _ w4 ⟨rfl, he⟩; obtain rfl := he.symm)
     | (go_at_call 57; refine HK.out.mono ?_; clear HK; rintro _ w4 ⟨rfl, he⟩; obtain rfl := he.symm)
     | (go_at_call 58; refine (HMn.out _).mono ?_; rintro _ w4 ⟨rfl, he⟩; obtain rfl := he.symm)
     | (go_at_call 57; refine (HM2.out _).mono ?_; rintro _ w4 ⟨rfl, he⟩; obtain rfl := he.symm))
   exact ⟨rfl, by rw [hE.out, HFw.out], HF.out⟩
 · have hE : Hid (er = r.2.2) := Lib.hid (by rw [← hE0, Fn.ask_ok (by simp [h2])])
   have HMk := Lib.hid (fun W2 => flmust_bad r.2.2 h2 W2)
   clear h0 h2 hE0
   go_enter Tryz.func68, Tryz.ntmps68
   go_wp2_with (go_at_call 106; refine HN.mono ?_; rintro _ w2 ⟨rfl, hc2, hg2⟩; clear HN; refine Hid.out ?_)
   have HF := Lib.hid hg2
   have HE := Lib.hid (HEr.out _ hc2)
   have HK := Lib.hid (HMk.out w2)
   clear hc2 hg2 HEr HMk
   refine Lib.hid ?_
   go_wp2_with (first
     | (go_at_call 107; refine HE.out.mono ?_; rintro _ w4 ⟨rfl, he⟩; obtain rfl := he.symm)
     | (go_at_call 57; refine HK.out.mono ?_; clear HK; rintro _ w4 ⟨rfl, he⟩; obtain rfl := he.symm))
   exact ⟨rfl, by rw [hE.out], HF.out⟩
end Go.Proofs.YtdopheoedpldiaaGreatDoor
namespace Go.Proofs.YtdopheoedpldiaaGreatDoor
open Go.RowKit
namespace Fl
open _root_.Go.Proofs.YtdopheoedpldiaaGreatDoor.Fn (F)
def stop : Nat → List Nat × Nat → Nat
 | 0, _ => 0
 | k + 1, s => if stop k s ≠ 0 then stop k s else (fnS (k + 1) s).2
def dec (b : List Nat) : List F × Nat :=
 if b.take 4 ≠ magic then ([], 5)
 else if (howMany b).2.2 ≠ 0 then ([], (howMany b).2.2)
 else if stop (howMany b).1 (howMany b).2 ≠ 0 then ([], stop (howMany b).1 (howMany b).2)
 else if Nm.unlike (names (fnV (howMany b).2 (howMany b).1)) = false then ([], 7)
 else if endA (fnS (howMany b).1 (howMany b).2) ≠ 0 then ([], endA (fnS (howMany b).1 (howMany b).2))
 else (fnV (howMany b).2 (howMany b).1, 0)
theorem stop_on {s : List Nat × Nat} {k : Nat} (h : stop k s = 0) : stop (k + 1) s = (fnS (k + 1) s).2 := by rw [stop, if_neg (by omega)]
theorem stop_stays {s : List Nat × Nat} {k : Nat} (h : stop k s ≠ 0) : ∀ n, k ≤ n → stop n s = stop k s
 | 0, hn => by obtain rfl : k = 0 := by omega
               rfl
 | n + 1, hn => by
   by_cases e : k = n + 1
   · rw [e]
   · have h1 := stop_stays h n (by omega)
     rw [stop, if_pos (by rw [h1]; exact h), h1]
theorem stop_zero {s : List Nat × Nat} (hs : s.2 = 0) : ∀ {k : Nat}, stop k s = 0 → (fnS k s).2 = 0
 | 0, _ => hs
 | k + 1, h => by
   by_cases e : stop k s = 0
   · rwa [stop_on e] at h
   · rw [stop, if_pos e] at h
     exact absurd h e
theorem stop_none {s : List Nat × Nat} : ∀ {k : Nat}, (∀ j, j ≤ k → (fnS j s).2 = 0) → stop k s = 0
 | 0, _ => rfl
 | k + 1, h => by rw [stop_on (stop_none fun j hj => h j (by omega))]; exact h (k + 1) (Nat.le_refl _)
theorem stop_laid {l : List F} (h : can l = 0) (hw : ∀ f ∈ l, f.Wf) (r : List Nat) : (howMany (laid l ++ r)).2.2 = 0 ∧ stop (howMany (laid l ++ r)).1 (howMany (laid l ++ r)).2 = 0 := by
 obtain ⟨_, _, h3, _⟩ := can_ok.1 h
 rw [many_back h]
 simp only
 refine ⟨trivial, stop_none fun j hj => ?_⟩
 rw [(fns_back (fun f hf => ⟨h3 f hf, hw f hf⟩) r j hj).1]
theorem dec_back {l : List F} (h : can l = 0) (hw : ∀ f ∈ l, f.Wf) : dec (laid l) = (l, 0) := by
 obtain ⟨e0, e1, e2⟩ := taken_back h hw []
 obtain ⟨s0, s1⟩ := stop_laid h hw []
 rw [List.append_nil] at e0 e1 e2 s0 s1
 obtain ⟨_, _, _, h4⟩ := can_ok.1 h
 unfold dec
 rw [if_neg (by rw [e0]; exact fun h => h rfl), if_neg (by omega), if_neg (by omega), e1, e2, if_neg (by rw [h4]; decide), if_neg (by decide)]
theorem dec_more {l : List F} (h : can l = 0) (hw : ∀ f ∈ l, f.Wf) {r : List Nat} (hr : r ≠ []) : dec (laid l ++ r) = ([], 4) := by
 obtain ⟨e0, e1, e2⟩ := taken_back h hw r
 obtain ⟨s0, s1⟩ := stop_laid h hw r
 obtain ⟨_, _, _, h4⟩ := can_ok.1 h
 have he : endA (r, 0) = 4 := by
   unfold endA
   rw [if_neg (fun h => h rfl), if_pos (by cases r with | nil => exact absurd rfl hr | cons c r => simp)]
 unfold dec
 rw [if_neg (by rw [e0]; exact fun h => h rfl), if_neg (by omega), if_neg (by omega), e1, e2, if_neg (by rw [h4]; decide), he, if_pos (by decide)]
end Fl
theorem else_cursor : Else 137 := by unfold Else; decide
theorem Cur.kind {w : World} {g : Nat} {s : List Nat × Nat} (h : Cur w g s) : ∃ C t m, w.heap[g]? = some (.cells C t m) ∧ Else t := by
 obtain ⟨A, n, c, m, e0, h1, _⟩ := h
 exact ⟨_, _, _, h1, else_cursor⟩
theorem sets_kind {b : Nat} {t : TypeId} : ∀ (l : List Value) (o : Nat) (w : World), (∃ C m, w.heap[b]? = some (.cells C t m)) → ∃ C m, (w.setCells b o l).heap[b]? = some (.cells C t m)
 | [], _, _, h => h
 | v :: r, o, w, h => by
   obtain ⟨C, m, h⟩ := h
   exact sets_kind r (o + 1) _ ⟨_, _, heap_set h v⟩
theorem there_eq {w w' : World} {b o n : Nat} (h : w.there b o n) (e : w'.heap[b]? = w.heap[b]?) : w'.there b o n := fun j hj => by
 rw [World.cell?_of_block (a := ⟨b, o + j, none⟩) e, World.frozen?_of_block (a := ⟨b, o + j, none⟩) e]
 exact h j hj
theorem range_eq {w w' : World} {b o : Nat} {cs : List Value} (h : w.rangeAt b o cs) (e : w'.heap[b]? = w.heap[b]?) : w'.rangeAt b o cs := fun j v hv => by
 rw [World.cell?_of_block (a := ⟨b, o + j, none⟩) e]
 exact h j v hv
theorem there_part {w : World} {b n k : Nat} (h : w.there b 0 (n * 11)) (hk : k < n) : w.there b (k * 11) 11 := fun j hj => by
 have := h (k * 11 + j) (by omega)
 rwa [Nat.zero_add] at this
theorem tab_eq {w w' : World} (h : Tab w) (e : w'.heap[0]? = w.heap[0]?) : Tab w' := fun j hj => by
 rw [World.cell?_of_block (a := ⟨0, j, none⟩) e]
 exact h j hj
theorem ok_dies {P : Program} {ops : Array Oper} {Q : Exit → Act → World → Prop} {o : Oper} {a : Act} {w : World} {f : FuncId} {args : Array Value} {K : Act → World → Prop} {R : Ending → World → Prop} (hw : Region.wanted o (yielded ops a.tmps) = true) (hrun : (execOp a.eval o).run P w = .ok (.enter f args) w)
   (hc : Calls P f args w R) (hK : ∀ e w', R e w' → ∃ ch, e = .panicked ch ∧ Q (.panic ch) a w') :
   if Region.wanted o (yielded ops a.tmps) = true then Oper.wp P o a w K Q else K (a.put o.dst undef) w := by
 rw [if_pos hw]
 unfold Oper.wp
 rw [hrun]
 refine hc.mono ?_
 intro e w' hR
 obtain ⟨ch, rfl, h⟩ := hK e w' hR
 exact h
structure Got (q n : Nat) (B : Nat) (us : List FnV) (fs : List Fn.F) (W : World) : Prop where
 kind : ∃ C m, W.heap[q]? = some (.cells C 43 m)
 room : W.there q 0 (n * 11)
 got : ∀ j, j < us.length → W.rangeAt q (j * 11) (us.getD j .zero).cells.toList
 own : ∀ j, j < us.length → FnOwn W B (us.getD j .zero) (fs.getD j .zero)
theorem Got.kept {q n B : Nat} {us : List FnV} {fs : List Fn.F} {W W' : World} {row : Option Nat} (h : Got q n B us fs W) (hg : W.grownBy W' row) (hr : ∀ b, row = some b → ∃ C t m, W.heap[b]? = some (.cells C t m) ∧ Else t) (hq : row ≠ some q) : Got q n B us fs W' := by
 obtain ⟨C, m, h1⟩ := h.kind
 have e := hg.block q (heap_lt h1) (fun e => hq e.symm)
 exact ⟨⟨C, m, e.trans h1⟩, there_eq h.room e, fun j hj => range_eq (h.got j hj) e, fun j hj => (h.own j hj).kept hg hr⟩
theorem Got.ends {q n B : Nat} {us : List FnV} {fs : List Fn.F} {W : World} (h : Got q n B us fs W) (hu : us.length = n) (hf : fs.length = n) (hn : ∀ f ∈ fs, f.name.size ≤ 9223372036854775807) : FnsAt W W.heap.size (some ⟨q, 0, none⟩) n us fs := by
 obtain ⟨C, m, h1⟩ := h.kind
 refine ⟨hu, hf, fun k hk => (h.own k (by omega)).ok, fun k hk => (h.own k (by omega)).lens (hn _ (by simp [List.getD, show k < fs.length by omega])), fun _ => ⟨q, 0, rfl, heap_lt h1, fun k hk j hj => ?_⟩⟩
 rw [Nat.zero_add]
 have h2 : (us.getD k .zero).cells.toList[j]? = some ((us.getD k .zero).cells[j]'(by exact hj)) := by rw [Array.getElem?_toList, Array.getElem?_eq_getElem (by exact hj)]
 rw [h.got k (by omega) j _ h2, Array.getElem?_eq_getElem (by exact hj)]
end Go.Proofs.YtdopheoedpldiaaGreatDoor
namespace Go.Proofs.YtdopheoedpldiaaGreatDoor
open Go.RowKit
structure RdC (g q n k : Nat) (W1 : World) (s s' : List Nat × Nat) (f : Fn.F) (us : List FnV) (fs : List Fn.F) (x : FnV) (D : Nat → Bool) (W : World) : Prop where
 off : Off g q W1 W
 cur : Cur W g (if D 4 = true then s' else s)
 got : Got q n W1.heap.size us fs W
 new : D 4 = true → FnOwn W W1.heap.size x f
 fin : D 6 = true → W.rangeAt q (k * 11) x.cells.toList
 le : W1.heap.size ≤ W.heap.size
section
variable {g q n k : Nat} {W1 W : World} {s s' : List Nat × Nat} {f : Fn.F} {us : List FnV} {fs : List Fn.F} {x : FnV} {D : Nat → Bool}
theorem RdC.up (h : RdC g q n k W1 s s' f us fs x D W) {i : Nat} (h1 : (4 == i) = false) (h2 : (6 == i) = false) : RdC g q n k W1 s s' f us fs x (add D i) W :=
 ⟨h.off, by rw [up_other h1]; exact h.cur, h.got, by rw [up_other h1]; exact h.new, by rw [up_other h2]; exact h.fin, h.le⟩
theorem RdC.cur0 (h : RdC g q n k W1 s s' f us fs x D W) (hc : D 4 = false) : Cur W g s := by
 have := h.cur
 rwa [hc, if_neg (by decide)] at this
theorem RdC.called (h : RdC g q n k W1 s s' f us fs x D W) (h6 : D 6 = false) (hgq : g < q) (_ : g < W1.heap.size) {W' : World} {v' : FnV} (hv : FnOwn W' W.heap.size v' f) (hc : Cur W' g s') (hg : W.grownBy W' (some g)) : RdC g q n k W1 s s' f us fs v' (add D 4) W' := by
 have hk : ∀ b, some g = some b → ∃ C t m, W.heap[b]? = some (.cells C t m) ∧ Else t := fun b e => by injection e with e; subst e; exact h.cur.kind
 refine ⟨h.off.trans (Off.grown hg), by rw [up_self, if_pos rfl]; exact hc, h.got.kept hg hk (fun e => by injection e with e; omega), fun _ => hv.base h.le, ?_, Nat.le_trans h.le hg.size⟩
 rw [up_other rfl, h6]
 intro e
 cases e
theorem RdC.stored (h : RdC g q n k W1 s s' f us fs x D W) (_ : D 4 = true) (_ : D 6 = false) (hgq : g < q) (hus : us.length = k) (hlt : k < n) : RdC g q n k W1 s s' f us fs x (add D 6) (W.setCells q (k * 11) x.cells.toList) := by
 have hg := sets_grown q x.cells.toList (k * 11) W
 obtain ⟨C, m, hC⟩ := h.got.kind
 have hk : ∀ b, some q = some b → ∃ C t m, W.heap[b]? = some (.cells C t m) ∧ Else t := fun b e => by injection e with e; subst e; exact ⟨_, _, _, hC, else_func⟩
 refine ⟨h.off.trans (Off.grownp hg), ?_, ⟨sets_kind _ _ _ ⟨C, m, hC⟩, World.there_setCells h.got.room q (k * 11) x.cells.toList, fun j hj => World.rangeAt_setCells_apart (h.got.got j hj) q (k * 11) x.cells.toList ?_, fun j hj => (h.got.own j hj).kept hg hk⟩, ?_, fun _ => World.rangeAt_setCells_same W q (k * 11) x.cells.toList (there_part h.got.room hlt), Nat.le_trans h.le hg.size⟩
 · rw [up_other rfl]
   exact h.cur.kept hg (fun b e => by injection e with e; omega)
 · right
   left
   show j * 11 + 11 ≤ k * 11
   omega
 · rw [up_other rfl]
   exact fun e => (h.new e).kept hg hk
end
structure RdB (g q : Nat) (W1 : World) (s : List Nat × Nat) (D : Nat → Bool) (W : World) : Prop where
 off : Off g q W1 W
 cur : Cur W g s
 not : D 4 = false
theorem RdB.up {g q : Nat} {W1 W : World} {s : List Nat × Nat} {D : Nat → Bool} (h : RdB g q W1 s D W) {i : Nat} (h1 : (4 == i) = false) : RdB g q W1 s (add D i) W := ⟨h.off, h.cur, by rw [up_other h1]; exact h.not⟩
def readG (g q p n k : Nat) (x : FnV) : Nat → Value → Prop
 | 0, y => y = .pointer (some ⟨p, 0, none⟩)
 | 1, y => y = .slice (some ⟨q, 0, none⟩) n n
 | 2, y => y = .int .i64 (k : Int)
 | 3, y => y = .pointer (some ⟨g, 0, none⟩)
 | 4, y => y = .agg x.cells
 | 5, y => y = .pointer (some ⟨q, k * 11, none⟩)
 | _, _ => True
theorem rd_call {g q p n k : Nat} {x z : FnV} {D : Nat → Bool} (h4 : D 4 = false) : ∀ j y, D j = true → readG g q p n k x j y → readG g q p n k z j y
 | 0, _, _, h => h
 | 1, _, _, h => h
 | 2, _, _, h => h
 | 3, _, _, h => h
 | 4, _, hj, _ => by rw [h4] at hj; cases hj
 | 5, _, _, h => h
 | 6, _, _, h => h
 | _ + 7, _, _, h => h
def GotP (fs : List Fn.F) (w : World) (e : Ending) (w' : World) : Prop := ∃ (q : Nat) (us : List FnV), e = .returned (.agg #[.slice (some ⟨q, 0, none⟩) fs.length fs.length]) ∧ us.length = fs.length ∧ w.heap.size ≤ q ∧ Got q fs.length w.heap.size us fs w' ∧ (∀ f ∈ fs, f.name.size ≤ 9223372036854775807) ∧ Below w.heap.size w w'
def ReadP (o : List Fn.F × Nat) (w : World) (e : Ending) (w' : World) : Prop := (o.2 = 0 → GotP o.1 w e w') ∧ (o.2 ≠ 0 → e = .panicked [{ v := .iface 28 (.int .i64 (o.2 : Int)), recovered := false }] ∧ Below w.heap.size w w')
theorem ReadP.bad {o : List Fn.F × Nat} {er : Nat} (ho : o = ([], er)) (he : er ≠ 0) {w w' : World} (hb : Below w.heap.size w w') : ReadP o w (.panicked [{ v := .iface 28 (.int .i64 (er : Int)), recovered := false }]) w' := by
 subst ho
 exact ⟨fun h => absurd h he, fun _ => ⟨rfl, hb⟩⟩
theorem flend_cur (g : Nat) (s : List Nat × Nat) (w : World) (h : Cur w g s) :
   Calls Tryz.prog 70 #[.pointer (some ⟨g, 0, none⟩)] w fun e w' => e = .returned (.int .i64 (endA s)) ∧ w' = w := by
 refine (end_any (some ⟨g, 0, none⟩) s w (.inr ⟨g, rfl, h⟩)).mono ?_
 rintro e w' ⟨rfl, ⟨_, rfl⟩ | ⟨h, _⟩⟩
 · exact ⟨rfl, rfl⟩
 · cases h
def RdRel (g q n : Nat) (W1 : World) (s : List Nat × Nat) (i : Value) (wr : World) : Prop :=
 ∃ (k : Nat) (us : List FnV), k ≤ n ∧ i = .int .i64 (k : Int) ∧ us.length = k ∧ Fl.stop k s = 0 ∧ Off g q W1 wr ∧ Cur wr g (Fl.fnS k s) ∧ Got q n W1.heap.size us (Fl.fnV s k) wr
set_option maxHeartbeats 16000000 in
theorem flread_any (a : Option Addr) (n0 c : Nat) (lb : List Nat) (w : World) (h : BytesAt w w.heap.size a n0 lb) (hn : n0 ≤ 140737488355328) (hnc : n0 ≤ c) (hc : c ≤ 9223372036854775807) (hT : Tab w) (hgT : 0 < w.heap.size)
   (hnm : (Fl.howMany lb).2.2 = 0 → Fl.stop (Fl.howMany lb).1 (Fl.howMany lb).2 = 0 → ∀ f ∈ Fl.fnV (Fl.howMany lb).2 (Fl.howMany lb).1, f.name.size ≤ 9223372036854775807) :
   Calls Tryz.prog 31 #[.slice a n0 c] w (ReadP (Fl.dec lb) w) := by
 have b0 := (Below.refl w.heap.size w).alloc (Nat.le_refl _) (.cells #[.slice none 0 0] 24)
 have HR0 := Lib.hid (heap_alloc_new w (.cells #[.slice none 0 0] 24))
 have hsz : (w.alloc (.cells #[.slice none 0 0] 24)).heap.size = w.heap.size + 1 := World.size_alloc _ _
 have hcs := conv_magic (w.alloc (.cells #[.slice none 0 0] 24))
 have hmb := mg_bytes (w.alloc (.cells #[.slice none 0 0] 24))
 have b1 := b0.trans ((mg_below (w.alloc (.cells #[.slice none 0 0] 24))).mono b0.size)
 have hmz := mg_size (w.alloc (.cells #[.slice none 0 0] 24))
 have hr1 := ((mg_below (w.alloc (.cells #[.slice none 0 0] 24))).block w.heap.size (by rw [hsz]; omega)).trans HR0.out
 rw [hsz] at hcs hmb hmz
 have HCt := flcut_any a n0 c _ _ _ lb (mgW (w.alloc (.cells #[.slice none 0 0] 24))) ((h.below b1).more b1.size) hmb hnc hc
 have hT1 := tab_below hT b1 hgT
 have hgT1 := Nat.lt_of_lt_of_le hgT b1.size
 have B1 := Lib.hid b1
 have HR1 := Lib.hid hr1
 have HT1 := Lib.hid (And.intro hT1 hgT1)
 have HZ1 := Lib.hid hmz
 clear b0 b1 HR0 hr1 hmb hmz h hT hT1 hgT1 hsz
 by_cases hM : lb.take 4 = Fl.magic
 rotate_left
 · rw [decide_eq_false hM] at HCt
   have HO : Hid (Fl.dec lb = ([], 5)) := Lib.hid (if_pos hM)
   have HMu := flmust_bad 5 (by decide)
   clear hM hnm
   go_enter Tryz.func31, Tryz.ntmps31
   go_wp2_with (first
     | (go_at_call 66; refine HCt.mono ?_; rintro _ w2 ⟨he, a', n', c', rfl, _⟩; obtain rfl := he.symm; clear HCt)
     | (go_at_call 57; refine (HMu _).mono ?_; rintro _ w3 ⟨rfl, he⟩; obtain rfl := he.symm))
   exact ⟨rfl, ReadP.bad HO.out (by decide) B1.out⟩
 rw [decide_eq_true hM] at HCt
 have HM := Lib.hid hM
 have HNm := Lib.hid hnm
 clear hnm
 go_enter Tryz.func31, Tryz.ntmps31
 go_wp2_with (go_at_call 66; refine HCt.mono ?_; rintro _ w2 ⟨he, a', n', c', rfl, hB⟩; obtain rfl := he.symm; clear HCt; refine Hid.out ?_)
 obtain ⟨hB1, hn1⟩ := hB hM
 generalize mgW (w.alloc (.cells #[.slice none 0 0] 24)) = w1 at *
 have HNw := Lib.hid (new_any a' n' c' (lb.drop 4) w1 hB1 (by omega))
 clear hB hB1 hn1 hM hcs
 refine Lib.hid ?_
 go_wp2_with (go_at_call 67; refine HNw.out.mono ?_; rintro _ w3 ⟨g, rfl, hg3, hc3, hb3⟩; clear HNw; refine Hid.out ?_)
 have HC3 := Lib.hid hc3
 have HB3 := Lib.hid hb3
 have HG3 := Lib.hid (And.intro hg3 hc3.lt)
 obtain ⟨qn, hq⟩ : ∃ qn, Fl.howMany lb = qn := ⟨_, rfl⟩
 have hq2 : Fl.ask (lb.drop 4, 0) = qn := hq
 clear hc3 hb3 hg3
 by_cases hq0 : qn.2.2 = 0
 rotate_left
 · have HO : Hid (Fl.dec lb = ([], qn.2.2)) := Lib.hid (by unfold Fl.dec; rw [if_neg (fun h => h HM.out), hq, if_pos hq0])
   have HHw := Lib.hid (flhow_bad g _ w3 HC3.out qn hq2 hq0)
   have HQ0 := Lib.hid hq0
   clear hq hq2 hq0
   refine Lib.hid ?_
   go_wp2_with (go_at_call 68; refine HHw.out.mono ?_; rintro _ w4 ⟨rfl, hg4⟩; have HG4 := Lib.hid hg4; clear hg4 HHw)
   exact ⟨rfl, ReadP.bad HO.out HQ0.out (B1.out.trans ((HB3.out.grown HG4.out HB3.out.size (fun k e => by injection e with e; have := HG3.out.1; omega)).mono B1.out.size))⟩
 obtain ⟨n, s⟩ := qn
 simp only at hq0
 have hn40 : n ≤ 40 := by
   have h1 := Fl.num_le (lb.drop 4, 0)
   have h2 := congrArg Prod.fst hq2
   unfold Fl.ask at h2
   simp only at h2
   omega
 have HHw := Lib.hid (flhow_ok g _ w3 HC3.out (n, s) hq2 hq0)
 have HDec := Lib.hid (show Fl.dec lb = if Fl.stop n s ≠ 0 then ([], Fl.stop n s) else if Nm.unlike (Fl.names (Fl.fnV s n)) = false then ([], 7) else if endA (Fl.fnS n s) ≠ 0 then ([], endA (Fl.fnS n s)) else (Fl.fnV s n, 0) from by unfold Fl.dec; rw [if_neg (fun h => h HM.out), hq, if_neg (fun h => h hq0)])
 have HNm2 := Lib.hid (show Fl.stop n s = 0 → ∀ f ∈ Fl.fnV s n, f.name.size ≤ 9223372036854775807 from fun h => by have h3 := HNm.out; rw [hq] at h3; exact h3 hq0 h)
 have HS0 := Lib.hid hq0
 clear hq hq2 hq0 HNm
 refine Lib.hid ?_
 obtain ⟨i0, hi, hz0, hz1, hz2⟩ := info_parts info_func
 go_wp2_with (first
   | (go_at_call 68; refine HHw.out.mono ?_; clear HHw; rintro _ w4 ⟨rfl, hc4, hg4⟩; have HC4 := Lib.hid hc4; have HG4 := Lib.hid hg4; clear hc4 hg4)
   | (at_make; refine wpList_make_full _ rfl (.tmp 21) (.tmp 21) 22 rfl w4.heap.size 43 i0 (.agg FnV.zero.cells) 11 Tryz.underlying22 hi hz0 hz1 .i64 .i64 _ _ n rfl rfl rfl rfl ?m1 ?m2 (Nat.le_refl _) ?_))
 case m1 => rw [hz2]; omega
 case m2 => unfold maxLen; omega
 intro w5 hown hgrow
 have hq5 : ∃ cur : Array Value, w5.heap[w4.heap.size]? = some (.cells cur 43 (0, 0)) ∧ cur.size = n * 11 := by
   rcases hown.2 with ⟨hv, _⟩ | ⟨gg, cap, cur, hv, _, hh, _, _, hcs, _⟩
   · cases hv
   · injection hv with h1 _ h3
     injection h1 with h1
     injection h1 with h1
     subst h1 h3
     exact ⟨cur, hh, hcs⟩
 obtain ⟨cur, hcq, hcn⟩ := hq5
 have hqg : g < w4.heap.size := HC4.out.lt
 have hq5 := heap_lt hcq
 have b4 : Below w1.heap.size w1 w4 := HB3.out.grown HG4.out HB3.out.size (fun k e => by injection e with e; have := HG3.out.1; omega)
 have b45 : Below w4.heap.size w4 w5 := ⟨hgrow.os, hgrow.tape, hgrow.output, hgrow.size, fun k hk => hgrow.block k hk (by simp)⟩
 have b56 := (Below.refl w5.heap.size w5).alloc (Nat.le_refl _) (.cells #[.slice (some ⟨w4.heap.size, 0, none⟩) n n] 24)
 have b16 := b4.trans ((b45.trans (b56.mono b45.size)).mono b4.size)
 have hp1 := heap_alloc_new w5 (.cells #[.slice (some ⟨w4.heap.size, 0, none⟩) n n] 24)
 have hq1 := (b56.block _ hq5).trans hcq
 have hcu := cur_grown (cur_grown HC4.out b45) b56
 have hps : w5.heap.size < (w5.alloc (.cells #[.slice (some ⟨w4.heap.size, 0, none⟩) n n] 24)).heap.size := by simp
 have hwr := (b16.block w.heap.size (by have := HZ1.out; omega)).trans HR1.out
 have ht6 := tab_below HT1.out.1 b16 HT1.out.2
 have HBE := Lib.hid (B1.out.trans (b16.mono B1.out.size))
 have hw1z : w.heap.size + 2 = w1.heap.size := HZ1.out.symm
 have hg1 := HG3.out.1
 have htw := HT1.out.2
 clear hown hgrow b4 b45 b56 b16 HC4 HG4 HC3 HB3 HG3 HR1 HT1 B1 hcq HZ1
 go_wp2
 generalize hW1 : w5.alloc (.cells #[.slice (some ⟨w4.heap.size, 0, none⟩) n n] 24) = W1 at *
 generalize hqq : w4.heap.size = q at *
 generalize hpp : w5.heap.size = p at *
 clear hW1 hpp
 have HBW := Lib.hid (fun (W : World) (ho : Off g q W1 W) => show Below w.heap.size w W from HBE.out.trans ⟨ho.os, ho.tape, ho.output, ho.size, fun j hj => ho.block j (Nat.lt_of_lt_of_le hj HBE.out.size) (by omega) (by omega)⟩)
 have HP := Lib.hid (fun (W : World) (ho : Off g q W1 W) => show W.cell? ⟨p, 0, none⟩ = some (.slice (some ⟨q, 0, none⟩) n n) from (prog_cell ((ho.block p hps (by omega) (by omega)).trans hp1)).1)
 have HRr := Lib.hid (fun (W : World) (ho : Off g q W1 W) => (ho.block w.heap.size (heap_lt hwr) (by omega) (by omega)).trans hwr)
 have HTt := Lib.hid (fun (W : World) (ho : Off g q W1 W) => show Tab W ∧ 0 < W.heap.size from ⟨tab_eq ht6 (ho.block _ (by have := HBE.out.size; omega) (by omega) (by omega)), by have := ho.size; have := HBE.out.size; omega⟩)
 have HCu := Lib.hid hcu
 have HQ1 := Lib.hid (And.intro hq1 hcn)
 have hgT : g ≠ 0 := by omega
 have hgB : g < W1.heap.size := by omega
 clear hp1 hq1 hcn hcu hwr ht6 hi hz0 hz1 hz2
 go_loopw [7, 27] (fun _ i wr => RdRel g q n W1 s i wr) (fun _ i _ => n - (intOf i).toNat)
 case atStart => exact ⟨0, [], Nat.zero_le _, rfl, rfl, rfl, Off.refl _ _ _, HCu.out, ⟨⟨_, _, HQ1.out.1⟩, there_block HQ1.out.1 (by rw [HQ1.out.2]; omega), fun j hj => absurd hj (Nat.not_lt_zero _), fun j hj => absurd hj (Nat.not_lt_zero _)⟩⟩
 case round =>
   obtain ⟨k, us, hk, rfl, hus, hst, hof, hcu, hgot⟩ := hrel
   by_cases hlt : k < n
   · have hki : (k : Int) < (n : Int) := by omega
     have HSn : Hid (Fl.fnS (k + 1) s = (Fn.take (Fl.fnS k s)).2) := Lib.hid rfl
     have HVn : Hid (Fl.fnV s (k + 1) = Fl.fnV s k ++ [(Fn.take (Fl.fnS k s)).1]) := Lib.hid rfl
     have HSt := Lib.hid (Fl.stop_on hst)
     have HFl := Lib.hid (Fl.fnV_len s k)
     obtain ⟨o, ho⟩ : ∃ o, Fn.take (Fl.fnS k s) = o := ⟨_, rfl⟩
     rw [ho] at HSn HVn
     by_cases h0 : o.2.2 = 0
     · have HN := Lib.hid (fun (W : World) (hoW : Off g q W1 W) (hcW : Cur W g (Fl.fnS k s)) => flnext_ok g (Fl.fnS k s) W hcW (HTt.out W hoW).1 hgT (HTt.out W hoW).2 o ho h0)
       have HS0 := Lib.hid (show Fl.stop (k + 1) s = 0 by rw [HSt.out, HSn.out]; exact h0)
       have hC : RdC g q n k W1 (Fl.fnS k s) o.2 o.1 us (Fl.fnV s k) .zero (fun _ => false) wr.drew :=
         ⟨hof.trans (Off.below (Below.refl _ _).drew), cur_grown hcu (Below.refl _ _).drew, hgot.kept (grown_of none (Below.refl _ _).drew) (fun _ e => by cases e) (by simp), (fun e => by cases e), (fun e => by cases e), hof.size⟩
       have hgq : g < q := hqg
       clear hst hof hcu hgot ho h0 HSt
       go_wp2
       refine region_k (.zero : FnV) 44 (fun x D W' => RdC g q n k W1 (Fl.fnS k s) o.2 o.1 us (Fl.fnV s k) x D W') (readG g q p n k) (by kernel_rfl) (by kernel_rfl) (by kernel_rfl) rfl rfl hC ?_ ?_
       · refine ⟨?_, ?_, ?_, ?_, ?_, ?_, ?_, trivial⟩
         · intro x D a w hI hdep hD0 K hK
           have e6 : a.eval (.tmp 6) = .pointer (some ⟨p, 0, none⟩) := hI.read 6 rfl
           refine ok_value (wanted_none rfl) (v := .pointer (some ⟨p, 0, none⟩)) ?_ (hK x _ _ (hI.world.up rfl rfl) (fun _ _ _ h => h) rfl)
           obtain ⟨ec, ef⟩ := ecs a; clear hI hdep hK; generalize a.eval = ρ at e6 ec ef ⊢; go_simp
         · intro x D a w hI hdep hD0 K hK
           have e30 : a.eval (.tmp 30) = .pointer (some ⟨p, 0, none⟩) := hI.good 0 30 (dep_of hdep 0 rfl) rfl
           have z0 : w.cell? ⟨p, 0, none⟩ = some (.slice (some ⟨q, 0, none⟩) n n) := HP.out w hI.world.off
           refine ok_value (wanted_none rfl) (v := .slice (some ⟨q, 0, none⟩) n n) ?_ (hK x _ _ (hI.world.up rfl rfl) (fun _ _ _ h => h) rfl)
           obtain ⟨ec, ef⟩ := ecs a; clear hI hdep hK; generalize a.eval = ρ at e30 ec ef ⊢; go_simp
         · intro x D a w hI hdep hD0 K hK
           have e7 : a.eval (.tmp 7) = .int .i64 (k : Int) := hI.read 7 rfl
           refine ok_value (wanted_none rfl) (v := .int .i64 (k : Int)) ?_ (hK x _ _ (hI.world.up rfl rfl) (fun _ _ _ h => h) rfl)
           obtain ⟨ec, ef⟩ := ecs a; clear hI hdep hK; generalize a.eval = ρ at e7 ec ef ⊢; go_simp
         · intro x D a w hI hdep hD0 K hK
           have e5 : a.eval (.tmp 5) = .pointer (some ⟨g, 0, none⟩) := hI.read 5 rfl
           refine ok_value (wanted_none rfl) (v := .pointer (some ⟨g, 0, none⟩)) ?_ (hK x _ _ (hI.world.up rfl rfl) (fun _ _ _ h => h) rfl)
           obtain ⟨ec, ef⟩ := ecs a; clear hI hdep hK; generalize a.eval = ρ at e5 ec ef ⊢; go_simp
         · intro x D a w hI hdep hD0 K hK
           have e33 : a.eval (.tmp 33) = .pointer (some ⟨g, 0, none⟩) := hI.good 3 33 (dep_of hdep 3 rfl) rfl
           refine ok_call (wanted_none rfl) (f := 69) (args := #[.pointer (some ⟨g, 0, none⟩)]) ?_ (HN.out w hI.world.off (hI.world.cur0 hD0)) ?_
           · obtain ⟨ec, ef⟩ := ecs a; clear hI hdep hK; generalize a.eval = ρ at e33 ec ef ⊢; go_simp
           · rintro e w2 ⟨v2, rfl, hv, hc2, hg2⟩
             exact ⟨_, rfl, hK v2 _ _ (hI.world.called (hI.not_up hD0 6 rfl) hgq hgB hv hc2 hg2) (rd_call hD0) rfl⟩
         · intro x D a w hI hdep hD0 K hK
           have e31 : a.eval (.tmp 31) = .slice (some ⟨q, 0, none⟩) n n := hI.good 1 31 (dep_of hdep 1 rfl) rfl
           have e32 : a.eval (.tmp 32) = .int .i64 (k : Int) := hI.good 2 32 (dep_of hdep 2 rfl) rfl
           refine ok_value (wanted_none rfl) (v := .pointer (some ⟨q, k * 11, none⟩)) ?_ (hK x _ _ (hI.world.up rfl rfl) (fun _ _ _ h => h) rfl)
           obtain ⟨ec, ef⟩ := ecs a; clear hI hdep hK; generalize a.eval = ρ at e31 e32 ec ef ⊢; go_simp
         · intro x D a w hI hdep hD0 K hK
           have e35 : a.eval (.tmp 35) = .pointer (some ⟨q, k * 11, none⟩) := hI.good 5 35 (dep_of hdep 5 rfl) rfl
           have e34 : a.eval (.tmp 34) = .agg x.cells := hI.good 4 34 (dep_of hdep 4 rfl) rfl
           have hc := dep_of hdep 4 rfl
           have hst := run_storeAt_mid (P := Tryz.prog) w q (k * 11) 43 x.cells (there_part hI.world.got.room hlt) (by kernel_rfl) (by kernel_rfl)
           refine ok_store (wanted_none rfl) (w' := w.setCells q (k * 11) x.cells.toList) ?_ (hK x undef _ (hI.world.stored hc hD0 hgq hus hlt) (fun _ _ _ h => h) trivial)
           clear hI hdep hK
           generalize a.eval = ρ at e34 e35 ⊢
           simp [execOp, e34, e35, hst]
       · intro x D a w8 hI hD
         have hfr := hI.frame [(30, .pointer (some ⟨p, 0, none⟩)), (31, .slice (some ⟨q, 0, none⟩) n n), (32, .int .i64 (k : Int)), (33, .pointer (some ⟨g, 0, none⟩)), (34, .agg x.cells), (35, .pointer (some ⟨q, k * 11, none⟩))] (all_cons (hI.good 0 30 (hD 0 (by decide)) rfl) (all_cons (hI.good 1 31 (hD 1 (by decide)) rfl) (all_cons (hI.good 2 32 (hD 2 (by decide)) rfl) (all_cons (hI.good 3 33 (hD 3 (by decide)) rfl) (all_cons (hI.good 4 34 (hD 4 (by decide)) rfl) (all_cons (hI.good 5 35 (hD 5 (by decide)) rfl) all_nil)))))) rfl
         have hW := hI.world
         clear hI
         subst hfr
         simp only [List.foldl_cons, List.foldl_nil, List.setIfInBounds_toArray, List.set_cons_succ, List.set_cons_zero]
         have H1 := Lib.hid (And.intro hW.off (And.intro hW.cur (And.intro hW.got (And.intro (hW.new (hD 4 (by decide))) (hW.fin (hD 6 (by decide)))))))
         rw [hD 4 (by decide), if_pos rfl] at H1
         clear hW hD hC HN
         go_wp2
         go_roundw
         case rel =>
           refine ⟨k + 1, us ++ [x], hlt, by go_num, by rw [List.length_append, hus]; rfl, HS0.out, H1.out.1, by rw [HSn.out]; exact H1.out.2.1, H1.out.2.2.1.kind, H1.out.2.2.1.room, fun j hj => ?_, fun j hj => ?_⟩
           · rw [List.length_append, List.length_singleton] at hj
             by_cases hjl : j < us.length
             · rw [getD_init us x _ hjl]; exact H1.out.2.2.1.got j hjl
             · obtain rfl : j = us.length := by omega
               rw [getD_last, hus]
               exact H1.out.2.2.2.2
           · rw [List.length_append, List.length_singleton] at hj
             rw [HVn.out]
             by_cases hjl : j < us.length
             · rw [getD_init us x _ hjl, getD_init (Fl.fnV s k) o.1 _ (by rw [HFl.out]; omega)]; exact H1.out.2.2.1.own j hjl
             · obtain rfl : j = us.length := by omega
               have hgl := getD_last (Fl.fnV s k) o.1 Fn.F.zero
               rw [HFl.out] at hgl
               rw [getD_last, hus, hgl]
               exact H1.out.2.2.2.1
         case measure => simp [intOf]; omega
     · have HN := Lib.hid (fun (W : World) (hoW : Off g q W1 W) (hcW : Cur W g (Fl.fnS k s)) => flnext_bad g (Fl.fnS k s) W hcW (HTt.out W hoW).1 hgT (HTt.out W hoW).2 o ho h0)
       have HNZ := Lib.hid h0
       have HO : Hid (Fl.dec lb = ([], o.2.2)) := Lib.hid (by
         have h1 : Fl.stop (k + 1) s = o.2.2 := by rw [HSt.out, HSn.out]
         have h2 := Fl.stop_stays (by rw [h1]; exact h0) n (show k + 1 ≤ n by omega)
         rw [HDec.out, h2, h1, if_pos h0])
       have hC : RdB g q W1 (Fl.fnS k s) (fun _ => false) wr.drew :=
         ⟨hof.trans (Off.below (Below.refl _ _).drew), cur_grown hcu (Below.refl _ _).drew, rfl⟩
       unfold BadP at HN
       clear hst hof hcu hgot ho h0 HSt HSn HVn HFl
       go_wp2
       refine region_k (.zero : FnV) 44 (fun _ D W' => RdB g q W1 (Fl.fnS k s) D W') (readG g q p n k) (by kernel_rfl) (by kernel_rfl) (by kernel_rfl) rfl rfl hC ?_ ?_
       · refine ⟨?_, ?_, ?_, ?_, ?_, ?_, ?_, trivial⟩
         · intro x D a w hI hdep hD0 K hK
           have e6 : a.eval (.tmp 6) = .pointer (some ⟨p, 0, none⟩) := hI.read 6 rfl
           refine ok_value (wanted_none rfl) (v := .pointer (some ⟨p, 0, none⟩)) ?_ (hK x _ _ (hI.world.up rfl) (fun _ _ _ h => h) rfl)
           obtain ⟨ec, ef⟩ := ecs a; clear hI hdep hK; generalize a.eval = ρ at e6 ec ef ⊢; go_simp
         · intro x D a w hI hdep hD0 K hK
           have e30 : a.eval (.tmp 30) = .pointer (some ⟨p, 0, none⟩) := hI.good 0 30 (dep_of hdep 0 rfl) rfl
           have z0 : w.cell? ⟨p, 0, none⟩ = some (.slice (some ⟨q, 0, none⟩) n n) := HP.out w hI.world.off
           refine ok_value (wanted_none rfl) (v := .slice (some ⟨q, 0, none⟩) n n) ?_ (hK x _ _ (hI.world.up rfl) (fun _ _ _ h => h) rfl)
           obtain ⟨ec, ef⟩ := ecs a; clear hI hdep hK; generalize a.eval = ρ at e30 ec ef ⊢; go_simp
         · intro x D a w hI hdep hD0 K hK
           have e7 : a.eval (.tmp 7) = .int .i64 (k : Int) := hI.read 7 rfl
           refine ok_value (wanted_none rfl) (v := .int .i64 (k : Int)) ?_ (hK x _ _ (hI.world.up rfl) (fun _ _ _ h => h) rfl)
           obtain ⟨ec, ef⟩ := ecs a; clear hI hdep hK; generalize a.eval = ρ at e7 ec ef ⊢; go_simp
         · intro x D a w hI hdep hD0 K hK
           have e5 : a.eval (.tmp 5) = .pointer (some ⟨g, 0, none⟩) := hI.read 5 rfl
           refine ok_value (wanted_none rfl) (v := .pointer (some ⟨g, 0, none⟩)) ?_ (hK x _ _ (hI.world.up rfl) (fun _ _ _ h => h) rfl)
           obtain ⟨ec, ef⟩ := ecs a; clear hI hdep hK; generalize a.eval = ρ at e5 ec ef ⊢; go_simp
         · intro x D a w hI hdep hD0 K hK
           have e33 : a.eval (.tmp 33) = .pointer (some ⟨g, 0, none⟩) := hI.good 3 33 (dep_of hdep 3 rfl) rfl
           refine ok_dies (wanted_none rfl) (f := 69) (args := #[.pointer (some ⟨g, 0, none⟩)]) ?_ (HN.out w hI.world.off hI.world.cur) ?_
           · obtain ⟨ec, ef⟩ := ecs a; clear hI hdep hK; generalize a.eval = ρ at e33 ec ef ⊢; go_simp
           · rintro e w2 ⟨rfl, hg2⟩
             exact ⟨_, rfl, hI.defers, ReadP.bad HO.out HNZ.out (HBW.out _ (hI.world.off.trans (Off.grown hg2)))⟩
         · intro x D a w hI hdep hD0 K hK
           have e31 : a.eval (.tmp 31) = .slice (some ⟨q, 0, none⟩) n n := hI.good 1 31 (dep_of hdep 1 rfl) rfl
           have e32 : a.eval (.tmp 32) = .int .i64 (k : Int) := hI.good 2 32 (dep_of hdep 2 rfl) rfl
           refine ok_value (wanted_none rfl) (v := .pointer (some ⟨q, k * 11, none⟩)) ?_ (hK x _ _ (hI.world.up rfl) (fun _ _ _ h => h) rfl)
           obtain ⟨ec, ef⟩ := ecs a; clear hI hdep hK; generalize a.eval = ρ at e31 e32 ec ef ⊢; go_simp
         · intro x D a w hI hdep hD0 K hK
           have e35 : a.eval (.tmp 35) = .pointer (some ⟨q, k * 11, none⟩) := hI.good 5 35 (dep_of hdep 5 rfl) rfl
           exact absurd (dep_of hdep 4 rfl) (by rw [hI.world.not]; decide)
       · intro x D a w8 hI hD
         exact absurd (hD 4 (by decide)) (by rw [hI.world.not]; decide)
   · obtain rfl : k = n := by omega
     have hki : ¬ (k : Int) < (k : Int) := by omega
     have hp0 := HP.out wr hof
     have hr0 := HRr.out wr hof
     have HFs := Lib.hid (hgot.ends hus (Fl.fnV_len s k) (HNm2.out hst))
     have HUn := Lib.hid (flunlike_any (some ⟨q, 0, none⟩) k k us (Fl.fnV s k) wr HFs.out (by omega))
     have HBr := Lib.hid (HBW.out wr hof)
     have HEn := Lib.hid (flend_cur g (Fl.fnS k s))
     have HCw := Lib.hid hcu
     have HGo := Lib.hid hgot
     have HNn := Lib.hid (HNm2.out hst)
     have HOF := Lib.hid hof
     have hD1 : Fl.dec lb = if Nm.unlike (Fl.names (Fl.fnV s k)) = false then ([], 7) else if endA (Fl.fnS k s) ≠ 0 then ([], endA (Fl.fnS k s)) else (Fl.fnV s k, 0) := by rw [HDec.out, if_neg (fun h => h hst)]
     unfold ErrP at HUn
     clear hst hcu hgot
     cases hu : Nm.unlike (Fl.names (Fl.fnV s k)) with
     | false =>
       rw [hu] at HUn
       rw [if_pos hu] at hD1
       have HO := Lib.hid hD1
       have HM := Lib.hid (flmust_bad 7 (by decide))
       clear hD1 hu hr0 hof
       go_wp2_with (first
         | (go_at_call 59; refine HUn.out.mono ?_; rintro _ w8 ⟨rfl, hb8⟩; have HB8 := Lib.hid (HBr.out.trans (hb8.mono HBr.out.size)); clear hb8 HUn hp0)
         | (go_at_call 57; refine (HM.out _).mono ?_; rintro _ w9 ⟨rfl, he⟩; obtain rfl := he.symm))
       exact ⟨rfl, ReadP.bad HO.out (by decide) HB8.out⟩
     | true =>
       rw [hu] at HUn
       rw [if_neg (by rw [hu]; decide)] at hD1
       have HM := Lib.hid (flmust_ok 0 rfl)
       generalize hen : endA (Fl.fnS k s) = er at *
       by_cases he0 : er = 0
       · have HO : Hid (Fl.dec lb = (Fl.fnV s k, 0)) := Lib.hid (by rw [hD1, if_neg (fun h => h he0)])
         have HM2 := Lib.hid (flmust_ok er he0)
         clear hD1 hu he0 hen
         go_wp2_with (first
           | (go_at_call 59; refine HUn.out.mono ?_; rintro _ w8 ⟨rfl, hb8⟩; have HB8 := Lib.hid hb8; clear HUn; have hp8 := (hb8.cell (p := ⟨p, 0, none⟩) (show p < wr.heap.size by have := hof.size; omega)).trans hp0; have hr8 := (hb8.block w.heap.size (heap_lt hr0)).trans hr0; have HR8 := Lib.hid hr8; have HC8 := Lib.hid (cur_grown HCw.out hb8); have q1 := (prog_cell hr8).1; have q2 := (prog_cell hr8).2; clear hb8 hp0 hr0 hr8)
           | (go_at_call 57; refine (HM.out _).mono ?_; clear HM; rintro _ w9 ⟨rfl, he⟩; obtain rfl := he.symm)
           | (go_at_call 70; refine (HEn.out _ HC8.out).mono ?_; rintro _ w9 ⟨rfl, he⟩; obtain rfl := he.symm)
           | (go_at_call 57; refine (HM2.out _).mono ?_; rintro _ w9 ⟨rfl, he⟩; obtain rfl := he.symm))
         have hse := heap_set (i := 0) HR8.out (.slice (some ⟨q, 0, none⟩) k k)
         have r0 := (prog_cell (u := .slice (some ⟨q, 0, none⟩) k k) hse).1
         have hg := Lib.grownBy_setB (World.grownBy.refl w8 (some w.heap.size)) 0 (.slice (some ⟨q, 0, none⟩) k k)
         have hr : ∀ b, some w.heap.size = some b → ∃ C t m, w8.heap[b]? = some (.cells C t m) ∧ Else t := fun b e => by injection e with e; subst e; exact ⟨_, _, _, HR8.out, else_program⟩
         have hG8 := (HGo.out.kept (grown_of none HB8.out) (fun _ e => by cases e) (by simp)).kept hg hr (fun e => by injection e with e; omega)
         have hlf := Fl.fnV_len s k
         have hgz : Got q (Fl.fnV s k).length w.heap.size us (Fl.fnV s k) (w8.setCell ⟨w.heap.size, 0, none⟩ (.slice (some ⟨q, 0, none⟩) k k)) := by
           rw [hlf]
           exact ⟨hG8.kind, hG8.room, hG8.got, fun j hj => (hG8.own j hj).base HBE.out.size⟩
         have HF := Lib.hid (show GotP (Fl.fnV s k) w (.returned (.agg #[.slice (some ⟨q, 0, none⟩) k k])) (w8.setCell ⟨w.heap.size, 0, none⟩ (.slice (some ⟨q, 0, none⟩) k k)) from
           ⟨q, us, by rw [hlf], by rw [hlf]; exact hus, by omega, hgz, HNn.out, (HBr.out.trans (HB8.out.mono HBr.out.size)).setCell (Nat.le_refl _) _⟩)
         clear hgz hlf
         clear hse hg hr hG8 hof
         exact bodyPost_ret (v := .agg #[.slice (some ⟨q, 0, none⟩) k k]) (by simp [results, Tryz.results31, go_sem, r0]) rfl (by rw [HO.out]; exact ⟨fun _ => HF.out, fun h => absurd rfl h⟩)
       · have HO : Hid (Fl.dec lb = ([], er)) := Lib.hid (by rw [hD1, if_pos he0])
         have HM2 := Lib.hid (flmust_bad er he0)
         have HN0 := Lib.hid he0
         clear hD1 hu he0 hen hr0 hof
         go_wp2_with (first
           | (go_at_call 59; refine HUn.out.mono ?_; rintro _ w8 ⟨rfl, hb8⟩; have HB8 := Lib.hid (HBr.out.trans (hb8.mono HBr.out.size)); clear HUn hp0; have HC8 := Lib.hid (cur_grown HCw.out hb8); clear hb8)
           | (go_at_call 57; refine (HM.out _).mono ?_; clear HM; rintro _ w9 ⟨rfl, he⟩; obtain rfl := he.symm)
           | (go_at_call 70; refine (HEn.out _ HC8.out).mono ?_; rintro _ w9 ⟨rfl, he⟩; obtain rfl := he.symm)
           | (go_at_call 57; refine (HM2.out _).mono ?_; rintro _ w9 ⟨rfl, he⟩; obtain rfl := he.symm))
         exact ⟨rfl, ReadP.bad HO.out HN0.out HB8.out⟩
end Go.Proofs.YtdopheoedpldiaaGreatDoor
namespace Go.Proofs.YtdopheoedpldiaaGreatDoor
open Go.RowKit
theorem Fl.dec_none (b : List Nat) (h : (Fl.dec b).2 ≠ 0) : (Fl.dec b).1 = [] := by
 unfold Fl.dec at h ⊢
 repeat' split
 all_goals first
   | rfl
   | (exfalso; apply h; repeat (first | rw [if_neg (by assumption)] | rw [if_pos (by assumption)]))
theorem dcatch_bad (p : Addr) (c : Value) (x : Int) (older : List PanicEntry) (w : World) (hc : w.cell? p = some c) (hz : w.frozen? p = false) :
   CallsD Tryz.prog 30 #[.pointer (some p)] (.panicking ({ v := .iface 28 (.int .i64 x), recovered := false } :: older)) w fun e u' w' =>
     e = .returned (.tuple #[]) ∧ u' = .panicking ({ v := .iface 28 (.int .i64 x), recovered := true } :: older) ∧ w' = w.setCell p (.int .i64 x) := by
 have HE := ended_err x w
 refine callsD_of_wpS Tryz.func30 rfl fun c₀ cs hu => ?_
 apply wpS_region
 simp [wpOpsS, go_sem, recoverD, hu, Tryz.ntmps30]
 refine HE.mono ?_
 rintro e w' ⟨rfl, rfl⟩
 simp [go_sem, hc, hz, bodyPostS, results, Tryz.results30]
theorem dcatch_idle (p : Addr) (c : Value) (w : World) (hc : w.cell? p = some c) (hz : w.frozen? p = false) :
   CallsD Tryz.prog 30 #[.pointer (some p)] .returning w fun e u' w' => e = .returned (.tuple #[]) ∧ u' = .returning ∧ w' = w.setCell p (.int .i64 0) := by
 have HE := ended_nil w
 refine callsD_of_wpS Tryz.func30 rfl fun c₀ cs hu => ?_
 apply wpS_region
 simp [wpOpsS, go_sem, recoverD, hu, Tryz.ntmps30]
 refine HE.mono ?_
 rintro e w' ⟨rfl, rfl⟩
 cases c₀
 simp_all [go_sem, bodyPostS, results, Tryz.results30]
def DecP (o : List Fn.F × Nat) (w : World) (e : Ending) (w' : World) : Prop := ∃ (s : Sl3) (us : List FnV), e = .returned (.tuple #[.agg #[s.val], .int .i64 (o.2 : Int)]) ∧ s.n = o.1.length ∧ FnsAt w' w'.heap.size s.a s.n us o.1 ∧ s.nilOk ∧ Below w.heap.size w w'
theorem Got.set {q n B b i : Nat} {us : List FnV} {fs : List Fn.F} {W : World} {C : Array Value} {t : TypeId} {m : Nat × Nat} (h : Got q n B us fs W) (hb : W.heap[b]? = some (.cells C t m)) (ht : Else t) (hq : b ≠ q) (v : Value) : Got q n B us fs (W.setCell ⟨b, i, none⟩ v) :=
 h.kept (Lib.grownBy_setB (World.grownBy.refl W (some b)) i v) (fun b' e => by injection e with e; subst e; exact ⟨_, _, _, hb, ht⟩) (fun e => by injection e with e; exact hq e)
theorem else_errno : Else 28 := by unfold Else; decide
theorem block_set {w : World} {b b' i : Nat} {o : Obj} (h : w.heap[b]? = some o) (hne : b ≠ b') (v : Value) : (w.setCell ⟨b', i, none⟩ v).heap[b]? = some o := (Below.heap_setCell w ⟨b', i, none⟩ v b hne).trans h
theorem dec_results {tmps : Array Value} {w : World} {r e : Nat} {u x : Value} (h2 : tmps.getD 2 undef = .pointer (some ⟨r, 0, none⟩)) (h3 : tmps.getD 3 undef = .pointer (some ⟨e, 0, none⟩)) (k2 : w.cell? ⟨r, 0, none⟩ = some u) (k3 : w.cell? ⟨e, 0, none⟩ = some x) :
   (results Tryz.f13 tmps).run Tryz.prog w = .ok (.tuple #[.agg #[u], x]) w := by
 have h2' : tmps[2]?.getD undef = .pointer (some ⟨r, 0, none⟩) := by simpa using h2
 have h3' : tmps[3]?.getD undef = .pointer (some ⟨e, 0, none⟩) := by simpa using h3
 simp [results, Tryz.results13, asAddr, h2', h3', go_sem, k2, k3]
set_option maxHeartbeats 8000000 in
theorem fldecode_any (a : Option Addr) (n0 c : Nat) (lb : List Nat) (w : World) (h : BytesAt w w.heap.size a n0 lb) (hn : n0 ≤ 140737488355328) (hnc : n0 ≤ c) (hc : c ≤ 9223372036854775807) (hT : Tab w) (hgT : 0 < w.heap.size)
   (hnm : (Fl.howMany lb).2.2 = 0 → Fl.stop (Fl.howMany lb).1 (Fl.howMany lb).2 = 0 → ∀ f ∈ Fl.fnV (Fl.howMany lb).2 (Fl.howMany lb).1, f.name.size ≤ 9223372036854775807) :
   Calls Tryz.prog 13 #[.slice a n0 c] w (DecP (Fl.dec lb) w) := by
 have b0 := (Below.refl w.heap.size w).alloc (Nat.le_refl _) (.cells #[.slice none 0 0] 24)
 have b1 := b0.alloc b0.size (.cells #[.int .i64 0] 28)
 have HRd := flread_any a n0 c lb _ ((h.below b1).more b1.size) hn hnc hc (tab_below hT b1 hgT) (Nat.lt_of_lt_of_le hgT b1.size) hnm
 have hmf : ∀ (fn : Fn) (first cap : Array Value) (w : World), (Instr.makeFunc fn first cap).run Tryz.prog w = .ok (.func fn first cap) w := fun _ _ _ _ => rfl
 have hsz : ((w.alloc (.cells #[.slice none 0 0] 24)).alloc (.cells #[.int .i64 0] 28)).heap.size = w.heap.size + 1 + 1 := by simp
 have hp1 := (Below.heap_alloc (w.alloc (.cells #[.slice none 0 0] 24)) (.cells #[.int .i64 0] 28) w.heap.size (by simp)).trans (heap_alloc_new w (.cells #[.slice none 0 0] 24))
 have hp2 := heap_alloc_new (w.alloc (.cells #[.slice none 0 0] 24)) (.cells #[.int .i64 0] 28)
 rw [World.size_alloc] at hp2
 have B1 := Lib.hid b1
 have HP := Lib.hid (And.intro hp1 hp2)
 have HSZ := Lib.hid hsz
 have HNo := Lib.hid (Fl.dec_none lb)
 clear b0 b1 h hnm hT hgT hp1 hp2 hsz
 generalize Fl.dec lb = o at *
 by_cases h0 : o.2 = 0
 · have HR := Lib.hid (HRd.mono (R' := GotP o.1 _) fun _ _ k => k.1 h0)
   have H0 := Lib.hid h0
   unfold GotP at HR
   clear HRd h0
   go_enter_defers Tryz.func13, Tryz.ntmps13
   go_wp2_with (go_at_call 31; refine HR.out.mono ?_; rintro _ w2 ⟨q, us, rfl, hus, hq, hG, hnm, hb⟩; refine Hid.out ?_)
   have hp1 := (hb.block w.heap.size (by rw [HSZ.out]; omega)).trans HP.out.1
   have hp2 := (hb.block (w.heap.size + 1) (by rw [HSZ.out]; omega)).trans HP.out.2
   rw [HSZ.out] at hq
   have k1 := (prog_cell hp1).1
   have z1 := (prog_cell hp1).2
   have k2 := (prog_cell (block_set hp2 (show w.heap.size + 1 ≠ w.heap.size by omega) (.slice (some ⟨q, 0, none⟩) o.1.length o.1.length) (i := 0))).1
   have z2 := (prog_cell (block_set hp2 (show w.heap.size + 1 ≠ w.heap.size by omega) (.slice (some ⟨q, 0, none⟩) o.1.length o.1.length) (i := 0))).2
   have s1 : (w2.setCell ⟨w.heap.size, 0, none⟩ (.slice (some ⟨q, 0, none⟩) o.1.length o.1.length)).heap[w.heap.size]? = some (.cells #[.slice (some ⟨q, 0, none⟩) o.1.length o.1.length] 24 (0, 0)) := heap_set hp1 _
   have s2 : ((w2.setCell ⟨w.heap.size, 0, none⟩ (.slice (some ⟨q, 0, none⟩) o.1.length o.1.length)).setCell ⟨w.heap.size + 1, 0, none⟩ (.int .i64 0)).heap[w.heap.size + 1]? = some (.cells #[.int .i64 0] 28 (0, 0)) := heap_set (block_set hp2 (by omega) _) _
   have s3 := block_set (i := 0) s1 (show w.heap.size ≠ w.heap.size + 1 by omega) (.int .i64 0)
   have hG1 := Got.set (i := 0) hG hp1 else_program (by omega) (.slice (some ⟨q, 0, none⟩) o.1.length o.1.length)
   have hG2 := Got.set (i := 0) hG1 (block_set hp2 (by omega) _) else_errno (by omega) (.int .i64 0)
   have hB2 := (((B1.out.trans (hb.mono B1.out.size)).setCell (p := ⟨w.heap.size, 0, none⟩) (Nat.le_refl _) (.slice (some ⟨q, 0, none⟩) o.1.length o.1.length)).setCell (p := ⟨w.heap.size + 1, 0, none⟩) (Nat.le_succ _) (.int .i64 0))
   have HS := Lib.hid (And.intro s2 s3)
   have HG := Lib.hid hG2
   have HB := Lib.hid hB2
   have HU := Lib.hid (And.intro hus (And.intro hq hnm))
   clear hb hp1 hp2 s1 s2 s3 hG hG1 hG2 hB2 hus hq hnm HR
   refine Lib.hid ?_
   go_wp2
   generalize (w2.setCell ⟨w.heap.size, 0, none⟩ (.slice (some ⟨q, 0, none⟩) o.1.length o.1.length)).setCell ⟨w.heap.size + 1, 0, none⟩ (.int .i64 0) = w3 at *
   refine leaves_cons (f := 30) (args := #[.pointer (some ⟨w.heap.size + 1, 0, none⟩)]) (by simp) (by simp [go_sem]) ?_
   refine (dcatch_idle ⟨w.heap.size + 1, 0, none⟩ (.int .i64 0) _ (prog_cell HS.out.1).1 (prog_cell HS.out.1).2).mono ?_
   rintro e u' w'' ⟨rfl, rfl, rfl⟩
   have hs2 := heap_set (i := 0) HS.out.1 (.int .i64 0)
   have j3 := (prog_cell (u := .int .i64 0) hs2).1
   have j2 := (prog_cell (block_set HS.out.2 (show w.heap.size ≠ w.heap.size + 1 by omega) (.int .i64 0) (i := 0))).1
   have hG3 := Got.set (i := 0) HG.out HS.out.1 else_errno (by have := HU.out.2.1; omega) (.int .i64 0)
   have HF := Lib.hid (show DecP o w (.returned (.tuple #[.agg #[.slice (some ⟨q, 0, none⟩) o.1.length o.1.length], .int .i64 0])) (w3.setCell ⟨w.heap.size + 1, 0, none⟩ (.int .i64 0)) from
     ⟨⟨some ⟨q, 0, none⟩, o.1.length, o.1.length⟩, us, by rw [H0.out]; rfl, rfl, hG3.ends HU.out.1 rfl HU.out.2.2, (fun e => by cases e), HB.out.setCell (Nat.le_succ _) _⟩)
   simp only [Leaves, settle]
   exact ⟨_, dec_results rfl rfl j2 j3, HF.out⟩
 · have HR := Lib.hid (HRd.mono fun _ _ k => k.2 h0)
   have HN := Lib.hid (HNo.out h0)
   clear HRd h0
   go_enter_defers Tryz.func13, Tryz.ntmps13
   go_wp2_with (go_at_call 31; refine HR.out.mono ?_; rintro _ w2 ⟨rfl, hb⟩; have HB := Lib.hid hb; have hp1 := (hb.block w.heap.size (by rw [HSZ.out]; omega)).trans HP.out.1; have hp2 := (hb.block (w.heap.size + 1) (by rw [HSZ.out]; omega)).trans HP.out.2; clear hb HR)
   refine leaves_cons (f := 30) (args := #[.pointer (some ⟨w.heap.size + 1, 0, none⟩)]) (by simp) (by simp [go_sem]) ?_
   refine (dcatch_bad ⟨w.heap.size + 1, 0, none⟩ (.int .i64 0) (o.2 : Int) [] _ (prog_cell hp2).1 (prog_cell hp2).2).mono ?_
   rintro e u' w'' ⟨rfl, rfl, rfl⟩
   have hs2 := heap_set (i := 0) hp2 (.int .i64 (o.2 : Int))
   have k3 := (prog_cell (u := .int .i64 (o.2 : Int)) hs2).1
   have k2 := (prog_cell (block_set hp1 (show w.heap.size ≠ w.heap.size + 1 by omega) (.int .i64 (o.2 : Int)) (i := 0))).1
   have HF := Lib.hid (show DecP o w (.returned (.tuple #[.agg #[.slice none 0 0], .int .i64 (o.2 : Int)])) (w2.setCell ⟨w.heap.size + 1, 0, none⟩ (.int .i64 (o.2 : Int))) from
     ⟨.nil, [], rfl, by rw [HN.out]; rfl, by rw [HN.out]; exact fns_nil _ _, fun _ => rfl, (B1.out.trans (HB.out.mono B1.out.size)).setCell (Nat.le_succ _) _⟩)
   simp only [settle]
   exact ⟨_, dec_results rfl rfl k2 k3, HF.out⟩
end Go.Proofs.YtdopheoedpldiaaGreatDoor
namespace Go.Proofs.YtdopheoedpldiaaGreatDoor
open Go.RowKit
def SmallsP (n : Nat) (vs : List FnV) (w : World) (e : Ending) (w' : World) : Prop := ∃ b : Bool, e = .returned (.bool b) ∧ (b = true → n ≤ 50 ∧ ∀ k, k < n → (vs.getD k .zero).Few) ∧ Below w.heap.size w w'
set_option maxHeartbeats 4000000 in
theorem small16_any (a : Option Addr) (n c : Nat) (vs : List FnV) (fs : List Fn.F) (w : World) (h : FnsAt w w.heap.size a n vs fs) (hn : n ≤ 9223372036854775807) :
   Calls Tryz.prog 7 #[.agg #[.slice a n c]] w (SmallsP n vs w) := by
 have b0 := (Below.refl w.heap.size w).alloc (Nat.le_refl _) (.cells #[.slice a n c] 24)
 have H := Lib.hid (h.on b0)
 have B0 := Lib.hid b0
 have hc0 := cell_of_row (w.alloc (.cells #[.slice a n c] 24)) _ 0 _ _ _ (heap_alloc_new w (.cells #[.slice a n c] 24))
 have HC := Lib.hid hc0
 have HZ := Lib.hid (show w.heap.size < (w.alloc (.cells #[.slice a n c] 24)).heap.size by simp)
 clear h b0
 go_enter Tryz.func7, Tryz.ntmps7
 go_wp2
 generalize hw1 : w.alloc (.cells #[.slice a n c] 24) = w1 at *
 clear hw1 hc0
 go_loopw [3] (fun i wr => ∃ k : Nat, k ≤ n ∧ i = .int .i64 (k : Int) ∧ (∀ j, j < k → (vs.getD j .zero).Few) ∧ Below w1.heap.size w1 wr) (fun i _ => n - (intOf i).toNat)
 case atStart => exact ⟨0, Nat.zero_le _, rfl, fun j hj => absurd hj (Nat.not_lt_zero _), Below.refl _ _⟩
 case round =>
   obtain ⟨k, hk, rfl, h0, hB⟩ := hrel
   have HB := Lib.hid hB
   have H0 := Lib.hid h0
   have hcell : wr.cell? ⟨w.heap.size, 0, none⟩ = some (.slice a n c) := (HB.out.cell (p := ⟨w.heap.size, 0, none⟩) HZ.out).trans HC.out
   clear hB h0
   by_cases hlt : k < n
   · have hd1 : decide ((k : Int) < (n : Int)) = true := decide_eq_true (by omega)
     by_cases h50 : k < 50
     · have hd2 : decide ((k : Int) < 50) = true := decide_eq_true (by omega)
       obtain ⟨b, off, v, f, rfl, hltb, hv, hf, hok, hlen, hkl, d0, d1, d2, d3, d4, d5, d6, d7, d8, d9, d10⟩ := fns_cell (H.out.on HB.out) hlt
       have HSm := Lib.hid (small15_any v wr)
       unfold SmallP at HSm
       have HV := Lib.hid hv
       clear hok hlen hkl hf hv
       go_wp2_with (go_at_call 18; refine HSm.out.mono ?_; rintro _ w2 ⟨bs, rfl, hs, hb3⟩; have HB3 := Lib.hid (HB.out.trans (hb3.mono HB.out.size)); have HS := Lib.hid hs; clear HSm hb3 hs d0 d1 d2 d3 d4 d5 d6 d7 d8 d9 d10 hcell; refine Hid.out ?_)
       cases bs with
       | true =>
         have HF := Lib.hid (HS.out rfl)
         clear HS
         refine Lib.hid ?_
         go_wp2
         go_roundw
         case rel =>
           refine ⟨k + 1, by omega, by go_num, fun j hj => ?_, HB3.out⟩
           rcases Nat.lt_or_eq_of_le (Nat.le_of_lt_succ hj) with h | rfl
           · exact H0.out j h
           · rw [HV.out]; exact HF.out
         case measure => simp [intOf]; omega
       | false =>
         refine Lib.hid ?_
         go_wp2
         go_ret
         exact ⟨false, rfl, fun h => (by cases h), B0.out.trans (HB3.out.mono B0.out.size)⟩
     · have hd2 : decide ((k : Int) < 50) = false := decide_eq_false (by omega)
       have hd3 : decide ((n : Int) ≤ 50) = false := decide_eq_false (by omega)
       go_wp2
       go_ret
       exact ⟨false, rfl, fun h => (by cases h), B0.out.trans (HB.out.mono B0.out.size)⟩
   · obtain rfl : k = n := by omega
     have hd1 : decide ((k : Int) < (k : Int)) = false := decide_eq_false (by omega)
     by_cases h50 : k ≤ 50
     · have hd3 : decide ((k : Int) ≤ 50) = true := decide_eq_true (by omega)
       go_wp2
       go_ret
       exact ⟨true, rfl, fun _ => ⟨h50, H0.out⟩, B0.out.trans (HB.out.mono B0.out.size)⟩
     · have hd3 : decide ((k : Int) ≤ 50) = false := decide_eq_false (by omega)
       go_wp2
       go_ret
       exact ⟨false, rfl, fun h => (by cases h), B0.out.trans (HB.out.mono B0.out.size)⟩
def retF : Fn.F := ⟨⟨#[102]⟩, false, [], [], [], [], [(25, 0)], [1], [], [], []⟩
def retV (b : Nat) : FnV := ⟨⟨#[102]⟩, false, .nil, .nil, .nil, .nil, ⟨some ⟨b, 0, none⟩, 1, 1⟩, ⟨some ⟨b + 1, 0, none⟩, 1, 1⟩, .nil, .nil, .nil⟩
theorem plain_can : Fl.can [retF] = 0 := by decide
theorem ret_wf : retF.Wf := ⟨fun p hp => by obtain rfl := List.mem_singleton.1 (show p ∈ [((25 : Int), (0 : Int))] from hp); exact ⟨⟨by decide, by decide⟩, ⟨by decide, by decide⟩⟩, fun z hz => by obtain rfl := List.mem_singleton.1 (show z ∈ [(1 : Int)] from hz); decide, fun n hn => (by cases hn), fun z hz => (by cases hz), fun s hs => (by cases hs)⟩
theorem ret_len (b : Nat) : (retV b).Len := ⟨show (1 : Nat) ≤ _ by decide, show (0 : Nat) ≤ _ by decide, show (0 : Nat) ≤ _ by decide, show (0 : Nat) ≤ _ by decide, show (0 : Nat) ≤ _ by decide, show (1 : Nat) ≤ _ by decide, show (1 : Nat) ≤ _ by decide, show (0 : Nat) ≤ _ by decide, show (0 : Nat) ≤ _ by decide, show (0 : Nat) ≤ _ by decide⟩
theorem plain_wf : ∀ f ∈ [retF], f.Wf := fun f hf => by obtain rfl := List.mem_singleton.1 hf; exact ret_wf
theorem ret_ok (w : World) (o : Obj) : FnOk (((w.alloc (.cells #[.int .i64 25, .int .i64 0] 68)).alloc (.cells #[.int .i64 1] 3)).alloc o) (((w.alloc (.cells #[.int .i64 25, .int .i64 0] 68)).alloc (.cells #[.int .i64 1] 3)).alloc o).heap.size (retV w.heap.size) retF := by
 have h1 : (((w.alloc (.cells #[.int .i64 25, .int .i64 0] 68)).alloc (.cells #[.int .i64 1] 3)).alloc o).heap[w.heap.size]? = some (.cells #[.int .i64 25, .int .i64 0] 68 (0, 0)) := (Below.heap_alloc _ _ _ (by simp; omega)).trans ((Below.heap_alloc _ _ _ (by simp)).trans (heap_alloc_new w _))
 have h2 : (((w.alloc (.cells #[.int .i64 25, .int .i64 0] 68)).alloc (.cells #[.int .i64 1] 3)).alloc o).heap[w.heap.size + 1]? = some (.cells #[.int .i64 1] 3 (0, 0)) := by
   refine (Below.heap_alloc _ _ _ (by simp)).trans ?_
   have := heap_alloc_new (w.alloc (.cells #[.int .i64 25, .int .i64 0] 68)) (.cells #[.int .i64 1] 3)
   simpa only [World.size_alloc] using this
 refine ⟨rfl, rfl, ⟨intsN _ _, fun _ => rfl⟩, ⟨intsN _ _, fun _ => rfl⟩, ⟨intsN _ _, fun _ => rfl⟩, ⟨intsN _ _, fun _ => rfl⟩, ⟨⟨rfl, fun _ => ⟨w.heap.size, 0, rfl, by simp; omega, fun i hi => ?_⟩⟩, fun e => by cases e⟩, ⟨⟨rfl, fun _ => ⟨w.heap.size + 1, 0, rfl, by simp, fun i hi => ?_⟩⟩, fun e => by cases e⟩, ⟨nodes_nil _ _, fun _ => rfl⟩, ⟨intsN _ _, fun _ => rfl⟩, ⟨sets_nil _ _, fun _ => rfl⟩⟩
 · obtain rfl : i = 0 := by have : i < 1 := hi; omega
   exact ⟨cell_of_row _ _ 0 _ _ _ h1, cell_of_row _ _ 1 _ _ _ h1⟩
 · obtain rfl : i = 0 := by have : i < 1 := hi; omega
   exact cell_of_row _ _ 0 _ _ _ h2
theorem how_inl1 : (Fl.howMany Fl.magic).2.2 = 3 := by decide
theorem dec_inl1 : Fl.dec Fl.magic = ([], 3) := by
 unfold Fl.dec
 rw [if_neg (fun h => h rfl), how_inl1, if_pos (by decide)]
def plW (w : World) : World := (((w.alloc (.cells #[.slice (some ⟨w.heap.size + 3, 0, none⟩) 1 1] 24)).alloc (.cells #[.int .i64 25, .int .i64 0] 68)).alloc (.cells #[.int .i64 1] 3)).alloc (.cells (retV (w.heap.size + 1)).cells 43)
theorem plain_at (w : World) : FnsAt (plW w) (plW w).heap.size (some ⟨w.heap.size + 3, 0, none⟩) 1 [retV (w.heap.size + 1)] [retF] ∧ Below w.heap.size w (plW w) ∧ (plW w).cell? ⟨w.heap.size, 0, none⟩ = some (.slice (some ⟨w.heap.size + 3, 0, none⟩) 1 1) := by
 have hk := ret_ok (w.alloc (.cells #[.slice (some ⟨w.heap.size + 3, 0, none⟩) 1 1] 24)) (.cells (retV (w.heap.size + 1)).cells 43)
 have h0 := heap_alloc_new w (.cells #[.slice (some ⟨w.heap.size + 3, 0, none⟩) 1 1] 24)
 have h3 := FnAt.new (((w.alloc (.cells #[.slice (some ⟨w.heap.size + 3, 0, none⟩) 1 1] 24)).alloc (.cells #[.int .i64 25, .int .i64 0] 68)).alloc (.cells #[.int .i64 1] 3)) (retV (w.heap.size + 1))
 have b1 := (Below.refl w.heap.size w).alloc (Nat.le_refl _) (.cells #[.slice (some ⟨w.heap.size + 3, 0, none⟩) 1 1] 24)
 have b2 := b1.alloc b1.size (.cells #[.int .i64 25, .int .i64 0] 68)
 have b3 := b2.alloc b2.size (.cells #[.int .i64 1] 3)
 have b4 := b3.alloc b3.size (.cells (retV (w.heap.size + 1)).cells 43)
 simp only [World.size_alloc] at hk h3
 refine ⟨⟨rfl, rfl, fun k hk1 => ?_, fun k hk1 => ?_, fun _ => ⟨w.heap.size + 3, 0, rfl, ?_, fun k hk1 j hj => ?_⟩⟩, b4, ?_⟩
 · obtain rfl : k = 0 := by omega
   have hz : (plW w).heap.size = w.heap.size + 1 + 1 + 1 + 1 := by unfold plW; simp only [World.size_alloc]
   rw [hz]
   exact hk
 · obtain rfl : k = 0 := by omega
   exact ret_len _
 · unfold plW
   simp only [World.size_alloc]
   omega
 · obtain rfl : k = 0 := by omega
   rw [show 0 + 0 * 11 + j = j by omega]
   exact FnAt.cell h3 j
 · refine (cell_of_row (plW w) w.heap.size 0 _ _ _ (show (plW w).heap[w.heap.size]? = some (.cells #[.slice (some ⟨w.heap.size + 3, 0, none⟩) 1 1] 24 (0, 0)) from ?_))
   unfold plW
   exact (Below.heap_alloc _ _ _ (by simp; omega)).trans ((Below.heap_alloc _ _ _ (by simp; omega)).trans ((Below.heap_alloc _ _ _ (by simp)).trans h0))
set_option maxHeartbeats 4000000 in
theorem plain_any (w : World) : Calls Tryz.prog 19 #[] w fun e w' => ∃ a c us, e = .returned (.agg #[.slice a 1 c]) ∧ FnsAt w' w'.heap.size a 1 us [retF] ∧ Below w.heap.size w w' := by
 go_enter Tryz.func19, Tryz.ntmps19
 have hp := plain_at w
 go_wp2
 have h0 := hp.2.2
 unfold plW at hp h0
 simp only [FnV.cells, Sl3.val, retV, Sl3.nil] at hp h0
 exact bodyPost_ret (v := .agg #[.slice (some ⟨w.heap.size + 3, 0, none⟩) 1 1]) (by simp [results, Tryz.results19, go_sem, h0]) rfl ⟨_, _, _, rfl, hp.1, hp.2.1⟩
theorem back_names {l : List Fn.F} (h : Fl.can l = 0) (hw : ∀ f ∈ l, f.Wf) (r : List Nat) : ∀ f ∈ Fl.fnV (Fl.howMany (Fl.laid l ++ r)).2 (Fl.howMany (Fl.laid l ++ r)).1, f.name.size ≤ 9223372036854775807 := by
 obtain ⟨_, _, e2⟩ := Fl.taken_back h hw r
 rw [e2]
 intro f hf
 have := (Fn.can_len ((Fl.can_ok.1 h).2.2.1 f hf)).1
 omega
theorem laid_pos (l : List Fn.F) : 0 < (Fl.laid l).length := by
 unfold Fl.laid Fl.magic
 simp
set_option maxHeartbeats 8000000 in
theorem lives16_any (w : World) (hT : Tab w) (hg : 0 < w.heap.size) : Calls Tryz.prog 8 #[] w (BoolP true w) := by
 have HPl := Lib.hid (plain_any w)
 have HT := Lib.hid (And.intro hT hg)
 have hcs := conv_magic
 clear hT hg
 go_enter Tryz.func8, Tryz.ntmps8
 go_wp2_with (go_at_call 19; refine HPl.out.mono ?_; rintro _ w1 ⟨a, c, us, rfl, hf, hb1⟩; clear HPl; refine Hid.out ?_)
 have HB1 := Lib.hid hb1
 have hEn := flencode_any a 1 c us [retF] w1 hf plain_wf (tab_below HT.out.1 hb1 HT.out.2) (Nat.lt_of_lt_of_le HT.out.2 hb1.size)
 rw [plain_can, show Fl.bytes [retF] = Fl.laid [retF] from if_pos plain_can] at hEn
 unfold EncP at hEn
 have HEn := Lib.hid hEn
 clear hf hb1 hEn
 refine Lib.hid ?_
 go_wp2_with (go_at_call 9; refine HEn.out.mono ?_; rintro _ w2 ⟨v, rfl, ho, hb2⟩; clear HEn; refine Hid.out ?_)
 have hb12 := HB1.out.trans (hb2.mono HB1.out.size)
 obtain ⟨A, k, rfl, hB, hk1, hk2⟩ := own_at ho (Fl.laid_bytes _)
 have hDe := fldecode_any A _ k (Fl.laid [retF]) w2 hB (by have := Fl.laid_lens plain_can plain_wf; omega) hk1 hk2 (tab_below HT.out.1 hb12 HT.out.2) (Nat.lt_of_lt_of_le HT.out.2 hb12.size) (fun _ _ => by
   have := back_names plain_can plain_wf []
   rwa [List.append_nil] at this)
 rw [Fl.dec_back plain_can plain_wf] at hDe
 unfold DecP at hDe
 have HDe := Lib.hid hDe
 have HB2 := Lib.hid hb12
 clear ho hb2 hb12 hB hk1 hk2 hDe HB1
 generalize (Fl.laid [retF]).length = nl at *
 refine Lib.hid ?_
 go_wp2_with (go_at_call 13; refine HDe.out.mono ?_; rintro _ w3 ⟨s, vs, rfl, hsn, hf3, _, hb3⟩; clear HDe; refine Hid.out ?_)
 replace hsn : s.n = 1 := hsn
 have hb3' := (Below.refl w3.heap.size w3).alloc (Nat.le_refl _) (.cells #[s.val] 24)
 have hp3 := heap_alloc_new w3 (.cells #[s.val] 24)
 have hf4 := hf3.on hb3'
 obtain ⟨b, off, x, f, ha, hltb, hx, hfx, hok, _, _, d0, _⟩ := fns_cell hf4 (k := 0) (by rw [hsn]; decide)
 have hxn : x.name = ⟨#[102]⟩ := by rw [hok.name, ← hfx]; rfl
 rw [hxn, Nat.zero_mul, Nat.add_zero] at d0
 have hp4 := (prog_cell hp3).1
 have hB4 := HB2.out.trans ((hb3.trans (hb3'.mono hb3.size)).mono HB2.out.size)
 unfold Sl3.val at hp4 hB4 hltb d0
 rw [hsn, ha] at hp4 hB4 hltb d0
 have HB4 := Lib.hid hB4
 have HC4 := Lib.hid (And.intro hp4 (And.intro d0 hltb))
 have hl4 := heap_lt hp3
 unfold Sl3.val at hl4
 rw [hsn, ha] at hl4
 have HL4 := Lib.hid hl4
 clear hb3 hb3' hp3 hf3 hf4 hx hfx hok hxn hB4 hltb d0 hp4 hl4 HB2
 obtain ⟨sa, sn, sc⟩ := s
 simp only at hsn ha
 subst hsn ha
 simp only [Sl3.val]
 have hsz4 : (w3.alloc (.cells #[.slice (some ⟨b, off, none⟩) 1 sc] 24)).heap.size = w3.heap.size + 1 := World.size_alloc _ _
 have hcs3 := conv_magic (w3.alloc (.cells #[.slice (some ⟨b, off, none⟩) 1 sc] 24))
 have hmb := mg_bytes (w3.alloc (.cells #[.slice (some ⟨b, off, none⟩) 1 sc] 24))
 have hm4 := mg_below (w3.alloc (.cells #[.slice (some ⟨b, off, none⟩) 1 sc] 24))
 rw [hsz4] at hcs3 hmb
 have hb5 := HB4.out.trans (hm4.mono HB4.out.size)
 have hDe := fldecode_any (some ⟨w3.heap.size + 1, 0, none⟩) 4 4 Fl.magic (mgW (w3.alloc (.cells #[.slice (some ⟨b, off, none⟩) 1 sc] 24))) hmb (by decide) (by decide) (by decide) (tab_below HT.out.1 hb5 HT.out.2) (Nat.lt_of_lt_of_le HT.out.2 hb5.size) (fun h => by rw [how_inl1] at h; cases h)
 rw [dec_inl1] at hDe
 unfold DecP at hDe
 have HDe := Lib.hid hDe
 have HB5 := Lib.hid hb5
 have hltb5 : b < (mgW (w3.alloc (.cells #[.slice (some ⟨b, off, none⟩) 1 sc] 24))).heap.size := Nat.lt_of_lt_of_le HC4.out.2.2 hm4.size
 have hlt5 : w3.heap.size < (mgW (w3.alloc (.cells #[.slice (some ⟨b, off, none⟩) 1 sc] 24))).heap.size := Nat.lt_of_lt_of_le HL4.out hm4.size
 have hcp := (hm4.cell (p := ⟨w3.heap.size, 0, none⟩) HL4.out).trans HC4.out.1
 have hcd := (hm4.cell (p := ⟨b, off, none⟩) HC4.out.2.2).trans HC4.out.2.1
 have HC5 := Lib.hid (And.intro (And.intro hcp hcd) (And.intro hlt5 hltb5))
 clear hcs hmb hm4 hb5 hDe hltb5 hlt5 hcp hcd hsz4 HC4 HL4 HB4
 have hst : ((⟨#[102]⟩ : ByteArray).toList == (⟨#[102]⟩ : ByteArray).toList) = true := beq_self_eq_true _
 refine Lib.hid ?_
 go_wp2_with (go_at_call 13; refine HDe.out.mono ?_; rintro _ w6 ⟨⟨sa2, sn2, sc2⟩, vs2, rfl, hs2, _, _, hb6⟩; replace hs2 : sn2 = 0 := hs2; subst hs2; simp only [Sl3.val]; have HB6 := Lib.hid (HB5.out.trans (hb6.mono HB5.out.size)); have hb7 := hb6.alloc hb6.size (.cells #[.slice sa2 0 sc2] 24); have k1 := (hb7.cell (p := ⟨w3.heap.size, 0, none⟩) HC5.out.2.1).trans HC5.out.1.1; have k2 := (hb7.cell (p := ⟨b, off, none⟩) HC5.out.2.2).trans HC5.out.1.2; clear HDe hb6 hb7 hcs3)
 go_ret
 exact ⟨rfl, HB6.out.alloc HB6.out.size _⟩
end Go.Proofs.YtdopheoedpldiaaGreatDoor
