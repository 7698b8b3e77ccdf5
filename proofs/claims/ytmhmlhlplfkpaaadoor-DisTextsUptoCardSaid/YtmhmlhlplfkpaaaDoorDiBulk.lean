/-
 What the second form's bound gives of a program that came in: names and lists fit a page. Conditions: none.
-/
import Derived.Test.YtmhmlhlplfkpaaaDoorFlLaid
import Derived.Test.YtmhmlhlplfkpaaaDoorDiHead
set_option maxRecDepth 100000
namespace Go.Proofs.YtmhmlhlplfkpaaaDoor
open Go.ChangeShapes Go.WideShapes Go.ChangeAt Go.RowKit
theorem bulk_one {H : Type} (d : DataW H) : 1 ≤ Rows.uptoBulk d := by
 cases d with
 | lit l => cases l <;> simp [Rows.uptoBulk]
 | nil => simp [Rows.uptoBulk]
 | ptr d => simp [Rows.uptoBulk]
 | slice elems spare => simp [Rows.uptoBulk]
 | agg parts => simp [Rows.uptoBulk]
 | iface t d => simp [Rows.uptoBulk]
 | map entries => simp [Rows.uptoBulk]
 | held h => simp [Rows.uptoBulk]
theorem bulk_mem {H : Type} {d : DataW H} : ∀ {l : List (DataW H)}, d ∈ l → Rows.uptoBulk d ≤ Rows.uptoBulkAll l
 | [], h => by cases h
 | x :: r, h => by
   rw [Rows.uptoBulkAll]
   rcases List.mem_cons.1 h with e | e
   · rw [e]; omega
   · have := bulk_mem e; omega
theorem bulk_len {H : Type} : ∀ (l : List (DataW H)), l.length ≤ Rows.uptoBulkAll l
 | [] => Nat.zero_le _
 | x :: r => by
   have h1 := bulk_one x
   have h2 := bulk_len r
   rw [Rows.uptoBulkAll, List.length_cons]
   omega
theorem slice_bulk {H : Type} {enc : TypeId × Value → H} {W : World} {fuel : Nat} {a : Option Addr} {n c : Nat} {x : DataW H × List MemPlace} {t e : TypeId} (ht : Tryd.prog.underlying t = some (.slice e))
   (h : DataW.trod enc Tryd.prog W 0 (fun _ => true) true fuel t [.slice a n c] = some x) : n ≤ Rows.uptoBulk x.1 := by
 rcases Go.Deep.open_slice ht h with ⟨hcs, _⟩ | ⟨ad, ln, cp, m, k, D, Pl, hcs, _, _, _, _, hx, _⟩
 · simp at hcs
   obtain ⟨_, rfl, _⟩ := hcs
   exact Nat.zero_le _
 · simp at hcs
   obtain ⟨_, rfl, _⟩ := hcs
   rw [hx]
   have := bulk_len ((List.range n).map D)
   rw [List.length_map, List.length_range] at this
   simp only [Rows.uptoBulk]
   omega
set_option maxHeartbeats 2000000 in
theorem func_bulk {H : Type} {enc : TypeId × Value → H} {W : World} {fuel : Nat} {u : FnV} {x : DataW H × List MemPlace}
   (hf : DataW.trod enc Tryd.prog W 0 (fun _ => true) true fuel 35 u.cells.toList = some x) : u.name.size ≤ Rows.uptoBulk x.1 ∧ u.outer.n ≤ Rows.uptoBulk x.1 ∧ u.params.n ≤ Rows.uptoBulk x.1 ∧ u.results.n ≤ Rows.uptoBulk x.1 ∧ u.locals.n ≤ Rows.uptoBulk x.1 := by
 obtain ⟨xs, n, _, hx, _, hxl, hi⟩ := DataW.trod_struct Tryd.underlying35 hf
 match xs, hxl with
 | [y0, y1, y2, y3, y4, y5, y6, y7, y8, y9, y10], _ =>
 have k0 : Tryd.prog.cellsOf 9 = 1 := by kernel_rfl
 have k2 : Tryd.prog.cellsOf 29 = 1 := by kernel_rfl
 have t0 : DataW.trod enc Tryd.prog W 0 (fun _ => true) true n 9 [.string u.name] = some y0 := by
   have h : DataW.trod enc Tryd.prog W 0 (fun _ => true) true n 9 ((u.cells.toList.drop 0).take (Tryd.prog.cellsOf 9)) = some y0 := hi 0 _ rfl
   rw [k0] at h
   exact h
 have t2 : DataW.trod enc Tryd.prog W 0 (fun _ => true) true n 29 [.slice u.outer.a u.outer.n u.outer.c] = some y2 := by
   have h : DataW.trod enc Tryd.prog W 0 (fun _ => true) true n 29 ((u.cells.toList.drop 2).take (Tryd.prog.cellsOf 29)) = some y2 := hi 2 _ rfl
   rw [k2] at h
   exact h
 have t3 : DataW.trod enc Tryd.prog W 0 (fun _ => true) true n 29 [.slice u.params.a u.params.n u.params.c] = some y3 := by
   have h : DataW.trod enc Tryd.prog W 0 (fun _ => true) true n 29 ((u.cells.toList.drop 3).take (Tryd.prog.cellsOf 29)) = some y3 := hi 3 _ rfl
   rw [k2] at h
   exact h
 have t4 : DataW.trod enc Tryd.prog W 0 (fun _ => true) true n 29 [.slice u.results.a u.results.n u.results.c] = some y4 := by
   have h : DataW.trod enc Tryd.prog W 0 (fun _ => true) true n 29 ((u.cells.toList.drop 4).take (Tryd.prog.cellsOf 29)) = some y4 := hi 4 _ rfl
   rw [k2] at h
   exact h
 have t5 : DataW.trod enc Tryd.prog W 0 (fun _ => true) true n 29 [.slice u.locals.a u.locals.n u.locals.c] = some y5 := by
   have h : DataW.trod enc Tryd.prog W 0 (fun _ => true) true n 29 ((u.cells.toList.drop 5).take (Tryd.prog.cellsOf 29)) = some y5 := hi 5 _ rfl
   rw [k2] at h
   exact h
 have hall : ∀ y ∈ [y0, y1, y2, y3, y4, y5, y6, y7, y8, y9, y10], Rows.uptoBulk y.1 ≤ Rows.uptoBulk x.1 := fun y hy => by
   have := bulk_mem (List.mem_map_of_mem (f := Prod.fst) hy)
   rw [hx]
   simp only [Rows.uptoBulk]
   exact Nat.le_trans this (Nat.le_add_right _ _)
 obtain ⟨s, e0, z0, _⟩ := DataW.trod_string Tryd.underlying9 t0
 have es : u.name = s := by simpa using e0
 have hb0 : u.name.size ≤ Rows.uptoBulk y0.1 := by
   rw [z0, es]
   have : s.data.toList.length = s.size := by rw [Array.length_toList]; rfl
   simp only [Rows.uptoBulk]
   omega
 exact ⟨Nat.le_trans hb0 (hall y0 (by simp)), Nat.le_trans (slice_bulk Tryd.underlying29 t2) (hall y2 (by simp)), Nat.le_trans (slice_bulk Tryd.underlying29 t3) (hall y3 (by simp)), Nat.le_trans (slice_bulk Tryd.underlying29 t4) (hall y4 (by simp)), Nat.le_trans (slice_bulk Tryd.underlying29 t5) (hall y5 (by simp))⟩
theorem funcs_bulk {H : Type} {enc : TypeId × Value → H} {W : World} {fuel : Nat} {a : Option Addr} {len cap : Nat} {x : DataW H × List MemPlace} {vs : List FnV} {fs : List Fn.F}
   (h : DataW.trod enc Tryd.prog W 0 (fun _ => true) true fuel 22 [.slice a len cap] = some x) (hF : FnsAt W W.heap.size a len vs fs) (hk : Rows.uptoBulk x.1 ≤ 1048576) : ∀ k, k < len → DiFit (vs.getD k .zero) := by
 intro k hk1
 obtain ⟨b, off, ha, _, hc⟩ := hF.cells (by omega)
 rcases Go.Deep.open_slice Tryd.underlying22 h with ⟨hcs, _⟩ | ⟨ad, ln, cp, m, n, D, Pl, hcs, _, hl, hm, hmm, hx, hi⟩
 · simp at hcs
   obtain ⟨_, rfl, _⟩ := hcs
   omega
 · simp at hcs
   obtain ⟨rfl, rfl, rfl⟩ := hcs
   simp only [if_true] at hmm
   subst hmm
   obtain rfl := Option.some.inj ha
   obtain ⟨cs', h1, h2⟩ := hi k (by omega)
   rw [cells_func] at h1
   obtain ⟨_, hlen, hcell⟩ := World.cells?_some h1
   have e : cs' = (vs.getD k .zero).cells.toList := by
     apply List.ext_getElem?
     intro j
     rcases Nat.lt_or_ge j 11 with hj | hj
     · have g := hcell j hj
       rw [Go.Deep.add_add] at g
       have g2 := hc k hk1 j hj
       have ead : (⟨b, off, none⟩ : Addr).add (k * 11 + j) = ⟨b, off + k * 11 + j, none⟩ := by simp [Addr.add, Nat.add_assoc]
       rw [ead, g2] at g
       exact g.symm.trans Array.getElem?_toList.symm
     · rw [List.getElem?_eq_none (by omega), List.getElem?_eq_none (by simpa [FnV.cells] using hj)]
   subst e
   obtain ⟨b0, b1, b2, b3, b4⟩ := func_bulk h2
   have hD : Rows.uptoBulk (D k) ≤ Rows.uptoBulk x.1 := by
     have := bulk_mem (List.mem_map_of_mem (f := D) (List.mem_range.2 hk1))
     rw [hx]
     simp only [Rows.uptoBulk]
     omega
   exact ⟨by have : Rows.uptoBulk (D k, Pl k).1 = Rows.uptoBulk (D k) := rfl; omega, by have : Rows.uptoBulk (D k, Pl k).1 = Rows.uptoBulk (D k) := rfl; omega, by have : Rows.uptoBulk (D k, Pl k).1 = Rows.uptoBulk (D k) := rfl; omega, by have : Rows.uptoBulk (D k, Pl k).1 = Rows.uptoBulk (D k) := rfl; omega, by have : Rows.uptoBulk (D k, Pl k).1 = Rows.uptoBulk (D k) := rfl; omega⟩
theorem program_bulk {H : Type} {enc : TypeId × Value → H} {W : World} {s : Sl3} {d : DataW H} {p : List MemPlace} {vs : List FnV} {fs : List Fn.F}
   (h : DataW.Trod enc Tryd.prog W 0 (fun _ => true) true 24 (.agg #[s.val]) d p) (hF : FnsAt W W.heap.size s.a s.n vs fs) (hk : Rows.uptoSmall H ([d] ++ []) = true) : ∀ k, k < s.n → DiFit (vs.getD k .zero) := by
 have hb : Rows.uptoBulkAll [d] ≤ 1048576 := of_decide_eq_true hk
 rw [Rows.uptoBulkAll, Rows.uptoBulkAll, Nat.add_zero] at hb
 obtain ⟨fuel, hf⟩ := h
 obtain ⟨xs, n, _, hx, _, hxl, hi⟩ := DataW.trod_struct Tryd.underlying24 hf
 match xs, hxl with
 | [y0], _ =>
 have t0 : DataW.trod enc Tryd.prog W 0 (fun _ => true) true n 22 [.slice s.a s.n s.c] = some y0 := by
   have h : DataW.trod enc Tryd.prog W 0 (fun _ => true) true n 22 (([s.val].drop 0).take (Tryd.prog.cellsOf 22)) = some y0 := hi 0 _ rfl
   rw [cells_funcs] at h
   exact h
 refine funcs_bulk t0 hF ?_
 have e : d = .agg [y0.1] := congrArg Prod.fst hx
 rw [e] at hb
 simp only [Rows.uptoBulk, Rows.uptoBulkAll] at hb
 omega
end Go.Proofs.YtmhmlhlplfkpaaaDoor
