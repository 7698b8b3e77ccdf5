/-
 From the readings to the walks: a program that came in. Conditions: none.
-/
import Derived.Test.YtmhmlhlplfkpaaaDoorLaidX
import Derived.Test.YtmhmlhlplfkpaaaDoorFlA
set_option maxRecDepth 100000
namespace Go.Proofs.YtmhmlhlplfkpaaaDoor
open Go.ChangeShapes Go.WideShapes Go.ChangeAt Go.RowKit
theorem cells_funcs : Tryd.prog.cellsOf 22 = 1 := by kernel_rfl
theorem cells_program : Tryd.prog.cellsOf 24 = 1 := by kernel_rfl
theorem funcs_of {H : Type} {enc : TypeId × Value → H} {W : World} {fuel : Nat} {a : Option Addr} {len cap : Nat} {x : DataW H × List MemPlace}
   (h : DataW.trod enc Tryd.prog W 0 (fun _ => true) true fuel 22 [.slice a len cap] = some x) :
   ∃ vs fs, FnsAt W W.heap.size a len vs fs ∧ (∀ f ∈ fs, f.Wf) ∧ len ≤ 9223372036854775807 := by
 rcases Go.Deep.open_slice Tryd.underlying22 h with ⟨hcs, _⟩ | ⟨ad, ln, cp, m, n, D, Pl, hcs, _, hl, hm, hmm, _, hi⟩
 · simp at hcs
   obtain ⟨rfl, rfl, rfl⟩ := hcs
   exact ⟨[], [], fns_nil W _, (fun z hz => by cases hz), by omega⟩
 · simp at hcs
   obtain ⟨rfl, rfl, rfl⟩ := hcs
   simp only [if_true] at hmm
   subst hmm
   unfold maxLen at hm
   have each : ∀ i, i < len → ∃ p : FnV × Fn.F, (∀ j, j < 11 → W.cell? (ad.add (i * 11 + j)) = p.1.cells[j]?) ∧ FnOk W W.heap.size p.1 p.2 ∧ p.1.Len ∧ p.2.Wf := by
     intro i hil
     obtain ⟨cs', h1, h2⟩ := hi i (by omega)
     rw [cells_func] at h1
     obtain ⟨_, hlen, hcell⟩ := World.cells?_some h1
     obtain ⟨u, f, rfl, k1, k2, k3⟩ := func_cells hlen h2
     refine ⟨(u, f), fun j hj => ?_, k1, k2, k3⟩
     have g := hcell j hj
     rw [Go.Deep.add_add] at g
     rw [g, Array.getElem?_toList]
   obtain ⟨l, hr, hp⟩ := choose_list ((.zero, .zero) : FnV × Fn.F) _ len each
   have e1 : ∀ k, k < len → (l.map Prod.fst).getD k .zero = (l.getD k (.zero, .zero)).1 := fun k hk => by simp [List.getD, show k < l.length by omega]
   have e2 : ∀ k, k < len → (l.map Prod.snd).getD k .zero = (l.getD k (.zero, .zero)).2 := fun k hk => by simp [List.getD, show k < l.length by omega]
   refine ⟨l.map Prod.fst, l.map Prod.snd, ⟨by simp [hr], by simp [hr], fun k hk => ?_, fun k hk => ?_, fun hpos => ?_⟩, fun z hz => ?_, by omega⟩
   · rw [e1 k hk, e2 k hk]; exact (hp k hk).2.1
   · rw [e1 k hk]; exact (hp k hk).2.2.1
   · obtain ⟨b, off, sp⟩ := ad
     have hc0 := (hp 0 (by omega)).1 0 (by omega)
     rw [Nat.zero_mul] at hc0
     have hc1 : W.cell? ((⟨b, off, sp⟩ : Addr).add 0) = some (.string (l.getD 0 (.zero, .zero)).1.name) := hc0
     obtain rfl := addr_none hc1
     have hadd : ∀ j, (⟨b, off, none⟩ : Addr).add j = ⟨b, off + j, none⟩ := fun j => by simp [Addr.add]
     rw [hadd] at hc1
     refine ⟨b, off, rfl, World.block_lt_of_cell? W ⟨b, off + 0, none⟩ hc1, fun i hil j hj => ?_⟩
     have h0 := (hp i hil).1 j hj
     rw [hadd] at h0
     rw [Nat.add_assoc, e1 i hil]
     exact h0
   · obtain ⟨q, hq, rfl⟩ := List.mem_map.1 hz
     obtain ⟨j, hj, rfl⟩ := List.mem_iff_getElem.1 hq
     have := (hp j (by omega)).2.2.2
     simpa [List.getD, hj] using this
theorem program_of {H : Type} {enc : TypeId × Value → H} {W : World} {base : Nat} {v : Value} {d : DataW H} {p : List MemPlace} (hv : Value.okWide Tryd.prog W .any base 24 v)
   (h : DataW.Trod enc Tryd.prog W 0 (fun _ => true) true 24 v d p) : ∃ (s : Sl3) (vs : List FnV) (fs : List Fn.F), v = .agg #[s.val] ∧ s.nilOk ∧ FnsAt W W.heap.size s.a s.n vs fs ∧ (∀ f ∈ fs, f.Wf) ∧ s.n ≤ 9223372036854775807 := by
 obtain ⟨cs, rfl, hsz, _⟩ : ∃ cs, v = .agg cs ∧ cs.size = Tryd.prog.cellsOf 24 ∧ Row.okWide Tryd.prog W .any base 24 cs := by
   simpa [Value.okWide, Tryd.underlying24] using hv
 rw [cells_program] at hsz
 obtain ⟨fuel, hf⟩ := h
 obtain ⟨xs, n, _, _, _, hxl, hi⟩ := DataW.trod_struct Tryd.underlying24 hf
 obtain ⟨cl⟩ := cs
 match cl, hsz with
 | [v0], _ =>
 match xs, hxl with
 | [y0], _ =>
 have t0 : DataW.trod enc Tryd.prog W 0 (fun _ => true) true n 22 [v0] = some y0 := by
   have h : DataW.trod enc Tryd.prog W 0 (fun _ => true) true n 22 (([v0].drop 0).take (Tryd.prog.cellsOf 22)) = some y0 := hi 0 _ rfl
   rw [cells_funcs] at h
   simpa using h
 obtain ⟨s, rfl, n0⟩ := slice_of Tryd.underlying22 t0
 obtain ⟨vs, fs, h1, h2, h3⟩ := funcs_of t0
 exact ⟨s, vs, fs, rfl, n0, h1, h2, h3⟩
end Go.Proofs.YtmhmlhlplfkpaaaDoor
