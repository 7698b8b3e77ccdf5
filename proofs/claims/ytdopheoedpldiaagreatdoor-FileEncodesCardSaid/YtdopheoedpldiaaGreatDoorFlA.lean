/-
 A program's functions in memory: a slice of functions that can be read. Conditions: none.
-/
import Derived.Test.YtdopheoedpldiaaGreatDoorLaidX
set_option maxRecDepth 100000
namespace Go.Proofs.YtdopheoedpldiaaGreatDoor
open Go.RowKit
def fcs : List FnV → List Value
 | [] => []
 | v :: r => v.cells.toList ++ fcs r
theorem cells_len (v : FnV) : v.cells.toList.length = 11 := rfl
theorem cells_one (v : FnV) : ∀ u ∈ v.cells.toList, u.oneCell' = true := by
 intro u hu
 simp only [FnV.cells, Sl3.val, List.mem_cons, List.not_mem_nil, or_false] at hu
 rcases hu with rfl | rfl | rfl | rfl | rfl | rfl | rfl | rfl | rfl | rfl | rfl <;> rfl
theorem fcs_append (a b : List FnV) : fcs (a ++ b) = fcs a ++ fcs b := by
 induction a with
 | nil => rfl
 | cons n r ih => simp only [List.cons_append, fcs, ih, List.append_assoc]
theorem fcs_length (r : List FnV) : (fcs r).length = r.length * 11 := by
 induction r with
 | nil => rfl
 | cons n r ih => simp only [fcs, List.length_append, List.length_cons, ih, cells_len]; omega
theorem fcs_one (r : List FnV) : ∀ u ∈ fcs r, u.oneCell' = true := by
 induction r with
 | nil => intro u hu; simp [fcs] at hu
 | cons n r ih =>
   intro u hu
   rcases List.mem_append.1 hu with hu | hu
   · exact cells_one _ u hu
   · exact ih u hu
theorem fcs_get (r : List FnV) : ∀ i, i < r.length → ∀ j, j < 11 → (fcs r)[i * 11 + j]? = (r.getD i .zero).cells[j]? := by
 induction r with
 | nil => intro i hi; simp at hi
 | cons n r ih =>
   intro i hi j hj
   cases i with
   | zero =>
     rw [Nat.zero_mul, Nat.zero_add, fcs, List.getElem?_append_left (by rw [cells_len]; omega), Array.getElem?_toList]
     rfl
   | succ i =>
     have h := ih i (by simpa using hi) j hj
     rw [fcs, List.getElem?_append_right (by rw [cells_len]; omega), cells_len, show (i + 1) * 11 + j - 11 = i * 11 + j by omega, h]
     rfl
structure FnsAt (w : World) (B : Nat) (a : Option Addr) (n : Nat) (vs : List FnV) (fs : List Fn.F) : Prop where
 lenv : vs.length = n
 lenf : fs.length = n
 ok : ∀ k, k < n → FnOk w B (vs.getD k .zero) (fs.getD k .zero)
 len : ∀ k, k < n → (vs.getD k .zero).Len
 cells : 0 < n → ∃ b off, a = some ⟨b, off, none⟩ ∧ b < B ∧ ∀ k, k < n → ∀ j, j < 11 → w.cell? ⟨b, off + k * 11 + j, none⟩ = (vs.getD k .zero).cells[j]?
section
variable {w w' : World} {B B' n : Nat} {a : Option Addr} {vs : List FnV} {fs : List Fn.F}
theorem FnsAt.below (h : FnsAt w B a n vs fs) (hb : Below B w w') : FnsAt w' B a n vs fs := by
 refine ⟨h.lenv, h.lenf, fun k hk => (h.ok k hk).below hb, h.len, fun hn => ?_⟩
 obtain ⟨b, off, e, hlt, hc⟩ := h.cells hn
 exact ⟨b, off, e, hlt, fun i hi j hj => (hb.cell (p := ⟨b, off + i * 11 + j, none⟩) hlt).trans (hc i hi j hj)⟩
theorem FnsAt.more (h : FnsAt w B a n vs fs) (hb : B ≤ B') : FnsAt w B' a n vs fs := by
 refine ⟨h.lenv, h.lenf, fun k hk => (h.ok k hk).more hb, h.len, fun hn => ?_⟩
 obtain ⟨b, off, e, hlt, hc⟩ := h.cells hn
 exact ⟨b, off, e, by omega, hc⟩
theorem FnsAt.on (h : FnsAt w w.heap.size a n vs fs) (hb : Below w.heap.size w w') : FnsAt w' w'.heap.size a n vs fs := (h.below hb).more hb.size
theorem fns_nil (w : World) (B : Nat) : FnsAt w B none 0 [] [] := ⟨rfl, rfl, fun _ h => absurd h (Nat.not_lt_zero _), fun _ h => absurd h (Nat.not_lt_zero _), fun h => absurd h (Nat.not_lt_zero _)⟩
theorem fns_cell (h : FnsAt w B a n vs fs) {k : Nat} (hk : k < n) :
   ∃ b off v f, a = some ⟨b, off, none⟩ ∧ b < B ∧ vs.getD k .zero = v ∧ fs.getD k .zero = f ∧ FnOk w B v f ∧ v.Len ∧ k < fs.length ∧
     w.cell? ⟨b, off + k * 11, none⟩ = some (.string v.name) ∧ w.cell? ⟨b, off + k * 11 + 1, none⟩ = some (.bool v.inner) ∧ w.cell? ⟨b, off + k * 11 + 2, none⟩ = some (.slice v.outer.a v.outer.n v.outer.c) ∧ w.cell? ⟨b, off + k * 11 + 3, none⟩ = some (.slice v.params.a v.params.n v.params.c) ∧
     w.cell? ⟨b, off + k * 11 + 4, none⟩ = some (.slice v.results.a v.results.n v.results.c) ∧ w.cell? ⟨b, off + k * 11 + 5, none⟩ = some (.slice v.locals.a v.locals.n v.locals.c) ∧ w.cell? ⟨b, off + k * 11 + 6, none⟩ = some (.slice v.code.a v.code.n v.code.c) ∧ w.cell? ⟨b, off + k * 11 + 7, none⟩ = some (.slice v.lines.a v.lines.n v.lines.c) ∧
     w.cell? ⟨b, off + k * 11 + 8, none⟩ = some (.slice v.nodes.a v.nodes.n v.nodes.c) ∧ w.cell? ⟨b, off + k * 11 + 9, none⟩ = some (.slice v.at_.a v.at_.n v.at_.c) ∧ w.cell? ⟨b, off + k * 11 + 10, none⟩ = some (.slice v.live.a v.live.n v.live.c) := by
 obtain ⟨b, off, e, hlt, hc⟩ := h.cells (by omega)
 exact ⟨b, off, _, _, e, hlt, rfl, rfl, h.ok k hk, h.len k hk, by rw [h.lenf]; exact hk, hc k hk 0 (by decide), hc k hk 1 (by decide), hc k hk 2 (by decide), hc k hk 3 (by decide), hc k hk 4 (by decide), hc k hk 5 (by decide), hc k hk 6 (by decide), hc k hk 7 (by decide), hc k hk 8 (by decide), hc k hk 9 (by decide), hc k hk 10 (by decide)⟩
end
end Go.Proofs.YtdopheoedpldiaaGreatDoor
namespace Go.Proofs.YtdopheoedpldiaaGreatDoor
open Go.ChangeShapes Go.WideShapes Go.ChangeAt Go.RowKit
theorem cells_funcs : Tryz.prog.cellsOf 22 = 1 := by kernel_rfl
theorem cells_program : Tryz.prog.cellsOf 24 = 1 := by kernel_rfl
theorem funcs_of {H : Type} {enc : TypeId × Value → H} {W : World} {fuel : Nat} {a : Option Addr} {len cap : Nat} {x : DataW H × List MemPlace}
   (h : DataW.trod enc Tryz.prog W 0 (fun _ => true) true fuel 22 [.slice a len cap] = some x) :
   ∃ vs fs, FnsAt W W.heap.size a len vs fs ∧ (∀ f ∈ fs, f.Wf) ∧ len ≤ 9223372036854775807 := by
 rcases Go.Deep.open_slice Tryz.underlying22 h with ⟨hcs, _⟩ | ⟨ad, ln, cp, m, n, D, Pl, hcs, _, hl, hm, hmm, _, hi⟩
 · simp at hcs
   obtain ⟨rfl, rfl, rfl⟩ := hcs
   exact ⟨[], [], fns_nil W _, (fun z hz => by cases hz), by omega⟩
 · simp at hcs
   obtain ⟨rfl, rfl, rfl⟩ := hcs
   simp only [if_true] at hmm
   subst hmm
   unfold maxLen at hm
   have each : ∀ i, i < len → ∃ p : FnV × Fn.F, (∀ j, j < 11 → W.cell? (ad.add (i * 11 + j)) = p.1.cells[j]?) ∧ FnOk W W.heap.size p.1 p.2 ∧ p.1.Len ∧ p.2.Wf := by
     intro i hil
     obtain ⟨cs', h1, h2⟩ := hi i (by omega)
     rw [cells_func] at h1
     obtain ⟨_, hlen, hcell⟩ := World.cells?_some h1
     obtain ⟨u, f, rfl, k1, k2, k3⟩ := func_cells hlen h2
     refine ⟨(u, f), fun j hj => ?_, k1, k2, k3⟩
     have g := hcell j hj
     rw [Go.Deep.add_add] at g
     rw [g, Array.getElem?_toList]
   obtain ⟨l, hr, hp⟩ := choose_list ((.zero, .zero) : FnV × Fn.F) _ len each
   have e1 : ∀ k, k < len → (l.map Prod.fst).getD k .zero = (l.getD k (.zero, .zero)).1 := fun k hk => by simp [List.getD, show k < l.length by omega]
   have e2 : ∀ k, k < len → (l.map Prod.snd).getD k .zero = (l.getD k (.zero, .zero)).2 := fun k hk => by simp [List.getD, show k < l.length by omega]
   refine ⟨l.map Prod.fst, l.map Prod.snd, ⟨by simp [hr], by simp [hr], fun k hk => ?_, fun k hk => ?_, fun hpos => ?_⟩, fun z hz => ?_, by omega⟩
   · rw [e1 k hk, e2 k hk]; exact (hp k hk).2.1
   · rw [e1 k hk]; exact (hp k hk).2.2.1
   · obtain ⟨b, off, sp⟩ := ad
     have hc0 := (hp 0 (by omega)).1 0 (by omega)
     rw [Nat.zero_mul] at hc0
     have hc1 : W.cell? ((⟨b, off, sp⟩ : Addr).add 0) = some (.string (l.getD 0 (.zero, .zero)).1.name) := hc0
     obtain rfl := addr_none hc1
     have hadd : ∀ j, (⟨b, off, none⟩ : Addr).add j = ⟨b, off + j, none⟩ := fun j => by simp [Addr.add]
     rw [hadd] at hc1
     refine ⟨b, off, rfl, World.block_lt_of_cell? W ⟨b, off + 0, none⟩ hc1, fun i hil j hj => ?_⟩
     have h0 := (hp i hil).1 j hj
     rw [hadd] at h0
     rw [Nat.add_assoc, e1 i hil]
     exact h0
   · obtain ⟨q, hq, rfl⟩ := List.mem_map.1 hz
     obtain ⟨j, hj, rfl⟩ := List.mem_iff_getElem.1 hq
     have := (hp j (by omega)).2.2.2
     simpa [List.getD, hj] using this
theorem program_of {H : Type} {enc : TypeId × Value → H} {W : World} {base : Nat} {v : Value} {d : DataW H} {p : List MemPlace} (hv : Value.okWide Tryz.prog W .any base 24 v)
   (h : DataW.Trod enc Tryz.prog W 0 (fun _ => true) true 24 v d p) : ∃ (s : Sl3) (vs : List FnV) (fs : List Fn.F), v = .agg #[s.val] ∧ s.nilOk ∧ FnsAt W W.heap.size s.a s.n vs fs ∧ (∀ f ∈ fs, f.Wf) ∧ s.n ≤ 9223372036854775807 := by
 obtain ⟨cs, rfl, hsz, _⟩ : ∃ cs, v = .agg cs ∧ cs.size = Tryz.prog.cellsOf 24 ∧ Row.okWide Tryz.prog W .any base 24 cs := by
   simpa [Value.okWide, Tryz.underlying24] using hv
 rw [cells_program] at hsz
 obtain ⟨fuel, hf⟩ := h
 obtain ⟨xs, n, _, _, _, hxl, hi⟩ := DataW.trod_struct Tryz.underlying24 hf
 obtain ⟨cl⟩ := cs
 match cl, hsz with
 | [v0], _ =>
 match xs, hxl with
 | [y0], _ =>
 have t0 : DataW.trod enc Tryz.prog W 0 (fun _ => true) true n 22 [v0] = some y0 := by
   have h : DataW.trod enc Tryz.prog W 0 (fun _ => true) true n 22 (([v0].drop 0).take (Tryz.prog.cellsOf 22)) = some y0 := hi 0 _ rfl
   rw [cells_funcs] at h
   simpa using h
 obtain ⟨s, rfl, n0⟩ := slice_of Tryz.underlying22 t0
 obtain ⟨vs, fs, h1, h2, h3⟩ := funcs_of t0
 exact ⟨s, vs, fs, rfl, n0, h1, h2, h3⟩
end Go.Proofs.YtdopheoedpldiaaGreatDoor
