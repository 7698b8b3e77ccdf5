/-
 A program of a text's lines: the plain mathematics. Conditions: none.
-/
import Derived.Test.YtfopelegobhegaaGreatDoorAsLine
import Derived.Test.YtfopelegobhegaaGreatDoorAsHead
set_option maxRecDepth 100000
namespace Go.Proofs.YtfopelegobhegaaGreatDoor
open Go.RowKit
namespace As
structure St where
 done : List Fn.F
 cur : Fn.F
 isOpen : Bool
def St.first : St := ⟨[], .zero, false⟩
def end_ : ByteArray := ⟨#[101, 110, 100]⟩
def more1 (f : Fn.F) (x : Int × Int) (n : Int) : Fn.F := { f with code := f.code ++ [x], lines := f.lines ++ [n] }
def step (t : St) (s : ByteArray) : St × Nat :=
 if t.isOpen = false then (⟨t.done, (head s).1, true⟩, (head s).2)
 else if s = end_ then (⟨t.done ++ [t.cur], t.cur, false⟩, 0)
 else (⟨t.done, more1 t.cur (line s).1.1 (line s).1.2, true⟩, (line s).2)
theorem step_shut {t : St} {s : ByteArray} (h : t.isOpen = false) : step t s = (⟨t.done, (head s).1, true⟩, (head s).2) := if_pos h
theorem step_end {t : St} (h : t.isOpen = true) : step t end_ = (⟨t.done ++ [t.cur], t.cur, false⟩, 0) := by
 unfold step
 rw [if_neg (by rw [h]; decide), if_pos rfl]
theorem step_line {t : St} {s : ByteArray} (h : t.isOpen = true) (hs : s ≠ end_) : step t s = (⟨t.done, more1 t.cur (line s).1.1 (line s).1.2, true⟩, (line s).2) := by
 unfold step
 rw [if_neg (by rw [h]; decide), if_neg hs]
def run : St → Nat → List (Nat × ByteArray) → (St × Nat) × Nat
 | t, last, [] => ((t, last), 0)
 | t, _, (n, s) :: r => if (step t s).2 = 0 then run (step t s).1 n r else (((step t s).1, n), (step t s).2)
theorem run_snoc : ∀ (pre : List (Nat × ByteArray)) (t : St) (last : Nat) (n : Nat) (s : ByteArray), (run t last pre).2 = 0 → run t last (pre ++ [(n, s)]) = (((step (run t last pre).1.1 s).1, n), (step (run t last pre).1.1 s).2)
 | [], t, last, n, s, _ => by
   show (if (step t s).2 = 0 then ((((step t s).1, n), 0) : (St × Nat) × Nat) else (((step t s).1, n), (step t s).2)) = (((step t s).1, n), (step t s).2)
   split
   · rename_i h
     rw [h]
   · rfl
 | (m, x) :: r, t, last, n, s, h => by
   have e : ∀ l, run t last ((m, x) :: l) = if (step t x).2 = 0 then run (step t x).1 m l else (((step t x).1, m), (step t x).2) := fun _ => rfl
   rw [e] at h
   by_cases h0 : (step t x).2 = 0
   · rw [if_pos h0] at h
     rw [List.cons_append, e, e, if_pos h0, if_pos h0]
     exact run_snoc r (step t x).1 m n s h
   · rw [if_neg h0] at h
     exact absurd h h0
theorem run_stop : ∀ (pre r : List (Nat × ByteArray)) (t : St) (last : Nat), (run t last pre).2 ≠ 0 → run t last (pre ++ r) = run t last pre
 | [], _, _, _, h => absurd rfl h
 | (m, x) :: p, r, t, last, h => by
   have e : ∀ l, run t last ((m, x) :: l) = if (step t x).2 = 0 then run (step t x).1 m l else (((step t x).1, m), (step t x).2) := fun _ => rfl
   rw [e] at h
   rw [List.cons_append, e, e]
   by_cases h0 : (step t x).2 = 0
   · rw [if_pos h0] at h
     rw [if_pos h0, if_pos h0]
     exact run_stop p r (step t x).1 m h
   · rw [if_neg h0, if_neg h0]
def numbered : Nat → List ByteArray → List (Nat × ByteArray)
 | _, [] => []
 | n, x :: r => if x.size = 0 then numbered (n + 1) r else (n, x) :: numbered (n + 1) r
def lines (s : ByteArray) : List (Nat × ByteArray) := numbered 1 (words 10 s)
theorem numbered_len : ∀ (l : List ByteArray) (n : Nat), (numbered n l).length ≤ l.length
 | [], _ => Nat.le_refl _
 | x :: r, n => by
   have := numbered_len r (n + 1)
   unfold numbered
   split
   · rw [List.length_cons]; omega
   · rw [List.length_cons, List.length_cons]; omega
def readOf (o : (St × Nat) × Nat) : (List Fn.F × Nat) × Nat :=
 if o.2 ≠ 0 then (([], o.1.2), o.2)
 else if o.1.1.isOpen = true ∨ o.1.1.done.length = 0 then (([], o.1.2), 3)
 else if Fl.can o.1.1.done ≠ 0 then (([], 0), Fl.can o.1.1.done) else ((o.1.1.done, 0), 0)
def read (s : ByteArray) : (List Fn.F × Nat) × Nat := readOf (run .first 1 (lines s))
structure Fit (f : Fn.F) : Prop where
 name : f.name.size ≤ 1048576
 code : ∀ p ∈ f.code, Fn.I64 p.1 ∧ Fn.I64 p.2
 lines : ∀ z ∈ f.lines, Fn.I64 z
 none : f.nodes = [] ∧ f.at_ = [] ∧ f.live = []
theorem Fit.wf {f : Fn.F} (h : Fit f) : f.Wf := ⟨h.code, h.lines, fun n hn => (by rw [h.none.1] at hn; cases hn), fun z hz => (by rw [h.none.2.1] at hz; cases hz), fun s hs => (by rw [h.none.2.2] at hs; cases hs)⟩
theorem Fit.zero : Fit .zero := ⟨Nat.zero_le _, fun p h => (by cases h), fun z h => (by cases h), ⟨rfl, rfl, rfl⟩⟩
theorem Fit.part {f : Fn.F} (h : Fit f) (k : Nat) (t : List Int) : Fit (part k t f) := by
 unfold As.part
 split <;> exact ⟨h.name, h.code, h.lines, h.none⟩
theorem fit_parts : ∀ (l : List ByteArray) (k : Nat) (f : Fn.F), Fit f → Fit (parts k l f).1
 | [], _, _, h => h
 | x :: r, k, f, h => by
   unfold parts
   split
   · exact Fit.zero
   · exact fit_parts r (k + 1) _ (h.part k _)
theorem fit_head {s : ByteArray} (hs : s.size ≤ 1048576) : Fit (head s).1 := by
 unfold head headOf
 split
 · exact Fit.zero
 · split
   · exact Fit.zero
   · refine fit_parts _ _ _ ⟨?_, fun p h => (by cases h), fun z h => (by cases h), ⟨rfl, rfl, rfl⟩⟩
     show ((words 32 s).getD 1 ByteArray.empty).size ≤ 1048576
     rcases Nat.lt_or_ge 1 (words 32 s).length with h | h
     · have h1 : (words 32 s).getD 1 ByteArray.empty ∈ words 32 s := by simp [List.getD, h]
       exact Nat.le_trans (words_size 32 s.size s (Nat.le_refl _) _ h1) hs
     · rw [List.getD_eq_getElem?_getD, List.getElem?_eq_none h]
       exact Nat.zero_le _
theorem num_in (s : ByteArray) : Fn.I64 (In.num s).1 := In.num_le s
theorem read_in (s : ByteArray) : Fn.I64 (In.read s).1.1 ∧ Fn.I64 (In.read s).1.2 := by
 have h0 : Fn.I64 0 := by unfold Fn.I64; decide
 unfold In.read
 split
 · exact ⟨h0, h0⟩
 · rename_i hf
   have hop : Fn.I64 (Op.find (In.head s)).1 := by
     have := In.find_in (s := In.head s) (by cases h : (Op.find (In.head s)).2; exact absurd h hf; rfl)
     unfold Fn.I64
     omega
   split
   · exact ⟨h0, h0⟩
   · split
     · split
       · exact ⟨h0, h0⟩
       · split
         · exact ⟨hop, num_in _⟩
         · exact ⟨h0, h0⟩
     · exact ⟨hop, h0⟩
theorem line_in (s : ByteArray) : (Fn.I64 (line s).1.1.1 ∧ Fn.I64 (line s).1.1.2) ∧ Fn.I64 (line s).1.2 := by
 have h0 : Fn.I64 0 := by unfold Fn.I64; decide
 unfold line
 split
 · exact ⟨⟨h0, h0⟩, h0⟩
 · split
   · exact ⟨⟨h0, h0⟩, h0⟩
   · have h1 := read_in (behind 32 s)
     have h2 := num_in (ahead 32 s)
     dsimp only
     exact ⟨h1, h2⟩
theorem Fit.more1 {f : Fn.F} (h : Fit f) (s : ByteArray) : Fit (more1 f (line s).1.1 (line s).1.2) := by
 have hl := line_in s
 refine ⟨h.name, fun p hp => ?_, fun z hz => ?_, h.none⟩
 · rcases List.mem_append.1 hp with hp | hp
   · exact h.code p hp
   · rw [List.mem_singleton] at hp
     subst hp
     exact hl.1
 · rcases List.mem_append.1 hz with hz | hz
   · exact h.lines z hz
   · rw [List.mem_singleton] at hz
     subst hz
     exact hl.2
structure Fits (t : St) (n : Nat) : Prop where
 done : ∀ f ∈ t.done, Fit f
 cur : Fit t.cur
 len : t.done.length ≤ n ∧ t.cur.code.length ≤ n ∧ t.cur.lines.length ≤ n
theorem parts_code : ∀ (l : List ByteArray) (k : Nat) (f : Fn.F), f.code = [] ∧ f.lines = [] → (parts k l f).1.code = [] ∧ (parts k l f).1.lines = []
 | [], _, _, h => h
 | x :: r, k, f, h => by
   unfold parts
   split
   · exact ⟨rfl, rfl⟩
   · refine parts_code r (k + 1) _ ?_
     unfold part
     split <;> exact h
theorem head_code (s : ByteArray) : (head s).1.code = [] ∧ (head s).1.lines = [] := by
 unfold head headOf
 split
 · exact ⟨rfl, rfl⟩
 · split
   · exact ⟨rfl, rfl⟩
   · exact parts_code _ _ _ ⟨rfl, rfl⟩
theorem Fits.first : Fits .first 0 := ⟨fun f h => (by cases h), Fit.zero, Nat.le_refl _, Nat.le_refl _, Nat.le_refl _⟩
theorem Fits.step {t : St} {n : Nat} (h : Fits t n) {s : ByteArray} (hs : s.size ≤ 1048576) : Fits (step t s).1 (n + 1) := by
 obtain ⟨h1, h2, h3, h4, h5⟩ := h
 by_cases ho : t.isOpen = false
 · rw [step_shut ho]
   have hc := head_code s
   exact ⟨h1, fit_head hs, Nat.le_succ_of_le h3, by rw [hc.1]; exact Nat.zero_le _, by rw [hc.2]; exact Nat.zero_le _⟩
 · have ho : t.isOpen = true := by cases h : t.isOpen; exact absurd h ho; rfl
   by_cases he : s = end_
   · subst he
     rw [step_end ho]
     refine ⟨fun f hf => ?_, h2, by simp only [List.length_append, List.length_singleton]; omega, Nat.le_succ_of_le h4, Nat.le_succ_of_le h5⟩
     rcases List.mem_append.1 hf with hf | hf
     · exact h1 f hf
     · rw [List.mem_singleton] at hf
       subst hf
       exact h2
   · rw [step_line ho he]
     exact ⟨h1, h2.more1 s, Nat.le_succ_of_le h3, by simp only [As.more1, List.length_append, List.length_singleton]; omega, by simp only [As.more1, List.length_append, List.length_singleton]; omega⟩
def after (pre : List (Nat × ByteArray)) : (St × Nat) × Nat := run .first 1 pre
theorem after_snoc {pre : List (Nat × ByteArray)} (h : (after pre).2 = 0) (x : Nat × ByteArray) : after (pre ++ [x]) = (((step (after pre).1.1 x.2).1, x.1), (step (after pre).1.1 x.2).2) := run_snoc pre .first 1 x.1 x.2 h
theorem after_stop {pre l : List (Nat × ByteArray)} (hp : pre <+: l) (h : (after pre).2 ≠ 0) : after l = after pre := by
 obtain ⟨r, rfl⟩ := hp
 exact run_stop pre r _ _ h
end As
end Go.Proofs.YtfopelegobhegaaGreatDoor
namespace Go.Proofs.YtfopelegobhegaaGreatDoor
open Go.RowKit
def rdCells (s : Sl3) (v : FnV) (b : Bool) : Array Value := #[s.val, .string v.name, .bool v.inner, v.outer.val, v.params.val, v.results.val, v.locals.val, v.code.val, v.lines.val, v.nodes.val, v.at_.val, v.live.val, .bool b]
def FnV.Bare (v : FnV) : Prop := v.nodes = .nil ∧ v.at_ = .nil ∧ v.live = .nil
theorem row_kind {w : World} {base n size : Nat} {e : TypeId} {v : Value} {xs : List Value} (h : w.ownsRow base e size v n xs) : ∀ b, v.ownBlock = some b → ∃ C m, w.heap[b]? = some (.cells C e m) := by
 intro b hb
 rcases h.2 with ⟨rfl, _⟩ | ⟨g, cap, cur, rfl, _, hh, _⟩
 · cases hb
 · injection hb with hb
   subst hb
   exact ⟨_, _, hh⟩
theorem ko_below {W W' : World} (h : Below W.heap.size W W') : KeepsOthers W W' := ⟨h.size, fun k _ hk _ => (h.block k (heap_lt hk)).trans hk⟩
theorem ko_block {W W' : World} {b : Nat} {C : Array Value} {T : TypeId} {m : Nat × Nat} (hb : W.heap[b]? = some (.cells C T m)) (hg : W.grownBy W' (some b)) : KeepsOthers W W' :=
 KeepsOthers.of_grownBy hg fun j o e h => by
   injection e with e
   subst e
   rw [hb] at h
   injection h with h
   subst h
   rfl
theorem ko_row {W W' : World} {base n size : Nat} {e : TypeId} {v : Value} {xs : List Value} (h : W.ownsRow base e size v n xs) (hg : W.grownBy W' v.ownBlock) : KeepsOthers W W' :=
 KeepsOthers.of_grownBy hg fun j o e h2 => by
   obtain ⟨C, m, h3⟩ := row_kind h j e
   rw [h3] at h2
   injection h2 with h2
   subst h2
   rfl
structure OffC (q l : Nat) (w w' : World) : Prop where
 size : w.heap.size ≤ w'.heap.size
 block : ∀ j C T m, w.heap[j]? = some (.cells C T m) → j ≠ q → j ≠ l → w'.heap[j]? = some (.cells C T m)
theorem OffC.refl (q l : Nat) (w : World) : OffC q l w w := ⟨Nat.le_refl _, fun _ _ _ _ h _ _ => h⟩
theorem OffC.on {q l : Nat} {a b c : World} (h : OffC q l a b) (k : Off q l b c) : OffC q l a c :=
 ⟨Nat.le_trans h.size k.size, fun j C T m e h1 h2 => by
   have := h.block j C T m e h1 h2
   exact (k.block j (heap_lt this) h1 h2).trans this⟩
theorem row_offC {q l base n size : Nat} {w w' : World} {e : TypeId} {v : Value} {xs : List Value} (h : w.ownsRow base e size v n xs) (ho : OffC q l w w') (hq : q < base) (hl : l < base) : w'.ownsRow base e size v n xs :=
 row_kept h fun g hg => by
   have h1 := h.lt g hg
   obtain ⟨C, m, h2⟩ := row_kind h g hg
   exact (ho.block g C e m h2 (by omega) (by omega)).trans h2.symm
theorem FnOwn.offC {q l base : Nat} {w w' : World} {v : FnV} {f : Fn.F} (h : FnOwn w base v f) (ho : OffC q l w w') (hq : q < base) (hl : l < base) : FnOwn w' base v f :=
 ⟨h.name, h.inner, row_offC h.outer ho hq hl, row_offC h.params ho hq hl, row_offC h.results ho hq hl, row_offC h.locals ho hq hl, row_offC h.code ho hq hl, row_offC h.lines ho hq hl, row_offC h.nodes ho hq hl, row_offC h.at_ ho hq hl, row_offC h.live ho hq hl⟩
theorem row_marked {w w' : World} {base n size : Nat} {e : TypeId} {v : Value} {xs : List Value} (h : w.ownsRow base e size v n xs) {row : Option Nat} (hg : w.grownBy w' row) (hr : ∀ r, row = some r → ∃ o, w.heap[r]? = some o ∧ o.isCells = false) : w'.ownsRow base e size v n xs :=
 row_kept h fun g e => by
   obtain ⟨C, m, h2⟩ := row_kind h g e
   refine hg.block g (heap_lt h2) fun e' => ?_
   obtain ⟨o, h3, h4⟩ := hr g e'.symm
   rw [h2] at h3
   injection h3 with h3
   subst h3
   cases h4
theorem FnOwn.marked {base : Nat} {w w' : World} {v : FnV} {f : Fn.F} (h : FnOwn w base v f) {row : Option Nat} (hg : w.grownBy w' row) (hr : ∀ r, row = some r → ∃ o, w.heap[r]? = some o ∧ o.isCells = false) : FnOwn w' base v f :=
 ⟨h.name, h.inner, row_marked h.outer hg hr, row_marked h.params hg hr, row_marked h.results hg hr, row_marked h.locals hg hr, row_marked h.code hg hr, row_marked h.lines hg hr, row_marked h.nodes hg hr, row_marked h.at_ hg hr, row_marked h.live hg hr⟩
structure RdIs (q l : Nat) (Wb W0 : World) (s : Sl3) (us : List FnV) (v : FnV) (t : As.St) (W : World) : Prop where
 box : W.heap[q]? = some (.cells (rdCells s v t.isOpen) 66 (0, 0))
 off : OffC q l W0 W
 whole : Off q l Wb W
 base : Wb.heap.size ≤ W0.heap.size
 len : us.length = t.done.length
 row : W0.ownsRow Wb.heap.size 35 11 s.val us.length (fcs us)
 old : ∀ k, k < us.length → FnOwn W0 Wb.heap.size (us.getD k .zero) (t.done.getD k .zero)
 cur : t.isOpen = true → FnOwn W W0.heap.size v t.cur ∧ v.Bare
 ql : q < Wb.heap.size ∧ l < Wb.heap.size ∧ q ≠ l
def RdAt (q l : Nat) (Wb : World) (t : As.St) (W : World) : Prop := ∃ W0 s us v, RdIs q l Wb W0 s us v t W
section
variable {q l : Nat} {Wb W0 W W' : World} {s : Sl3} {us : List FnV} {v : FnV} {t : As.St}
theorem RdIs.lt (h : RdIs q l Wb W0 s us v t W) : q < W.heap.size := heap_lt h.box
theorem RdIs.size (h : RdIs q l Wb W0 s us v t W) : Wb.heap.size ≤ W.heap.size := h.whole.size
theorem RdIs.rowW (h : RdIs q l Wb W0 s us v t W) : W.ownsRow Wb.heap.size 35 11 s.val us.length (fcs us) := row_offC h.row h.off h.ql.1 h.ql.2.1
theorem RdIs.oldW (h : RdIs q l Wb W0 s us v t W) : ∀ k, k < us.length → FnOwn W Wb.heap.size (us.getD k .zero) (t.done.getD k .zero) := fun k hk => (h.old k hk).offC h.off h.ql.1 h.ql.2.1
theorem RdIs.below (h : RdIs q l Wb W0 s us v t W) (hb : Below W.heap.size W W') : RdIs q l Wb W0 s us v t W' :=
 ⟨(hb.block q h.lt).trans h.box, h.off.on (Off.below hb), h.whole.trans (Off.below hb), h.base, h.len, h.row, h.old, fun e => ⟨(h.cur e).1.below hb, (h.cur e).2⟩, h.ql⟩
theorem RdIs.marked (h : RdIs q l Wb W0 s us v t W) {row : Option Nat} (hg : W.grownBy W' row) (hr : ∀ r, row = some r → Wb.heap.size ≤ r ∧ ∃ o, W.heap[r]? = some o ∧ o.isCells = false) : RdIs q l Wb W0 s us v t W' := by
 have hne : ∀ (j : Nat) (C : Array Value) (T : TypeId) (m : Nat × Nat), W.heap[j]? = some (Obj.cells C T m) → W'.heap[j]? = some (Obj.cells C T m) := fun j C T m e => (hg.block j (heap_lt e) fun e' => by
   obtain ⟨_, o, h3, h4⟩ := hr j e'.symm
   rw [e] at h3
   injection h3 with h3
   subst h3
   cases h4).trans e
 exact ⟨hne _ _ _ _ h.box, ⟨Nat.le_trans h.off.size hg.size, fun j C T m e h1 h2 => hne _ _ _ _ (h.off.block j C T m e h1 h2)⟩,
   ⟨hg.os.trans h.whole.os, hg.tape.trans h.whole.tape, hg.output.trans h.whole.output, Nat.le_trans h.whole.size hg.size, fun j hj h1 h2 => (hg.block j (Nat.lt_of_lt_of_le hj h.whole.size) fun e => by have := (hr j e.symm).1; omega).trans (h.whole.block j hj h1 h2)⟩,
   h.base, h.len, h.row, h.old, fun e => ⟨(h.cur e).1.marked hg fun r e => (hr r e).2, (h.cur e).2⟩, h.ql⟩
theorem RdIs.cell (h : RdIs q l Wb W0 s us v t W) (k : Nat) : W.cell? ⟨q, k, none⟩ = (rdCells s v t.isOpen)[k]? := by
 have := h.box
 simp [World.cell?, this]
theorem RdIs.ice (h : RdIs q l Wb W0 s us v t W) (k : Nat) : W.frozen? ⟨q, k, none⟩ = false := by
 have := h.box
 simp [World.frozen?, this]
theorem RdAt.below (h : RdAt q l Wb t W) (hb : Below W.heap.size W W') : RdAt q l Wb t W' := by
 obtain ⟨W0, s, us, v, h⟩ := h
 exact ⟨W0, s, us, v, h.below hb⟩
theorem RdAt.off (h : RdAt q l Wb t W) : Off q l Wb W := by
 obtain ⟨W0, s, us, v, h⟩ := h
 exact h.whole
theorem Bare.four {x : ByteArray} {b : Bool} (h : v = FnV.four x b v) : v.Bare := by
 unfold FnV.Bare
 rw [h]
 exact ⟨rfl, rfl, rfl⟩
theorem rd_put {W1 : World} {q : Nat} {s : Sl3} {v v' : FnV} {b : Bool} (h1 : W1.heap[q]? = some (.cells (rdCells s v b) 66 (0, 0))) : (W1.setCells q 1 v'.cells.toList).heap[q]? = some (.cells (rdCells s v' b) 66 (0, 0)) := by
 have h := mid_set (i := 11) (mid_set (i := 10) (mid_set (i := 9) (mid_set (i := 8) (mid_set (i := 7) (mid_set (i := 6) (mid_set (i := 5) (mid_set (i := 4) (mid_set (i := 3) (mid_set (i := 2) (mid_set (i := 1) h1 (.string v'.name)) (.bool v'.inner)) v'.outer.val) v'.params.val) v'.results.val) v'.locals.val) v'.code.val) v'.lines.val) v'.nodes.val) v'.at_.val) v'.live.val
 simp only [rdCells, List.setIfInBounds_toArray, List.set_cons_succ, List.set_cons_zero] at h
 simp only [FnV.cells, World.setCells]
 exact h
theorem RdIs.opened (h : RdIs q l Wb W0 s us v t W) {W1 : World} {f : Fn.F} {v' : FnV} (hb : Below W.heap.size W W1) (ho : FnOwn W1 W.heap.size v' f) (hv : v'.Bare) :
   W1.there q 1 v'.cells.size ∧ (W1.setCells q 1 v'.cells.toList).heap[q]? = some (.cells (rdCells s v' t.isOpen) 66 (0, 0)) ∧ RdIs q l Wb W s us v' ⟨t.done, f, true⟩ ((W1.setCells q 1 v'.cells.toList).setCell ⟨q, 12, none⟩ (.bool true)) ∧ KeepsOthers W ((W1.setCells q 1 v'.cells.toList).setCell ⟨q, 12, none⟩ (.bool true)) ∧ ((W1.setCells q 1 v'.cells.toList).setCell ⟨q, 12, none⟩ (.bool true)).heap[l]? = W.heap[l]? := by
 have h1 := (hb.block q h.lt).trans h.box
 have h2 : (W1.setCells q 1 v'.cells.toList).heap[q]? = some (.cells (rdCells s v' t.isOpen) 66 (0, 0)) := rd_put h1
 have h3 := mid_set (i := 12) h2 (.bool true)
 have g1 := sets_grown q v'.cells.toList 1 W1
 have g2 : (W1.setCells q 1 v'.cells.toList).grownBy ((W1.setCells q 1 v'.cells.toList).setCell ⟨q, 12, none⟩ (.bool true)) (some q) := Lib.grownBy_setB (World.grownBy.refl _ _) _ _
 have hq := h.ql
 refine ⟨there_block h1 (by show 1 + 11 ≤ 13; omega), h2, ⟨h3, ((OffC.refl q l W).on (Off.below hb)).on ((Off.grown g1).trans (Off.grown g2)), h.whole.trans ((Off.below hb).trans ((Off.grown g1).trans (Off.grown g2))), h.whole.size, h.len, h.rowW, h.oldW, fun _ => ⟨?own, hv⟩, hq⟩, ((ko_below hb).trans (ko_block h1 g1)).trans (KeepsOthers.setCell _ _ _), ?kl⟩
 case own => exact ((ho.off (Off.grown (p := q) g1) h.lt h.lt).off (Off.grown (p := q) g2) h.lt h.lt)
 case kl =>
   have hl : l < W.heap.size := Nat.lt_of_lt_of_le hq.2.1 h.size
   have hn : some l ≠ some q := fun e => hq.2.2 (Option.some.inj e).symm
   have hl1 : l < W1.heap.size := Nat.lt_of_lt_of_le hl hb.size
   have e0 := hb.block l hl
   have e1 := g1.block l hl1 hn
   have hl2 := Nat.lt_of_lt_of_le hl1 g1.size
   generalize W1.setCells q 1 v'.cells.toList = W2 at *
   exact (g2.block l hl2 hn).trans (e1.trans e0)
end
def RdP (q l : Nat) (Wb : World) (t : As.St) (er : Nat) (W : World) (e : Ending) (W' : World) : Prop := e = .returned (.int .i64 (er : Int)) ∧ RdAt q l Wb t W' ∧ KeepsOthers W W' ∧ W'.heap[l]? = W.heap[l]?
set_option maxHeartbeats 4000000 in
theorem rdwhole_any (q l : Nat) (Wb : World) (t : As.St) (W : World) (h : RdAt q l Wb t W) : Calls Tryz.prog 30 #[.pointer (some ⟨q, 0, none⟩)] W fun e W' => e = .returned (.bool (!t.isOpen && decide (0 < t.done.length))) ∧ W' = W := by
 obtain ⟨W0, s, us, v, h⟩ := h
 have c0 : W.cell? ⟨q, 0, none⟩ = some (.slice s.a s.n s.c) := h.cell 0
 have c12 : W.cell? ⟨q, 12, none⟩ = some (.bool t.isOpen) := h.cell 12
 have HN : Hid (s.n = t.done.length) := Lib.hid (by
   have := h.rowW
   rw [← h.len]
   rcases this.2 with ⟨hv, h0⟩ | ⟨g, cap, cur, hv, _⟩
   · unfold Sl3.val at hv
     injection hv with _ h2
     omega
   · unfold Sl3.val at hv
     injection hv with _ h2)
 clear h
 obtain ⟨b, hb⟩ : ∃ b, t.isOpen = b := ⟨_, rfl⟩
 rw [hb] at c12 ⊢
 clear hb
 go_enter Tryz.func30, Tryz.ntmps30
 cases b with
 | true =>
   go_wp2
   go_ret
   exact ⟨rfl, rfl⟩
 | false =>
   go_wp2
   go_ret
   refine ⟨?_, rfl⟩
   show Ending.returned (.bool (decide (0 < s.n))) = _
   rw [HN.out]
   simp
set_option maxHeartbeats 4000000 in
theorem rdhead_any (q l : Nat) (Wb : World) (t : As.St) (W : World) (h : RdAt q l Wb t W) (x : ByteArray) (hx : x.size ≤ 1048576) : Calls Tryz.prog 50 #[.pointer (some ⟨q, 0, none⟩), .string x] W (RdP q l Wb ⟨t.done, (As.head x).1, true⟩ (As.head x).2 W) := by
 have HHd := ashead_any x hx W
 unfold HeadP at HHd
 obtain ⟨o, ho⟩ : ∃ o, As.head x = o := ⟨_, rfl⟩
 rw [ho] at HHd ⊢
 have H := Lib.hid h
 clear h ho hx
 go_enter Tryz.func50, Tryz.ntmps50
 go_wp2_with (go_at_call 7; refine HHd.mono ?_; rintro _ w1 ⟨v, rfl, hv, hv4, hb1⟩; clear HHd; have HBr : Hid v.Bare := Lib.hid (by obtain ⟨_, _, e⟩ := hv4; exact Bare.four e); clear hv4; refine Hid.out ?_)
 obtain ⟨W0, s, us, v0, h⟩ := H.out
 have b2 : Below w1.heap.size w1 (w1.alloc (.cells #[.string ⟨#[]⟩, .bool false, .slice none 0 0, .slice none 0 0, .slice none 0 0, .slice none 0 0, .slice none 0 0, .slice none 0 0, .slice none 0 0, .slice none 0 0, .slice none 0 0] 35)) := (Below.refl w1.heap.size w1).alloc (Nat.le_refl _) _
 have hz : (w1.alloc (.cells #[.string ⟨#[]⟩, .bool false, .slice none 0 0, .slice none 0 0, .slice none 0 0, .slice none 0 0, .slice none 0 0, .slice none 0 0, .slice none 0 0, .slice none 0 0, .slice none 0 0] 35)).heap[w1.heap.size]? = some (.cells FnV.zero.cells 35 (0, 0)) := heap_alloc_new w1 _
 have hT3 := there_block hz (o := 0) (n := v.cells.size) (Nat.le_of_ble_eq_true rfl)
 have hq3 := World.rangeAt_setCells_same (w1.alloc (.cells #[.string ⟨#[]⟩, .bool false, .slice none 0 0, .slice none 0 0, .slice none 0 0, .slice none 0 0, .slice none 0 0, .slice none 0 0, .slice none 0 0, .slice none 0 0, .slice none 0 0] 35)) w1.heap.size 0 v.cells.toList (there_block hz (by rw [Array.length_toList]; exact Nat.le_of_eq (by rfl)))
 have k3 := sets_grown w1.heap.size v.cells.toList 0 (w1.alloc (.cells #[.string ⟨#[]⟩, .bool false, .slice none 0 0, .slice none 0 0, .slice none 0 0, .slice none 0 0, .slice none 0 0, .slice none 0 0, .slice none 0 0, .slice none 0 0, .slice none 0 0] 35))
 have b3 : Below W.heap.size W ((w1.alloc (.cells #[.string ⟨#[]⟩, .bool false, .slice none 0 0, .slice none 0 0, .slice none 0 0, .slice none 0 0, .slice none 0 0, .slice none 0 0, .slice none 0 0, .slice none 0 0, .slice none 0 0] 35)).setCells w1.heap.size 0 v.cells.toList) := (hb1.trans (b2.mono hb1.size)).grown k3 (Nat.le_trans hb1.size b2.size) (fun k e => by injection e with e; have := hb1.size; omega)
 have hv3 := ((hv.below b2).kept k3 (fun b e => by injection e with e; subst e; exact ⟨_, _, _, hz, else_func⟩))
 clear hv hb1 b2 hz k3
 generalize hw3 : (w1.alloc (.cells #[.string ⟨#[]⟩, .bool false, .slice none 0 0, .slice none 0 0, .slice none 0 0, .slice none 0 0, .slice none 0 0, .slice none 0 0, .slice none 0 0, .slice none 0 0, .slice none 0 0] 35)).setCells w1.heap.size 0 v.cells.toList = w3 at *
 obtain ⟨hT4, h4, h5, h7⟩ := h.opened b3 hv3 HBr.out
 have HF := Lib.hid (show RdAt q l Wb ⟨t.done, o.1, true⟩ ((w3.setCells q 1 v.cells.toList).setCell ⟨q, 12, none⟩ (.bool true)) ∧ KeepsOthers W ((w3.setCells q 1 v.cells.toList).setCell ⟨q, 12, none⟩ (.bool true)) ∧ ((w3.setCells q 1 v.cells.toList).setCell ⟨q, 12, none⟩ (.bool true)).heap[l]? = W.heap[l]? from ⟨⟨_, _, _, _, h5⟩, h7⟩)
 have hc12 : ∃ y, (w3.setCells q 1 v.cells.toList).cell? ⟨q, 12, none⟩ = some y ∧ (w3.setCells q 1 v.cells.toList).frozen? ⟨q, 12, none⟩ = false := by
   have h6 := rd_put (v' := v) ((b3.block q h.lt).trans h.box)
   exact ⟨_, cell_of_row _ q 12 _ _ _ h6, by simp [World.frozen?, h6]⟩
 obtain ⟨y, hy, hf⟩ := hc12
 clear h b3 hv3 h4 h5 h7
 refine Lib.hid ?_
 go_wp2_with (first
   | (with_reducible refine wpList_store_mid ?_ 35 (.tmp 5) (.tmp 10) ?_ w1.heap.size 0 v.cells ?_ ?_ hT3 ?_ ?_ ?_; rfl; rfl; go_must (go_simp; go_simp; kernel_rfl; kernel_rfl; rw [hw3]))
   | (with_reducible refine wpList_load_mid ?_ 35 (.tmp 5) ?_ w1.heap.size 0 ?_ v.cells.toList _ hq3 Tryz.underlying35 ?_ ?_ ?_; rfl; rfl; go_must (go_simp; rfl; kernel_rfl))
   | (with_reducible refine wpList_store_mid ?_ 35 (.tmp 16) (.tmp 14) ?_ q 1 v.cells ?_ ?_ hT4 ?_ ?_ ?_; rfl; rfl; go_must (go_simp; go_simp; kernel_rfl; kernel_rfl; generalize hw5 : w3.setCells q 1 v.cells.toList = w5 at *)))
 go_ret
 exact ⟨rfl, HF.out⟩
end Go.Proofs.YtfopelegobhegaaGreatDoor
