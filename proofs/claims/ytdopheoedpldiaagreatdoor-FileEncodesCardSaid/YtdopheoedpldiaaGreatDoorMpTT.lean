/-
 A table of sets taken out of bytes, run by run: the plain mathematics. Conditions: none.
-/
import Derived.Test.YtdopheoedpldiaaGreatDoorCurS
import Derived.Test.YtdopheoedpldiaaGreatDoorMpX
set_option maxRecDepth 100000
namespace Go.Proofs.YtdopheoedpldiaaGreatDoor
def Octets (s : List Nat × Nat) : Prop := ∀ c ∈ s.1, c < 256
theorem fail_octets {s : List Nat × Nat} (er : Nat) (h : Octets s) : Octets (failA s er) := by
 unfold failA
 split
 · exact h
 · intro c hc
   cases hc
theorem bits_octets {s : List Nat × Nat} (h : Octets s) : (bitsA s).1 < 18446744073709551616 ∧ Octets (bitsA s).2 :=
 ⟨get_fst_lt h, fail_octets _ fun c hc => h c (List.mem_of_mem_drop hc)⟩
namespace Mp
open Sl (Four)
variable {s : List Nat × Nat} {last : Option Four} {left : Nat}
def bitsS : Nat → List Nat × Nat → List Nat × Nat
 | 0, s => s
 | j + 1, s => (bitsA (bitsS j s)).2
def bitV (s : List Nat × Nat) (j : Nat) : Nat := (bitsA (bitsS j s)).1
def fourV (s : List Nat × Nat) : Four := ⟨bitV s 0, bitV s 1, bitV s 2, bitV s 3⟩
theorem bitsS_octets (h : Octets s) : ∀ k, Octets (bitsS k s)
 | 0 => h
 | k + 1 => (bits_octets (bitsS_octets h k)).2
theorem four_ok (h : Octets s) : (fourV s).ok := ⟨(bits_octets (bitsS_octets h 0)).1, (bits_octets (bitsS_octets h 1)).1, (bits_octets (bitsS_octets h 2)).1, (bits_octets (bitsS_octets h 3)).1⟩
def alike (last : Option Four) (x : Four) : Bool := match last with
 | some y => same y x
 | none => false
theorem alike_iff {last : Option Four} {x : Four} : alike last x = true ↔ last = some x := by
 cases last with
 | none => exact ⟨fun h => (by cases h), fun h => (by cases h)⟩
 | some y => exact same_iff.trans ⟨fun h => by rw [h], fun h => by injection h⟩
abbrev bad (s : List Nat × Nat) (last : Option Four) (left : Nat) : Prop := (bitsA s).1 < 1 ∨ left < (bitsA s).1 ∨ alike last (fourV (bitsA s).2) = true
def runS (s : List Nat × Nat) (last : Option Four) (left : Nat) : List Nat × Nat := if bad s last left then failA (bitsS 4 (bitsA s).2) 5 else bitsS 4 (bitsA s).2
theorem run_bad (h : bad s last left) : runS s last left = failA (bitsS 4 (bitsA s).2) 5 := if_pos h
theorem run_good (h : ¬ bad s last left) : runS s last left = bitsS 4 (bitsA s).2 := if_neg h
theorem run_none (he : (runS s last left).2 = 0) : ¬ bad s last left := fun h => by
 rw [run_bad h] at he
 exact absurd he (fail_err (by decide))
def lastV (r : Runs) : Option Four := r.getLast?.map (·.2)
theorem lastV_snoc (r : Runs) (p : Nat × Four) : lastV (r ++ [p]) = some p.2 := by simp [lastV]
theorem row_append (a b : Runs) : row (a ++ b) = row a ++ row b := List.flatMap_append
theorem row_one (p : Nat × Four) : row [p] = List.replicate p.1 p.2 := by simp [row]
def takeL (n : Nat) : Nat → List Nat × Nat → Runs → Option Runs × (List Nat × Nat)
 | 0, s, r => (some r, s)
 | f + 1, s, r =>
   if n ≤ (row r).length then (some r, s)
   else if (runS s (lastV r) (n - (row r).length)).2 ≠ 0 then (none, runS s (lastV r) (n - (row r).length))
   else takeL n f (runS s (lastV r) (n - (row r).length)) (r ++ [((bitsA s).1, fourV (bitsA s).2)])
def takeA (s : List Nat × Nat) (n m : Int) : List Four × (List Nat × Nat) :=
 match takeL n.toNat (n.toNat + 1) s [] with
 | (none, s') => ([], s')
 | (some r, s') => if r.all (fun p => p.2.below m) then (row r, s') else ([], failA s' 14)
section
variable {n f : Nat} {r : Runs}
theorem takeL_end (h : n ≤ (row r).length) : takeL n f s r = (some r, s) := by
 cases f with
 | zero => rfl
 | succ f => rw [takeL, if_pos h]
theorem takeL_err (h : (row r).length < n) (hf : n - (row r).length < f) (he : (runS s (lastV r) (n - (row r).length)).2 ≠ 0) : takeL n f s r = (none, runS s (lastV r) (n - (row r).length)) := by
 cases f with
 | zero => omega
 | succ f => rw [takeL, if_neg (by omega), if_pos he]
theorem takeL_go (h : (row r).length < n) (hf : n - (row r).length < f) (he : (runS s (lastV r) (n - (row r).length)).2 = 0) :
   ∃ f', f = f' + 1 ∧ takeL n f s r = takeL n f' (runS s (lastV r) (n - (row r).length)) (r ++ [((bitsA s).1, fourV (bitsA s).2)]) := by
 cases f with
 | zero => omega
 | succ f => exact ⟨f, rfl, by rw [takeL, if_neg (by omega), if_neg (by omega)]⟩
end
theorem takeA_none {n m : Int} (h : n < 1) : takeA s n m = ([], s) := by
 unfold takeA
 rw [takeL_end (by simp; omega)]
 rfl
theorem takeA_err {n m : Int} {s1 : List Nat × Nat} (h : takeL n.toNat (n.toNat + 1) s [] = (none, s1)) : takeA s n m = ([], s1) := by
 unfold takeA
 rw [h]
theorem takeA_good {n m : Int} {s1 : List Nat × Nat} {r : Runs} (h : takeL n.toNat (n.toNat + 1) s [] = (some r, s1)) (hr : r.all (fun p => p.2.below m) = true) : takeA s n m = (row r, s1) := by
 unfold takeA
 rw [h]
 simp only
 rw [if_pos hr]
theorem takeA_high {n m : Int} {s1 : List Nat × Nat} {r : Runs} (h : takeL n.toNat (n.toNat + 1) s [] = (some r, s1)) (hr : r.all (fun p => p.2.below m) = false) : takeA s n m = ([], failA s1 14) := by
 unfold takeA
 rw [h]
 simp only
 rw [if_neg (by rw [hr]; decide)]
def Alt (r : Runs) : Prop := ∀ pre p rest, r = pre ++ p :: rest → lastV pre ≠ some p.2
theorem alt_of (l : List Four) : Alt (of l) := by
 induction l using snoc_ind with
 | h0 => intro pre p rest h; cases pre <;> cases h
 | h1 l x ih =>
   rw [of_snoc]
   have hs : ∀ (q : Runs) (z : Nat × Four), (∀ pre p rest, q = pre ++ p :: rest → lastV pre ≠ some p.2) → lastV q ≠ some z.2 → Alt (q ++ [z]) := by
     intro q z h1 h2 pre p rest e
     rcases List.eq_nil_or_concat rest with rfl | ⟨r', z', rfl⟩
     · obtain ⟨e1, e2⟩ := List.append_inj' e rfl
       injection e2 with e2
       rw [← e1, ← e2]
       exact h2
     · rw [List.concat_eq_append] at e
       have e' : q ++ [z] = (pre ++ p :: r') ++ [z'] := by rw [e]; simp
       obtain ⟨e1, _⟩ := List.append_inj' e' rfl
       exact h1 pre p r' e1
   unfold step
   cases hl : (of l).getLast? with
   | none =>
     simp only
     intro pre p rest e
     cases pre with
     | nil => intro h; cases h
     | cons a pre => cases pre <;> cases e
   | some q =>
     obtain ⟨n, y⟩ := q
     simp only
     obtain ⟨q', hq⟩ := List.getLast?_eq_some_iff.1 hl
     split
     · rw [hq, List.dropLast_concat]
       refine hs q' _ (fun pre p rest e => ih pre p (rest ++ [(n, y)]) (by rw [hq, e]; simp)) ?_
       exact ih q' (n, y) [] (by rw [hq])
     · rename_i hn
       refine hs _ _ ih ?_
       simp only
       unfold lastV
       rw [hl]
       intro e
       injection e with e
       exact hn (same_iff.2 e)
theorem words_back {x : Four} (h : x.ok) (b : List Nat) : bitsS 4 (words x ++ b, 0) = (b, 0) ∧ fourV (words x ++ b, 0) = x := by
 obtain ⟨h1, h2, h3, h4⟩ := h
 obtain ⟨a1, a2, a3, a4⟩ := x
 simp only at h1 h2 h3 h4
 have e0 : words ⟨a1, a2, a3, a4⟩ ++ b = Uv.put a1 ++ (Uv.put a2 ++ (Uv.put a3 ++ (Uv.put a4 ++ b))) := by simp [words]
 rw [e0]
 refine ⟨by simp only [bitsS, bits_put h1, bits_put h2, bits_put h3, bits_put h4], ?_⟩
 simp only [fourV, bitV, bitsS, bits_put h1, bits_put h2, bits_put h3, bits_put h4]
theorem takeL_laid (b : List Nat) (n : Nat) (hn : n < 18446744073709551616) : ∀ (rest pre : Runs) (f : Nat), (∀ p ∈ pre ++ rest, 1 ≤ p.1 ∧ p.2.ok) → Alt (pre ++ rest) → n = (row (pre ++ rest)).length → n - (row pre).length < f →
   takeL n f (laid rest ++ b, 0) pre = (some (pre ++ rest), (b, 0))
 | [], pre, f, _, _, hl, _ => by
   rw [List.append_nil] at hl ⊢
   exact takeL_end (by omega)
 | p :: rest, pre, f, hpos, hA, hl, hf => by
   have e : pre ++ p :: rest = (pre ++ [p]) ++ rest := by simp
   obtain ⟨hp1, hp2⟩ := hpos p (by simp)
   have hlen : (row pre).length + p.1 ≤ n := by
     rw [hl, e, row_append, row_append, row_one]
     simp
   have hlaid : laid (p :: rest) ++ b = Uv.put p.1 ++ (words p.2 ++ (laid rest ++ b)) := by
     have : laid (p :: rest) = laid [p] ++ laid rest := laid_append [p] rest
     rw [this, laid_one, one]
     simp
   have hb : bitsA (laid (p :: rest) ++ b, 0) = (p.1, words p.2 ++ (laid rest ++ b), 0) := by rw [hlaid]; exact bits_put (by omega) _
   obtain ⟨w1, w2⟩ := words_back hp2 (laid rest ++ b)
   have hrun : runS (laid (p :: rest) ++ b, 0) (lastV pre) (n - (row pre).length) = (laid rest ++ b, 0) := by
     rw [run_good, hb]
     · exact w1
     · unfold bad
       rw [hb]
       simp only
       rw [w2]
       rintro (h | h | h)
       · omega
       · omega
       · exact hA pre p rest rfl (alike_iff.1 h)
   obtain ⟨f', hf', hgo⟩ := takeL_go (n := n) (f := f) (s := (laid (p :: rest) ++ b, 0)) (r := pre) (by omega) hf (by rw [hrun])
   rw [hgo, hrun, hb]
   simp only
   rw [w2, e]
   refine takeL_laid b n hn rest (pre ++ [p]) f' (by rw [← e]; exact hpos) (by rw [← e]; exact hA) (by rw [← e]; exact hl) ?_
   rw [row_append, row_one, List.length_append, List.length_replicate]
   omega
theorem take_back {l : List Four} {m : Int} (b : List Nat) (hl : l.length ≤ 2000) (ho : ∀ s ∈ l, s.ok) (hr : l.all (·.below m) = true) : takeA (bytes l ++ b, 0) (l.length : Int) m = (l, (b, 0)) := by
 have hf := of_fits ho
 have := takeL_laid b l.length (by omega) (of l) [] (l.length + 1) (fun p hp => ⟨(hf p (by simpa using hp)).1, (hf p (by simpa using hp)).2.2⟩) (by simpa using alt_of l) (by rw [List.nil_append, row_of]) (by simp [row])
 rw [List.nil_append] at this
 rw [takeA_good (r := of l) (s1 := (b, 0)) (by rw [Int.toNat_natCast]; exact this) ?_, row_of]
 rw [List.all_eq_true]
 intro p hp
 have h1 := (hf p hp).1
 have : p.2 ∈ row (of l) := List.mem_flatMap.2 ⟨p, hp, List.mem_replicate.2 ⟨by omega, rfl⟩⟩
 rw [row_of] at this
 exact List.all_eq_true.1 hr _ this
end Mp
end Go.Proofs.YtdopheoedpldiaaGreatDoor
namespace Go.Proofs.YtdopheoedpldiaaGreatDoor
open Go.RowKit
def us (l : List Nat) : List Value := l.map fun c : Nat => Value.int .u64 (c : Int)
def WordsAt (w : World) (p : Nat) (l : List Nat) : Prop := w.heap[p]? = some (.cells (us l).toArray 107 (0, 0))
theorem WordsAt.lt {w : World} {p : Nat} {l : List Nat} (h : WordsAt w p l) : p < w.heap.size := heap_lt h
theorem WordsAt.f {w : World} {p : Nat} {l : List Nat} (h : WordsAt w p l) (j : Nat) : w.frozen? ⟨p, j, none⟩ = false := by
 unfold WordsAt at h
 simp [World.frozen?, h]
theorem WordsAt.cell {w : World} {p : Nat} {l : List Nat} (h : WordsAt w p l) {j : Nat} (hj : j < l.length) : w.cell? ⟨p, j, none⟩ = some (.int .u64 (l.getD j 0 : Nat)) := by
 refine (cell_of_row w p j _ _ _ h).trans ?_
 simp [us, List.getD, hj]
theorem WordsAt.four {w : World} {p a b c d : Nat} (h : WordsAt w p [a, b, c, d]) : w.cell? ⟨p, 0, none⟩ = some (.int .u64 (a : Int)) ∧ w.cell? ⟨p, 1, none⟩ = some (.int .u64 (b : Int)) ∧ w.cell? ⟨p, 2, none⟩ = some (.int .u64 (c : Int)) ∧ w.cell? ⟨p, 3, none⟩ = some (.int .u64 (d : Int)) :=
 ⟨cell_of_row w p 0 _ _ _ h, cell_of_row w p 1 _ _ _ h, cell_of_row w p 2 _ _ _ h, cell_of_row w p 3 _ _ _ h⟩
theorem WordsAt.set {w : World} {p : Nat} {l : List Nat} (h : WordsAt w p l) (j x : Nat) : WordsAt (w.setCell ⟨p, j, none⟩ (.int .u64 (x : Int))) p (l.set j x) := by
 unfold WordsAt at h ⊢
 rw [heap_set h]
 simp [us]
theorem WordsAt.kept {w w' : World} {p g : Nat} {l : List Nat} (h : WordsAt w p l) (hg : w.grownBy w' (some g)) (hne : g ≠ p) : WordsAt w' p l := (hg.block p h.lt (by intro e; injection e with e; exact hne e.symm)).trans h
namespace Mp
def box (s : List Nat × Nat) (j : Nat) : List Nat := (List.range 4).map fun i => if i < j then bitV s i else 0
theorem box_zero (s : List Nat × Nat) : box s 0 = [0, 0, 0, 0] := by simp [box, List.range_succ]
theorem box_all (s : List Nat × Nat) : box s 4 = [(fourV s).a, (fourV s).b, (fourV s).c, (fourV s).d] := by simp [box, List.range_succ, fourV]
theorem box_set (s : List Nat × Nat) {j : Nat} (h : j < 4) : (box s j).set j (bitV s j) = box s (j + 1) := by
 rcases (show j = 0 ∨ j = 1 ∨ j = 2 ∨ j = 3 by omega) with rfl | rfl | rfl | rfl <;> simp [box, List.range_succ]
theorem box_len (s : List Nat × Nat) (j : Nat) : (box s j).length = 4 := by simp [box]
end Mp
def MrunAt (w : World) (p : Nat) (x : Int) (y : Sl.Four) : Prop := w.heap[p]? = some (.cells #[.int .i64 x, .int .u64 (y.a : Int), .int .u64 (y.b : Int), .int .u64 (y.c : Int), .int .u64 (y.d : Int)] 120 (0, 0))
theorem MrunAt.new (w : World) (x : Int) (y : Sl.Four) : MrunAt (w.alloc (.cells #[.int .i64 x, .int .u64 (y.a : Int), .int .u64 (y.b : Int), .int .u64 (y.c : Int), .int .u64 (y.d : Int)] 120)) w.heap.size x y := heap_alloc_new w _
section
variable {w w' : World} {p g : Nat} {x : Int} {y : Sl.Four} (h : MrunAt w p x y)
include h
theorem MrunAt.lt : p < w.heap.size := heap_lt h
theorem MrunAt.f (j : Nat) : w.frozen? ⟨p, j, none⟩ = false := by unfold MrunAt at h; simp [World.frozen?, h]
theorem MrunAt.cells : w.cell? ⟨p, 0, none⟩ = some (.int .i64 x) ∧ w.cell? ⟨p, 1, none⟩ = some (.int .u64 (y.a : Int)) ∧ w.cell? ⟨p, 2, none⟩ = some (.int .u64 (y.b : Int)) ∧ w.cell? ⟨p, 3, none⟩ = some (.int .u64 (y.c : Int)) ∧ w.cell? ⟨p, 4, none⟩ = some (.int .u64 (y.d : Int)) := by
 unfold MrunAt at h
 refine ⟨?_, ?_, ?_, ?_, ?_⟩ <;> simp [World.cell?, h]
theorem MrunAt.kept (hg : w.grownBy w' (some g)) (hne : g ≠ p) : MrunAt w' p x y := (hg.block p (heap_lt h) (by intro e; injection e with e; exact hne e.symm)).trans h
theorem MrunAt.alloc (o : Obj) : MrunAt (w.alloc o) p x y := (Below.heap_alloc w o p (heap_lt h)).trans h
theorem MrunAt.store (q j : Nat) (u : Value) (hq : p ≠ q) : MrunAt (w.setCell ⟨q, j, none⟩ u) p x y := (Below.heap_setCell w ⟨q, j, none⟩ u p hq).trans h
theorem MrunAt.set (x' : Int) (y' : Sl.Four) : MrunAt (((((w.setCell ⟨p, 0, none⟩ (.int .i64 x')).setCell ⟨p, 1, none⟩ (.int .u64 (y'.a : Int))).setCell ⟨p, 2, none⟩ (.int .u64 (y'.b : Int))).setCell ⟨p, 3, none⟩ (.int .u64 (y'.c : Int))).setCell ⟨p, 4, none⟩ (.int .u64 (y'.d : Int))) p x' y' :=
 (heap_set (heap_set (heap_set (heap_set (heap_set h _) _) _) _) _).trans rfl
end
theorem set_runs_kept {w w' : World} {B B' g n : Nat} {a : Option Addr} {r : Mp.Runs} (h : SetRunsAt w B a n r) (hg : w.grownBy w' (some g)) (hr : 0 < n → ∀ x, a = some x → x.block ≠ g) (hB' : B ≤ B') : SetRunsAt w' B' a n r := by
 refine ⟨h.1, fun hn => ?_⟩
 obtain ⟨b, off, e, hlt, hc⟩ := h.2 hn
 have hne : some b ≠ some g := by
   intro e'
   injection e' with e'
   exact hr hn _ e e'
 exact ⟨b, off, e, by omega, fun i hi => ⟨hg.cell (hc i hi).1 hne, fun j hj => hg.cell ((hc i hi).2 j hj) hne⟩⟩
def MpRunP (b : Nat) (x : Sl.Four) (g : Nat) (s' : List Nat × Nat) (w : World) (e : Ending) (w' : World) : Prop :=
 e = .returned (.agg #[.int .i64 (wrap64 (b : Int)), .int .u64 (x.a : Int), .int .u64 (x.b : Int), .int .u64 (x.c : Int), .int .u64 (x.d : Int)]) ∧ Cur w' g s' ∧ w.grownBy w' (some g)
def MwRel (g p0 p1 : Nat) (s1 : List Nat × Nat) (w : World) (i : Value) (wr : World) : Prop :=
 ∃ j : Nat, j ≤ 4 ∧ i = .int .i64 (j : Int) ∧ WordsAt wr p1 (Mp.box s1 j) ∧ MrunAt wr p0 0 Sl.no ∧ Cur wr g (Mp.bitsS j s1) ∧ w.grownBy wr (some g)
theorem mwRel_step {g p0 p1 j : Nat} {s1 : List Nat × Nat} {w w2 : World} (hj : j < 4) (hgp : g < w.heap.size) (hwp : w.heap.size ≤ p1) (h01 : p0 < p1) (hb : WordsAt w2 p1 (Mp.box s1 j)) (hx : MrunAt w2 p0 0 Sl.no)
   (hc : Cur w2 g (bitsA (Mp.bitsS j s1)).2) (hg : w.grownBy w2 (some g)) : MwRel g p0 p1 s1 w (.int .i64 ((j : Int) + 1)) (w2.setCell ⟨p1, j, none⟩ (.int .u64 ((bitsA (Mp.bitsS j s1)).1 : Int))) := by
 refine ⟨j + 1, hj, rfl, ?_, hx.store _ _ _ (by omega), ?_, grown_set hg hwp _ _⟩
 · rw [← Mp.box_set s1 hj]
   exact hb.set j _
 · exact hc.kept (row := some p1) (Lib.grownBy_setB (World.grownBy.refl _ _) _ _) (fun k e => by injection e with e; omega)
theorem cur_drewN {w : World} {g : Nat} {s : List Nat × Nat} (h : Cur w g s) (n : Nat) : Cur (w.drewN n) g s := cur_grown h (below_drewN (Below.refl _ _) n)
theorem grown_drewN {w w' : World} {r : Option Nat} (h : w.grownBy w' r) (n : Nat) : w.grownBy (w'.drewN n) r := ⟨h.os, h.tape, h.output, h.size, h.block⟩
theorem WordsAt.drewN {w : World} {p : Nat} {l : List Nat} (h : WordsAt w p l) (n : Nat) : WordsAt (w.drewN n) p l := h
theorem MrunAt.drewN {w : World} {p : Nat} {x : Int} {y : Sl.Four} (h : MrunAt w p x y) (n : Nat) : MrunAt (w.drewN n) p x y := h
theorem cur_far5 {W : World} {g p : Nat} {s : List Nat × Nat} {v0 v1 v2 v3 v4 : Value} (h : Cur W g s) (hp : g < p) : Cur (((((W.setCell ⟨p, 0, none⟩ v0).setCell ⟨p, 1, none⟩ v1).setCell ⟨p, 2, none⟩ v2).setCell ⟨p, 3, none⟩ v3).setCell ⟨p, 4, none⟩ v4) g s :=
 h.kept (row := some p) (Lib.grownBy_setB (Lib.grownBy_setB (Lib.grownBy_setB (Lib.grownBy_setB (Lib.grownBy_setB (World.grownBy.refl _ _) _ _) _ _) _ _) _ _) _ _) (fun k hk => by injection hk with hk; omega)
theorem grown_far5 {w W : World} {g : Nat} {v0 v1 v2 v3 v4 : Value} (h : w.grownBy W (some g)) : w.grownBy (((((W.setCell ⟨w.heap.size, 0, none⟩ v0).setCell ⟨w.heap.size, 1, none⟩ v1).setCell ⟨w.heap.size, 2, none⟩ v2).setCell ⟨w.heap.size, 3, none⟩ v3).setCell ⟨w.heap.size, 4, none⟩ v4) (some g) :=
 grown_set (grown_set (grown_set (grown_set (grown_set h (Nat.le_refl _) _ _) (Nat.le_refl _) _ _) (Nat.le_refl _) _ _) (Nat.le_refl _) _ _) (Nat.le_refl _) _ _
set_option maxHeartbeats 8000000 in
theorem mptakeRun_cur (g : Nat) (s : List Nat × Nat) (a : Option Addr) (n c : Nat) (r : Mp.Runs) (left : Int) (w : World) (h : Cur w g s) (hr : SetRunsAt w w.heap.size a n r) (ha : 0 < n → ∀ x, a = some x → x.block ≠ g) (hn : n ≤ 9223372036854775807) (hl0 : 0 ≤ left) (hl : left ≤ 9223372036854775807) :
   Calls Tryz.prog 195 #[.pointer (some ⟨g, 0, none⟩), .slice a n c, .int .i64 left] w (MpRunP (bitsA s).1 (Mp.fourV (bitsA s).2) g (Mp.runS s (Mp.lastV r) left.toNat) w) := by
 have hgl := h.lt
 have HR := Lib.hid hr
 have HA := Lib.hid ha
 have HB := Lib.hid (bits_cur g s _ (h.kept (World.grownBy_alloc w (.cells #[.int .i64 0, .int .u64 0, .int .u64 0, .int .u64 0, .int .u64 0] 120) none) (by simp)))
 obtain ⟨z, hz⟩ : ∃ z, Mp.runS s (Mp.lastV r) left.toNat = z := ⟨_, rfl⟩
 have HZ : Hid (z = if (bitsA s).1 < 1 ∨ left.toNat < (bitsA s).1 ∨ Mp.alike (Mp.lastV r) (Mp.fourV (bitsA s).2) = true then failA (Mp.bitsS 4 (bitsA s).2) 5 else Mp.bitsS 4 (bitsA s).2) := Lib.hid hz.symm
 rw [hz]
 have hbo : (bitsA s).1 < 18446744073709551616 := (bits_octets h.byte).1
 clear h hr ha hz
 have hwl : IntKind.u64.wrap left = left := by rw [IntKind.wrap_u64]; omega
 generalize (bitsA s).1 = b at *
 generalize (bitsA s).2 = s1 at *
 go_enter Tryz.func195, Tryz.ntmps195
 go_wp2_with (go_at_call 133; go_must (refine HB.out.mono ?_; rintro _ w1 ⟨rfl, hc1, hg1⟩; refine Hid.out ?_))
 have HG1 := Lib.hid (show w.grownBy w1 (some g) from Lib.grownBy_trans (World.grownBy_alloc w (.cells #[.int .i64 0, .int .u64 0, .int .u64 0, .int .u64 0, .int .u64 0] 120) _) hg1)
 have HX1 := Lib.hid ((MrunAt.new w 0 Sl.no).kept hg1 (by omega))
 have HC1 := Lib.hid hc1
 clear hg1 hc1 HB
 have hw1 : w.heap.size < w1.heap.size := HX1.out.lt
 refine Lib.hid ?_
 go_wp2
 go_loopw [9, 12] (fun _ i wr => MwRel g w.heap.size w1.heap.size s1 w i wr) (fun _ i _ => 4 - (intOf i).toNat)
 case atStart =>
   refine ⟨0, by omega, rfl, ?_, HX1.out.alloc _, HC1.out.kept (World.grownBy_alloc w1 _ none) (by simp), Lib.grownBy_allocR HG1.out _⟩
   rw [Mp.box_zero]
   exact heap_alloc_new w1 _
 case round =>
   obtain ⟨j, hj, rfl, hW, hX, hC, hG⟩ := hrel
   have HW := Lib.hid hW
   have HX := Lib.hid hX
   have HC := Lib.hid hC
   have HG := Lib.hid hG
   clear hW hX hC hG
   by_cases hj4 : j < 4
   · have hji : (j : Int) < 4 := by omega
     have HBt := Lib.hid (bits_cur g _ wr HC.out)
     generalize hp1 : w1.heap.size = p1 at *
     go_wp2_with (go_at_call 133; go_must (refine HBt.out.mono ?_; rintro _ w3 ⟨rfl, hc3, hg3⟩; have HW3 := Lib.hid (HW.out.kept hg3 (by omega)); have ec := HW3.out.cell (j := j) (by rw [Mp.box_len]; exact hj4); have ef := HW3.out.f j; have HX3 := Lib.hid (HX.out.kept hg3 (by omega)); have HC3 := Lib.hid hc3; have HG3 := Lib.hid (Lib.grownBy_trans HG.out hg3); clear hc3 hg3))
     exact ⟨mwRel_step hj4 hgl (Nat.le_of_lt hw1) hw1 HW3.out HX3.out HC3.out HG3.out, by simp [intOf]; omega⟩
   · obtain rfl : j = 4 := by omega
     have HBn := Lib.hid hbo
     generalize hp1 : w1.heap.size = p1 at *
     have hbx : Mp.box s1 4 = [(Mp.fourV s1).a, (Mp.fourV s1).b, (Mp.fourV s1).c, (Mp.fourV s1).d] := Mp.box_all s1
     rw [hbx] at HW
     clear hbx
     generalize Mp.fourV s1 = x at *
     generalize Mp.bitsS 4 s1 = s5 at *
     obtain ⟨c0, c1, c2, c3⟩ := HW.out.four
     -- tail
     have hbb : b < 18446744073709551616 := HBn.out
     by_cases h1 : b < 1
     · have HE : Hid (z = failA s5 5) := Lib.hid (by rw [HZ.out, if_pos (.inl h1)])
       have h1i : decide ((b : Int) < 1) = true := decide_eq_true (by omega)
       go_wp2
       go_quiet (fail)
       have HCq := Lib.hid (cur_drewN HC.out nq)
       have HGq := Lib.hid (grown_drewN HG.out nq)
       have HXq := Lib.hid (HX.out.drewN nq)
       have HWq := Lib.hid (HW.out.drewN nq)
       generalize wr.drewN nq = wq at *
       go_wp2_with (go_at_call 134; go_must (refine (fail_cur g s5 5 _ HCq.out (by decide)).mono ?_; rintro _ w5 ⟨rfl, hc5, hg5⟩; refine Hid.out ?_))
       have HC5 := Lib.hid hc5
       have HG5 := Lib.hid (Lib.grownBy_trans HGq.out hg5)
       have HX5 := Lib.hid (HXq.out.kept hg5 (by omega))
       have HW5 := Lib.hid (HWq.out.kept hg5 (by omega))
       clear hg5 hc5 c0 c1 c2 c3
       obtain ⟨c0, c1, c2, c3⟩ := HW5.out.four
       obtain ⟨y0, y1, y2, y3, y4⟩ := HX5.out.cells
       have f0 := HX5.out.f 0
       have f1 := HX5.out.f 1
       have f2 := HX5.out.f 2
       have f3 := HX5.out.f 3
       have f4 := HX5.out.f 4
       refine Lib.hid ?_
       go_wp2
       obtain ⟨q0, q1, q2, q3, q4⟩ := (HX5.out.set (b : Int) x).cells
       exact bodyPost_ret (v := .agg #[.int .i64 (b : Int), .int .u64 (x.a : Int), .int .u64 (x.b : Int), .int .u64 (x.c : Int), .int .u64 (x.d : Int)]) (by simp [results, Tryz.results195, go_sem, q0, q1, q2, q3, q4]) rfl ⟨by rw [show wrap64 (b : Int) = (b : Int) by unfold wrap64; omega], by rw [HE.out]; exact cur_far5 HC5.out hgl, grown_far5 HG5.out⟩
     have h1i : decide ((b : Int) < 1) = false := decide_eq_false (by omega)
     by_cases h2 : left.toNat < b
     · have HE : Hid (z = failA s5 5) := Lib.hid (by rw [HZ.out, if_pos (.inr (.inl h2))])
       have h2i : decide (left < (b : Int)) = true := decide_eq_true (by omega)
       go_wp2
       go_quiet (fail)
       have HCq := Lib.hid (cur_drewN HC.out nq)
       have HGq := Lib.hid (grown_drewN HG.out nq)
       have HXq := Lib.hid (HX.out.drewN nq)
       have HWq := Lib.hid (HW.out.drewN nq)
       generalize wr.drewN nq = wq at *
       go_wp2_with (go_at_call 134; go_must (refine (fail_cur g s5 5 _ HCq.out (by decide)).mono ?_; rintro _ w5 ⟨rfl, hc5, hg5⟩; refine Hid.out ?_))
       have HC5 := Lib.hid hc5
       have HG5 := Lib.hid (Lib.grownBy_trans HGq.out hg5)
       have HX5 := Lib.hid (HXq.out.kept hg5 (by omega))
       have HW5 := Lib.hid (HWq.out.kept hg5 (by omega))
       clear hg5 hc5 c0 c1 c2 c3
       obtain ⟨c0, c1, c2, c3⟩ := HW5.out.four
       obtain ⟨y0, y1, y2, y3, y4⟩ := HX5.out.cells
       have f0 := HX5.out.f 0
       have f1 := HX5.out.f 1
       have f2 := HX5.out.f 2
       have f3 := HX5.out.f 3
       have f4 := HX5.out.f 4
       refine Lib.hid ?_
       go_wp2
       obtain ⟨q0, q1, q2, q3, q4⟩ := (HX5.out.set (wrap64 (b : Int)) x).cells
       exact bodyPost_ret (v := .agg #[.int .i64 (wrap64 (b : Int)), .int .u64 (x.a : Int), .int .u64 (x.b : Int), .int .u64 (x.c : Int), .int .u64 (x.d : Int)]) (by simp [results, Tryz.results195, go_sem, q0, q1, q2, q3, q4]) rfl ⟨rfl, by rw [HE.out]; exact cur_far5 HC5.out hgl, grown_far5 HG5.out⟩
     have h2i : decide (left < (b : Int)) = false := decide_eq_false (by omega)
     by_cases h3 : n = 0
     · have HE : Hid (z = s5) := Lib.hid (by
         have hr0 : r = [] := List.eq_nil_of_length_eq_zero (by rw [HR.out.1, h3])
         rw [HZ.out, if_neg]
         rintro (h | h | h)
         · exact h1 h
         · exact h2 h
         · subst hr0
           cases h)
       subst h3
       go_wp2
       go_quiet (fail)
       have HCq := Lib.hid (cur_drewN HC.out nq)
       have HGq := Lib.hid (grown_drewN HG.out nq)
       have HXq := Lib.hid (HX.out.drewN nq)
       have HWq := Lib.hid (HW.out.drewN nq)
       generalize wr.drewN nq = wq at *
       have HC5 := HCq
       have HG5 := HGq
       have HX5 := HXq
       have HW5 := HWq
       refine Hid.out ?_
       clear c0 c1 c2 c3
       obtain ⟨c0, c1, c2, c3⟩ := HW5.out.four
       obtain ⟨y0, y1, y2, y3, y4⟩ := HX5.out.cells
       have f0 := HX5.out.f 0
       have f1 := HX5.out.f 1
       have f2 := HX5.out.f 2
       have f3 := HX5.out.f 3
       have f4 := HX5.out.f 4
       refine Lib.hid ?_
       go_wp2
       obtain ⟨q0, q1, q2, q3, q4⟩ := (HX5.out.set (b : Int) x).cells
       exact bodyPost_ret (v := .agg #[.int .i64 (b : Int), .int .u64 (x.a : Int), .int .u64 (x.b : Int), .int .u64 (x.c : Int), .int .u64 (x.d : Int)]) (by simp [results, Tryz.results195, go_sem, q0, q1, q2, q3, q4]) rfl ⟨by rw [show wrap64 (b : Int) = (b : Int) by unfold wrap64; omega], by rw [HE.out]; exact cur_far5 HC5.out hgl, grown_far5 HG5.out⟩
     have h3i : decide (0 < n) = true := decide_eq_true (by omega)
     obtain ⟨m, hm⟩ : ∃ m, n = m + 1 := ⟨n - 1, by omega⟩
     have hsub : (n : Int) - 1 = (m : Int) := by omega
     have hmn : (m : Int) < (n : Int) := by omega
     have hRk : SetRunsAt wr wr.heap.size a n r := set_runs_kept HR.out HG.out HA.out HG.out.size
     obtain ⟨bl, off, num, y, rfl, _, hy, hmr, _, d1, d2, d3, d4⟩ := set_runs_cell hRk (k := m) (by omega)
     have HLast : Hid (Mp.lastV r = some y) := Lib.hid (by
       have hl : r.length = m + 1 := by rw [HR.out.1, hm]
       unfold Mp.lastV
       rw [List.getLast?_eq_getElem?, hl, Nat.add_sub_cancel, List.getElem?_eq_getElem hmr, Option.map_some]
       have e : r.getD m (0, Sl.no) = r[m] := by simp [List.getD, hmr]
       rw [← e, hy])
     have eqs := eq_sets y x
     clear hy hmr hm hRk
     by_cases hyx : y = x
     · rw [Mp.same_iff.2 hyx] at eqs
       have HE : Hid (z = failA s5 5) := Lib.hid (by rw [HZ.out, if_pos]; right; right; rw [HLast.out]; exact Mp.alike_iff.2 (by rw [hyx]))
       clear hyx
       go_wp2
       go_quiet (fail)
       have HCq := Lib.hid (cur_drewN HC.out nq)
       have HGq := Lib.hid (grown_drewN HG.out nq)
       have HXq := Lib.hid (HX.out.drewN nq)
       have HWq := Lib.hid (HW.out.drewN nq)
       generalize wr.drewN nq = wq at *
       clear d1 d2 d3 d4 eqs
       go_wp2_with (go_at_call 134; go_must (refine (fail_cur g s5 5 _ HCq.out (by decide)).mono ?_; rintro _ w5 ⟨rfl, hc5, hg5⟩; refine Hid.out ?_))
       have HC5 := Lib.hid hc5
       have HG5 := Lib.hid (Lib.grownBy_trans HGq.out hg5)
       have HX5 := Lib.hid (HXq.out.kept hg5 (by omega))
       have HW5 := Lib.hid (HWq.out.kept hg5 (by omega))
       clear hg5 hc5 c0 c1 c2 c3
       obtain ⟨c0, c1, c2, c3⟩ := HW5.out.four
       obtain ⟨y0, y1, y2, y3, y4⟩ := HX5.out.cells
       have f0 := HX5.out.f 0
       have f1 := HX5.out.f 1
       have f2 := HX5.out.f 2
       have f3 := HX5.out.f 3
       have f4 := HX5.out.f 4
       refine Lib.hid ?_
       go_wp2
       obtain ⟨q0, q1, q2, q3, q4⟩ := (HX5.out.set (b : Int) x).cells
       exact bodyPost_ret (v := .agg #[.int .i64 (b : Int), .int .u64 (x.a : Int), .int .u64 (x.b : Int), .int .u64 (x.c : Int), .int .u64 (x.d : Int)]) (by simp [results, Tryz.results195, go_sem, q0, q1, q2, q3, q4]) rfl ⟨by rw [show wrap64 (b : Int) = (b : Int) by unfold wrap64; omega], by rw [HE.out]; exact cur_far5 HC5.out hgl, grown_far5 HG5.out⟩
     · rw [Mp.same_not hyx] at eqs
       have HE : Hid (z = s5) := Lib.hid (by
         rw [HZ.out, if_neg]
         rintro (h | h | h)
         · exact h1 h
         · exact h2 h
         · rw [HLast.out] at h
           exact hyx (Option.some.inj (Mp.alike_iff.1 h)))
       clear hyx
       go_wp2
       go_quiet (fail)
       have HCq := Lib.hid (cur_drewN HC.out nq)
       have HGq := Lib.hid (grown_drewN HG.out nq)
       have HXq := Lib.hid (HX.out.drewN nq)
       have HWq := Lib.hid (HW.out.drewN nq)
       generalize wr.drewN nq = wq at *
       clear d1 d2 d3 d4 eqs
       have HC5 := HCq
       have HG5 := HGq
       have HX5 := HXq
       have HW5 := HWq
       refine Hid.out ?_
       clear c0 c1 c2 c3
       obtain ⟨c0, c1, c2, c3⟩ := HW5.out.four
       obtain ⟨y0, y1, y2, y3, y4⟩ := HX5.out.cells
       have f0 := HX5.out.f 0
       have f1 := HX5.out.f 1
       have f2 := HX5.out.f 2
       have f3 := HX5.out.f 3
       have f4 := HX5.out.f 4
       refine Lib.hid ?_
       go_wp2
       obtain ⟨q0, q1, q2, q3, q4⟩ := (HX5.out.set (b : Int) x).cells
       exact bodyPost_ret (v := .agg #[.int .i64 (b : Int), .int .u64 (x.a : Int), .int .u64 (x.b : Int), .int .u64 (x.c : Int), .int .u64 (x.d : Int)]) (by simp [results, Tryz.results195, go_sem, q0, q1, q2, q3, q4]) rfl ⟨by rw [show wrap64 (b : Int) = (b : Int) by unfold wrap64; omega], by rw [HE.out]; exact cur_far5 HC5.out hgl, grown_far5 HG5.out⟩
     -- tail end
end Go.Proofs.YtdopheoedpldiaaGreatDoor
