/-
 What was laid one behind the other is taken one behind the other: the plain mathematics. Conditions: numbers of their types; texts shorter than 2^63.
-/
import Derived.Test.YtdopheoedpldiaaGreatDoorInRP
import Derived.Test.YtdopheoedpldiaaGreatDoorCurS
import Derived.Test.YtdopheoedpldiaaGreatDoorRuR
set_option maxRecDepth 100000
namespace Go.Proofs.YtdopheoedpldiaaGreatDoor
theorem intA_put {x : Int} (h1 : -9223372036854775808 ≤ x) (h2 : x ≤ 9223372036854775807) (r : List Nat) : intA (Uv.put (Uv.fold x) ++ r, 0) = (x, r, 0) := by
 unfold intA
 simp only [Uv.get_put (Uv.fold_lt h1 h2), Uv.unfold_fold]
 unfold failA
 rw [if_pos (.inl rfl)]
 simp
end Go.Proofs.YtdopheoedpldiaaGreatDoor
namespace Go.Proofs.YtdopheoedpldiaaGreatDoor
def formS (s : List Nat × Nat) (left : Int) : List Nat × Nat := if (bitsA s).1 < 1 ∨ left < ((bitsA s).1 : Int) then failA (bitsA s).2 5 else (bitsA s).2
def sameS (s : List Nat × Nat) (last : Option Int) (left : Int) : List Nat × Nat := if last = some (intA (formS s left)).1 then failA (intA (formS s left)).2 5 else (intA (formS s left)).2
def runS (s : List Nat × Nat) (last : Option Int) (left low high : Int) : List Nat × Nat := if (intA (formS s left)).1 < low ∨ high < (intA (formS s left)).1 then failA (sameS s last left) 2 else sameS s last left
section
variable {s : List Nat × Nat} {last : Option Int} {left low high : Int}
theorem form_clean (h : Clean s) : Clean (formS s left) := by
 unfold formS
 split
 · exact fail_clean _ (bits_clean h)
 · exact bits_clean h
theorem same_err (h : Clean s) (he : (formS s left).2 ≠ 0) : sameS s last left = formS s left := by
 unfold sameS
 rw [int_err (form_clean h) he, fail_stays _ he]
 split <;> rfl
theorem run_err (h : Clean s) (he : (formS s left).2 ≠ 0) : runS s last left low high = formS s left := by
 unfold runS
 rw [same_err h he, fail_stays _ he]
 split <;> rfl
theorem run_bits (h : Clean s) (he : (bitsA s).2.2 ≠ 0) : runS s last left low high = (bitsA s).2 := by
 have hf : formS s left = (bitsA s).2 := by
   unfold formS
   rw [fail_stays _ he]
   split <;> rfl
 rw [run_err h (by rw [hf]; exact he), hf]
theorem run_form (h : Clean s) (h0 : (bitsA s).2.2 = 0) (hc : (bitsA s).1 < 1 ∨ left < ((bitsA s).1 : Int)) : runS s last left low high = ([], 5) := by
 have hf : formS s left = ([], 5) := by
   unfold formS
   rw [if_pos hc, fail_sets h0 (by omega)]
 rw [run_err h (by rw [hf]; simp), hf]
theorem form_ok (hc : ¬ ((bitsA s).1 < 1 ∨ left < ((bitsA s).1 : Int))) : formS s left = (bitsA s).2 := by
 unfold formS
 rw [if_neg hc]
theorem run_int (hc : ¬ ((bitsA s).1 < 1 ∨ left < ((bitsA s).1 : Int))) (he : (intA (bitsA s).2).2.2 ≠ 0) : runS s last left low high = (intA (bitsA s).2).2 := by
 unfold runS sameS
 rw [form_ok hc, fail_stays _ he]
 have : (if last = some (intA (bitsA s).2).1 then (intA (bitsA s).2).2 else (intA (bitsA s).2).2) = (intA (bitsA s).2).2 := by split <;> rfl
 rw [this, fail_stays _ he]
 split <;> rfl
theorem run_same (hc : ¬ ((bitsA s).1 < 1 ∨ left < ((bitsA s).1 : Int))) (h0 : (intA (bitsA s).2).2.2 = 0) (hs : last = some (intA (bitsA s).2).1) : runS s last left low high = ([], 5) := by
 unfold runS sameS
 rw [form_ok hc, if_pos hs, fail_sets h0 (by omega), fail_stays 2 (s := ([], 5)) (by simp)]
 split <;> rfl
theorem run_range (hc : ¬ ((bitsA s).1 < 1 ∨ left < ((bitsA s).1 : Int))) (h0 : (intA (bitsA s).2).2.2 = 0) (hs : ¬ last = some (intA (bitsA s).2).1) (hr : (intA (bitsA s).2).1 < low ∨ high < (intA (bitsA s).2).1) : runS s last left low high = ([], 2) := by
 unfold runS sameS
 rw [form_ok hc, if_neg hs, if_pos hr, fail_sets h0 (by omega)]
theorem run_fine (hc : ¬ ((bitsA s).1 < 1 ∨ left < ((bitsA s).1 : Int))) (hs : ¬ last = some (intA (bitsA s).2).1) (hr : ¬ ((intA (bitsA s).2).1 < low ∨ high < (intA (bitsA s).2).1)) : runS s last left low high = (intA (bitsA s).2).2 := by
 unfold runS sameS
 rw [form_ok hc, if_neg hs, if_neg hr]
theorem run_none (h : Clean s) (he : (runS s last left low high).2 = 0) :
   ¬ ((bitsA s).1 < 1 ∨ left < ((bitsA s).1 : Int)) ∧ ¬ last = some (intA (bitsA s).2).1 ∧ ¬ ((intA (bitsA s).2).1 < low ∨ high < (intA (bitsA s).2).1) ∧ (bitsA s).2.2 = 0 ∧ (intA (bitsA s).2).2.2 = 0 ∧ s.2 = 0 := by
 have h1 : (bitsA s).2.2 = 0 := Decidable.byContradiction fun hn => by rw [run_bits h hn] at he; exact hn he
 have h0 : s.2 = 0 := Decidable.byContradiction fun hn => by rw [bits_err h hn] at h1; exact hn h1
 have h2 : ¬ ((bitsA s).1 < 1 ∨ left < ((bitsA s).1 : Int)) := fun hc => by rw [run_form h h1 hc] at he; cases he
 have h3 : (intA (bitsA s).2).2.2 = 0 := Decidable.byContradiction fun hn => by rw [run_int h2 hn] at he; exact hn he
 have h4 : ¬ last = some (intA (bitsA s).2).1 := fun hc => by rw [run_same h2 h3 hc] at he; cases he
 have h5 : ¬ ((intA (bitsA s).2).1 < low ∨ high < (intA (bitsA s).2).1) := fun hc => by rw [run_range h2 h3 h4 hc] at he; cases he
 exact ⟨h2, h4, h5, h1, h3, h0⟩
end
def takeL (n : Nat) (low high : Int) : Nat → List Nat × Nat → List Int → List Int × (List Nat × Nat)
 | 0, s, out => (out, s)
 | f + 1, s, out =>
   if n ≤ out.length then (out, s)
   else if (runS s out.getLast? ((n - out.length : Nat) : Int) low high).2 ≠ 0 then ([], runS s out.getLast? ((n - out.length : Nat) : Int) low high)
   else takeL n low high f (runS s out.getLast? ((n - out.length : Nat) : Int) low high) (out ++ List.replicate (bitsA s).1 (intA (bitsA s).2).1)
def takeA (s : List Nat × Nat) (n low high : Int) : List Int × (List Nat × Nat) := takeL n.toNat low high (n.toNat + 1) s []
section
variable {n f : Nat} {low high : Int} {s : List Nat × Nat} {out : List Int}
theorem takeL_end (h : n ≤ out.length) : takeL n low high f s out = (out, s) := by
 cases f with
 | zero => rfl
 | succ f => rw [takeL, if_pos h]
theorem takeL_err (h : out.length < n) (hf : n - out.length < f) (he : (runS s out.getLast? ((n - out.length : Nat) : Int) low high).2 ≠ 0) : takeL n low high f s out = ([], runS s out.getLast? ((n - out.length : Nat) : Int) low high) := by
 cases f with
 | zero => omega
 | succ f => rw [takeL, if_neg (by omega), if_pos he]
theorem takeL_go (h : out.length < n) (hf : n - out.length < f) (he : (runS s out.getLast? ((n - out.length : Nat) : Int) low high).2 = 0) :
   ∃ f', f = f' + 1 ∧ takeL n low high f s out = takeL n low high f' (runS s out.getLast? ((n - out.length : Nat) : Int) low high) (out ++ List.replicate (bitsA s).1 (intA (bitsA s).2).1) := by
 cases f with
 | zero => omega
 | succ f => exact ⟨f, rfl, by rw [takeL, if_neg (by omega), if_neg (by omega)]⟩
end
theorem takeA_none {s : List Nat × Nat} {n low high : Int} (h : n < 1) : takeA s n low high = ([], s) := takeL_end (by simp; omega)
theorem flat_last (r : Ru.Runs) (h : ∀ p ∈ r, 1 ≤ p.1) : (Ru.flat r).getLast? = lastV r := by
 rcases Ru.last_cases r with rfl | ⟨pre, p, rfl⟩
 · rfl
 · rw [lastV_snoc, Ru.flat_append, Ru.flat_one]
   have := h p (by simp)
   obtain ⟨k, hk⟩ : ∃ k, p.1.toNat = k + 1 := ⟨p.1.toNat - 1, by omega⟩
   rw [hk, List.replicate_succ', ← List.append_assoc, List.getLast?_concat]
theorem bitsA_put {x : Nat} (h : x < 18446744073709551616) (r : List Nat) : bitsA (Uv.put x ++ r, 0) = (x, r, 0) := by
 unfold bitsA
 simp only [Uv.get_put h]
 unfold failA
 rw [if_pos (.inl rfl)]
 simp
theorem takeL_laid {low high : Int} (b : List Nat) (n : Nat) (hn : n ≤ 9223372036854775807) : ∀ (rest pre : Ru.Runs) (f : Nat), (∀ p ∈ pre ++ rest, 1 ≤ p.1) → (∀ p ∈ rest, low ≤ p.2 ∧ p.2 ≤ high ∧ -9223372036854775808 ≤ p.2 ∧ p.2 ≤ 9223372036854775807) →
   (∃ lf pv, Ru.rightS (pre ++ rest) = some (lf, pv)) → n = (Ru.flat (pre ++ rest)).length → n - (Ru.flat pre).length < f →
   takeL n low high f (Ru.laid rest ++ b, 0) (Ru.flat pre) = (Ru.flat (pre ++ rest), (b, 0))
 | [], pre, f, _, _, _, hl, _ => by
   rw [List.append_nil] at hl ⊢
   exact takeL_end (by omega)
 | p :: rest, pre, f, hpos, hrng, hR, hl, hf => by
   have e : pre ++ p :: rest = (pre ++ [p]) ++ rest := by simp
   have hp1 : 1 ≤ p.1 := hpos p (by simp)
   obtain ⟨r1, r2, r3, r4⟩ := hrng p (by simp)
   have hlen : (Ru.flat pre).length + p.1.toNat ≤ n := by
     rw [hl, e, Ru.flat_append, Ru.flat_append, Ru.flat_one]
     simp
   obtain ⟨m, hm⟩ : ∃ m : Nat, p.1 = (m : Int) := ⟨p.1.toNat, by omega⟩
   have hmn : p.1.toNat = m := by omega
   have hlaid : Ru.laid (p :: rest) ++ b = Uv.put m ++ (Uv.put (Uv.fold p.2) ++ (Ru.laid rest ++ b)) := by
     have : Ru.laid (p :: rest) = Ru.laid [p] ++ Ru.laid rest := Ru.laid_append [p] rest
     rw [this, Ru.laid_one, hmn]
     simp
   have hb : bitsA (Ru.laid (p :: rest) ++ b, 0) = (m, Uv.put (Uv.fold p.2) ++ (Ru.laid rest ++ b), 0) := by rw [hlaid]; exact bitsA_put (by omega) _
   have hi : intA (bitsA (Ru.laid (p :: rest) ++ b, 0)).2 = (p.2, Ru.laid rest ++ b, 0) := by rw [hb]; exact intA_put r3 r4 _
   have hlast : ¬ (Ru.flat pre).getLast? = some p.2 := by
     rw [flat_last pre (fun q hq => hpos q (by simp [hq]))]
     intro hc
     obtain ⟨lf, pv, hS⟩ := hR
     rw [e] at hS
     have hS1 : Ru.rightS (pre ++ [p]) = none := by
       rw [Ru.rightS_snoc]
       cases hq : Ru.rightS pre with
       | none => rfl
       | some st =>
         obtain ⟨l0, p0⟩ := st
         obtain ⟨hpv, _⟩ := rightS_prev pre hq
         simp only [Ru.stepR]
         rw [if_pos (.inr (.inr (by rw [hpv]; exact hc)))]
     unfold Ru.rightS at hS hS1
     rw [List.foldl_append, hS1, Ru.step_none] at hS
     cases hS
   have hrun : runS (Ru.laid (p :: rest) ++ b, 0) (Ru.flat pre).getLast? ((n - (Ru.flat pre).length : Nat) : Int) low high = (Ru.laid rest ++ b, 0) := by
     rw [run_fine (by rw [hb]; simp only; omega) (by rw [hi]; exact hlast) (by rw [hi]; simp only; omega), hi]
   obtain ⟨f', hf', hgo⟩ := takeL_go (n := n) (f := f) (low := low) (high := high) (s := (Ru.laid (p :: rest) ++ b, 0)) (out := Ru.flat pre) (by omega) hf (by rw [hrun])
   rw [hgo, hrun, hi, hb]
   simp only
   have hfl : Ru.flat pre ++ List.replicate m p.2 = Ru.flat (pre ++ [p]) := by rw [Ru.flat_append, Ru.flat_one, hmn]
   rw [hfl, e]
   refine takeL_laid b n hn rest (pre ++ [p]) f' (by rw [← e]; exact hpos) (fun q hq => hrng q (by simp [hq])) (by rw [← e]; exact hR) (by rw [← e]; exact hl) ?_
   rw [Ru.flat_append, Ru.flat_one, List.length_append, List.length_replicate]
   omega
theorem take_back {l : List Int} {low high : Int} (b : List Nat) (hl : l.length ≤ 2000) (hr : ∀ z ∈ l, low ≤ z ∧ z ≤ high ∧ -9223372036854775808 ≤ z ∧ z ≤ 9223372036854775807) : takeA (Ru.laid (Ru.of l) ++ b, 0) (l.length : Int) low high = (l, (b, 0)) := by
 unfold takeA
 have := takeL_laid (low := low) (high := high) b l.length (by omega) (Ru.of l) [] (l.length + 1) (by simpa using Ru.of_pos l) (fun p hp => ?_) ⟨_, _, by rw [List.nil_append]; exact Ru.rightS_of l hl⟩ (by rw [List.nil_append, Ru.flat_of]) (by simp [Ru.flat])
 · rw [List.nil_append, Ru.flat_of] at this
   rw [Int.toNat_natCast]
   exact this
 · have h1 := Ru.of_pos l p hp
   have : p.2 ∈ Ru.flat (Ru.of l) := List.mem_flatMap.2 ⟨p, hp, List.mem_replicate.2 ⟨by omega, rfl⟩⟩
   rw [Ru.flat_of] at this
   exact hr _ this
end Go.Proofs.YtdopheoedpldiaaGreatDoor
namespace Go.Proofs.YtdopheoedpldiaaGreatDoor
open Go.RowKit
def RunBox (w : World) (p : Nat) (x y : Value) : Prop := w.heap[p]? = some (.cells #[x, y] 205 (0, 0))
theorem RunBox.new (w : World) (x y : Value) : RunBox (w.alloc (.cells #[x, y] 205)) w.heap.size x y := heap_alloc_new _ _
section
variable {w : World} {p : Nat} {x y : Value} (h : RunBox w p x y)
include h
theorem RunBox.lt : p < w.heap.size := heap_lt h
theorem RunBox.c0 : w.cell? ⟨p, 0, none⟩ = some x := by unfold RunBox at h; simp [World.cell?, h]
theorem RunBox.c1 : w.cell? ⟨p, 1, none⟩ = some y := by unfold RunBox at h; simp [World.cell?, h]
theorem RunBox.f (i : Nat) : w.frozen? ⟨p, i, none⟩ = false := by unfold RunBox at h; simp [World.frozen?, h]
theorem RunBox.kept {w' : World} {row : Option Nat} (hg : w.grownBy w' row) (hne : row ≠ some p) : RunBox w' p x y := (hg.block p (heap_lt h) (Ne.symm hne)).trans h
theorem RunBox.set (x' y' : Value) : RunBox ((w.setCell ⟨p, 0, none⟩ x').setCell ⟨p, 1, none⟩ y') p x' y' := (heap_set (heap_set h _) _).trans rfl
end
theorem pairs_kept {w w' : World} {B B' g n : Nat} {a : Option Addr} {r : Ru.Runs} (h : PairsAt w B a n r) (hg : w.grownBy w' (some g)) (hr : 0 < n → ∀ x, a = some x → x.block ≠ g) (hB' : B ≤ B') : PairsAt w' B' a n r := by
 refine ⟨h.1, fun hn => ?_⟩
 obtain ⟨b, off, e, hlt, hc⟩ := h.2 hn
 refine ⟨b, off, e, by omega, fun i hi => ?_⟩
 have hne : some b ≠ some g := by
   intro e'
   injection e' with e'
   exact hr hn _ e e'
 exact ⟨hg.cell (hc i hi).1 hne, hg.cell (hc i hi).2 hne⟩
def TakeRunP (x y : Int) (g : Nat) (s' : List Nat × Nat) (w : World) (e : Ending) (w' : World) : Prop :=
 e = .returned (.agg #[.int .i64 x, .int .i64 y]) ∧ Cur w' g s' ∧ w.grownBy w' (some g)
theorem grown_alloc_set {w W : World} {g p : Nat} {x y : Value} (h : w.grownBy W (some g)) (hp : w.heap.size ≤ p) : w.grownBy ((W.setCell ⟨p, 0, none⟩ x).setCell ⟨p, 1, none⟩ y) (some g) := grown_set (grown_set h hp _ _) hp _ _
theorem cur_set {W : World} {g p : Nat} {s : List Nat × Nat} {x y : Value} (h : Cur W g s) (hp : g < p) : Cur ((W.setCell ⟨p, 0, none⟩ x).setCell ⟨p, 1, none⟩ y) g s :=
 h.kept (row := some p) (Lib.grownBy_setB (Lib.grownBy_setB (World.grownBy.refl _ _) _ _) _ _) (fun k hk => by injection hk with hk; omega)
set_option maxHeartbeats 8000000 in
theorem takeRun_cur (g : Nat) (s : List Nat × Nat) (a : Option Addr) (k c : Nat) (r : Ru.Runs) (left low high : Int) (w : World) (h : Cur w g s) (hp : PairsAt w w.heap.size a k r) (ha : 0 < k → ∀ x, a = some x → x.block ≠ g) (hk : k ≤ 9223372036854775807) (hl0 : 0 < left) (hl1 : left ≤ 9223372036854775807) :
   Calls Tryz.prog 193 #[.pointer (some ⟨g, 0, none⟩), .slice a k c, .int .i64 left, .int .i64 low, .int .i64 high] w (TakeRunP (wrap64 ((bitsA s).1 : Int)) (intA (formS s left)).1 g (runS s (lastV r) left low high) w) := by
 have hgl := h.lt
 have HB := Lib.hid (fun W (hW : Cur W g s) => bits_cur g s W hW)
 have H := Lib.hid h
 have HP := Lib.hid hp
 have HA := Lib.hid ha
 have HF := Lib.hid (fun er (he : er ≤ 9223372036854775807) s W (hW : Cur W g s) => fail_cur g s er W hW he)
 have HQ := Lib.hid (fun v W (hg : w.grownBy W (some g)) => repeats_any a k c W.heap.size r v W (pairs_kept hp hg ha hg.size) hk)
 have hwl : IntKind.u64.wrap left = left := by rw [IntKind.wrap_u64]; omega
 have HI0 := Lib.hid (fun W (hW : Cur W g (formS s left)) => int_cur g _ W hW)
 have hC0 : runS s (lastV r) left low high = if (intA (formS s left)).1 < low ∨ high < (intA (formS s left)).1 then failA (if lastV r = some (intA (formS s left)).1 then failA (intA (formS s left)).2 5 else (intA (formS s left)).2) 2 else (if lastV r = some (intA (formS s left)).1 then failA (intA (formS s left)).2 5 else (intA (formS s left)).2) := rfl
 have hF0 : formS s left = if (bitsA s).1 < 1 ∨ left < ((bitsA s).1 : Int) then failA (bitsA s).2 5 else (bitsA s).2 := rfl
 rw [hC0]
 generalize (intA (formS s left)).1 = v at *
 generalize (intA (formS s left)).2 = si at *
 clear hC0
 generalize formS s left = fs at *
 have HFS := Lib.hid hF0
 clear hF0
 generalize (bitsA s).1 = b at *
 generalize (bitsA s).2 = sb at *
 clear h hp ha
 by_cases h1 : b < 1
 · have HE : Hid (fs = failA sb 5) := Lib.hid (by rw [HFS.out, if_pos (.inl h1)])
   have h1i : (b : Int) < 1 := by omega
   clear HFS
   rw [show wrap64 (b : Int) = (b : Int) by unfold wrap64; omega]
   by_cases h2 : lastV r = some v
   · rw [if_pos h2]
     by_cases h3 : v < low
     · rw [if_pos (.inl h3)]
       go_enter Tryz.func193, Tryz.ntmps193
       go_wp2_with fail
       refine (HB.out _ (H.out.kept (World.grownBy_alloc _ _ none) (by simp))).mono ?_
       rintro e w1 ⟨rfl, hc1, hg1⟩
       have HG1 := Lib.hid (show w.grownBy w1 (some g) from Lib.grownBy_trans (World.grownBy_alloc w (.cells #[.int .i64 0, .int .i64 0] 205) _) hg1)
       have HX1 := Lib.hid ((RunBox.new w (.int .i64 0) (.int .i64 0)).kept hg1 (by intro e; injection e with e; omega))
       have HC1 := Lib.hid hc1
       clear hg1 hc1 HB
       go_wp2_with fail
       refine (HF.out 5 (by omega) _ _ HC1.out).mono ?_
       rintro e w2 ⟨rfl, hc2, hg2⟩
       have HG2 := Lib.hid (Lib.grownBy_trans HG1.out hg2)
       have HX2 := Lib.hid (HX1.out.kept hg2 (by intro e; injection e with e; omega))
       have HC2 := Lib.hid hc2
       clear hg2 hc2
       rw [← HE.out] at HC2
       go_wp2_with fail
       refine (HI0.out _ HC2.out).mono ?_
       rintro e w3 ⟨rfl, hc3, hg3⟩
       have HG3 := Lib.hid (Lib.grownBy_trans HG2.out hg3)
       have HX3 := Lib.hid (HX2.out.kept hg3 (by intro e; injection e with e; omega))
       have HC3 := Lib.hid hc3
       have HQ3 := Lib.hid (HQ.out v _ HG3.out)
       rw [decide_eq_true h2] at HQ3
       clear hg3 hc3 HI0
       go_wp2_with fail
       refine HQ3.out.mono ?_
       rintro e w' ⟨rfl, rfl⟩
       go_wp2_with fail
       refine (HF.out 5 (by omega) _ _ HC3.out).mono ?_
       rintro e w4 ⟨rfl, hc4, hg4⟩
       have HG4 := Lib.hid (Lib.grownBy_trans HG3.out hg4)
       have HX4 := Lib.hid (HX3.out.kept hg4 (by intro e; injection e with e; omega))
       have HC4 := Lib.hid hc4
       clear hg4 hc4
       go_wp2_with fail
       refine (HF.out 2 (by omega) _ _ HC4.out).mono ?_
       rintro e w5 ⟨rfl, hc5, hg5⟩
       have HG5 := Lib.hid (Lib.grownBy_trans HG4.out hg5)
       have HX5 := Lib.hid (HX4.out.kept hg5 (by intro e; injection e with e; omega))
       have HC5 := Lib.hid hc5
       clear hg5 hc5
       have z0 := HX5.out.c0
       have z1 := HX5.out.c1
       have y0 := HX5.out.f 0
       have y1 := HX5.out.f 1
       go_wp2
       have q0 := (HX5.out.set (.int .i64 (b : Int)) (.int .i64 v)).c0
       have q1 := (HX5.out.set (.int .i64 (b : Int)) (.int .i64 v)).c1
       exact bodyPost_ret (v := .agg #[.int .i64 (b : Int), .int .i64 v]) (by simp [results, Tryz.results193, go_sem, q0, q1]) rfl ⟨rfl, cur_set HC5.out hgl, grown_alloc_set HG5.out (Nat.le_refl _)⟩
     by_cases h4 : high < v
     · rw [if_pos (.inr h4)]
       have h3' : ¬ v < low := h3
       go_enter Tryz.func193, Tryz.ntmps193
       go_wp2_with fail
       refine (HB.out _ (H.out.kept (World.grownBy_alloc _ _ none) (by simp))).mono ?_
       rintro e w1 ⟨rfl, hc1, hg1⟩
       have HG1 := Lib.hid (show w.grownBy w1 (some g) from Lib.grownBy_trans (World.grownBy_alloc w (.cells #[.int .i64 0, .int .i64 0] 205) _) hg1)
       have HX1 := Lib.hid ((RunBox.new w (.int .i64 0) (.int .i64 0)).kept hg1 (by intro e; injection e with e; omega))
       have HC1 := Lib.hid hc1
       clear hg1 hc1 HB
       go_wp2_with fail
       refine (HF.out 5 (by omega) _ _ HC1.out).mono ?_
       rintro e w2 ⟨rfl, hc2, hg2⟩
       have HG2 := Lib.hid (Lib.grownBy_trans HG1.out hg2)
       have HX2 := Lib.hid (HX1.out.kept hg2 (by intro e; injection e with e; omega))
       have HC2 := Lib.hid hc2
       clear hg2 hc2
       rw [← HE.out] at HC2
       go_wp2_with fail
       refine (HI0.out _ HC2.out).mono ?_
       rintro e w3 ⟨rfl, hc3, hg3⟩
       have HG3 := Lib.hid (Lib.grownBy_trans HG2.out hg3)
       have HX3 := Lib.hid (HX2.out.kept hg3 (by intro e; injection e with e; omega))
       have HC3 := Lib.hid hc3
       have HQ3 := Lib.hid (HQ.out v _ HG3.out)
       rw [decide_eq_true h2] at HQ3
       clear hg3 hc3 HI0
       go_wp2_with fail
       refine HQ3.out.mono ?_
       rintro e w' ⟨rfl, rfl⟩
       go_wp2_with fail
       refine (HF.out 5 (by omega) _ _ HC3.out).mono ?_
       rintro e w4 ⟨rfl, hc4, hg4⟩
       have HG4 := Lib.hid (Lib.grownBy_trans HG3.out hg4)
       have HX4 := Lib.hid (HX3.out.kept hg4 (by intro e; injection e with e; omega))
       have HC4 := Lib.hid hc4
       clear hg4 hc4
       go_wp2_with fail
       refine (HF.out 2 (by omega) _ _ HC4.out).mono ?_
       rintro e w5 ⟨rfl, hc5, hg5⟩
       have HG5 := Lib.hid (Lib.grownBy_trans HG4.out hg5)
       have HX5 := Lib.hid (HX4.out.kept hg5 (by intro e; injection e with e; omega))
       have HC5 := Lib.hid hc5
       clear hg5 hc5
       have z0 := HX5.out.c0
       have z1 := HX5.out.c1
       have y0 := HX5.out.f 0
       have y1 := HX5.out.f 1
       go_wp2
       have q0 := (HX5.out.set (.int .i64 (b : Int)) (.int .i64 v)).c0
       have q1 := (HX5.out.set (.int .i64 (b : Int)) (.int .i64 v)).c1
       exact bodyPost_ret (v := .agg #[.int .i64 (b : Int), .int .i64 v]) (by simp [results, Tryz.results193, go_sem, q0, q1]) rfl ⟨rfl, cur_set HC5.out hgl, grown_alloc_set HG5.out (Nat.le_refl _)⟩
     rw [if_neg (by omega)]
     go_enter Tryz.func193, Tryz.ntmps193
     go_wp2_with fail
     refine (HB.out _ (H.out.kept (World.grownBy_alloc _ _ none) (by simp))).mono ?_
     rintro e w1 ⟨rfl, hc1, hg1⟩
     have HG1 := Lib.hid (show w.grownBy w1 (some g) from Lib.grownBy_trans (World.grownBy_alloc w (.cells #[.int .i64 0, .int .i64 0] 205) _) hg1)
     have HX1 := Lib.hid ((RunBox.new w (.int .i64 0) (.int .i64 0)).kept hg1 (by intro e; injection e with e; omega))
     have HC1 := Lib.hid hc1
     clear hg1 hc1 HB
     go_wp2_with fail
     refine (HF.out 5 (by omega) _ _ HC1.out).mono ?_
     rintro e w2 ⟨rfl, hc2, hg2⟩
     have HG2 := Lib.hid (Lib.grownBy_trans HG1.out hg2)
     have HX2 := Lib.hid (HX1.out.kept hg2 (by intro e; injection e with e; omega))
     have HC2 := Lib.hid hc2
     clear hg2 hc2
     rw [← HE.out] at HC2
     go_wp2_with fail
     refine (HI0.out _ HC2.out).mono ?_
     rintro e w3 ⟨rfl, hc3, hg3⟩
     have HG3 := Lib.hid (Lib.grownBy_trans HG2.out hg3)
     have HX3 := Lib.hid (HX2.out.kept hg3 (by intro e; injection e with e; omega))
     have HC3 := Lib.hid hc3
     have HQ3 := Lib.hid (HQ.out v _ HG3.out)
     rw [decide_eq_true h2] at HQ3
     clear hg3 hc3 HI0
     go_wp2_with fail
     refine HQ3.out.mono ?_
     rintro e w' ⟨rfl, rfl⟩
     go_wp2_with fail
     refine (HF.out 5 (by omega) _ _ HC3.out).mono ?_
     rintro e w4 ⟨rfl, hc4, hg4⟩
     have HG4 := Lib.hid (Lib.grownBy_trans HG3.out hg4)
     have HX4 := Lib.hid (HX3.out.kept hg4 (by intro e; injection e with e; omega))
     have HC4 := Lib.hid hc4
     clear hg4 hc4
     have z0 := HX4.out.c0
     have z1 := HX4.out.c1
     have y0 := HX4.out.f 0
     have y1 := HX4.out.f 1
     go_wp2
     have q0 := (HX4.out.set (.int .i64 (b : Int)) (.int .i64 v)).c0
     have q1 := (HX4.out.set (.int .i64 (b : Int)) (.int .i64 v)).c1
     exact bodyPost_ret (v := .agg #[.int .i64 (b : Int), .int .i64 v]) (by simp [results, Tryz.results193, go_sem, q0, q1]) rfl ⟨rfl, cur_set HC4.out hgl, grown_alloc_set HG4.out (Nat.le_refl _)⟩
   · rw [if_neg h2]
     by_cases h3 : v < low
     · rw [if_pos (.inl h3)]
       go_enter Tryz.func193, Tryz.ntmps193
       go_wp2_with fail
       refine (HB.out _ (H.out.kept (World.grownBy_alloc _ _ none) (by simp))).mono ?_
       rintro e w1 ⟨rfl, hc1, hg1⟩
       have HG1 := Lib.hid (show w.grownBy w1 (some g) from Lib.grownBy_trans (World.grownBy_alloc w (.cells #[.int .i64 0, .int .i64 0] 205) _) hg1)
       have HX1 := Lib.hid ((RunBox.new w (.int .i64 0) (.int .i64 0)).kept hg1 (by intro e; injection e with e; omega))
       have HC1 := Lib.hid hc1
       clear hg1 hc1 HB
       go_wp2_with fail
       refine (HF.out 5 (by omega) _ _ HC1.out).mono ?_
       rintro e w2 ⟨rfl, hc2, hg2⟩
       have HG2 := Lib.hid (Lib.grownBy_trans HG1.out hg2)
       have HX2 := Lib.hid (HX1.out.kept hg2 (by intro e; injection e with e; omega))
       have HC2 := Lib.hid hc2
       clear hg2 hc2
       rw [← HE.out] at HC2
       go_wp2_with fail
       refine (HI0.out _ HC2.out).mono ?_
       rintro e w3 ⟨rfl, hc3, hg3⟩
       have HG3 := Lib.hid (Lib.grownBy_trans HG2.out hg3)
       have HX3 := Lib.hid (HX2.out.kept hg3 (by intro e; injection e with e; omega))
       have HC3 := Lib.hid hc3
       have HQ3 := Lib.hid (HQ.out v _ HG3.out)
       rw [decide_eq_false h2] at HQ3
       clear hg3 hc3 HI0
       go_wp2_with fail
       refine HQ3.out.mono ?_
       rintro e w' ⟨rfl, rfl⟩
       go_wp2_with fail
       refine (HF.out 2 (by omega) _ _ HC3.out).mono ?_
       rintro e w5 ⟨rfl, hc5, hg5⟩
       have HG5 := Lib.hid (Lib.grownBy_trans HG3.out hg5)
       have HX5 := Lib.hid (HX3.out.kept hg5 (by intro e; injection e with e; omega))
       have HC5 := Lib.hid hc5
       clear hg5 hc5
       have z0 := HX5.out.c0
       have z1 := HX5.out.c1
       have y0 := HX5.out.f 0
       have y1 := HX5.out.f 1
       go_wp2
       have q0 := (HX5.out.set (.int .i64 (b : Int)) (.int .i64 v)).c0
       have q1 := (HX5.out.set (.int .i64 (b : Int)) (.int .i64 v)).c1
       exact bodyPost_ret (v := .agg #[.int .i64 (b : Int), .int .i64 v]) (by simp [results, Tryz.results193, go_sem, q0, q1]) rfl ⟨rfl, cur_set HC5.out hgl, grown_alloc_set HG5.out (Nat.le_refl _)⟩
     by_cases h4 : high < v
     · rw [if_pos (.inr h4)]
       have h3' : ¬ v < low := h3
       go_enter Tryz.func193, Tryz.ntmps193
       go_wp2_with fail
       refine (HB.out _ (H.out.kept (World.grownBy_alloc _ _ none) (by simp))).mono ?_
       rintro e w1 ⟨rfl, hc1, hg1⟩
       have HG1 := Lib.hid (show w.grownBy w1 (some g) from Lib.grownBy_trans (World.grownBy_alloc w (.cells #[.int .i64 0, .int .i64 0] 205) _) hg1)
       have HX1 := Lib.hid ((RunBox.new w (.int .i64 0) (.int .i64 0)).kept hg1 (by intro e; injection e with e; omega))
       have HC1 := Lib.hid hc1
       clear hg1 hc1 HB
       go_wp2_with fail
       refine (HF.out 5 (by omega) _ _ HC1.out).mono ?_
       rintro e w2 ⟨rfl, hc2, hg2⟩
       have HG2 := Lib.hid (Lib.grownBy_trans HG1.out hg2)
       have HX2 := Lib.hid (HX1.out.kept hg2 (by intro e; injection e with e; omega))
       have HC2 := Lib.hid hc2
       clear hg2 hc2
       rw [← HE.out] at HC2
       go_wp2_with fail
       refine (HI0.out _ HC2.out).mono ?_
       rintro e w3 ⟨rfl, hc3, hg3⟩
       have HG3 := Lib.hid (Lib.grownBy_trans HG2.out hg3)
       have HX3 := Lib.hid (HX2.out.kept hg3 (by intro e; injection e with e; omega))
       have HC3 := Lib.hid hc3
       have HQ3 := Lib.hid (HQ.out v _ HG3.out)
       rw [decide_eq_false h2] at HQ3
       clear hg3 hc3 HI0
       go_wp2_with fail
       refine HQ3.out.mono ?_
       rintro e w' ⟨rfl, rfl⟩
       go_wp2_with fail
       refine (HF.out 2 (by omega) _ _ HC3.out).mono ?_
       rintro e w5 ⟨rfl, hc5, hg5⟩
       have HG5 := Lib.hid (Lib.grownBy_trans HG3.out hg5)
       have HX5 := Lib.hid (HX3.out.kept hg5 (by intro e; injection e with e; omega))
       have HC5 := Lib.hid hc5
       clear hg5 hc5
       have z0 := HX5.out.c0
       have z1 := HX5.out.c1
       have y0 := HX5.out.f 0
       have y1 := HX5.out.f 1
       go_wp2
       have q0 := (HX5.out.set (.int .i64 (b : Int)) (.int .i64 v)).c0
       have q1 := (HX5.out.set (.int .i64 (b : Int)) (.int .i64 v)).c1
       exact bodyPost_ret (v := .agg #[.int .i64 (b : Int), .int .i64 v]) (by simp [results, Tryz.results193, go_sem, q0, q1]) rfl ⟨rfl, cur_set HC5.out hgl, grown_alloc_set HG5.out (Nat.le_refl _)⟩
     rw [if_neg (by omega)]
     go_enter Tryz.func193, Tryz.ntmps193
     go_wp2_with fail
     refine (HB.out _ (H.out.kept (World.grownBy_alloc _ _ none) (by simp))).mono ?_
     rintro e w1 ⟨rfl, hc1, hg1⟩
     have HG1 := Lib.hid (show w.grownBy w1 (some g) from Lib.grownBy_trans (World.grownBy_alloc w (.cells #[.int .i64 0, .int .i64 0] 205) _) hg1)
     have HX1 := Lib.hid ((RunBox.new w (.int .i64 0) (.int .i64 0)).kept hg1 (by intro e; injection e with e; omega))
     have HC1 := Lib.hid hc1
     clear hg1 hc1 HB
     go_wp2_with fail
     refine (HF.out 5 (by omega) _ _ HC1.out).mono ?_
     rintro e w2 ⟨rfl, hc2, hg2⟩
     have HG2 := Lib.hid (Lib.grownBy_trans HG1.out hg2)
     have HX2 := Lib.hid (HX1.out.kept hg2 (by intro e; injection e with e; omega))
     have HC2 := Lib.hid hc2
     clear hg2 hc2
     rw [← HE.out] at HC2
     go_wp2_with fail
     refine (HI0.out _ HC2.out).mono ?_
     rintro e w3 ⟨rfl, hc3, hg3⟩
     have HG3 := Lib.hid (Lib.grownBy_trans HG2.out hg3)
     have HX3 := Lib.hid (HX2.out.kept hg3 (by intro e; injection e with e; omega))
     have HC3 := Lib.hid hc3
     have HQ3 := Lib.hid (HQ.out v _ HG3.out)
     rw [decide_eq_false h2] at HQ3
     clear hg3 hc3 HI0
     go_wp2_with fail
     refine HQ3.out.mono ?_
     rintro e w' ⟨rfl, rfl⟩
     have z0 := HX3.out.c0
     have z1 := HX3.out.c1
     have y0 := HX3.out.f 0
     have y1 := HX3.out.f 1
     go_wp2
     have q0 := (HX3.out.set (.int .i64 (b : Int)) (.int .i64 v)).c0
     have q1 := (HX3.out.set (.int .i64 (b : Int)) (.int .i64 v)).c1
     exact bodyPost_ret (v := .agg #[.int .i64 (b : Int), .int .i64 v]) (by simp [results, Tryz.results193, go_sem, q0, q1]) rfl ⟨rfl, cur_set HC3.out hgl, grown_alloc_set HG3.out (Nat.le_refl _)⟩
 by_cases h1b : left < (b : Int)
 · have HE : Hid (fs = failA sb 5) := Lib.hid (by rw [HFS.out, if_pos (.inr h1b)])
   have h1i : ¬ (b : Int) < 1 := by omega
   clear HFS
   by_cases h2 : lastV r = some v
   · rw [if_pos h2]
     by_cases h3 : v < low
     · rw [if_pos (.inl h3)]
       go_enter Tryz.func193, Tryz.ntmps193
       go_wp2_with fail
       refine (HB.out _ (H.out.kept (World.grownBy_alloc _ _ none) (by simp))).mono ?_
       rintro e w1 ⟨rfl, hc1, hg1⟩
       have HG1 := Lib.hid (show w.grownBy w1 (some g) from Lib.grownBy_trans (World.grownBy_alloc w (.cells #[.int .i64 0, .int .i64 0] 205) _) hg1)
       have HX1 := Lib.hid ((RunBox.new w (.int .i64 0) (.int .i64 0)).kept hg1 (by intro e; injection e with e; omega))
       have HC1 := Lib.hid hc1
       clear hg1 hc1 HB
       go_wp2_with fail
       refine (HF.out 5 (by omega) _ _ HC1.out).mono ?_
       rintro e w2 ⟨rfl, hc2, hg2⟩
       have HG2 := Lib.hid (Lib.grownBy_trans HG1.out hg2)
       have HX2 := Lib.hid (HX1.out.kept hg2 (by intro e; injection e with e; omega))
       have HC2 := Lib.hid hc2
       clear hg2 hc2
       rw [← HE.out] at HC2
       go_wp2_with fail
       refine (HI0.out _ HC2.out).mono ?_
       rintro e w3 ⟨rfl, hc3, hg3⟩
       have HG3 := Lib.hid (Lib.grownBy_trans HG2.out hg3)
       have HX3 := Lib.hid (HX2.out.kept hg3 (by intro e; injection e with e; omega))
       have HC3 := Lib.hid hc3
       have HQ3 := Lib.hid (HQ.out v _ HG3.out)
       rw [decide_eq_true h2] at HQ3
       clear hg3 hc3 HI0
       go_wp2_with fail
       refine HQ3.out.mono ?_
       rintro e w' ⟨rfl, rfl⟩
       go_wp2_with fail
       refine (HF.out 5 (by omega) _ _ HC3.out).mono ?_
       rintro e w4 ⟨rfl, hc4, hg4⟩
       have HG4 := Lib.hid (Lib.grownBy_trans HG3.out hg4)
       have HX4 := Lib.hid (HX3.out.kept hg4 (by intro e; injection e with e; omega))
       have HC4 := Lib.hid hc4
       clear hg4 hc4
       go_wp2_with fail
       refine (HF.out 2 (by omega) _ _ HC4.out).mono ?_
       rintro e w5 ⟨rfl, hc5, hg5⟩
       have HG5 := Lib.hid (Lib.grownBy_trans HG4.out hg5)
       have HX5 := Lib.hid (HX4.out.kept hg5 (by intro e; injection e with e; omega))
       have HC5 := Lib.hid hc5
       clear hg5 hc5
       have z0 := HX5.out.c0
       have z1 := HX5.out.c1
       have y0 := HX5.out.f 0
       have y1 := HX5.out.f 1
       go_wp2
       have q0 := (HX5.out.set (.int .i64 (wrap64 (b : Int))) (.int .i64 v)).c0
       have q1 := (HX5.out.set (.int .i64 (wrap64 (b : Int))) (.int .i64 v)).c1
       exact bodyPost_ret (v := .agg #[.int .i64 (wrap64 (b : Int)), .int .i64 v]) (by simp [results, Tryz.results193, go_sem, q0, q1]) rfl ⟨rfl, cur_set HC5.out hgl, grown_alloc_set HG5.out (Nat.le_refl _)⟩
     by_cases h4 : high < v
     · rw [if_pos (.inr h4)]
       have h3' : ¬ v < low := h3
       go_enter Tryz.func193, Tryz.ntmps193
       go_wp2_with fail
       refine (HB.out _ (H.out.kept (World.grownBy_alloc _ _ none) (by simp))).mono ?_
       rintro e w1 ⟨rfl, hc1, hg1⟩
       have HG1 := Lib.hid (show w.grownBy w1 (some g) from Lib.grownBy_trans (World.grownBy_alloc w (.cells #[.int .i64 0, .int .i64 0] 205) _) hg1)
       have HX1 := Lib.hid ((RunBox.new w (.int .i64 0) (.int .i64 0)).kept hg1 (by intro e; injection e with e; omega))
       have HC1 := Lib.hid hc1
       clear hg1 hc1 HB
       go_wp2_with fail
       refine (HF.out 5 (by omega) _ _ HC1.out).mono ?_
       rintro e w2 ⟨rfl, hc2, hg2⟩
       have HG2 := Lib.hid (Lib.grownBy_trans HG1.out hg2)
       have HX2 := Lib.hid (HX1.out.kept hg2 (by intro e; injection e with e; omega))
       have HC2 := Lib.hid hc2
       clear hg2 hc2
       rw [← HE.out] at HC2
       go_wp2_with fail
       refine (HI0.out _ HC2.out).mono ?_
       rintro e w3 ⟨rfl, hc3, hg3⟩
       have HG3 := Lib.hid (Lib.grownBy_trans HG2.out hg3)
       have HX3 := Lib.hid (HX2.out.kept hg3 (by intro e; injection e with e; omega))
       have HC3 := Lib.hid hc3
       have HQ3 := Lib.hid (HQ.out v _ HG3.out)
       rw [decide_eq_true h2] at HQ3
       clear hg3 hc3 HI0
       go_wp2_with fail
       refine HQ3.out.mono ?_
       rintro e w' ⟨rfl, rfl⟩
       go_wp2_with fail
       refine (HF.out 5 (by omega) _ _ HC3.out).mono ?_
       rintro e w4 ⟨rfl, hc4, hg4⟩
       have HG4 := Lib.hid (Lib.grownBy_trans HG3.out hg4)
       have HX4 := Lib.hid (HX3.out.kept hg4 (by intro e; injection e with e; omega))
       have HC4 := Lib.hid hc4
       clear hg4 hc4
       go_wp2_with fail
       refine (HF.out 2 (by omega) _ _ HC4.out).mono ?_
       rintro e w5 ⟨rfl, hc5, hg5⟩
       have HG5 := Lib.hid (Lib.grownBy_trans HG4.out hg5)
       have HX5 := Lib.hid (HX4.out.kept hg5 (by intro e; injection e with e; omega))
       have HC5 := Lib.hid hc5
       clear hg5 hc5
       have z0 := HX5.out.c0
       have z1 := HX5.out.c1
       have y0 := HX5.out.f 0
       have y1 := HX5.out.f 1
       go_wp2
       have q0 := (HX5.out.set (.int .i64 (wrap64 (b : Int))) (.int .i64 v)).c0
       have q1 := (HX5.out.set (.int .i64 (wrap64 (b : Int))) (.int .i64 v)).c1
       exact bodyPost_ret (v := .agg #[.int .i64 (wrap64 (b : Int)), .int .i64 v]) (by simp [results, Tryz.results193, go_sem, q0, q1]) rfl ⟨rfl, cur_set HC5.out hgl, grown_alloc_set HG5.out (Nat.le_refl _)⟩
     rw [if_neg (by omega)]
     go_enter Tryz.func193, Tryz.ntmps193
     go_wp2_with fail
     refine (HB.out _ (H.out.kept (World.grownBy_alloc _ _ none) (by simp))).mono ?_
     rintro e w1 ⟨rfl, hc1, hg1⟩
     have HG1 := Lib.hid (show w.grownBy w1 (some g) from Lib.grownBy_trans (World.grownBy_alloc w (.cells #[.int .i64 0, .int .i64 0] 205) _) hg1)
     have HX1 := Lib.hid ((RunBox.new w (.int .i64 0) (.int .i64 0)).kept hg1 (by intro e; injection e with e; omega))
     have HC1 := Lib.hid hc1
     clear hg1 hc1 HB
     go_wp2_with fail
     refine (HF.out 5 (by omega) _ _ HC1.out).mono ?_
     rintro e w2 ⟨rfl, hc2, hg2⟩
     have HG2 := Lib.hid (Lib.grownBy_trans HG1.out hg2)
     have HX2 := Lib.hid (HX1.out.kept hg2 (by intro e; injection e with e; omega))
     have HC2 := Lib.hid hc2
     clear hg2 hc2
     rw [← HE.out] at HC2
     go_wp2_with fail
     refine (HI0.out _ HC2.out).mono ?_
     rintro e w3 ⟨rfl, hc3, hg3⟩
     have HG3 := Lib.hid (Lib.grownBy_trans HG2.out hg3)
     have HX3 := Lib.hid (HX2.out.kept hg3 (by intro e; injection e with e; omega))
     have HC3 := Lib.hid hc3
     have HQ3 := Lib.hid (HQ.out v _ HG3.out)
     rw [decide_eq_true h2] at HQ3
     clear hg3 hc3 HI0
     go_wp2_with fail
     refine HQ3.out.mono ?_
     rintro e w' ⟨rfl, rfl⟩
     go_wp2_with fail
     refine (HF.out 5 (by omega) _ _ HC3.out).mono ?_
     rintro e w4 ⟨rfl, hc4, hg4⟩
     have HG4 := Lib.hid (Lib.grownBy_trans HG3.out hg4)
     have HX4 := Lib.hid (HX3.out.kept hg4 (by intro e; injection e with e; omega))
     have HC4 := Lib.hid hc4
     clear hg4 hc4
     have z0 := HX4.out.c0
     have z1 := HX4.out.c1
     have y0 := HX4.out.f 0
     have y1 := HX4.out.f 1
     go_wp2
     have q0 := (HX4.out.set (.int .i64 (wrap64 (b : Int))) (.int .i64 v)).c0
     have q1 := (HX4.out.set (.int .i64 (wrap64 (b : Int))) (.int .i64 v)).c1
     exact bodyPost_ret (v := .agg #[.int .i64 (wrap64 (b : Int)), .int .i64 v]) (by simp [results, Tryz.results193, go_sem, q0, q1]) rfl ⟨rfl, cur_set HC4.out hgl, grown_alloc_set HG4.out (Nat.le_refl _)⟩
   · rw [if_neg h2]
     by_cases h3 : v < low
     · rw [if_pos (.inl h3)]
       go_enter Tryz.func193, Tryz.ntmps193
       go_wp2_with fail
       refine (HB.out _ (H.out.kept (World.grownBy_alloc _ _ none) (by simp))).mono ?_
       rintro e w1 ⟨rfl, hc1, hg1⟩
       have HG1 := Lib.hid (show w.grownBy w1 (some g) from Lib.grownBy_trans (World.grownBy_alloc w (.cells #[.int .i64 0, .int .i64 0] 205) _) hg1)
       have HX1 := Lib.hid ((RunBox.new w (.int .i64 0) (.int .i64 0)).kept hg1 (by intro e; injection e with e; omega))
       have HC1 := Lib.hid hc1
       clear hg1 hc1 HB
       go_wp2_with fail
       refine (HF.out 5 (by omega) _ _ HC1.out).mono ?_
       rintro e w2 ⟨rfl, hc2, hg2⟩
       have HG2 := Lib.hid (Lib.grownBy_trans HG1.out hg2)
       have HX2 := Lib.hid (HX1.out.kept hg2 (by intro e; injection e with e; omega))
       have HC2 := Lib.hid hc2
       clear hg2 hc2
       rw [← HE.out] at HC2
       go_wp2_with fail
       refine (HI0.out _ HC2.out).mono ?_
       rintro e w3 ⟨rfl, hc3, hg3⟩
       have HG3 := Lib.hid (Lib.grownBy_trans HG2.out hg3)
       have HX3 := Lib.hid (HX2.out.kept hg3 (by intro e; injection e with e; omega))
       have HC3 := Lib.hid hc3
       have HQ3 := Lib.hid (HQ.out v _ HG3.out)
       rw [decide_eq_false h2] at HQ3
       clear hg3 hc3 HI0
       go_wp2_with fail
       refine HQ3.out.mono ?_
       rintro e w' ⟨rfl, rfl⟩
       go_wp2_with fail
       refine (HF.out 2 (by omega) _ _ HC3.out).mono ?_
       rintro e w5 ⟨rfl, hc5, hg5⟩
       have HG5 := Lib.hid (Lib.grownBy_trans HG3.out hg5)
       have HX5 := Lib.hid (HX3.out.kept hg5 (by intro e; injection e with e; omega))
       have HC5 := Lib.hid hc5
       clear hg5 hc5
       have z0 := HX5.out.c0
       have z1 := HX5.out.c1
       have y0 := HX5.out.f 0
       have y1 := HX5.out.f 1
       go_wp2
       have q0 := (HX5.out.set (.int .i64 (wrap64 (b : Int))) (.int .i64 v)).c0
       have q1 := (HX5.out.set (.int .i64 (wrap64 (b : Int))) (.int .i64 v)).c1
       exact bodyPost_ret (v := .agg #[.int .i64 (wrap64 (b : Int)), .int .i64 v]) (by simp [results, Tryz.results193, go_sem, q0, q1]) rfl ⟨rfl, cur_set HC5.out hgl, grown_alloc_set HG5.out (Nat.le_refl _)⟩
     by_cases h4 : high < v
     · rw [if_pos (.inr h4)]
       have h3' : ¬ v < low := h3
       go_enter Tryz.func193, Tryz.ntmps193
       go_wp2_with fail
       refine (HB.out _ (H.out.kept (World.grownBy_alloc _ _ none) (by simp))).mono ?_
       rintro e w1 ⟨rfl, hc1, hg1⟩
       have HG1 := Lib.hid (show w.grownBy w1 (some g) from Lib.grownBy_trans (World.grownBy_alloc w (.cells #[.int .i64 0, .int .i64 0] 205) _) hg1)
       have HX1 := Lib.hid ((RunBox.new w (.int .i64 0) (.int .i64 0)).kept hg1 (by intro e; injection e with e; omega))
       have HC1 := Lib.hid hc1
       clear hg1 hc1 HB
       go_wp2_with fail
       refine (HF.out 5 (by omega) _ _ HC1.out).mono ?_
       rintro e w2 ⟨rfl, hc2, hg2⟩
       have HG2 := Lib.hid (Lib.grownBy_trans HG1.out hg2)
       have HX2 := Lib.hid (HX1.out.kept hg2 (by intro e; injection e with e; omega))
       have HC2 := Lib.hid hc2
       clear hg2 hc2
       rw [← HE.out] at HC2
       go_wp2_with fail
       refine (HI0.out _ HC2.out).mono ?_
       rintro e w3 ⟨rfl, hc3, hg3⟩
       have HG3 := Lib.hid (Lib.grownBy_trans HG2.out hg3)
       have HX3 := Lib.hid (HX2.out.kept hg3 (by intro e; injection e with e; omega))
       have HC3 := Lib.hid hc3
       have HQ3 := Lib.hid (HQ.out v _ HG3.out)
       rw [decide_eq_false h2] at HQ3
       clear hg3 hc3 HI0
       go_wp2_with fail
       refine HQ3.out.mono ?_
       rintro e w' ⟨rfl, rfl⟩
       go_wp2_with fail
       refine (HF.out 2 (by omega) _ _ HC3.out).mono ?_
       rintro e w5 ⟨rfl, hc5, hg5⟩
       have HG5 := Lib.hid (Lib.grownBy_trans HG3.out hg5)
       have HX5 := Lib.hid (HX3.out.kept hg5 (by intro e; injection e with e; omega))
       have HC5 := Lib.hid hc5
       clear hg5 hc5
       have z0 := HX5.out.c0
       have z1 := HX5.out.c1
       have y0 := HX5.out.f 0
       have y1 := HX5.out.f 1
       go_wp2
       have q0 := (HX5.out.set (.int .i64 (wrap64 (b : Int))) (.int .i64 v)).c0
       have q1 := (HX5.out.set (.int .i64 (wrap64 (b : Int))) (.int .i64 v)).c1
       exact bodyPost_ret (v := .agg #[.int .i64 (wrap64 (b : Int)), .int .i64 v]) (by simp [results, Tryz.results193, go_sem, q0, q1]) rfl ⟨rfl, cur_set HC5.out hgl, grown_alloc_set HG5.out (Nat.le_refl _)⟩
     rw [if_neg (by omega)]
     go_enter Tryz.func193, Tryz.ntmps193
     go_wp2_with fail
     refine (HB.out _ (H.out.kept (World.grownBy_alloc _ _ none) (by simp))).mono ?_
     rintro e w1 ⟨rfl, hc1, hg1⟩
     have HG1 := Lib.hid (show w.grownBy w1 (some g) from Lib.grownBy_trans (World.grownBy_alloc w (.cells #[.int .i64 0, .int .i64 0] 205) _) hg1)
     have HX1 := Lib.hid ((RunBox.new w (.int .i64 0) (.int .i64 0)).kept hg1 (by intro e; injection e with e; omega))
     have HC1 := Lib.hid hc1
     clear hg1 hc1 HB
     go_wp2_with fail
     refine (HF.out 5 (by omega) _ _ HC1.out).mono ?_
     rintro e w2 ⟨rfl, hc2, hg2⟩
     have HG2 := Lib.hid (Lib.grownBy_trans HG1.out hg2)
     have HX2 := Lib.hid (HX1.out.kept hg2 (by intro e; injection e with e; omega))
     have HC2 := Lib.hid hc2
     clear hg2 hc2
     rw [← HE.out] at HC2
     go_wp2_with fail
     refine (HI0.out _ HC2.out).mono ?_
     rintro e w3 ⟨rfl, hc3, hg3⟩
     have HG3 := Lib.hid (Lib.grownBy_trans HG2.out hg3)
     have HX3 := Lib.hid (HX2.out.kept hg3 (by intro e; injection e with e; omega))
     have HC3 := Lib.hid hc3
     have HQ3 := Lib.hid (HQ.out v _ HG3.out)
     rw [decide_eq_false h2] at HQ3
     clear hg3 hc3 HI0
     go_wp2_with fail
     refine HQ3.out.mono ?_
     rintro e w' ⟨rfl, rfl⟩
     have z0 := HX3.out.c0
     have z1 := HX3.out.c1
     have y0 := HX3.out.f 0
     have y1 := HX3.out.f 1
     go_wp2
     have q0 := (HX3.out.set (.int .i64 (wrap64 (b : Int))) (.int .i64 v)).c0
     have q1 := (HX3.out.set (.int .i64 (wrap64 (b : Int))) (.int .i64 v)).c1
     exact bodyPost_ret (v := .agg #[.int .i64 (wrap64 (b : Int)), .int .i64 v]) (by simp [results, Tryz.results193, go_sem, q0, q1]) rfl ⟨rfl, cur_set HC3.out hgl, grown_alloc_set HG3.out (Nat.le_refl _)⟩
 · have HE : Hid (fs = sb) := Lib.hid (by rw [HFS.out, if_neg (by omega)])
   have h1i : ¬ (b : Int) < 1 := by omega
   clear HFS
   rw [show wrap64 (b : Int) = (b : Int) by unfold wrap64; omega]
   by_cases h2 : lastV r = some v
   · rw [if_pos h2]
     by_cases h3 : v < low
     · rw [if_pos (.inl h3)]
       go_enter Tryz.func193, Tryz.ntmps193
       go_wp2_with fail
       refine (HB.out _ (H.out.kept (World.grownBy_alloc _ _ none) (by simp))).mono ?_
       rintro e w1 ⟨rfl, hc1, hg1⟩
       have HG1 := Lib.hid (show w.grownBy w1 (some g) from Lib.grownBy_trans (World.grownBy_alloc w (.cells #[.int .i64 0, .int .i64 0] 205) _) hg1)
       have HX1 := Lib.hid ((RunBox.new w (.int .i64 0) (.int .i64 0)).kept hg1 (by intro e; injection e with e; omega))
       have HC1 := Lib.hid hc1
       clear hg1 hc1 HB
       have HC2 := HC1
       have HG2 := HG1
       have HX2 := HX1
       rw [← HE.out] at HC2
       go_wp2_with fail
       refine (HI0.out _ HC2.out).mono ?_
       rintro e w3 ⟨rfl, hc3, hg3⟩
       have HG3 := Lib.hid (Lib.grownBy_trans HG2.out hg3)
       have HX3 := Lib.hid (HX2.out.kept hg3 (by intro e; injection e with e; omega))
       have HC3 := Lib.hid hc3
       have HQ3 := Lib.hid (HQ.out v _ HG3.out)
       rw [decide_eq_true h2] at HQ3
       clear hg3 hc3 HI0
       go_wp2_with fail
       refine HQ3.out.mono ?_
       rintro e w' ⟨rfl, rfl⟩
       go_wp2_with fail
       refine (HF.out 5 (by omega) _ _ HC3.out).mono ?_
       rintro e w4 ⟨rfl, hc4, hg4⟩
       have HG4 := Lib.hid (Lib.grownBy_trans HG3.out hg4)
       have HX4 := Lib.hid (HX3.out.kept hg4 (by intro e; injection e with e; omega))
       have HC4 := Lib.hid hc4
       clear hg4 hc4
       go_wp2_with fail
       refine (HF.out 2 (by omega) _ _ HC4.out).mono ?_
       rintro e w5 ⟨rfl, hc5, hg5⟩
       have HG5 := Lib.hid (Lib.grownBy_trans HG4.out hg5)
       have HX5 := Lib.hid (HX4.out.kept hg5 (by intro e; injection e with e; omega))
       have HC5 := Lib.hid hc5
       clear hg5 hc5
       have z0 := HX5.out.c0
       have z1 := HX5.out.c1
       have y0 := HX5.out.f 0
       have y1 := HX5.out.f 1
       go_wp2
       have q0 := (HX5.out.set (.int .i64 (b : Int)) (.int .i64 v)).c0
       have q1 := (HX5.out.set (.int .i64 (b : Int)) (.int .i64 v)).c1
       exact bodyPost_ret (v := .agg #[.int .i64 (b : Int), .int .i64 v]) (by simp [results, Tryz.results193, go_sem, q0, q1]) rfl ⟨rfl, cur_set HC5.out hgl, grown_alloc_set HG5.out (Nat.le_refl _)⟩
     by_cases h4 : high < v
     · rw [if_pos (.inr h4)]
       have h3' : ¬ v < low := h3
       go_enter Tryz.func193, Tryz.ntmps193
       go_wp2_with fail
       refine (HB.out _ (H.out.kept (World.grownBy_alloc _ _ none) (by simp))).mono ?_
       rintro e w1 ⟨rfl, hc1, hg1⟩
       have HG1 := Lib.hid (show w.grownBy w1 (some g) from Lib.grownBy_trans (World.grownBy_alloc w (.cells #[.int .i64 0, .int .i64 0] 205) _) hg1)
       have HX1 := Lib.hid ((RunBox.new w (.int .i64 0) (.int .i64 0)).kept hg1 (by intro e; injection e with e; omega))
       have HC1 := Lib.hid hc1
       clear hg1 hc1 HB
       have HC2 := HC1
       have HG2 := HG1
       have HX2 := HX1
       rw [← HE.out] at HC2
       go_wp2_with fail
       refine (HI0.out _ HC2.out).mono ?_
       rintro e w3 ⟨rfl, hc3, hg3⟩
       have HG3 := Lib.hid (Lib.grownBy_trans HG2.out hg3)
       have HX3 := Lib.hid (HX2.out.kept hg3 (by intro e; injection e with e; omega))
       have HC3 := Lib.hid hc3
       have HQ3 := Lib.hid (HQ.out v _ HG3.out)
       rw [decide_eq_true h2] at HQ3
       clear hg3 hc3 HI0
       go_wp2_with fail
       refine HQ3.out.mono ?_
       rintro e w' ⟨rfl, rfl⟩
       go_wp2_with fail
       refine (HF.out 5 (by omega) _ _ HC3.out).mono ?_
       rintro e w4 ⟨rfl, hc4, hg4⟩
       have HG4 := Lib.hid (Lib.grownBy_trans HG3.out hg4)
       have HX4 := Lib.hid (HX3.out.kept hg4 (by intro e; injection e with e; omega))
       have HC4 := Lib.hid hc4
       clear hg4 hc4
       go_wp2_with fail
       refine (HF.out 2 (by omega) _ _ HC4.out).mono ?_
       rintro e w5 ⟨rfl, hc5, hg5⟩
       have HG5 := Lib.hid (Lib.grownBy_trans HG4.out hg5)
       have HX5 := Lib.hid (HX4.out.kept hg5 (by intro e; injection e with e; omega))
       have HC5 := Lib.hid hc5
       clear hg5 hc5
       have z0 := HX5.out.c0
       have z1 := HX5.out.c1
       have y0 := HX5.out.f 0
       have y1 := HX5.out.f 1
       go_wp2
       have q0 := (HX5.out.set (.int .i64 (b : Int)) (.int .i64 v)).c0
       have q1 := (HX5.out.set (.int .i64 (b : Int)) (.int .i64 v)).c1
       exact bodyPost_ret (v := .agg #[.int .i64 (b : Int), .int .i64 v]) (by simp [results, Tryz.results193, go_sem, q0, q1]) rfl ⟨rfl, cur_set HC5.out hgl, grown_alloc_set HG5.out (Nat.le_refl _)⟩
     rw [if_neg (by omega)]
     go_enter Tryz.func193, Tryz.ntmps193
     go_wp2_with fail
     refine (HB.out _ (H.out.kept (World.grownBy_alloc _ _ none) (by simp))).mono ?_
     rintro e w1 ⟨rfl, hc1, hg1⟩
     have HG1 := Lib.hid (show w.grownBy w1 (some g) from Lib.grownBy_trans (World.grownBy_alloc w (.cells #[.int .i64 0, .int .i64 0] 205) _) hg1)
     have HX1 := Lib.hid ((RunBox.new w (.int .i64 0) (.int .i64 0)).kept hg1 (by intro e; injection e with e; omega))
     have HC1 := Lib.hid hc1
     clear hg1 hc1 HB
     have HC2 := HC1
     have HG2 := HG1
     have HX2 := HX1
     rw [← HE.out] at HC2
     go_wp2_with fail
     refine (HI0.out _ HC2.out).mono ?_
     rintro e w3 ⟨rfl, hc3, hg3⟩
     have HG3 := Lib.hid (Lib.grownBy_trans HG2.out hg3)
     have HX3 := Lib.hid (HX2.out.kept hg3 (by intro e; injection e with e; omega))
     have HC3 := Lib.hid hc3
     have HQ3 := Lib.hid (HQ.out v _ HG3.out)
     rw [decide_eq_true h2] at HQ3
     clear hg3 hc3 HI0
     go_wp2_with fail
     refine HQ3.out.mono ?_
     rintro e w' ⟨rfl, rfl⟩
     go_wp2_with fail
     refine (HF.out 5 (by omega) _ _ HC3.out).mono ?_
     rintro e w4 ⟨rfl, hc4, hg4⟩
     have HG4 := Lib.hid (Lib.grownBy_trans HG3.out hg4)
     have HX4 := Lib.hid (HX3.out.kept hg4 (by intro e; injection e with e; omega))
     have HC4 := Lib.hid hc4
     clear hg4 hc4
     have z0 := HX4.out.c0
     have z1 := HX4.out.c1
     have y0 := HX4.out.f 0
     have y1 := HX4.out.f 1
     go_wp2
     have q0 := (HX4.out.set (.int .i64 (b : Int)) (.int .i64 v)).c0
     have q1 := (HX4.out.set (.int .i64 (b : Int)) (.int .i64 v)).c1
     exact bodyPost_ret (v := .agg #[.int .i64 (b : Int), .int .i64 v]) (by simp [results, Tryz.results193, go_sem, q0, q1]) rfl ⟨rfl, cur_set HC4.out hgl, grown_alloc_set HG4.out (Nat.le_refl _)⟩
   · rw [if_neg h2]
     by_cases h3 : v < low
     · rw [if_pos (.inl h3)]
       go_enter Tryz.func193, Tryz.ntmps193
       go_wp2_with fail
       refine (HB.out _ (H.out.kept (World.grownBy_alloc _ _ none) (by simp))).mono ?_
       rintro e w1 ⟨rfl, hc1, hg1⟩
       have HG1 := Lib.hid (show w.grownBy w1 (some g) from Lib.grownBy_trans (World.grownBy_alloc w (.cells #[.int .i64 0, .int .i64 0] 205) _) hg1)
       have HX1 := Lib.hid ((RunBox.new w (.int .i64 0) (.int .i64 0)).kept hg1 (by intro e; injection e with e; omega))
       have HC1 := Lib.hid hc1
       clear hg1 hc1 HB
       have HC2 := HC1
       have HG2 := HG1
       have HX2 := HX1
       rw [← HE.out] at HC2
       go_wp2_with fail
       refine (HI0.out _ HC2.out).mono ?_
       rintro e w3 ⟨rfl, hc3, hg3⟩
       have HG3 := Lib.hid (Lib.grownBy_trans HG2.out hg3)
       have HX3 := Lib.hid (HX2.out.kept hg3 (by intro e; injection e with e; omega))
       have HC3 := Lib.hid hc3
       have HQ3 := Lib.hid (HQ.out v _ HG3.out)
       rw [decide_eq_false h2] at HQ3
       clear hg3 hc3 HI0
       go_wp2_with fail
       refine HQ3.out.mono ?_
       rintro e w' ⟨rfl, rfl⟩
       go_wp2_with fail
       refine (HF.out 2 (by omega) _ _ HC3.out).mono ?_
       rintro e w5 ⟨rfl, hc5, hg5⟩
       have HG5 := Lib.hid (Lib.grownBy_trans HG3.out hg5)
       have HX5 := Lib.hid (HX3.out.kept hg5 (by intro e; injection e with e; omega))
       have HC5 := Lib.hid hc5
       clear hg5 hc5
       have z0 := HX5.out.c0
       have z1 := HX5.out.c1
       have y0 := HX5.out.f 0
       have y1 := HX5.out.f 1
       go_wp2
       have q0 := (HX5.out.set (.int .i64 (b : Int)) (.int .i64 v)).c0
       have q1 := (HX5.out.set (.int .i64 (b : Int)) (.int .i64 v)).c1
       exact bodyPost_ret (v := .agg #[.int .i64 (b : Int), .int .i64 v]) (by simp [results, Tryz.results193, go_sem, q0, q1]) rfl ⟨rfl, cur_set HC5.out hgl, grown_alloc_set HG5.out (Nat.le_refl _)⟩
     by_cases h4 : high < v
     · rw [if_pos (.inr h4)]
       have h3' : ¬ v < low := h3
       go_enter Tryz.func193, Tryz.ntmps193
       go_wp2_with fail
       refine (HB.out _ (H.out.kept (World.grownBy_alloc _ _ none) (by simp))).mono ?_
       rintro e w1 ⟨rfl, hc1, hg1⟩
       have HG1 := Lib.hid (show w.grownBy w1 (some g) from Lib.grownBy_trans (World.grownBy_alloc w (.cells #[.int .i64 0, .int .i64 0] 205) _) hg1)
       have HX1 := Lib.hid ((RunBox.new w (.int .i64 0) (.int .i64 0)).kept hg1 (by intro e; injection e with e; omega))
       have HC1 := Lib.hid hc1
       clear hg1 hc1 HB
       have HC2 := HC1
       have HG2 := HG1
       have HX2 := HX1
       rw [← HE.out] at HC2
       go_wp2_with fail
       refine (HI0.out _ HC2.out).mono ?_
       rintro e w3 ⟨rfl, hc3, hg3⟩
       have HG3 := Lib.hid (Lib.grownBy_trans HG2.out hg3)
       have HX3 := Lib.hid (HX2.out.kept hg3 (by intro e; injection e with e; omega))
       have HC3 := Lib.hid hc3
       have HQ3 := Lib.hid (HQ.out v _ HG3.out)
       rw [decide_eq_false h2] at HQ3
       clear hg3 hc3 HI0
       go_wp2_with fail
       refine HQ3.out.mono ?_
       rintro e w' ⟨rfl, rfl⟩
       go_wp2_with fail
       refine (HF.out 2 (by omega) _ _ HC3.out).mono ?_
       rintro e w5 ⟨rfl, hc5, hg5⟩
       have HG5 := Lib.hid (Lib.grownBy_trans HG3.out hg5)
       have HX5 := Lib.hid (HX3.out.kept hg5 (by intro e; injection e with e; omega))
       have HC5 := Lib.hid hc5
       clear hg5 hc5
       have z0 := HX5.out.c0
       have z1 := HX5.out.c1
       have y0 := HX5.out.f 0
       have y1 := HX5.out.f 1
       go_wp2
       have q0 := (HX5.out.set (.int .i64 (b : Int)) (.int .i64 v)).c0
       have q1 := (HX5.out.set (.int .i64 (b : Int)) (.int .i64 v)).c1
       exact bodyPost_ret (v := .agg #[.int .i64 (b : Int), .int .i64 v]) (by simp [results, Tryz.results193, go_sem, q0, q1]) rfl ⟨rfl, cur_set HC5.out hgl, grown_alloc_set HG5.out (Nat.le_refl _)⟩
     rw [if_neg (by omega)]
     go_enter Tryz.func193, Tryz.ntmps193
     go_wp2_with fail
     refine (HB.out _ (H.out.kept (World.grownBy_alloc _ _ none) (by simp))).mono ?_
     rintro e w1 ⟨rfl, hc1, hg1⟩
     have HG1 := Lib.hid (show w.grownBy w1 (some g) from Lib.grownBy_trans (World.grownBy_alloc w (.cells #[.int .i64 0, .int .i64 0] 205) _) hg1)
     have HX1 := Lib.hid ((RunBox.new w (.int .i64 0) (.int .i64 0)).kept hg1 (by intro e; injection e with e; omega))
     have HC1 := Lib.hid hc1
     clear hg1 hc1 HB
     have HC2 := HC1
     have HG2 := HG1
     have HX2 := HX1
     rw [← HE.out] at HC2
     go_wp2_with fail
     refine (HI0.out _ HC2.out).mono ?_
     rintro e w3 ⟨rfl, hc3, hg3⟩
     have HG3 := Lib.hid (Lib.grownBy_trans HG2.out hg3)
     have HX3 := Lib.hid (HX2.out.kept hg3 (by intro e; injection e with e; omega))
     have HC3 := Lib.hid hc3
     have HQ3 := Lib.hid (HQ.out v _ HG3.out)
     rw [decide_eq_false h2] at HQ3
     clear hg3 hc3 HI0
     go_wp2_with fail
     refine HQ3.out.mono ?_
     rintro e w' ⟨rfl, rfl⟩
     have z0 := HX3.out.c0
     have z1 := HX3.out.c1
     have y0 := HX3.out.f 0
     have y1 := HX3.out.f 1
     go_wp2
     have q0 := (HX3.out.set (.int .i64 (b : Int)) (.int .i64 v)).c0
     have q1 := (HX3.out.set (.int .i64 (b : Int)) (.int .i64 v)).c1
     exact bodyPost_ret (v := .agg #[.int .i64 (b : Int), .int .i64 v]) (by simp [results, Tryz.results193, go_sem, q0, q1]) rfl ⟨rfl, cur_set HC3.out hgl, grown_alloc_set HG3.out (Nat.le_refl _)⟩
end Go.Proofs.YtdopheoedpldiaaGreatDoor
namespace Go.Proofs.YtdopheoedpldiaaGreatDoor
open Go.RowKit
def NumInv (base : Nat) (w : World) (v u : Value) (l : List Int) (w' : World) : Prop :=
 w'.ownsRow base 3 1 u l.length (vs l) ∧ w.grownBy w' v.ownBlock ∧ (u.ownBlock = v.ownBlock ∨ ∃ g, u.ownBlock = some g ∧ w.heap.size ≤ g)
theorem NumInv.refl {base : Nat} {w : World} {v : Value} {l : List Int} (h : w.ownsRow base 3 1 v l.length (vs l)) : NumInv base w v v l w := ⟨h, World.grownBy.refl _ _, .inl rfl⟩
theorem NumInv.step {base : Nat} {w : World} {v u : Value} {l l' : List Int} {n' : Nat} {xs' : List Value} {wr w1 : World} (h : NumInv base w v u l wr) (o : Obj) {g cap : Nat}
   (hown : w1.ownsRow base 3 1 (.slice (some ⟨g, 0, none⟩) n' cap) n' xs') (hn : n' = l'.length) (hx : xs' = vs l') (hg : (wr.alloc o).grownBy w1 u.ownBlock) (hat : u.ownBlock = some g ∨ g = wr.heap.size + 1) :
   NumInv base w v (.slice (some ⟨g, 0, none⟩) n' cap) l' w1 := by
 subst hn hx
 obtain ⟨h1, h2, h3⟩ := h
 refine ⟨hown, ⟨hg.os.trans h2.os, hg.tape.trans h2.tape, hg.output.trans h2.output, ?_, ?_⟩, ?_⟩
 · have := hg.size
   have := h2.size
   simp at *
   omega
 · intro k hk hne
   have hs := h2.size
   have e1 := hg.block k (by simp; omega) (by
     rcases h3 with h3 | ⟨g', h3, hg'⟩
     · rw [h3]; exact hne
     · rw [h3]; intro e; injection e with e; omega)
   rw [e1, Below.heap_alloc wr o k (by omega), h2.block k hk hne]
 · rcases hat with hat | hat
   · rcases h3 with h3 | ⟨g', h3, hg'⟩
     · left
       show some g = _
       rw [← h3, hat]
     · right
       refine ⟨g, rfl, ?_⟩
       rw [h3] at hat
       injection hat with hat
       omega
   · right
     have := h2.size
     exact ⟨g, rfl, by omega⟩
theorem NumInv.below {base : Nat} {w w' : World} {v u : Value} {l l' : List Int} (h : NumInv base w v u l w') (h0 : w.ownsRow base 3 1 v l'.length (vs l')) (hb : base ≤ w.heap.size) : Below base w w' :=
 (Below.refl _ _).grown h.2.1 hb (fun k hk => (h0.lt k hk).1)
def BhRel (base : Nat) (w : World) (v : Value) (l : List Int) (x nn : Int) (u i : Value) (wr : World) : Prop :=
 ∃ k : Nat, k ≤ nn.toNat ∧ i = .int .i64 (k : Int) ∧ NumInv base w v u (l ++ List.replicate k x) wr
set_option maxHeartbeats 1000000 in
theorem behind_own (base : Nat) (v : Value) (l : List Int) (nn x : Int) (w : World) (hown : w.ownsRow base 3 1 v l.length (vs l)) (hbase : base ≤ w.heap.size) (hl : l.length + nn.toNat ≤ 17592186044416) :
   Calls Tryz.prog 194 #[v, .int .i64 nn, .int .i64 x] w fun e w' => ∃ u, e = .returned u ∧ NumInv base w v u (l ++ List.replicate nn.toNat x) w' := by
 obtain ⟨i0, hi, hz0, hz1, hz2⟩ := info_parts info_int
 have HO := Lib.hid hown
 clear hown
 go_enter Tryz.func194, Tryz.ntmps194
 go_wp2
 go_loopw [0, 8] (BhRel base w v l x nn) (fun _ i _ => nn.toNat - (intOf i).toNat)
 case atStart => exact ⟨0, Nat.zero_le _, rfl, by simpa using NumInv.refl HO.out⟩
 case round =>
   obtain ⟨k, hk, rfl, hI⟩ := hrel
   have HI := Lib.hid hI
   have hws := hI.2.1.size
   have HQ : Hid ((l ++ List.replicate k x).length = l.length + k) := Lib.hid (by simp)
   clear hI
   by_cases hlt : (k : Int) < nn
   · have HN : Hid (l ++ List.replicate (k + 1) x = (l ++ List.replicate k x) ++ [x]) := Lib.hid (by rw [List.replicate_succ', List.append_assoc])
     generalize l ++ List.replicate k x = q at *
     go_wp2_with (at_builtin; refine wpList_append_lies _ rfl (.tmp 10) (.tmp 12) 39 rfl base 3 i0 (.int .i64 0) 1 8 Tryz.underlying39 hi hz0 hz1 hz2 rfl (by decide) u0 q.length (vs q) rfl (HI.out.1.alloc _) ⟨wr.heap.size, 0, none⟩ 1 1 (vs [x]) rfl rfl ?c1 (vs_one _) (by decide) ?c3 ?c4 ?c5 (wr.heap.size + 1) ?c6 ?_)
     case c1 => exact new_one wr _ _
     case c3 => have := HQ.out; unfold maxLen; omega
     case c4 => have := HQ.out; omega
     case c5 => simp; omega
     case c6 => simp
     intro g cap w2 hown2 hgrow2 hat2 _
     have HR := Lib.hid (HI.out.step (l' := q ++ [x]) _ hown2 (by simp) (vs_append _ _).symm hgrow2 hat2)
     clear hown2 hgrow2 hat2 HI
     go_wp2
     go_roundw
     case rel => exact ⟨k + 1, by omega, by go_num, by rw [HN.out]; exact HR.out⟩
     case measure => simp [intOf]; omega
   · obtain rfl : k = nn.toNat := by omega
     go_wp2
     go_ret
     exact ⟨_, rfl, HI.out⟩
end Go.Proofs.YtdopheoedpldiaaGreatDoor
namespace Go.Proofs.YtdopheoedpldiaaGreatDoor
open Go.RowKit
def TakeP (o : List Int × (List Nat × Nat)) (g : Nat) (w : World) (e : Ending) (w' : World) : Prop :=
 ∃ v, e = .returned v ∧ w'.ownsRow w.heap.size 3 1 v o.1.length (vs o.1) ∧ Cur w' g o.2 ∧ w.grownBy w' (some g)
def TkRel (w : World) (g N : Nat) (low high : Int) (s0 : List Nat × Nat) (u l : Value) (wr : World) : Prop :=
 ∃ (r : Ru.Runs) (s : List Nat × Nat) (f : Nat) (z : Int), l = .int .i64 z ∧ z = (N : Int) - ((Ru.flat r).length : Int) ∧ (Ru.flat r).length ≤ N ∧ wr.ownsRow w.heap.size 205 2 u r.length (ps r) ∧ (∀ p ∈ r, 1 ≤ p.1) ∧ Cur wr g s ∧ w.grownBy wr (some g) ∧
   takeL N low high f s (Ru.flat r) = takeL N low high (N + 1) s0 [] ∧ N - (Ru.flat r).length < f
def RwIn (w : World) (r : Ru.Runs) (u i : Value) (wr : World) : Prop :=
 ∃ k : Nat, k ≤ r.length ∧ i = .int .i64 (k : Int) ∧ wr.ownsRow w.heap.size 3 1 u (Ru.flat (r.take k)).length (vs (Ru.flat (r.take k))) ∧ Below w.heap.size w wr
theorem own_far {w : World} {base g n k c : Nat} {e : TypeId} {size : Nat} {A : Option Addr} {xs : List Value} (h : w.ownsRow base e size (.slice A k c) n xs) (hg : g < base) : ∀ x, A = some x → x.block ≠ g := by
 intro x hx
 rcases h.2 with ⟨hv, _⟩ | ⟨g', cap, cur, hv, hb, _⟩
 · injection hv with h1
   rw [h1] at hx
   cases hx
 · injection hv with h1
   rw [h1] at hx
   injection hx with hx
   subst hx
   show g' ≠ g
   omega
theorem wrap_small {b : Nat} {z : Int} (h : ¬ z < (b : Int)) (hz : z ≤ 2147483647) : wrap64 (b : Int) = (b : Int) := by
 unfold wrap64
 omega
theorem flat_len {r : Ru.Runs} (h : ∀ p ∈ r, 1 ≤ p.1) : r.length ≤ (Ru.flat r).length := by
 induction r with
 | nil => simp
 | cons p r ih =>
   have h1 := h p (by simp)
   have h2 := ih (fun q hq => h q (by simp [hq]))
   have e : Ru.flat (p :: r) = Ru.flat [p] ++ Ru.flat r := Ru.flat_append [p] r
   rw [e, Ru.flat_one, List.length_append, List.length_replicate, List.length_cons]
   omega
theorem flat_take_le (r : Ru.Runs) (k : Nat) : (Ru.flat (r.take k)).length ≤ (Ru.flat r).length := by
 have e : Ru.flat r = Ru.flat (r.take k) ++ Ru.flat (r.drop k) := by rw [← Ru.flat_append, List.take_append_drop]
 rw [e, List.length_append]
 omega
set_option maxHeartbeats 8000000 in
theorem take_cur (g : Nat) (s0 : List Nat × Nat) (n low high : Int) (w : World) (h : Cur w g s0) (hn : n ≤ 2147483647) :
   Calls Tryz.prog 178 #[.pointer (some ⟨g, 0, none⟩), .int .i64 n, .int .i64 low, .int .i64 high] w (TakeP (takeA s0 n low high) g w) := by
 by_cases hn1 : n < 1
 · rw [takeA_none hn1]
   have H := Lib.hid h
   clear h
   go_enter Tryz.func178, Tryz.ntmps178
   go_wp2
   go_ret
   exact ⟨_, rfl, World.ownsRow_nil _ _ _ _, H.out, World.grownBy.refl _ _⟩
 obtain ⟨N, rfl⟩ := Int.eq_ofNat_of_zero_le (show 0 ≤ n by omega)
 obtain ⟨i0, hi, hz0, hz1, hz2⟩ := info_parts info_run
 obtain ⟨j0, hj, hy0, hy1, hy2⟩ := info_parts info_int
 have hgl := h.lt
 have H := Lib.hid h
 have HT : Hid (takeA s0 (N : Int) low high = takeL N low high (N + 1) s0 []) := Lib.hid (by unfold takeA; rw [Int.toNat_natCast])
 rw [HT.out]
 clear h
 go_enter Tryz.func178, Tryz.ntmps178
 go_wp2
 go_loopw [9, 10] (TkRel w g N low high s0) (fun _ l _ => (intOf l).toNat)
 case atStart => exact ⟨[], s0, N + 1, (N : Int), rfl, by simp [Ru.flat], by simp [Ru.flat], World.ownsRow_nil _ _ _ _, by simp, H.out, World.grownBy.refl _ _, by simp [Ru.flat], by simp [Ru.flat]⟩
 case round =>
   obtain ⟨r, s, f, z, rfl, hz, hzl, hO, hpos, hC, hG, hT, hf⟩ := hrel
   obtain ⟨A, cc, rfl, hPA, _⟩ := runs_slice hO
   have hgs := hG.size
   have hrN : r.length ≤ (Ru.flat r).length := flat_len hpos
   have HO := Lib.hid hO
   have HC := Lib.hid hC
   have HG := Lib.hid hG
   have HTT := Lib.hid hT
   have HPOS := Lib.hid hpos
   have HRN := Lib.hid hrN
   have HZ := Lib.hid hz
   have HZL := Lib.hid hzl
   have HFU := Lib.hid hf
   have hz0' : 0 ≤ z := by omega
   have hzN : z ≤ 2147483647 := by omega
   by_cases hz0l : 0 < z
   · have HRUN := Lib.hid (takeRun_cur g s A r.length cc r z low high wr hC hPA (fun _ => own_far hO hgl) (by omega) hz0l (by omega))
     have hcl : Clean s := hC.nil
     have HCL := Lib.hid hcl
     have hzz : ((N - (Ru.flat r).length : Nat) : Int) = z := by omega
     have hlast := flat_last r hpos
     have HGO := Lib.hid (takeL_go (n := N) (f := f) (low := low) (high := high) (s := s) (out := Ru.flat r) (by omega) hf)
     have HER := Lib.hid (takeL_err (n := N) (f := f) (low := low) (high := high) (s := s) (out := Ru.flat r) (by omega) hf)
     rw [hzz, hlast] at HGO HER
     have HNO := Lib.hid (fun he => run_none (s := s) (last := lastV r) (left := z) (low := low) (high := high) hcl he)
     clear hO hC hG hT hpos hPA hrN hz hzl hf hcl hzz hlast
     generalize runS s (lastV r) z low high = s1 at *
     go_wp2_with fail
     refine HRUN.out.mono ?_
     rintro e w1 ⟨rfl, hc1, hg1⟩
     have HC1 := Lib.hid (hc1.kept (World.grownBy_alloc w1 (.cells #[.int .i64 (wrap64 ((bitsA s).1 : Int)), .int .i64 (intA (formS s z)).1] 205) none) (by simp))
     have HO1 := Lib.hid (own_grownG HO.out hg1 hgl)
     have HG1 := Lib.hid (Lib.grownBy_trans HG.out hg1)
     have hs1 := HG1.out.size
     clear hg1 hc1 HRUN HO
     by_cases he : s1.2 = 0
     · obtain ⟨n1, n2, n3, _, _, n6⟩ := HNO.out he
       obtain ⟨f', hf', hgo⟩ := HGO.out he
       have hform : formS s z = (bitsA s).2 := form_ok n1
       rw [hform] at HC1 ⊢
       have hbw : wrap64 ((bitsA s).1 : Int) = ((bitsA s).1 : Int) := wrap_small (not_or.1 n1).2 hzN
       rw [hbw] at HC1 ⊢
       have HGO2 := Lib.hid hgo
       have HF' := Lib.hid hf'
       have HB1 : Hid (1 ≤ (bitsA s).1 ∧ ((bitsA s).1 : Int) ≤ z) := Lib.hid ⟨Nat.le_of_not_lt (not_or.1 n1).1, Int.not_lt.1 (not_or.1 n1).2⟩
       have HE := Lib.hid he
       clear hbw hgo hf' hform n1 n2 n3 n6 HGO HER HNO
       generalize (bitsA s).1 = b at *
       generalize (intA (bitsA s).2).1 = v at *
       have hb1 := HB1.out.1
       have hbz := HB1.out.2
       have HERR := Lib.hid (err_cur g s1 _ HC1.out)
       rw [he] at HERR
       clear he
       go_wp2_with fail
       refine HERR.out.mono ?_
       rintro e w' ⟨rfl, rfl⟩
       clear HERR
       have HO2 : Hid (((w1.alloc (.cells #[.int .i64 (b : Int), .int .i64 v] 205)).alloc (.cells #[.int .i64 (b : Int), .int .i64 v] 205)).ownsRow w.heap.size 205 2 (.slice A r.length cc) r.length (ps r)) := Lib.hid ((HO1.out.alloc _).alloc _)
       go_wp2_with (at_builtin; refine wpList_append_lies _ rfl (.tmp 29) (.tmp 31) 204 rfl w.heap.size 205 i0 (.agg #[.int .i64 0, .int .i64 0]) 2 16 Tryz.underlying204 hi hz0 hz1 hz2 rfl (by decide) (.slice A r.length cc) r.length (ps r) rfl HO2.out ⟨w1.heap.size + 1, 0, none⟩ 1 1 (ps [((b : Int), v)]) rfl rfl ?c1 (ps_one _) (by decide) ?c3 ?c4 ?c5 (w1.heap.size + 1 + 1) ?c6 ?_)
       case c1 => have := new_run (w1.alloc (.cells #[.int .i64 (b : Int), .int .i64 v] 205)) 205 (b : Int) v; simpa only [World.size_alloc] using this
       case c3 => have := HRN.out; have := HZL.out; unfold maxLen; omega
       case c4 => have := HRN.out; have := HZL.out; omega
       case c5 => simp; omega
       case c6 => simp
       intro g3 cap3 w3 hown3 hgrow3 hat3 _
       have hb0 : w3.cell? ⟨w1.heap.size, 0, none⟩ = some (.int .i64 (b : Int)) := by
         refine hgrow3.cell ?_ (fun e' => ?_)
         · have h1 : ((w1.alloc (.cells #[.int .i64 (b : Int), .int .i64 v] 205)).alloc (.cells #[.int .i64 (b : Int), .int .i64 v] 205)).heap[w1.heap.size]? = some (.cells #[.int .i64 (b : Int), .int .i64 v] 205 (0, 0)) := (Below.heap_alloc _ _ _ (by simp)).trans (heap_alloc_new w1 _)
           exact cell_of_row _ _ 0 _ _ _ h1
         · have h9 : w1.heap.size < w1.heap.size := (HO1.out.lt _ e'.symm).2
           exact absurd h9 (Nat.lt_irrefl _)
       have HC3 : Hid (Cur w3 g s1) := Lib.hid ((HC1.out.kept (World.grownBy_alloc _ _ none) (by simp)).kept hgrow3 (fun k hk => by have := (HO1.out.lt k hk).1; omega))
       have HG3 := Lib.hid (grown_more (Lib.grownBy_allocR (Lib.grownBy_allocR HG1.out _) _) HO2.out hgrow3)
       have HO3 := Lib.hid hown3
       clear hown3 hgrow3 hat3
       go_wp2
       go_roundw
       case rel =>
         have hfl : (Ru.flat (r ++ [((b : Int), v)])) = Ru.flat r ++ List.replicate b v := by rw [Ru.flat_append, Ru.flat_one]; simp
         refine ⟨r ++ [((b : Int), v)], s1, f', _, rfl, ?_, ?_, ?_, ?_, HC3.out, HG3.out, ?_, ?_⟩
         · rw [hfl, HZ.out]; simp; omega
         · rw [hfl]; have := HZ.out; have := HZL.out; simp; omega
         · rw [List.length_append, ps_append]; exact HO3.out
         · intro p hp
           rcases List.mem_append.1 hp with hp | hp
           · exact HPOS.out p hp
           · rw [List.mem_singleton] at hp
             subst hp
             show 1 ≤ (b : Int)
             omega
         · rw [hfl, ← HGO2.out]; exact HTT.out
         · rw [hfl]; have := HFU.out; have := HF'.out; have := HZ.out; have := HZL.out; simp; omega
       case measure => simp [intOf]; omega
     · have hER := HER.out he
       have HEE := Lib.hid (HTT.out.symm.trans hER)
       have HERR := Lib.hid (err_cur g s1 _ HC1.out)
       have hbe : ((s1.2 : Int) != 0) = true := by rw [bne_iff_ne]; omega
       clear hER HGO HER HNO he
       generalize wrap64 ((bitsA s).1 : Int) = b at *
       generalize (intA (formS s z)).1 = v at *
       go_wp2_with fail
       refine HERR.out.mono ?_
       rintro e w' ⟨rfl, rfl⟩
       go_wp2
       go_ret
       rw [HEE.out]
       exact ⟨_, rfl, World.ownsRow_nil _ _ _ _, HC1.out, Lib.grownBy_allocR HG1.out _⟩
   · have hzero : z = 0 := by omega
     have HEE : Hid (takeL N low high (N + 1) s0 [] = (Ru.flat r, s)) := Lib.hid (by rw [← hT]; exact takeL_end (by omega))
     have hnb : ¬ (2147483647 : Int) < (N : Int) := by omega
     have HPA := Lib.hid hPA
     clear hO hC hG hT hpos hPA hrN hz hzl hf
     subst hzero
     go_wp2_with (at_make; refine wpList_make_own _ rfl _ _ 39 rfl wr.heap.size 3 j0 (.int .i64 0) 1 Tryz.underlying39 hj hy0 hy1 .i64 .i64 _ N rfl rfl rfl ?m1 ?m2 (Nat.le_refl _) ?_)
     case m1 => omega
     case m2 => unfold maxLen; omega
     intro w2 hown2 hgrow2
     have hb2 : Below wr.heap.size wr w2 := ⟨hgrow2.os, hgrow2.tape, hgrow2.output, hgrow2.size, fun k hk => hgrow2.block k hk (by simp)⟩
     have HB2 := Lib.hid hb2
     have HO2 := Lib.hid hown2
     have hrl := HRN.out
     have hfl := HZL.out
     clear hown2 hgrow2 hb2
     obtain ⟨wo, rfl⟩ : ∃ wo : World, wo = wr := ⟨_, rfl⟩
     go_wp2
     go_loopw [12, 45] (RwIn wo r) (fun _ i _ => r.length - (intOf i).toNat)
     case atStart => exact ⟨0, Nat.zero_le _, rfl, by simpa [Ru.flat, vs] using HO2.out, HB2.out⟩
     case round =>
       obtain ⟨k, hk, rfl, hO3, hB3⟩ := hrel
       have HO3 := Lib.hid hO3
       have HB3 := Lib.hid hB3
       have hs3 := hB3.size
       by_cases hlt : k < r.length
       · obtain ⟨b, off, rfl, hlb, hc⟩ := (HPA.out.below hB3).2 (by omega)
         obtain ⟨hc0, hc1⟩ := hc k hlt
         have hp1 : 1 ≤ (r.getD k (0, 0)).1 := by
           have e : r.getD k (0, 0) = r[k] := by simp [List.getD, hlt]
           rw [e]
           exact HPOS.out _ (List.getElem_mem hlt)
         have hfk := flat_take_le r (k + 1)
         have hFT : Ru.flat (r.take (k + 1)) = Ru.flat (r.take k) ++ List.replicate (r.getD k (0, 0)).1.toNat (r.getD k (0, 0)).2 := by rw [Ru.taken hlt (0, 0), Ru.flat_append, Ru.flat_one]
         rw [hFT, List.length_append, List.length_replicate] at hfk
         have HFT := Lib.hid hFT
         have HFK := Lib.hid hfk
         clear hc hO3 hB3 hFT hfk
         generalize r.getD k (0, 0) = p at *
         obtain ⟨x, y⟩ := p
         simp only at hc0 hc1 hp1 HFT HFK
         generalize Ru.flat (r.take k) = o at *
         have HBH := Lib.hid (fun W (hW : W.ownsRow wo.heap.size 3 1 u12 o.length (vs o)) (hw : wo.heap.size ≤ W.heap.size) => behind_own wo.heap.size u12 o x y W hW hw (by have := HFK.out; omega))
         go_wp2_with (go_at_call 194; refine (HBH.out _ (HO3.out.alloc _) (by simp; omega)).mono ?_; rintro e w4 ⟨u4, rfl, hI4⟩; have HI4 := Lib.hid hI4; clear hI4)
         go_roundw
         case rel => exact ⟨k + 1, by omega, by go_num, by rw [HFT.out]; exact HI4.out.1, (HB3.out.alloc hs3 _).trans (HI4.out.below (HO3.out.alloc _) (by simp; omega))⟩
         case measure => simp [intOf]; omega
       · have HE : Hid (r.take k = r) := Lib.hid (List.take_of_length_le (by omega))
         clear hO3 hB3
         go_wp2
         go_ret
         rw [HEE.out]
         refine ⟨_, rfl, ?_, cur_below HC.out HB3.out HC.out.lt, grown_below HG.out HB3.out hgs⟩
         have h2 := HO3.out
         rw [HE.out] at h2
         exact ownsRow_base h2 hgs
end Go.Proofs.YtdopheoedpldiaaGreatDoor
namespace Go.Proofs.YtdopheoedpldiaaGreatDoor
open Go.RowKit
theorem litake_cur (g : Nat) (s0 : List Nat × Nat) (n : Int) (w : World) (h : Cur w g s0) (hn : n ≤ 2147483647) :
   Calls Tryz.prog 174 #[.pointer (some ⟨g, 0, none⟩), .int .i64 n] w (TakeP (takeA s0 n 0 65535) g w) := by
 have H := Lib.hid (take_cur g s0 n 0 65535 w h hn)
 clear h
 generalize takeA s0 n 0 65535 = o at *
 go_enter Tryz.func174, Tryz.ntmps174
 go_wp2_with (go_at_call 178; refine H.out.mono ?_; rintro _ w1 ⟨v, rfl, h1, h2, h3⟩; have HV := Lib.hid (And.intro h1 (And.intro h2 h3)); clear h1 h2 h3)
 go_ret
 exact ⟨v, rfl, HV.out⟩
end Go.Proofs.YtdopheoedpldiaaGreatDoor
