/-
  The walk of RunsTakes. Conditions: the bytes can be read, within the reach.
-/
import Derived.Test.YtkibbhkdeepnlaaRuLives
import Derived.Test.YtkibbhkdeepnlaaRuTake
import Derived.Test.YtkibbhkdeepnlaaRuRefTake
import Derived.Test.YtkibbhkdeepnlaaRuInts
import Derived.Test.YtkibbhkdeepnlaaRegionG
namespace Go.Proofs.Ytkibbhkdeepnlaa
open Go.RowKit

theorem takeL_clean {n : Nat} {low high : Int} : ∀ (f : Nat) (s : List Nat × Nat) (out : List Int), Clean s → out.length ≤ n → Clean (takeL n low high f s out).2 ∧ (takeL n low high f s out).1.length ≤ n
  | 0, s, out, h, hl => ⟨h, hl⟩
  | f + 1, s, out, h, hl => by
    have hr := run_clean (s := s) (last := out.getLast?) (left := ((n - out.length : Nat) : Int)) (low := low) (high := high) h
    rw [takeL]
    by_cases h1 : n ≤ out.length
    · rw [if_pos h1]
      exact ⟨h, hl⟩
    · rw [if_neg h1]
      by_cases h2 : (runS s out.getLast? ((n - out.length : Nat) : Int) low high).2 ≠ 0
      · rw [if_pos h2]
        exact ⟨hr, Nat.zero_le _⟩
      · rw [if_neg h2]
        obtain ⟨n1, _⟩ := run_none h (Decidable.not_not.1 h2)
        refine takeL_clean f _ _ hr ?_
        have := (not_or.1 n1).2
        rw [List.length_append, List.length_replicate]
        generalize (bitsA s).1 = b at *
        omega
theorem takeA_clean {s : List Nat × Nat} {n low high : Int} (h : Clean s) : Clean (takeA s n low high).2 ∧ (takeA s n low high).1.length ≤ n.toNat := takeL_clean _ _ _ h (by simp)

/-- Block p is a question. -/
def Ask3 (w : World) (p : Nat) (x y z : Int) : Prop := w.heap[p]? = some (.cells #[.int .i64 x, .int .i64 y, .int .i64 z] 41 (0, 0))
theorem Ask3.new (w : World) (x y z : Int) : Ask3 (w.alloc (.cells #[.int .i64 x, .int .i64 y, .int .i64 z] 41)) w.heap.size x y z := heap_alloc_new _ _
section
variable {w : World} {p : Nat} {x y z : Int} (h : Ask3 w p x y z)
include h
theorem Ask3.lt : p < w.heap.size := heap_lt h
theorem Ask3.c0 : w.cell? ⟨p, 0, none⟩ = some (.int .i64 x) := by unfold Ask3 at h; simp [World.cell?, h]
theorem Ask3.c1 : w.cell? ⟨p, 1, none⟩ = some (.int .i64 y) := by unfold Ask3 at h; simp [World.cell?, h]
theorem Ask3.c2 : w.cell? ⟨p, 2, none⟩ = some (.int .i64 z) := by unfold Ask3 at h; simp [World.cell?, h]
theorem Ask3.kept {w' : World} {row : Option Nat} (hg : w.grownBy w' row) (hne : row ≠ some p) : Ask3 w' p x y z := (hg.block p (heap_lt h) (Ne.symm hne)).trans h
theorem Ask3.below {w' : World} {B : Nat} (hb : Below B w w') (hp : p < B) : Ask3 w' p x y z := (hb.block p hp).trans h
end

/-- An edge that binds: what stands ahead has come up. -/
theorem SlotG.shut {X : Type} {ops : Array Oper} {N : Nat} {fixed : List (Nat × Value)} {C : X → (Nat → Bool) → World → Prop} {G : X → Nat → Value → Prop} {x : X} {D : Nat → Bool} {a : Act} {w : World} (h : SlotG ops N fixed C G x D a w) (j i : Nat) (hj : D j = true)
    (he : (((ops[j]?).map fun o => o.after.toList.any fun e => e.on == i && Region.binds .any e).getD false) = true) : D i = true := by
  cases ho : ops[j]? with
  | none => rw [ho] at he; cases he
  | some o =>
    rw [ho] at he
    simp only [Option.map_some, Option.getD_some] at he
    obtain ⟨e, hm, h2⟩ := List.any_eq_true.1 he
    simp only [Bool.and_eq_true, beq_iff_eq] at h2
    have := h.closed j o ho hj e hm h2.2
    rwa [h2.1] at this

def LtG (g p3 p7 : Nat) (N lo hi : Int) (o : List Int × (List Nat × Nat)) (Aw : Option Addr) (cw : Nat) (Ad : Option Addr) (nd cd : Nat) (x : Value) : Nat → Value → Prop
  | 0, w => w = .pointer (some ⟨g, 0, none⟩)
  | 1, w => w = .pointer (some ⟨p3, 0, none⟩)
  | 2, w => w = .int .i64 N
  | 3, w => w = .pointer (some ⟨p3, 1, none⟩)
  | 4, w => w = .int .i64 lo
  | 5, w => w = .pointer (some ⟨p3, 2, none⟩)
  | 6, w => w = .int .i64 hi
  | 7, w => w = x
  | 8, w => w = .slice Aw o.1.length cw
  | 9, w => w = .bool true
  | 10, w => w = .bool true
  | 11, w => w = .pointer (some ⟨g, 0, none⟩)
  | 12, w => w = .int .i64 (o.2.2 : Int)
  | 13, w => w = .pointer (some ⟨p7, 1, none⟩)
  | 14, w => w = .int .i64 (o.2.2 : Int)
  | 15, w => w = .bool true
  | 16, w => w = .bool true
  | 17, w => w = .bool true
  | 18, w => w = .pointer (some ⟨g, 0, none⟩)
  | 19, w => w = .int .i64 (o.2.1.length : Int)
  | 20, w => w = .agg #[.slice Ad nd cd, .int .i64 (o.2.2 : Int)]
  | 21, w => w = .int .i64 (o.2.1.length : Int)
  | 22, w => w = .bool true
  | 23, w => w = .bool true
  | 24, w => w = .bool true
  | 25, w => w = .bool true
  | 26, w => w = .bool true
  | _, w => w = .bool true

theorem ltg {g p3 p7 : Nat} {N lo hi : Int} {o : List Int × (List Nat × Nat)} {Aw : Option Addr} {cw : Nat} {Ad : Option Addr} {nd cd : Nat} {x v : Value} {D : Nat → Bool} (h : D 7 = false) : ∀ j w, D j = true → LtG g p3 p7 N lo hi o Aw cw Ad nd cd x j w → LtG g p3 p7 N lo hi o Aw cw Ad nd cd v j w
  | 0, _, _, h | 1, _, _, h | 2, _, _, h | 3, _, _, h | 4, _, _, h | 5, _, _, h | 6, _, _, h | 8, _, _, h | 9, _, _, h | 10, _, _, h | 11, _, _, h | 12, _, _, h | 13, _, _, h | 14, _, _, h | 15, _, _, h | 16, _, _, h | 17, _, _, h | 18, _, _, h | 19, _, _, h | 20, _, _, h | 21, _, _, h | 22, _, _, h | 23, _, _, h | 24, _, _, h | 25, _, _, h | 26, _, _, h => h
  | 7, _, hj, _ => by rw [h] at hj; cases hj
  | _ + 27, _, _, h => h

/-- The world while the last statement runs: behind operation 7 the cursor has gone on, and the row is there. -/
structure LtC (w0 : World) (g p3 p7 : Nat) (N lo hi : Int) (o : List Int × (List Nat × Nat)) (Aw : Option Addr) (cw : Nat) (Ad : Option Addr) (nd cd : Nat) (s : List Nat × Nat) (x : Value) (D : Nat → Bool) (W : World) : Prop where
  cur : Cur W g (if D 7 = true then o.2 else s)
  ask : Ask3 W p3 N lo hi
  two : Two W p7 (.slice Ad nd cd) (.int .i64 (o.2.2 : Int))
  dat : Dat W w0.heap.size Ad nd cd o.2
  wrow : W.ownsRow (g + 1) 3 1 (.slice Aw o.1.length cw) o.1.length (vs o.1)
  own : D 7 = true → W.ownsRow (g + 1) 3 1 x o.1.length (vs o.1)
  row : Below w0.heap.size w0 W
  lg : w0.heap.size ≤ g
  n3 : p3 ≠ g
  n7 : p7 ≠ g
section
variable {w0 W : World} {g p3 p7 : Nat} {N lo hi : Int} {o : List Int × (List Nat × Nat)} {Aw : Option Addr} {cw : Nat} {Ad : Option Addr} {nd cd : Nat} {s : List Nat × Nat} {x : Value} {D : Nat → Bool}
theorem LtC.up (h : LtC w0 g p3 p7 N lo hi o Aw cw Ad nd cd s x D W) {i : Nat} (h7 : ((7 : Nat) == i) = false) : LtC w0 g p3 p7 N lo hi o Aw cw Ad nd cd s x (add D i) W :=
  { cur := by rw [up_other h7]; exact h.cur, ask := h.ask, two := h.two, dat := h.dat, wrow := h.wrow, own := by rw [up_other h7]; exact h.own, row := h.row, lg := h.lg, n3 := h.n3, n7 := h.n7 }
theorem LtC.before (h : LtC w0 g p3 p7 N lo hi o Aw cw Ad nd cd s x D W) (h7 : D 7 = false) : Cur W g s := by
  have := h.cur
  rw [h7] at this
  exact this
theorem LtC.after (h : LtC w0 g p3 p7 N lo hi o Aw cw Ad nd cd s x D W) (h7 : D 7 = true) : Cur W g o.2 := by
  have := h.cur
  rw [if_pos h7] at this
  exact this
theorem LtC.mine (h : LtC w0 g p3 p7 N lo hi o Aw cw Ad nd cd s x D W) (h7 : D 7 = true) : ∃ A c, x = .slice A o.1.length c ∧ IntsAt W W.heap.size A o.1.length o.1 := nums_slice (h.own h7)
theorem LtC.yours (h : LtC w0 g p3 p7 N lo hi o Aw cw Ad nd cd s x D W) : IntsAt W W.heap.size Aw o.1.length o.1 := (ints_of_own h.wrow).2.1
theorem LtC.kept (h : LtC w0 g p3 p7 N lo hi o Aw cw Ad nd cd s x D W) {W' : World} (hb : Below W.heap.size W W') : LtC w0 g p3 p7 N lo hi o Aw cw Ad nd cd s x D W' :=
  { cur := cur_below h.cur hb h.cur.lt, ask := h.ask.below hb h.ask.lt, two := h.two.below hb h.two.lt, dat := h.dat.below (hb.mono h.row.size), wrow := ownsRow_below h.wrow hb, own := fun h7 => ownsRow_below (h.own h7) hb, row := h.row.trans (hb.mono h.row.size), lg := h.lg, n3 := h.n3, n7 := h.n7 }
theorem LtC.taken (h : LtC w0 g p3 p7 N lo hi o Aw cw Ad nd cd s x D W) {v : Value} {W' : World} (hown : W'.ownsRow W.heap.size 3 1 v o.1.length (vs o.1)) (hc : Cur W' g o.2) (hg : W.grownBy W' (some g)) : LtC w0 g p3 p7 N lo hi o Aw cw Ad nd cd s v (add D 7) W' :=
  { cur := by rw [up_self, if_pos rfl]; exact hc, ask := h.ask.kept hg (fun e => h.n3 (by injection e with e; exact e.symm)), two := h.two.kept hg (fun e => h.n7 (by injection e with e; exact e.symm)), dat := h.dat.kept hg (fun k hk => by injection hk with hk; have := h.lg; omega), wrow := own_grownG h.wrow hg (Nat.lt_succ_self _), own := fun _ => ownsRow_base hown h.cur.lt, row := h.row.grown hg h.row.size (fun k hk => by injection hk with hk; have := h.lg; omega), lg := h.lg, n3 := h.n3, n7 := h.n7 }
end

set_option maxHeartbeats 8000000 in
set_option maxRecDepth 100000 in
theorem takes_walk (B : Option Addr) (nb cb : Nat) (lb : List Nat) (N lo hi : Int) (w0 : World) (hB : BytesAt w0 w0.heap.size B nb lb) (hnc : nb ≤ cb) (hcb : cb ≤ 140737488351232) (_ : -9223372036854775808 ≤ N ∧ N ≤ 9223372036854775807) (_ : -9223372036854775808 ≤ lo ∧ lo ≤ 9223372036854775807) (_ : -9223372036854775808 ≤ hi ∧ hi ≤ 9223372036854775807) :
    Calls Try.prog 5 #[.slice B nb cb, .agg #[.int .i64 N, .int .i64 lo, .int .i64 hi]] w0 (BoolP true w0) := by
  by_cases h300 : 300 < N
  · clear hB
    go_enter Try.func5, Try.ntmps5
    go_wp2_with (go_at_call 7; refine (lives_any _).mono ?_; rintro e w1 ⟨rfl, hb1⟩)
    go_ret
    exact ⟨rfl, ((Below.refl _ w0).alloc (Nat.le_refl _) _).trans (hb1.mono (by simp))⟩
  have HBA := Lib.hid hB
  have hBW := (hB.below ((Below.refl _ w0).alloc (Nat.le_refl _) (.cells #[.int .i64 N, .int .i64 lo, .int .i64 hi] 41))).more (B' := (w0.alloc (.cells #[.int .i64 N, .int .i64 lo, .int .i64 hi] 41)).heap.size) (by simp)
  have HNEW := Lib.hid (new_any B nb cb lb _ hBW (by omega))
  clear hB hBW
  go_enter Try.func5, Try.ntmps5
  go_wp2_with fail
  refine HNEW.out.mono ?_
  rintro e w1 ⟨g, rfl, hg1, hc1, hb1⟩
  have HA1 := Lib.hid ((Ask3.new w0 N lo hi).below hb1 (by simp))
  have HB1 := Lib.hid (((Below.refl _ w0).alloc (Nat.le_refl _) _).trans (hb1.mono (by simp)))
  have hg1' : w0.heap.size + 1 ≤ g := by simpa using hg1
  have HC1 := Lib.hid hc1
  have hgl := hc1.lt
  have hs1 := HB1.out.size
  have k0 := HA1.out.c0
  have k1 := HA1.out.c1
  have k2 := HA1.out.c2
  have HRT := Lib.hid (rtake_any B nb cb w0.heap.size (lb, 0) N lo hi w1 (fun _ => ⟨HBA.out.below HB1.out, hnc, by omega⟩) (fun h => absurd rfl h) hs1 (by omega))
  have HTAKE := Lib.hid (fun W (hW : Cur W g (lb, 0)) => take_cur g (lb, 0) N lo hi W hW (by omega))
  have HCLN : Hid (Clean (takeA (lb, 0) N lo hi).2) := Lib.hid (takeA_clean (fun h => absurd rfl h)).1
  have HLEN : Hid ((takeA (lb, 0) N lo hi).1.length ≤ 300) := Lib.hid (Nat.le_trans (takeA_clean (fun h => absurd rfl h)).2 (by omega))
  clear hc1 hb1 hg1 HNEW
  generalize takeA (lb, 0) N lo hi = o at *
  go_wp2_with fail
  refine HRT.out.mono ?_
  rintro e w2 ⟨vw, Ad, nd, cd, rfl, hownw, hdw, hbw⟩
  obtain ⟨Aw, cw, rfl, _⟩ := nums_slice hownw
  have hs2 := hbw.size
  have HST : Hid (LtC w0 g w0.heap.size w2.heap.size N lo hi o Aw cw Ad nd cd (lb, 0) (.slice none 0 0) (fun _ => false) (w2.alloc (.cells #[.slice Ad nd cd, .int .i64 (o.2.2 : Int)] 46)).drew) := Lib.hid (by
    have hba : Below w2.heap.size w2 (w2.alloc (.cells #[.slice Ad nd cd, .int .i64 (o.2.2 : Int)] 46)).drew := ((Below.refl _ w2).alloc (Nat.le_refl _) _).drew
    exact { cur := cur_below (cur_below HC1.out hbw hgl) hba (by omega), ask := (HA1.out.below hbw HA1.out.lt).below hba (by have := HA1.out.lt; omega), two := Two.new w2 _ _, dat := hdw.below (hba.mono (by omega)), wrow := ownsRow_below (ownsRow_base hownw (by omega)) hba, own := (fun h => by cases h), row := (HB1.out.trans (hbw.mono hs1)).trans (hba.mono (by omega)), lg := by omega, n3 := by omega, n7 := by omega })
  clear hownw hdw hbw HRT
  have hlen : o.1.length ≤ 9223372036854775807 := by have := HLEN.out; omega
  have HHL := Lib.hid hlen
  go_wp2_with fail
  refine region_g (.slice none 0 0 : Value) 55 [(3, .pointer (some ⟨w0.heap.size, 0, none⟩)), (5, .pointer (some ⟨g, 0, none⟩)), (6, .slice Aw o.1.length cw), (7, .pointer (some ⟨w2.heap.size, 0, none⟩))] (LtC w0 g w0.heap.size w2.heap.size N lo hi o Aw cw Ad nd cd (lb, 0)) (LtG g w0.heap.size w2.heap.size N lo hi o Aw cw Ad nd cd) (by kernel_rfl) (by kernel_rfl) (by kernel_rfl) rfl rfl (by intro p hp; simp only [List.mem_cons, List.not_mem_nil, or_false] at hp; rcases hp with rfl | rfl | rfl | rfl <;> rfl) HST.out ?_ ?_
  · refine ⟨?_, ?_, ?_, ?_, ?_, ?_, ?_, ?_, ?_, ?_, ?_, ?_, ?_, ?_, ?_, ?_, ?_, ?_, ?_, ?_, ?_, ?_, ?_, ?_, ?_, ?_, ?_, ?_, trivial⟩
    · intro x D a w hI hdep hD0 K hK
      have e5 : a.eval (.tmp 5) = .pointer (some ⟨g, 0, none⟩) := hI.fast (5, .pointer (some ⟨g, 0, none⟩)) (by simp)
      refine ok_value (wanted_none rfl) (v := .pointer (some ⟨g, 0, none⟩)) ?_ (hK x _ _ (hI.world.up rfl) (fun _ _ _ h => h) rfl)
      have ec : ∀ c, a.eval (.const c) = c := fun _ => rfl
      have ef : ∀ f, a.eval (.func f) = .func (.func f) #[] #[] := fun _ => rfl
      clear hI hdep hK
      generalize a.eval = ρ at e5 ec ef ⊢
      go_simp
    · intro x D a w hI hdep hD0 K hK
      have e3 : a.eval (.tmp 3) = .pointer (some ⟨w0.heap.size, 0, none⟩) := hI.fast (3, .pointer (some ⟨w0.heap.size, 0, none⟩)) (by simp)
      refine ok_value (wanted_none rfl) (v := .pointer (some ⟨w0.heap.size, 0, none⟩)) ?_ (hK x _ _ (hI.world.up rfl) (fun _ _ _ h => h) rfl)
      have ec : ∀ c, a.eval (.const c) = c := fun _ => rfl
      have ef : ∀ f, a.eval (.func f) = .func (.func f) #[] #[] := fun _ => rfl
      clear hI hdep hK
      generalize a.eval = ρ at e3 ec ef ⊢
      go_simp
    · intro x D a w hI hdep hD0 K hK
      have e29 : a.eval (.tmp 29) = .pointer (some ⟨w0.heap.size, 0, none⟩) := hI.good 1 29 (dep_of hdep 1 rfl) rfl
      have x0 := hI.world.ask.c0
      refine ok_value (wanted_none rfl) (v := .int .i64 N) ?_ (hK x _ _ (hI.world.up rfl) (fun _ _ _ h => h) rfl)
      have ec : ∀ c, a.eval (.const c) = c := fun _ => rfl
      have ef : ∀ f, a.eval (.func f) = .func (.func f) #[] #[] := fun _ => rfl
      clear hI hdep hK
      generalize a.eval = ρ at e29 ec ef ⊢
      go_simp
    · intro x D a w hI hdep hD0 K hK
      have e3 : a.eval (.tmp 3) = .pointer (some ⟨w0.heap.size, 0, none⟩) := hI.fast (3, .pointer (some ⟨w0.heap.size, 0, none⟩)) (by simp)
      refine ok_value (wanted_none rfl) (v := .pointer (some ⟨w0.heap.size, 1, none⟩)) ?_ (hK x _ _ (hI.world.up rfl) (fun _ _ _ h => h) rfl)
      have ec : ∀ c, a.eval (.const c) = c := fun _ => rfl
      have ef : ∀ f, a.eval (.func f) = .func (.func f) #[] #[] := fun _ => rfl
      clear hI hdep hK
      generalize a.eval = ρ at e3 ec ef ⊢
      go_simp
    · intro x D a w hI hdep hD0 K hK
      have e31 : a.eval (.tmp 31) = .pointer (some ⟨w0.heap.size, 1, none⟩) := hI.good 3 31 (dep_of hdep 3 rfl) rfl
      have x0 := hI.world.ask.c1
      refine ok_value (wanted_none rfl) (v := .int .i64 lo) ?_ (hK x _ _ (hI.world.up rfl) (fun _ _ _ h => h) rfl)
      have ec : ∀ c, a.eval (.const c) = c := fun _ => rfl
      have ef : ∀ f, a.eval (.func f) = .func (.func f) #[] #[] := fun _ => rfl
      clear hI hdep hK
      generalize a.eval = ρ at e31 ec ef ⊢
      go_simp
    · intro x D a w hI hdep hD0 K hK
      have e3 : a.eval (.tmp 3) = .pointer (some ⟨w0.heap.size, 0, none⟩) := hI.fast (3, .pointer (some ⟨w0.heap.size, 0, none⟩)) (by simp)
      refine ok_value (wanted_none rfl) (v := .pointer (some ⟨w0.heap.size, 2, none⟩)) ?_ (hK x _ _ (hI.world.up rfl) (fun _ _ _ h => h) rfl)
      have ec : ∀ c, a.eval (.const c) = c := fun _ => rfl
      have ef : ∀ f, a.eval (.func f) = .func (.func f) #[] #[] := fun _ => rfl
      clear hI hdep hK
      generalize a.eval = ρ at e3 ec ef ⊢
      go_simp
    · intro x D a w hI hdep hD0 K hK
      have e33 : a.eval (.tmp 33) = .pointer (some ⟨w0.heap.size, 2, none⟩) := hI.good 5 33 (dep_of hdep 5 rfl) rfl
      have x0 := hI.world.ask.c2
      refine ok_value (wanted_none rfl) (v := .int .i64 hi) ?_ (hK x _ _ (hI.world.up rfl) (fun _ _ _ h => h) rfl)
      have ec : ∀ c, a.eval (.const c) = c := fun _ => rfl
      have ef : ∀ f, a.eval (.func f) = .func (.func f) #[] #[] := fun _ => rfl
      clear hI hdep hK
      generalize a.eval = ρ at e33 ec ef ⊢
      go_simp
    · intro x D a w hI hdep hD0 K hK
      have e28 : a.eval (.tmp 28) = .pointer (some ⟨g, 0, none⟩) := hI.good 0 28 (dep_of hdep 0 rfl) rfl
      have e30 : a.eval (.tmp 30) = .int .i64 N := hI.good 2 30 (dep_of hdep 2 rfl) rfl
      have e32 : a.eval (.tmp 32) = .int .i64 lo := hI.good 4 32 (dep_of hdep 4 rfl) rfl
      have e34 : a.eval (.tmp 34) = .int .i64 hi := hI.good 6 34 (dep_of hdep 6 rfl) rfl
      refine ok_call (wanted_none rfl) (f := 19) (args := #[.pointer (some ⟨g, 0, none⟩), .int .i64 N, .int .i64 lo, .int .i64 hi]) ?_ (HTAKE.out w (hI.world.before hD0)) ?_
      · have ec : ∀ c, a.eval (.const c) = c := fun _ => rfl
        have ef : ∀ f, a.eval (.func f) = .func (.func f) #[] #[] := fun _ => rfl
        clear hI hdep hK
        generalize a.eval = ρ at e28 e30 e32 e34 ec ef ⊢
        go_simp
      · rintro e w2 ⟨v, rfl, hown, hc, hg⟩
        exact ⟨_, rfl, hK v _ _ (hI.world.taken hown hc hg) (ltg hD0) rfl⟩
    · intro x D a w hI hdep hD0 K hK
      have e6 : a.eval (.tmp 6) = .slice Aw o.1.length cw := hI.fast (6, .slice Aw o.1.length cw) (by simp)
      refine ok_value (wanted_none rfl) (v := .slice Aw o.1.length cw) ?_ (hK x _ _ (hI.world.up rfl) (fun _ _ _ h => h) rfl)
      have ec : ∀ c, a.eval (.const c) = c := fun _ => rfl
      have ef : ∀ f, a.eval (.func f) = .func (.func f) #[] #[] := fun _ => rfl
      clear hI hdep hK
      generalize a.eval = ρ at e6 ec ef ⊢
      go_simp
    · intro x D a w hI hdep hD0 K hK
      have e35 : a.eval (.tmp 35) = x := hI.good 7 35 (dep_of hdep 7 rfl) rfl
      have e36 : a.eval (.tmp 36) = .slice Aw o.1.length cw := hI.good 8 36 (dep_of hdep 8 rfl) rfl
      obtain ⟨A9, c9, h9, hi9⟩ := hI.world.mine (dep_of hdep 7 rfl)
      rw [h9] at e35
      have HIN := Lib.hid (ints_any A9 _ c9 o.1 Aw _ cw o.1 w hi9 hI.world.yours hlen)
      rw [decide_eq_true rfl] at HIN
      refine ok_call (wanted_none rfl) (f := 10) (args := #[.slice A9 o.1.length c9, .slice Aw o.1.length cw]) ?_ HIN.out ?_
      · have ec : ∀ c, a.eval (.const c) = c := fun _ => rfl
        have ef : ∀ f, a.eval (.func f) = .func (.func f) #[] #[] := fun _ => rfl
        clear hI hdep hK
        generalize a.eval = ρ at e35 e36 ec ef ⊢
        go_simp
      · rintro e w2 ⟨rfl, hb2⟩
        exact ⟨_, rfl, hK x _ _ ((hI.world.kept hb2).up rfl) (fun _ _ _ h => h) rfl⟩
    · intro x D a w hI hdep hD0 K hK
      have e37 : a.eval (.tmp 37) = .bool true := hI.good 9 37 (dep_of hdep 9 rfl) rfl
      refine ok_value (wanted_none rfl) (v := .bool true) ?_ (hK x _ _ (hI.world.up rfl) (fun _ _ _ h => h) rfl)
      have ec : ∀ c, a.eval (.const c) = c := fun _ => rfl
      have ef : ∀ f, a.eval (.func f) = .func (.func f) #[] #[] := fun _ => rfl
      clear hI hdep hK
      generalize a.eval = ρ at e37 ec ef ⊢
      go_simp
    · intro x D a w hI hdep hD0 K hK
      have eg : a.eval (.tmp 38) = .bool true := hI.good 10 38 (dep_of hdep 10 rfl) rfl
      have e5 : a.eval (.tmp 5) = .pointer (some ⟨g, 0, none⟩) := hI.fast (5, .pointer (some ⟨g, 0, none⟩)) (by simp)
      refine ok_value (wanted_is rfl rfl hI.size (by decide) eg) (v := .pointer (some ⟨g, 0, none⟩)) ?_ (hK x _ _ (hI.world.up rfl) (fun _ _ _ h => h) rfl)
      have ec : ∀ c, a.eval (.const c) = c := fun _ => rfl
      have ef : ∀ f, a.eval (.func f) = .func (.func f) #[] #[] := fun _ => rfl
      clear hI hdep hK
      generalize a.eval = ρ at eg e5 ec ef ⊢
      go_simp
    · intro x D a w hI hdep hD0 K hK
      have eg : a.eval (.tmp 38) = .bool true := hI.good 10 38 (dep_of hdep 10 rfl) rfl
      have e39 : a.eval (.tmp 39) = .pointer (some ⟨g, 0, none⟩) := hI.good 11 39 (dep_of hdep 11 rfl) rfl
      have h10 := dep_of hdep 10 rfl
      have h9' := hI.shut 10 9 h10 rfl
      have H7 := hI.shut 9 7 h9' rfl
      refine ok_call (wanted_is rfl rfl hI.size (by decide) eg) (f := 20) (args := #[.pointer (some ⟨g, 0, none⟩)]) ?_ (err_cur g o.2 w (hI.world.after H7)) ?_
      · have ec : ∀ c, a.eval (.const c) = c := fun _ => rfl
        have ef : ∀ f, a.eval (.func f) = .func (.func f) #[] #[] := fun _ => rfl
        clear hI hdep hK
        generalize a.eval = ρ at eg e39 ec ef ⊢
        go_simp
      · rintro e w2 ⟨rfl, rfl⟩
        exact ⟨_, rfl, hK x _ _ (hI.world.up rfl) (fun _ _ _ h => h) rfl⟩
    · intro x D a w hI hdep hD0 K hK
      have eg : a.eval (.tmp 38) = .bool true := hI.good 10 38 (dep_of hdep 10 rfl) rfl
      have e7 : a.eval (.tmp 7) = .pointer (some ⟨w2.heap.size, 0, none⟩) := hI.fast (7, .pointer (some ⟨w2.heap.size, 0, none⟩)) (by simp)
      refine ok_value (wanted_is rfl rfl hI.size (by decide) eg) (v := .pointer (some ⟨w2.heap.size, 1, none⟩)) ?_ (hK x _ _ (hI.world.up rfl) (fun _ _ _ h => h) rfl)
      have ec : ∀ c, a.eval (.const c) = c := fun _ => rfl
      have ef : ∀ f, a.eval (.func f) = .func (.func f) #[] #[] := fun _ => rfl
      clear hI hdep hK
      generalize a.eval = ρ at eg e7 ec ef ⊢
      go_simp
    · intro x D a w hI hdep hD0 K hK
      have eg : a.eval (.tmp 38) = .bool true := hI.good 10 38 (dep_of hdep 10 rfl) rfl
      have e41 : a.eval (.tmp 41) = .pointer (some ⟨w2.heap.size, 1, none⟩) := hI.good 13 41 (dep_of hdep 13 rfl) rfl
      have x0 := hI.world.two.c1
      refine ok_value (wanted_is rfl rfl hI.size (by decide) eg) (v := .int .i64 (o.2.2 : Int)) ?_ (hK x _ _ (hI.world.up rfl) (fun _ _ _ h => h) rfl)
      have ec : ∀ c, a.eval (.const c) = c := fun _ => rfl
      have ef : ∀ f, a.eval (.func f) = .func (.func f) #[] #[] := fun _ => rfl
      clear hI hdep hK
      generalize a.eval = ρ at eg e41 ec ef ⊢
      go_simp
    · intro x D a w hI hdep hD0 K hK
      have eg : a.eval (.tmp 38) = .bool true := hI.good 10 38 (dep_of hdep 10 rfl) rfl
      have e40 : a.eval (.tmp 40) = .int .i64 (o.2.2 : Int) := hI.good 12 40 (dep_of hdep 12 rfl) rfl
      have e42 : a.eval (.tmp 42) = .int .i64 (o.2.2 : Int) := hI.good 14 42 (dep_of hdep 14 rfl) rfl
      refine ok_value (wanted_is rfl rfl hI.size (by decide) eg) (v := .bool true) ?_ (hK x _ _ (hI.world.up rfl) (fun _ _ _ h => h) rfl)
      have ec : ∀ c, a.eval (.const c) = c := fun _ => rfl
      have ef : ∀ f, a.eval (.func f) = .func (.func f) #[] #[] := fun _ => rfl
      clear hI hdep hK
      generalize a.eval = ρ at eg e40 e42 ec ef ⊢
      go_simp
    · intro x D a w hI hdep hD0 K hK
      have e38 : a.eval (.tmp 38) = .bool true := hI.good 10 38 (dep_of hdep 10 rfl) rfl
      have e43 : a.eval (.tmp 43) = .bool true := hI.good 15 43 (dep_of hdep 15 rfl) rfl
      refine ok_value (wanted_none rfl) (v := .bool true) ?_ (hK x _ _ (hI.world.up rfl) (fun _ _ _ h => h) rfl)
      have ec : ∀ c, a.eval (.const c) = c := fun _ => rfl
      have ef : ∀ f, a.eval (.func f) = .func (.func f) #[] #[] := fun _ => rfl
      clear hI hdep hK
      generalize a.eval = ρ at e38 e43 ec ef ⊢
      go_simp
    · intro x D a w hI hdep hD0 K hK
      have e44 : a.eval (.tmp 44) = .bool true := hI.good 16 44 (dep_of hdep 16 rfl) rfl
      refine ok_value (wanted_none rfl) (v := .bool true) ?_ (hK x _ _ (hI.world.up rfl) (fun _ _ _ h => h) rfl)
      have ec : ∀ c, a.eval (.const c) = c := fun _ => rfl
      have ef : ∀ f, a.eval (.func f) = .func (.func f) #[] #[] := fun _ => rfl
      clear hI hdep hK
      generalize a.eval = ρ at e44 ec ef ⊢
      go_simp
    · intro x D a w hI hdep hD0 K hK
      have eg : a.eval (.tmp 45) = .bool true := hI.good 17 45 (dep_of hdep 17 rfl) rfl
      have e5 : a.eval (.tmp 5) = .pointer (some ⟨g, 0, none⟩) := hI.fast (5, .pointer (some ⟨g, 0, none⟩)) (by simp)
      refine ok_value (wanted_is rfl rfl hI.size (by decide) eg) (v := .pointer (some ⟨g, 0, none⟩)) ?_ (hK x _ _ (hI.world.up rfl) (fun _ _ _ h => h) rfl)
      have ec : ∀ c, a.eval (.const c) = c := fun _ => rfl
      have ef : ∀ f, a.eval (.func f) = .func (.func f) #[] #[] := fun _ => rfl
      clear hI hdep hK
      generalize a.eval = ρ at eg e5 ec ef ⊢
      go_simp
    · intro x D a w hI hdep hD0 K hK
      have eg : a.eval (.tmp 45) = .bool true := hI.good 17 45 (dep_of hdep 17 rfl) rfl
      have e46 : a.eval (.tmp 46) = .pointer (some ⟨g, 0, none⟩) := hI.good 18 46 (dep_of hdep 18 rfl) rfl
      have h17 := dep_of hdep 17 rfl
      have h16 := hI.shut 17 16 h17 rfl
      have h10 := hI.shut 16 10 h16 rfl
      have h9' := hI.shut 10 9 h10 rfl
      have H7 := hI.shut 9 7 h9' rfl
      refine ok_call (wanted_is rfl rfl hI.size (by decide) eg) (f := 21) (args := #[.pointer (some ⟨g, 0, none⟩)]) ?_ (left_cur g o.2 w (hI.world.after H7)) ?_
      · have ec : ∀ c, a.eval (.const c) = c := fun _ => rfl
        have ef : ∀ f, a.eval (.func f) = .func (.func f) #[] #[] := fun _ => rfl
        clear hI hdep hK
        generalize a.eval = ρ at eg e46 ec ef ⊢
        go_simp
      · rintro e w2 ⟨rfl, rfl⟩
        exact ⟨_, rfl, hK x _ _ (hI.world.up rfl) (fun _ _ _ h => h) rfl⟩
    · intro x D a w hI hdep hD0 K hK
      have eg : a.eval (.tmp 45) = .bool true := hI.good 17 45 (dep_of hdep 17 rfl) rfl
      have e7 : a.eval (.tmp 7) = .pointer (some ⟨w2.heap.size, 0, none⟩) := hI.fast (7, .pointer (some ⟨w2.heap.size, 0, none⟩)) (by simp)
      have x0 := hI.world.two.c0
      have x1 := hI.world.two.c1
      refine ok_value (wanted_is rfl rfl hI.size (by decide) eg) (v := .agg #[.slice Ad nd cd, .int .i64 (o.2.2 : Int)]) ?_ (hK x _ _ (hI.world.up rfl) (fun _ _ _ h => h) rfl)
      have ec : ∀ c, a.eval (.const c) = c := fun _ => rfl
      have ef : ∀ f, a.eval (.func f) = .func (.func f) #[] #[] := fun _ => rfl
      clear hI hdep hK
      generalize a.eval = ρ at eg e7 ec ef ⊢
      go_simp
    · intro x D a w hI hdep hD0 K hK
      have eg : a.eval (.tmp 45) = .bool true := hI.good 17 45 (dep_of hdep 17 rfl) rfl
      have e48 : a.eval (.tmp 48) = .agg #[.slice Ad nd cd, .int .i64 (o.2.2 : Int)] := hI.good 20 48 (dep_of hdep 20 rfl) rfl
      refine ok_call (wanted_is rfl rfl hI.size (by decide) eg) (f := 22) (args := #[.agg #[.slice Ad nd cd, .int .i64 (o.2.2 : Int)]]) ?_ (rLeft_any Ad nd cd w0.heap.size o.2 w hI.world.dat HCLN.out) ?_
      · have ec : ∀ c, a.eval (.const c) = c := fun _ => rfl
        have ef : ∀ f, a.eval (.func f) = .func (.func f) #[] #[] := fun _ => rfl
        clear hI hdep hK
        generalize a.eval = ρ at eg e48 ec ef ⊢
        go_simp
      · rintro e w2 ⟨rfl, hb2⟩
        exact ⟨_, rfl, hK x _ _ ((hI.world.kept hb2).up rfl) (fun _ _ _ h => h) rfl⟩
    · intro x D a w hI hdep hD0 K hK
      have eg : a.eval (.tmp 45) = .bool true := hI.good 17 45 (dep_of hdep 17 rfl) rfl
      have e47 : a.eval (.tmp 47) = .int .i64 (o.2.1.length : Int) := hI.good 19 47 (dep_of hdep 19 rfl) rfl
      have e49 : a.eval (.tmp 49) = .int .i64 (o.2.1.length : Int) := hI.good 21 49 (dep_of hdep 21 rfl) rfl
      refine ok_value (wanted_is rfl rfl hI.size (by decide) eg) (v := .bool true) ?_ (hK x _ _ (hI.world.up rfl) (fun _ _ _ h => h) rfl)
      have ec : ∀ c, a.eval (.const c) = c := fun _ => rfl
      have ef : ∀ f, a.eval (.func f) = .func (.func f) #[] #[] := fun _ => rfl
      clear hI hdep hK
      generalize a.eval = ρ at eg e47 e49 ec ef ⊢
      go_simp
    · intro x D a w hI hdep hD0 K hK
      have e45 : a.eval (.tmp 45) = .bool true := hI.good 17 45 (dep_of hdep 17 rfl) rfl
      have e50 : a.eval (.tmp 50) = .bool true := hI.good 22 50 (dep_of hdep 22 rfl) rfl
      refine ok_value (wanted_none rfl) (v := .bool true) ?_ (hK x _ _ (hI.world.up rfl) (fun _ _ _ h => h) rfl)
      have ec : ∀ c, a.eval (.const c) = c := fun _ => rfl
      have ef : ∀ f, a.eval (.func f) = .func (.func f) #[] #[] := fun _ => rfl
      clear hI hdep hK
      generalize a.eval = ρ at e45 e50 ec ef ⊢
      go_simp
    · intro x D a w hI hdep hD0 K hK
      have e51 : a.eval (.tmp 51) = .bool true := hI.good 23 51 (dep_of hdep 23 rfl) rfl
      refine ok_value (wanted_none rfl) (v := .bool true) ?_ (hK x _ _ (hI.world.up rfl) (fun _ _ _ h => h) rfl)
      have ec : ∀ c, a.eval (.const c) = c := fun _ => rfl
      have ef : ∀ f, a.eval (.func f) = .func (.func f) #[] #[] := fun _ => rfl
      clear hI hdep hK
      generalize a.eval = ρ at e51 ec ef ⊢
      go_simp
    · intro x D a w hI hdep hD0 K hK
      have eg : a.eval (.tmp 52) = .bool true := hI.good 24 52 (dep_of hdep 24 rfl) rfl
      refine ok_call (wanted_is rfl rfl hI.size (by decide) eg) (f := 7) (args := #[]) (by go_simp) (lives_any w) ?_
      rintro e w2 ⟨rfl, hb2⟩
      exact ⟨_, rfl, hK x _ _ ((hI.world.kept hb2).up rfl) (fun _ _ _ h => h) rfl⟩
    · intro x D a w hI hdep hD0 K hK
      have e52 : a.eval (.tmp 52) = .bool true := hI.good 24 52 (dep_of hdep 24 rfl) rfl
      have e53 : a.eval (.tmp 53) = .bool true := hI.good 25 53 (dep_of hdep 25 rfl) rfl
      refine ok_value (wanted_none rfl) (v := .bool true) ?_ (hK x _ _ (hI.world.up rfl) (fun _ _ _ h => h) rfl)
      have ec : ∀ c, a.eval (.const c) = c := fun _ => rfl
      have ef : ∀ f, a.eval (.func f) = .func (.func f) #[] #[] := fun _ => rfl
      clear hI hdep hK
      generalize a.eval = ρ at e52 e53 ec ef ⊢
      go_simp
    · intro x D a w hI hdep hD0 K hK
      have e54 : a.eval (.tmp 54) = .bool true := hI.good 26 54 (dep_of hdep 26 rfl) rfl
      refine ok_value (wanted_none rfl) (v := .bool true) ?_ (hK x _ _ (hI.world.up rfl) (fun _ _ _ h => h) rfl)
      have ec : ∀ c, a.eval (.const c) = c := fun _ => rfl
      have ef : ∀ f, a.eval (.func f) = .func (.func f) #[] #[] := fun _ => rfl
      clear hI hdep hK
      generalize a.eval = ρ at e54 ec ef ⊢
      go_simp
  · intro x D a' w' hI hD
    have e0 : a'.eval (.tmp 4) = .bool true := hI.good 27 4 (hD 27 (by decide)) rfl
    have hd := hI.defers
    have hBw := hI.world.row
    obtain ⟨tmps, defers⟩ := a'
    simp only at hd
    subst hd
    clear hI hD
    go_wp2
    go_ret
    exact ⟨congrArg Ending.returned e0, hBw⟩
end Go.Proofs.Ytkibbhkdeepnlaa
