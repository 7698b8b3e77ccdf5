/-
  A node's slots, told by tree.Own and by the document's Own. Conditions: the nodes can be read.
-/
import Derived.Test.YtpfcfmpfommfaaaDoorTrW
import Derived.Test.YtpfcfmpfommfaaaDoorSlE
import Derived.Test.YtpfcfmpfommfaaaDoorRegionK
namespace Go.Proofs.YtpfcfmpfommfaaaDoor
open Go.RowKit

/-- The world while the answer is told: behind operation 11 the set lies in the answer's box. -/
structure OwnC (w0 : World) (g : Nat) (s : Sl.Four) (D : Nat → Bool) (W : World) : Prop where
  set : SetAt W g (if D 11 = true then s else Sl.no)
  below : Below w0.heap.size w0 W
section
variable {w0 : World} {g : Nat} {s : Sl.Four} {D : Nat → Bool} {W : World}
theorem OwnC.up (h : OwnC w0 g s D W) {i : Nat} (hi : (11 == i) = false) : OwnC w0 g s (add D i) W := ⟨by rw [up_other hi]; exact h.set, h.below⟩
theorem OwnC.kept (h : OwnC w0 g s D W) {W' : World} (hb : Below W.heap.size W W') : OwnC w0 g s D W' := ⟨h.set.below hb h.set.lt, below_self h.below hb⟩
theorem OwnC.drew (h : OwnC w0 g s D W) : OwnC w0 g s D W.drew := h.kept (Below.refl _ _).drew
theorem OwnC.stored (h : OwnC w0 g s D W) (hg : w0.heap.size ≤ g) : OwnC w0 g s (add D 11) ((((W.setCell ⟨g, 0, none⟩ (.int .u64 (s.a : Int))).setCell ⟨g, 1, none⟩ (.int .u64 (s.b : Int))).setCell ⟨g, 2, none⟩ (.int .u64 (s.c : Int))).setCell ⟨g, 3, none⟩ (.int .u64 (s.d : Int))) :=
  ⟨by rw [show add D 11 11 = true by simp [add], if_pos rfl]; exact h.set.store s, (((h.below.setCell (p := ⟨g, 0, none⟩) hg _).setCell (p := ⟨g, 1, none⟩) hg _).setCell (p := ⟨g, 2, none⟩) hg _).setCell (p := ⟨g, 3, none⟩) hg _⟩
end

def OwG (b off n c k : Nat) (fr to : Int) (_ : Unit) : Nat → Value → Prop
  | 0, v => v = .slice (some ⟨b, off, none⟩) n c
  | 1, v => v = .int .i64 (k : Int)
  | 2, v => v = .pointer (some ⟨b, off + k * 7, none⟩)
  | 3, v => v = .pointer (some ⟨b, off + k * 7 + 3, none⟩)
  | 4, v => v = .int .i64 fr
  | 5, v => v = .slice (some ⟨b, off, none⟩) n c
  | 6, v => v = .int .i64 (k : Int)
  | 7, v => v = .pointer (some ⟨b, off + k * 7, none⟩)
  | 8, v => v = .pointer (some ⟨b, off + k * 7 + 5, none⟩)
  | 9, v => v = .int .i64 to
  | 10, v => v = setV (Sl.range fr to)
  | _, _ => True

def OrG (b off n c k : Nat) (fr to : Int) (_ : Unit) : Nat → Value → Prop
  | 0, v => v = .slice (some ⟨b, off, none⟩) n c
  | 1, v => v = .int .i64 (k : Int)
  | 2, v => v = .pointer (some ⟨b, off + k * 7, none⟩)
  | 3, v => v = .pointer (some ⟨b, off + k * 7 + 3, none⟩)
  | 4, v => v = .int .i64 fr
  | 5, v => v = .slice (some ⟨b, off, none⟩) n c
  | 6, v => v = .int .i64 (k : Int)
  | 7, v => v = .pointer (some ⟨b, off + k * 7, none⟩)
  | 8, v => v = .pointer (some ⟨b, off + k * 7 + 5, none⟩)
  | 9, v => v = .int .i64 to
  | 10, v => v = setV (Sl.range fr to)
  | _, _ => True

set_option maxHeartbeats 4000000 in
set_option maxRecDepth 100000 in
theorem trown_any (a : Option Addr) (n c : Nat) (l : List Tr.Nd) (x : Int) (w : World) (h : NodesAt w w.heap.size a n l) (hn : n ≤ 9223372036854775807) :
    Calls Tryd.prog 20 #[.slice a n c, .int .i64 x] w (SetP (Tr.own l x) w) := by
  have hl : l.length = n := h.1
  have HHc := trhas_any a n c x w hn
  have HHs := Lib.hid (fun W => trhas_any a n c x W hn)
  by_cases hc : 0 ≤ x ∧ x < (n : Int)
  · obtain ⟨k, rfl⟩ : ∃ k : Nat, x = (k : Int) := ⟨x.toNat, by omega⟩
    obtain ⟨b, off, y, rfl, hlt, hy, hky, c0, c1, c2, c3, c4, c5, c6⟩ := nodes_cell h (show k < n by omega)
    have hkn : k < n := by omega
    rw [Tr.own_in hky, hy]
    obtain ⟨p0, p1, p2, fr, p4, to, p6⟩ := y
    dsimp only at c3 c5 ⊢
    have HRg := Lib.hid (fun W => range_any fr to W)
    have HHa := Lib.hid (fun W => trhas_any (some ⟨b, off, none⟩) n c (k : Int) W hn)
    rw [decide_eq_true hc] at HHa
    clear HHc HHs
    clear h hl hc c0 c1 c2 c4 c6 hy hky
    go_enter Tryd.func20, Tryd.ntmps20
    go_wp2_with (go_at_call 41; refine (HHa.out _).mono ?_; rintro _ w1 ⟨rfl, he⟩; obtain rfl := he.symm)
    have hC : OwnC w w.heap.size (Sl.range fr to) (fun _ => false) (w.alloc (.cells #[.int .u64 0, .int .u64 0, .int .u64 0, .int .u64 0] 35)) := ⟨SetAt.new w Sl.no, (Below.refl _ _).alloc (Nat.le_refl _) _⟩
    generalize w.alloc (.cells #[.int .u64 0, .int .u64 0, .int .u64 0, .int .u64 0] 35) = w1 at *
    obtain ⟨g, hg⟩ : ∃ g, w.heap.size = g := ⟨_, rfl⟩
    rw [hg] at hC
    have hgw : w.heap.size ≤ g := Nat.le_of_eq hg
    simp only [hg]
    refine region_k () 21 (fun _ D W => OwnC w g (Sl.range fr to) D W) (OwG b off n c k fr to) (by kernel_rfl) (by kernel_rfl) (by kernel_rfl) rfl rfl hC.drew ?_ ?_
    · refine ⟨?_, ?_, ?_, ?_, ?_, ?_, ?_, ?_, ?_, ?_, ?_, ?_, trivial⟩
      · intro x D a w hI hdep hD0 K hK
        have e0 : a.eval (.tmp 0) = .slice (some ⟨b, off, none⟩) n c := hI.read 0 rfl
        refine ok_value (wanted_none rfl) (v := .slice (some ⟨b, off, none⟩) n c) ?_ (hK x _ _ (hI.world.up rfl) (fun _ _ _ h => h) rfl)
        have ec : ∀ c, a.eval (.const c) = c := fun _ => rfl
        have ef : ∀ f, a.eval (.func f) = .func (.func f) #[] #[] := fun _ => rfl
        clear hI hdep hK
        generalize a.eval = ρ at e0 ec ef ⊢
        go_simp
      · intro x D a w hI hdep hD0 K hK
        have e1 : a.eval (.tmp 1) = .int .i64 (k : Int) := hI.read 1 rfl
        refine ok_value (wanted_none rfl) (v := .int .i64 (k : Int)) ?_ (hK x _ _ (hI.world.up rfl) (fun _ _ _ h => h) rfl)
        have ec : ∀ c, a.eval (.const c) = c := fun _ => rfl
        have ef : ∀ f, a.eval (.func f) = .func (.func f) #[] #[] := fun _ => rfl
        clear hI hdep hK
        generalize a.eval = ρ at e1 ec ef ⊢
        go_simp
      · intro x D a w hI hdep hD0 K hK
        have e10 : a.eval (.tmp 10) = .slice (some ⟨b, off, none⟩) n c := hI.good 0 10 (dep_of hdep 0 rfl) rfl
        have e11 : a.eval (.tmp 11) = .int .i64 (k : Int) := hI.good 1 11 (dep_of hdep 1 rfl) rfl
        refine ok_value (wanted_none rfl) (v := .pointer (some ⟨b, off + k * 7, none⟩)) ?_ (hK x _ _ (hI.world.up rfl) (fun _ _ _ h => h) rfl)
        have ec : ∀ c, a.eval (.const c) = c := fun _ => rfl
        have ef : ∀ f, a.eval (.func f) = .func (.func f) #[] #[] := fun _ => rfl
        clear hI hdep hK
        generalize a.eval = ρ at e10 e11 ec ef ⊢
        go_simp
      · intro x D a w hI hdep hD0 K hK
        have e12 : a.eval (.tmp 12) = .pointer (some ⟨b, off + k * 7, none⟩) := hI.good 2 12 (dep_of hdep 2 rfl) rfl
        refine ok_value (wanted_none rfl) (v := .pointer (some ⟨b, off + k * 7 + 3, none⟩)) ?_ (hK x _ _ (hI.world.up rfl) (fun _ _ _ h => h) rfl)
        have ec : ∀ c, a.eval (.const c) = c := fun _ => rfl
        have ef : ∀ f, a.eval (.func f) = .func (.func f) #[] #[] := fun _ => rfl
        clear hI hdep hK
        generalize a.eval = ρ at e12 ec ef ⊢
        go_simp
      · intro x D a w hI hdep hD0 K hK
        have e13 : a.eval (.tmp 13) = .pointer (some ⟨b, off + k * 7 + 3, none⟩) := hI.good 3 13 (dep_of hdep 3 rfl) rfl
        have x0 := (hI.world.below.cell (p := ⟨b, off + k * 7 + 3, none⟩) hlt).trans c3
        refine ok_value (wanted_none rfl) (v := .int .i64 fr) ?_ (hK x _ _ (hI.world.up rfl) (fun _ _ _ h => h) rfl)
        have ec : ∀ c, a.eval (.const c) = c := fun _ => rfl
        have ef : ∀ f, a.eval (.func f) = .func (.func f) #[] #[] := fun _ => rfl
        clear hI hdep hK
        generalize a.eval = ρ at e13 ec ef ⊢
        go_simp
      · intro x D a w hI hdep hD0 K hK
        have e0 : a.eval (.tmp 0) = .slice (some ⟨b, off, none⟩) n c := hI.read 0 rfl
        refine ok_value (wanted_none rfl) (v := .slice (some ⟨b, off, none⟩) n c) ?_ (hK x _ _ (hI.world.up rfl) (fun _ _ _ h => h) rfl)
        have ec : ∀ c, a.eval (.const c) = c := fun _ => rfl
        have ef : ∀ f, a.eval (.func f) = .func (.func f) #[] #[] := fun _ => rfl
        clear hI hdep hK
        generalize a.eval = ρ at e0 ec ef ⊢
        go_simp
      · intro x D a w hI hdep hD0 K hK
        have e1 : a.eval (.tmp 1) = .int .i64 (k : Int) := hI.read 1 rfl
        refine ok_value (wanted_none rfl) (v := .int .i64 (k : Int)) ?_ (hK x _ _ (hI.world.up rfl) (fun _ _ _ h => h) rfl)
        have ec : ∀ c, a.eval (.const c) = c := fun _ => rfl
        have ef : ∀ f, a.eval (.func f) = .func (.func f) #[] #[] := fun _ => rfl
        clear hI hdep hK
        generalize a.eval = ρ at e1 ec ef ⊢
        go_simp
      · intro x D a w hI hdep hD0 K hK
        have e15 : a.eval (.tmp 15) = .slice (some ⟨b, off, none⟩) n c := hI.good 5 15 (dep_of hdep 5 rfl) rfl
        have e16 : a.eval (.tmp 16) = .int .i64 (k : Int) := hI.good 6 16 (dep_of hdep 6 rfl) rfl
        refine ok_value (wanted_none rfl) (v := .pointer (some ⟨b, off + k * 7, none⟩)) ?_ (hK x _ _ (hI.world.up rfl) (fun _ _ _ h => h) rfl)
        have ec : ∀ c, a.eval (.const c) = c := fun _ => rfl
        have ef : ∀ f, a.eval (.func f) = .func (.func f) #[] #[] := fun _ => rfl
        clear hI hdep hK
        generalize a.eval = ρ at e15 e16 ec ef ⊢
        go_simp
      · intro x D a w hI hdep hD0 K hK
        have e17 : a.eval (.tmp 17) = .pointer (some ⟨b, off + k * 7, none⟩) := hI.good 7 17 (dep_of hdep 7 rfl) rfl
        refine ok_value (wanted_none rfl) (v := .pointer (some ⟨b, off + k * 7 + 5, none⟩)) ?_ (hK x _ _ (hI.world.up rfl) (fun _ _ _ h => h) rfl)
        have ec : ∀ c, a.eval (.const c) = c := fun _ => rfl
        have ef : ∀ f, a.eval (.func f) = .func (.func f) #[] #[] := fun _ => rfl
        clear hI hdep hK
        generalize a.eval = ρ at e17 ec ef ⊢
        go_simp
      · intro x D a w hI hdep hD0 K hK
        have e18 : a.eval (.tmp 18) = .pointer (some ⟨b, off + k * 7 + 5, none⟩) := hI.good 8 18 (dep_of hdep 8 rfl) rfl
        have x0 := (hI.world.below.cell (p := ⟨b, off + k * 7 + 5, none⟩) hlt).trans c5
        refine ok_value (wanted_none rfl) (v := .int .i64 to) ?_ (hK x _ _ (hI.world.up rfl) (fun _ _ _ h => h) rfl)
        have ec : ∀ c, a.eval (.const c) = c := fun _ => rfl
        have ef : ∀ f, a.eval (.func f) = .func (.func f) #[] #[] := fun _ => rfl
        clear hI hdep hK
        generalize a.eval = ρ at e18 ec ef ⊢
        go_simp
      · intro x D a w hI hdep hD0 K hK
        have e14 : a.eval (.tmp 14) = .int .i64 fr := hI.good 4 14 (dep_of hdep 4 rfl) rfl
        have e19 : a.eval (.tmp 19) = .int .i64 to := hI.good 9 19 (dep_of hdep 9 rfl) rfl
        refine ok_call (wanted_none rfl) (f := 43) (args := #[.int .i64 fr, .int .i64 to]) ?_ (HRg.out w) ?_
        · have ec : ∀ c, a.eval (.const c) = c := fun _ => rfl
          have ef : ∀ f, a.eval (.func f) = .func (.func f) #[] #[] := fun _ => rfl
          clear hI hdep hK
          generalize a.eval = ρ at e14 e19 ec ef ⊢
          go_simp
        · rintro e w2 ⟨rfl, hb2⟩
          exact ⟨_, rfl, hK x _ _ ((hI.world.up rfl).kept hb2) (fun _ _ _ h => h) rfl⟩
      · intro x D a w hI hdep hD0 K hK
        have e20 : a.eval (.tmp 20) = setV (Sl.range fr to) := hI.good 10 20 (dep_of hdep 10 rfl) rfl
        have e4 : a.eval (.tmp 4) = .pointer (some ⟨g, 0, none⟩) := hI.read 4 rfl
        obtain ⟨⟨x0, x1, x2, x3⟩, g0, g1, g2, g3⟩ := hI.world.set.reads
        refine ok_store (wanted_none rfl) (w' := (((w.setCell ⟨g, 0, none⟩ (.int .u64 ((Sl.range fr to).a : Int))).setCell ⟨g, 1, none⟩ (.int .u64 ((Sl.range fr to).b : Int))).setCell ⟨g, 2, none⟩ (.int .u64 ((Sl.range fr to).c : Int))).setCell ⟨g, 3, none⟩ (.int .u64 ((Sl.range fr to).d : Int))) ?_ (hK x undef _ (hI.world.stored hgw) (fun _ _ _ h => h) trivial)
        unfold setV at e20
        have ec : ∀ c, a.eval (.const c) = c := fun _ => rfl
        have ef : ∀ f, a.eval (.func f) = .func (.func f) #[] #[] := fun _ => rfl
        clear hI hdep hK
        generalize a.eval = ρ at e20 e4 ec ef ⊢
        go_simp
    · intro x D a w2 hI hD
      have hfr := hI.frame [(10, .slice (some ⟨b, off, none⟩) n c), (11, .int .i64 (k : Int)), (12, .pointer (some ⟨b, off + k * 7, none⟩)), (13, .pointer (some ⟨b, off + k * 7 + 3, none⟩)), (14, .int .i64 fr), (15, .slice (some ⟨b, off, none⟩) n c), (16, .int .i64 (k : Int)), (17, .pointer (some ⟨b, off + k * 7, none⟩)), (18, .pointer (some ⟨b, off + k * 7 + 5, none⟩)), (19, .int .i64 to), (20, setV (Sl.range fr to))] (all_cons (hI.good 0 10 (hD 0 (by decide)) rfl) (all_cons (hI.good 1 11 (hD 1 (by decide)) rfl) (all_cons (hI.good 2 12 (hD 2 (by decide)) rfl) (all_cons (hI.good 3 13 (hD 3 (by decide)) rfl) (all_cons (hI.good 4 14 (hD 4 (by decide)) rfl) (all_cons (hI.good 5 15 (hD 5 (by decide)) rfl) (all_cons (hI.good 6 16 (hD 6 (by decide)) rfl) (all_cons (hI.good 7 17 (hD 7 (by decide)) rfl) (all_cons (hI.good 8 18 (hD 8 (by decide)) rfl) (all_cons (hI.good 9 19 (hD 9 (by decide)) rfl) (all_cons (hI.good 10 20 (hD 10 (by decide)) rfl) all_nil))))))))))) rfl
      have hW := hI.world
      clear hI
      subst hfr
      simp only [List.foldl_cons, List.foldl_nil, List.setIfInBounds_toArray, List.set_cons_succ, List.set_cons_zero]
      have hs := hW.set
      rw [hD 11 (by decide), if_pos rfl] at hs
      obtain ⟨⟨r0, r1, r2, r3⟩, _⟩ := hs.reads
      have HB := Lib.hid hW.below
      clear hW hs hD hC
      go_wp2
      exact bodyPost_ret (v := setV (Sl.range fr to)) (by simp [results, Tryd.results20, go_sem, r0, r1, r2, r3, setV]) rfl ⟨rfl, HB.out⟩
  · have e : Tr.own l x = Sl.no := by unfold Tr.own; rw [if_pos (by omega)]
    rw [e]
    have HHa := Lib.hid (fun W => trhas_any a n c x W hn)
    rw [decide_eq_false hc] at HHa
    clear HHc HHs h hl e hc
    go_enter Tryd.func20, Tryd.ntmps20
    go_wp2_with (go_at_call 41; refine (HHa.out _).mono ?_; rintro _ w1 ⟨rfl, he⟩; obtain rfl := he.symm)
    have hh := heap_alloc_new w (.cells #[.int .u64 0, .int .u64 0, .int .u64 0, .int .u64 0] 35)
    have r0 := cell_of_row _ _ 0 _ _ _ hh
    have r1 := cell_of_row _ _ 1 _ _ _ hh
    have r2 := cell_of_row _ _ 2 _ _ _ hh
    have r3 := cell_of_row _ _ 3 _ _ _ hh
    exact bodyPost_ret (v := setV Sl.no) (by simp [results, Tryd.results20, go_sem, r0, r1, r2, r3, setV, Sl.no]) rfl ⟨rfl, (Below.refl _ _).alloc (Nat.le_refl _) _⟩

set_option maxHeartbeats 4000000 in
set_option maxRecDepth 100000 in
theorem rtrown_any (a : Option Addr) (n c : Nat) (l : List Tr.Nd) (x : Int) (w : World) (h : NodesAt w w.heap.size a n l) (_ : n ≤ 9223372036854775807) :
    Calls Tryd.prog 21 #[.slice a n c, .int .i64 x] w (SetP (Tr.own l x) w) := by
  have hl : l.length = n := h.1
  by_cases hc : 0 ≤ x ∧ x < (n : Int)
  · obtain ⟨k, rfl⟩ : ∃ k : Nat, x = (k : Int) := ⟨x.toNat, by omega⟩
    obtain ⟨b, off, y, rfl, hlt, hy, hky, c0, c1, c2, c3, c4, c5, c6⟩ := nodes_cell h (show k < n by omega)
    have hkn : k < n := by omega
    rw [Tr.own_in hky, hy]
    obtain ⟨p0, p1, p2, fr, p4, to, p6⟩ := y
    dsimp only at c3 c5 ⊢
    have HRg := Lib.hid (fun W => rrange_any fr to W)
    clear h hl hc c0 c1 c2 c4 c6 hy hky
    go_enter Tryd.func21, Tryd.ntmps21
    have d0 : decide ((k : Int) < 0) = false := decide_eq_false (by omega)
    have d1 : decide ((n : Int) ≤ (k : Int)) = false := decide_eq_false (by omega)
    go_wp2
    have hC : OwnC w w.heap.size (Sl.range fr to) (fun _ => false) (w.alloc (.cells #[.int .u64 0, .int .u64 0, .int .u64 0, .int .u64 0] 35)) := ⟨SetAt.new w Sl.no, (Below.refl _ _).alloc (Nat.le_refl _) _⟩
    generalize w.alloc (.cells #[.int .u64 0, .int .u64 0, .int .u64 0, .int .u64 0] 35) = w1 at *
    obtain ⟨g, hg⟩ : ∃ g, w.heap.size = g := ⟨_, rfl⟩
    rw [hg] at hC
    have hgw : w.heap.size ≤ g := Nat.le_of_eq hg
    simp only [hg]
    refine region_k () 25 (fun _ D W => OwnC w g (Sl.range fr to) D W) (OrG b off n c k fr to) (by kernel_rfl) (by kernel_rfl) (by kernel_rfl) rfl rfl hC.drew ?_ ?_
    · refine ⟨?_, ?_, ?_, ?_, ?_, ?_, ?_, ?_, ?_, ?_, ?_, ?_, trivial⟩
      · intro x D a w hI hdep hD0 K hK
        have e0 : a.eval (.tmp 0) = .slice (some ⟨b, off, none⟩) n c := hI.read 0 rfl
        refine ok_value (wanted_none rfl) (v := .slice (some ⟨b, off, none⟩) n c) ?_ (hK x _ _ (hI.world.up rfl) (fun _ _ _ h => h) rfl)
        have ec : ∀ c, a.eval (.const c) = c := fun _ => rfl
        have ef : ∀ f, a.eval (.func f) = .func (.func f) #[] #[] := fun _ => rfl
        clear hI hdep hK
        generalize a.eval = ρ at e0 ec ef ⊢
        go_simp
      · intro x D a w hI hdep hD0 K hK
        have e1 : a.eval (.tmp 1) = .int .i64 (k : Int) := hI.read 1 rfl
        refine ok_value (wanted_none rfl) (v := .int .i64 (k : Int)) ?_ (hK x _ _ (hI.world.up rfl) (fun _ _ _ h => h) rfl)
        have ec : ∀ c, a.eval (.const c) = c := fun _ => rfl
        have ef : ∀ f, a.eval (.func f) = .func (.func f) #[] #[] := fun _ => rfl
        clear hI hdep hK
        generalize a.eval = ρ at e1 ec ef ⊢
        go_simp
      · intro x D a w hI hdep hD0 K hK
        have e14 : a.eval (.tmp 14) = .slice (some ⟨b, off, none⟩) n c := hI.good 0 14 (dep_of hdep 0 rfl) rfl
        have e15 : a.eval (.tmp 15) = .int .i64 (k : Int) := hI.good 1 15 (dep_of hdep 1 rfl) rfl
        refine ok_value (wanted_none rfl) (v := .pointer (some ⟨b, off + k * 7, none⟩)) ?_ (hK x _ _ (hI.world.up rfl) (fun _ _ _ h => h) rfl)
        have ec : ∀ c, a.eval (.const c) = c := fun _ => rfl
        have ef : ∀ f, a.eval (.func f) = .func (.func f) #[] #[] := fun _ => rfl
        clear hI hdep hK
        generalize a.eval = ρ at e14 e15 ec ef ⊢
        go_simp
      · intro x D a w hI hdep hD0 K hK
        have e16 : a.eval (.tmp 16) = .pointer (some ⟨b, off + k * 7, none⟩) := hI.good 2 16 (dep_of hdep 2 rfl) rfl
        refine ok_value (wanted_none rfl) (v := .pointer (some ⟨b, off + k * 7 + 3, none⟩)) ?_ (hK x _ _ (hI.world.up rfl) (fun _ _ _ h => h) rfl)
        have ec : ∀ c, a.eval (.const c) = c := fun _ => rfl
        have ef : ∀ f, a.eval (.func f) = .func (.func f) #[] #[] := fun _ => rfl
        clear hI hdep hK
        generalize a.eval = ρ at e16 ec ef ⊢
        go_simp
      · intro x D a w hI hdep hD0 K hK
        have e17 : a.eval (.tmp 17) = .pointer (some ⟨b, off + k * 7 + 3, none⟩) := hI.good 3 17 (dep_of hdep 3 rfl) rfl
        have x0 := (hI.world.below.cell (p := ⟨b, off + k * 7 + 3, none⟩) hlt).trans c3
        refine ok_value (wanted_none rfl) (v := .int .i64 fr) ?_ (hK x _ _ (hI.world.up rfl) (fun _ _ _ h => h) rfl)
        have ec : ∀ c, a.eval (.const c) = c := fun _ => rfl
        have ef : ∀ f, a.eval (.func f) = .func (.func f) #[] #[] := fun _ => rfl
        clear hI hdep hK
        generalize a.eval = ρ at e17 ec ef ⊢
        go_simp
      · intro x D a w hI hdep hD0 K hK
        have e0 : a.eval (.tmp 0) = .slice (some ⟨b, off, none⟩) n c := hI.read 0 rfl
        refine ok_value (wanted_none rfl) (v := .slice (some ⟨b, off, none⟩) n c) ?_ (hK x _ _ (hI.world.up rfl) (fun _ _ _ h => h) rfl)
        have ec : ∀ c, a.eval (.const c) = c := fun _ => rfl
        have ef : ∀ f, a.eval (.func f) = .func (.func f) #[] #[] := fun _ => rfl
        clear hI hdep hK
        generalize a.eval = ρ at e0 ec ef ⊢
        go_simp
      · intro x D a w hI hdep hD0 K hK
        have e1 : a.eval (.tmp 1) = .int .i64 (k : Int) := hI.read 1 rfl
        refine ok_value (wanted_none rfl) (v := .int .i64 (k : Int)) ?_ (hK x _ _ (hI.world.up rfl) (fun _ _ _ h => h) rfl)
        have ec : ∀ c, a.eval (.const c) = c := fun _ => rfl
        have ef : ∀ f, a.eval (.func f) = .func (.func f) #[] #[] := fun _ => rfl
        clear hI hdep hK
        generalize a.eval = ρ at e1 ec ef ⊢
        go_simp
      · intro x D a w hI hdep hD0 K hK
        have e19 : a.eval (.tmp 19) = .slice (some ⟨b, off, none⟩) n c := hI.good 5 19 (dep_of hdep 5 rfl) rfl
        have e20 : a.eval (.tmp 20) = .int .i64 (k : Int) := hI.good 6 20 (dep_of hdep 6 rfl) rfl
        refine ok_value (wanted_none rfl) (v := .pointer (some ⟨b, off + k * 7, none⟩)) ?_ (hK x _ _ (hI.world.up rfl) (fun _ _ _ h => h) rfl)
        have ec : ∀ c, a.eval (.const c) = c := fun _ => rfl
        have ef : ∀ f, a.eval (.func f) = .func (.func f) #[] #[] := fun _ => rfl
        clear hI hdep hK
        generalize a.eval = ρ at e19 e20 ec ef ⊢
        go_simp
      · intro x D a w hI hdep hD0 K hK
        have e21 : a.eval (.tmp 21) = .pointer (some ⟨b, off + k * 7, none⟩) := hI.good 7 21 (dep_of hdep 7 rfl) rfl
        refine ok_value (wanted_none rfl) (v := .pointer (some ⟨b, off + k * 7 + 5, none⟩)) ?_ (hK x _ _ (hI.world.up rfl) (fun _ _ _ h => h) rfl)
        have ec : ∀ c, a.eval (.const c) = c := fun _ => rfl
        have ef : ∀ f, a.eval (.func f) = .func (.func f) #[] #[] := fun _ => rfl
        clear hI hdep hK
        generalize a.eval = ρ at e21 ec ef ⊢
        go_simp
      · intro x D a w hI hdep hD0 K hK
        have e22 : a.eval (.tmp 22) = .pointer (some ⟨b, off + k * 7 + 5, none⟩) := hI.good 8 22 (dep_of hdep 8 rfl) rfl
        have x0 := (hI.world.below.cell (p := ⟨b, off + k * 7 + 5, none⟩) hlt).trans c5
        refine ok_value (wanted_none rfl) (v := .int .i64 to) ?_ (hK x _ _ (hI.world.up rfl) (fun _ _ _ h => h) rfl)
        have ec : ∀ c, a.eval (.const c) = c := fun _ => rfl
        have ef : ∀ f, a.eval (.func f) = .func (.func f) #[] #[] := fun _ => rfl
        clear hI hdep hK
        generalize a.eval = ρ at e22 ec ef ⊢
        go_simp
      · intro x D a w hI hdep hD0 K hK
        have e18 : a.eval (.tmp 18) = .int .i64 fr := hI.good 4 18 (dep_of hdep 4 rfl) rfl
        have e23 : a.eval (.tmp 23) = .int .i64 to := hI.good 9 23 (dep_of hdep 9 rfl) rfl
        refine ok_call (wanted_none rfl) (f := 44) (args := #[.int .i64 fr, .int .i64 to]) ?_ (HRg.out w) ?_
        · have ec : ∀ c, a.eval (.const c) = c := fun _ => rfl
          have ef : ∀ f, a.eval (.func f) = .func (.func f) #[] #[] := fun _ => rfl
          clear hI hdep hK
          generalize a.eval = ρ at e18 e23 ec ef ⊢
          go_simp
        · rintro e w2 ⟨rfl, hb2⟩
          exact ⟨_, rfl, hK x _ _ ((hI.world.up rfl).kept hb2) (fun _ _ _ h => h) rfl⟩
      · intro x D a w hI hdep hD0 K hK
        have e24 : a.eval (.tmp 24) = setV (Sl.range fr to) := hI.good 10 24 (dep_of hdep 10 rfl) rfl
        have e4 : a.eval (.tmp 4) = .pointer (some ⟨g, 0, none⟩) := hI.read 4 rfl
        obtain ⟨⟨x0, x1, x2, x3⟩, g0, g1, g2, g3⟩ := hI.world.set.reads
        refine ok_store (wanted_none rfl) (w' := (((w.setCell ⟨g, 0, none⟩ (.int .u64 ((Sl.range fr to).a : Int))).setCell ⟨g, 1, none⟩ (.int .u64 ((Sl.range fr to).b : Int))).setCell ⟨g, 2, none⟩ (.int .u64 ((Sl.range fr to).c : Int))).setCell ⟨g, 3, none⟩ (.int .u64 ((Sl.range fr to).d : Int))) ?_ (hK x undef _ (hI.world.stored hgw) (fun _ _ _ h => h) trivial)
        unfold setV at e24
        have ec : ∀ c, a.eval (.const c) = c := fun _ => rfl
        have ef : ∀ f, a.eval (.func f) = .func (.func f) #[] #[] := fun _ => rfl
        clear hI hdep hK
        generalize a.eval = ρ at e24 e4 ec ef ⊢
        go_simp
    · intro x D a w2 hI hD
      have hfr := hI.frame [(14, .slice (some ⟨b, off, none⟩) n c), (15, .int .i64 (k : Int)), (16, .pointer (some ⟨b, off + k * 7, none⟩)), (17, .pointer (some ⟨b, off + k * 7 + 3, none⟩)), (18, .int .i64 fr), (19, .slice (some ⟨b, off, none⟩) n c), (20, .int .i64 (k : Int)), (21, .pointer (some ⟨b, off + k * 7, none⟩)), (22, .pointer (some ⟨b, off + k * 7 + 5, none⟩)), (23, .int .i64 to), (24, setV (Sl.range fr to))] (all_cons (hI.good 0 14 (hD 0 (by decide)) rfl) (all_cons (hI.good 1 15 (hD 1 (by decide)) rfl) (all_cons (hI.good 2 16 (hD 2 (by decide)) rfl) (all_cons (hI.good 3 17 (hD 3 (by decide)) rfl) (all_cons (hI.good 4 18 (hD 4 (by decide)) rfl) (all_cons (hI.good 5 19 (hD 5 (by decide)) rfl) (all_cons (hI.good 6 20 (hD 6 (by decide)) rfl) (all_cons (hI.good 7 21 (hD 7 (by decide)) rfl) (all_cons (hI.good 8 22 (hD 8 (by decide)) rfl) (all_cons (hI.good 9 23 (hD 9 (by decide)) rfl) (all_cons (hI.good 10 24 (hD 10 (by decide)) rfl) all_nil))))))))))) rfl
      have hW := hI.world
      clear hI
      subst hfr
      simp only [List.foldl_cons, List.foldl_nil, List.setIfInBounds_toArray, List.set_cons_succ, List.set_cons_zero]
      have hs := hW.set
      rw [hD 11 (by decide), if_pos rfl] at hs
      obtain ⟨⟨r0, r1, r2, r3⟩, _⟩ := hs.reads
      have HB := Lib.hid hW.below
      clear hW hs hD hC
      go_wp2
      exact bodyPost_ret (v := setV (Sl.range fr to)) (by simp [results, Tryd.results21, go_sem, r0, r1, r2, r3, setV]) rfl ⟨rfl, HB.out⟩
  · have e : Tr.own l x = Sl.no := by unfold Tr.own; rw [if_pos (by omega)]
    rw [e]
    by_cases h0 : x < 0
    · have d0 : decide (x < 0) = true := decide_eq_true h0
      clear h hl e hc
      go_enter Tryd.func21, Tryd.ntmps21
      go_wp2
      have hh := heap_alloc_new w (.cells #[.int .u64 0, .int .u64 0, .int .u64 0, .int .u64 0] 35)
      have r0 := cell_of_row _ _ 0 _ _ _ hh
      have r1 := cell_of_row _ _ 1 _ _ _ hh
      have r2 := cell_of_row _ _ 2 _ _ _ hh
      have r3 := cell_of_row _ _ 3 _ _ _ hh
      exact bodyPost_ret (v := setV Sl.no) (by simp [results, Tryd.results21, go_sem, r0, r1, r2, r3, setV, Sl.no]) rfl ⟨rfl, (Below.refl _ _).alloc (Nat.le_refl _) _⟩
    · have d0 : decide (x < 0) = false := decide_eq_false h0
      have d1 : decide ((n : Int) ≤ x) = true := decide_eq_true (by omega)
      clear h hl e hc
      go_enter Tryd.func21, Tryd.ntmps21
      go_wp2
      have hh := heap_alloc_new w (.cells #[.int .u64 0, .int .u64 0, .int .u64 0, .int .u64 0] 35)
      have r0 := cell_of_row _ _ 0 _ _ _ hh
      have r1 := cell_of_row _ _ 1 _ _ _ hh
      have r2 := cell_of_row _ _ 2 _ _ _ hh
      have r3 := cell_of_row _ _ 3 _ _ _ hh
      exact bodyPost_ret (v := setV Sl.no) (by simp [results, Tryd.results21, go_sem, r0, r1, r2, r3, setV, Sl.no]) rfl ⟨rfl, (Below.refl _ _).alloc (Nat.le_refl _) _⟩

end Go.Proofs.YtpfcfmpfommfaaaDoor
