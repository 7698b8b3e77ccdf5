/-
  The walk of LinesTakes. Conditions: the bytes can be read, within the reach.
-/
import Derived.Test.YtnfflddcekffeaaLiL
import Derived.Test.YtnfflddcekffeaaLiTk
import Derived.Test.YtnfflddcekffeaaRuInts
import Derived.Test.YtnfflddcekffeaaRegionK
namespace Go.Proofs.Ytnfflddcekffeaa
open Go.RowKit

def LkG (g p7 : Nat) (N : Int) (o : List Int × (List Nat × Nat)) (Aw : Option Addr) (cw : Nat) (u : Value) : Nat → Value → Prop
  | 0, v => v = .pointer (some ⟨g, 0, none⟩)
  | 1, v => v = .int .i64 N
  | 2, v => v = u
  | 3, v => v = .slice Aw o.1.length cw
  | 4, v => v = .bool true
  | 5, v => v = .bool true
  | 6, v => v = .pointer (some ⟨g, 0, none⟩)
  | 7, v => v = .int .i64 (o.2.2 : Int)
  | 8, v => v = .pointer (some ⟨p7, 1, none⟩)
  | 9, v => v = .int .i64 (o.2.2 : Int)
  | 10, v => v = .bool true
  | 11, v => v = .bool true
  | 12, v => v = .bool true
  | 13, v => v = .bool true
  | 14, v => v = .bool true
  | 15, v => v = .bool true
  | _, _ => True

theorem LkG_2 {g p7 : Nat} {N : Int} {o : List Int × (List Nat × Nat)} {Aw : Option Addr} {cw : Nat} {u : Value} {v z : Value} {D : Nat → Bool} {j : Nat} (hD0 : D 2 = false) (hj : D j = true) (h : LkG g p7 N o Aw cw u j z) : LkG g p7 N o Aw cw v j z := by
  by_cases e : j = 2
  · subst e
    rw [hD0] at hj
    cases hj
  · unfold LkG at h ⊢
    split at h <;> first | exact h | exact absurd rfl e

/-- The world while the last statement runs: behind operation 2 the cursor has gone on, and the row is there. -/
structure LkC (w0 : World) (g p7 : Nat) (o : List Int × (List Nat × Nat)) (Aw : Option Addr) (cw : Nat) (Ad : Option Addr) (nd cd : Nat) (s : List Nat × Nat) (u : Value) (D : Nat → Bool) (W : World) : Prop where
  cur : Cur W g (if D 2 = true then o.2 else s)
  two : Two W p7 (.slice Ad nd cd) (.int .i64 (o.2.2 : Int))
  wrow : W.ownsRow (g + 1) 3 1 (.slice Aw o.1.length cw) o.1.length (vs o.1)
  own : D 2 = true → W.ownsRow (g + 1) 3 1 u o.1.length (vs o.1)
  row : Below w0.heap.size w0 W
  lg : w0.heap.size ≤ g
  n7 : p7 ≠ g
section
variable {w0 W : World} {g p7 : Nat} {o : List Int × (List Nat × Nat)} {Aw : Option Addr} {cw : Nat} {Ad : Option Addr} {nd cd : Nat} {s : List Nat × Nat} {u : Value} {D : Nat → Bool}
theorem LkC.up (h : LkC w0 g p7 o Aw cw Ad nd cd s u D W) {i : Nat} (h2 : ((2 : Nat) == i) = false) : LkC w0 g p7 o Aw cw Ad nd cd s u (add D i) W :=
  { cur := by rw [up_other h2]; exact h.cur, two := h.two, wrow := h.wrow, own := by rw [up_other h2]; exact h.own, row := h.row, lg := h.lg, n7 := h.n7 }
theorem LkC.before (h : LkC w0 g p7 o Aw cw Ad nd cd s u D W) (h2 : D 2 = false) : Cur W g s := by
  have := h.cur
  rw [h2] at this
  exact this
theorem LkC.after (h : LkC w0 g p7 o Aw cw Ad nd cd s u D W) (h2 : D 2 = true) : Cur W g o.2 := by
  have := h.cur
  rw [if_pos h2] at this
  exact this
theorem LkC.mine (h : LkC w0 g p7 o Aw cw Ad nd cd s u D W) (h2 : D 2 = true) : ∃ A c, u = .slice A o.1.length c ∧ IntsAt W W.heap.size A o.1.length o.1 := nums_slice (h.own h2)
theorem LkC.yours (h : LkC w0 g p7 o Aw cw Ad nd cd s u D W) : IntsAt W W.heap.size Aw o.1.length o.1 := (ints_of_own h.wrow).2.1
theorem LkC.kept (h : LkC w0 g p7 o Aw cw Ad nd cd s u D W) {W' : World} (hb : Below W.heap.size W W') : LkC w0 g p7 o Aw cw Ad nd cd s u D W' :=
  { cur := cur_below h.cur hb h.cur.lt, two := h.two.below hb h.two.lt, wrow := ownsRow_below h.wrow hb, own := fun h2 => ownsRow_below (h.own h2) hb, row := h.row.trans (hb.mono h.row.size), lg := h.lg, n7 := h.n7 }
set_option maxRecDepth 100000 in
theorem LkC.taken (h : LkC w0 g p7 o Aw cw Ad nd cd s u D W) {v : Value} {W' : World} (hown : W'.ownsRow W.heap.size 3 1 v o.1.length (vs o.1)) (hc : Cur W' g o.2) (hg : W.grownBy W' (some g)) : LkC w0 g p7 o Aw cw Ad nd cd s v (add D 2) W' :=
  { cur := by rw [up_self, if_pos rfl]; exact hc, two := h.two.kept hg (fun e => h.n7 (by injection e with e; exact e.symm)), wrow := own_grownG h.wrow hg (Nat.lt_succ_self _), own := fun _ => ownsRow_base hown h.cur.lt, row := h.row.grown hg h.row.size (fun k hk => by injection hk with hk; have := h.lg; omega), lg := h.lg, n7 := h.n7 }
end

set_option maxHeartbeats 8000000 in
set_option maxRecDepth 100000 in
theorem linesTakes_walk (B : Option Addr) (nb cb : Nat) (lb : List Nat) (N : Int) (w0 : World) (hB : BytesAt w0 w0.heap.size B nb lb) (hnc : nb ≤ cb) (hcb : cb ≤ 140737488351232) :
    Calls Try.prog 4 #[.slice B nb cb, .int .i64 N] w0 (BoolP true w0) := by
  by_cases h300 : 300 < N
  · clear hB
    go_enter Try.func4, Try.ntmps4
    go_wp2_with (go_at_call 5; refine (lives12_any _).mono ?_; rintro e w1 ⟨rfl, hb1⟩)
    go_ret
    exact ⟨rfl, hb1⟩
  have HBA := Lib.hid hB
  have HNEW := Lib.hid (new_any B nb cb lb w0 hB (by omega))
  clear hB
  go_enter Try.func4, Try.ntmps4
  go_wp2_with fail
  refine HNEW.out.mono ?_
  rintro e w1 ⟨g, rfl, hg1, hc1, hb1⟩
  have HB1 := Lib.hid hb1
  have HC1 := Lib.hid hc1
  have hgl := hc1.lt
  have hs1 := hb1.size
  have HRT := Lib.hid (rlitake_any B nb cb w0.heap.size (lb, 0) N w1 (fun _ => ⟨HBA.out.below HB1.out, hnc, by omega⟩) (fun h => absurd rfl h) hs1 (by omega))
  have HTAKE := Lib.hid (fun W (hW : Cur W g (lb, 0)) => litake_cur g (lb, 0) N W hW (by omega))
  have HLEN : Hid ((takeA (lb, 0) N 0 65535).1.length ≤ 300) := Lib.hid (Nat.le_trans (takeA_clean (fun h => absurd rfl h)).2 (by omega))
  clear hc1 hb1 HNEW
  generalize takeA (lb, 0) N 0 65535 = o at *
  go_wp2_with fail
  refine HRT.out.mono ?_
  rintro e w2 ⟨vw, Ad, nd, cd, rfl, hownw, hdw, hbw⟩
  obtain ⟨Aw, cw, rfl, _⟩ := nums_slice hownw
  have hs2 := hbw.size
  have HST : Hid (LkC w0 g w2.heap.size o Aw cw Ad nd cd (lb, 0) undef (fun _ => false) (w2.alloc (.cells #[.slice Ad nd cd, .int .i64 (o.2.2 : Int)] 41)).drew) := Lib.hid (by
    have hba : Below w2.heap.size w2 (w2.alloc (.cells #[.slice Ad nd cd, .int .i64 (o.2.2 : Int)] 41)).drew := ((Below.refl _ w2).alloc (Nat.le_refl _) _).drew
    exact { cur := cur_below (cur_below HC1.out hbw hgl) hba (by omega), two := Two.new w2 _ _, wrow := ownsRow_below (ownsRow_base hownw (by omega)) hba, own := (fun h => by cases h), row := (HB1.out.trans (hbw.mono hs1)).trans (hba.mono (by omega)), lg := hg1, n7 := by omega })
  clear hownw hdw hbw HRT
  have hlen : o.1.length ≤ 9223372036854775807 := by have := HLEN.out; omega
  have hee : ((o.2.2 : Int) == (o.2.2 : Int)) = true := beq_self_eq_true _
  go_wp2_with fail
  obtain ⟨p7, hp7⟩ : ∃ p, w2.heap.size = p := ⟨_, rfl⟩
  rw [hp7] at HST ⊢
  refine region_k undef 37 (fun u D W => LkC w0 g p7 o Aw cw Ad nd cd (lb, 0) u D W) (LkG g p7 N o Aw cw) (by kernel_rfl) (by kernel_rfl) (by kernel_rfl) rfl rfl HST.out ?_ ?_
  · refine ⟨?_, ?_, ?_, ?_, ?_, ?_, ?_, ?_, ?_, ?_, ?_, ?_, ?_, ?_, ?_, ?_, trivial⟩
    · intro u D a w hI hdep hD0 K hK
      have e5 : a.eval (.tmp 5) = .pointer (some ⟨g, 0, none⟩) := hI.read 5 rfl
      refine ok_value (wanted_none rfl) (v := .pointer (some ⟨g, 0, none⟩)) ?_ (hK u _ _ (hI.world.up rfl) (fun _ _ _ h => h) rfl)
      have ec : ∀ c, a.eval (.const c) = c := fun _ => rfl
      have ef : ∀ f, a.eval (.func f) = .func (.func f) #[] #[] := fun _ => rfl
      clear hI hdep hK
      generalize a.eval = ρ at e5 ec ef ⊢
      go_simp
    · intro u D a w hI hdep hD0 K hK
      have e1 : a.eval (.tmp 1) = .int .i64 N := hI.read 1 rfl
      refine ok_value (wanted_none rfl) (v := .int .i64 N) ?_ (hK u _ _ (hI.world.up rfl) (fun _ _ _ h => h) rfl)
      have ec : ∀ c, a.eval (.const c) = c := fun _ => rfl
      have ef : ∀ f, a.eval (.func f) = .func (.func f) #[] #[] := fun _ => rfl
      clear hI hdep hK
      generalize a.eval = ρ at e1 ec ef ⊢
      go_simp
    · intro u D a w hI hdep hD0 K hK
      have e22 : a.eval (.tmp 22) = .pointer (some ⟨g, 0, none⟩) := hI.good 0 22 (dep_of hdep 0 rfl) rfl
      have e23 : a.eval (.tmp 23) = .int .i64 N := hI.good 1 23 (dep_of hdep 1 rfl) rfl
      refine ok_call (wanted_none rfl) (f := 17) (args := #[.pointer (some ⟨g, 0, none⟩), .int .i64 N]) ?_ (HTAKE.out w (hI.world.before hD0)) ?_
      · have ec : ∀ c, a.eval (.const c) = c := fun _ => rfl
        have ef : ∀ f, a.eval (.func f) = .func (.func f) #[] #[] := fun _ => rfl
        clear hI hdep hK
        generalize a.eval = ρ at e22 e23 ec ef ⊢
        go_simp
      · rintro e w2 ⟨v, rfl, hown, hc, hg⟩
        exact ⟨_, rfl, hK v _ _ (hI.world.taken hown hc hg) (fun j z hj h => LkG_2 hD0 hj h) rfl⟩
    · intro u D a w hI hdep hD0 K hK
      have e6 : a.eval (.tmp 6) = .slice Aw o.1.length cw := hI.read 6 rfl
      refine ok_value (wanted_none rfl) (v := .slice Aw o.1.length cw) ?_ (hK u _ _ (hI.world.up rfl) (fun _ _ _ h => h) rfl)
      have ec : ∀ c, a.eval (.const c) = c := fun _ => rfl
      have ef : ∀ f, a.eval (.func f) = .func (.func f) #[] #[] := fun _ => rfl
      clear hI hdep hK
      generalize a.eval = ρ at e6 ec ef ⊢
      go_simp
    · intro u D a w hI hdep hD0 K hK
      have e24 := hI.good 2 24 (dep_of hdep 2 rfl) rfl
      have e25 : a.eval (.tmp 25) = .slice Aw o.1.length cw := hI.good 3 25 (dep_of hdep 3 rfl) rfl
      have e24 : a.eval (.tmp 24) = u := e24
      obtain ⟨A9, c9, h9, hi9⟩ := hI.world.mine (dep_of hdep 2 rfl)
      rw [h9] at e24
      have HIN := Lib.hid (ints_any A9 _ c9 o.1 Aw _ cw o.1 w hi9 hI.world.yours hlen)
      rw [decide_eq_true rfl] at HIN
      refine ok_call (wanted_none rfl) (f := 16) (args := #[.slice A9 o.1.length c9, .slice Aw o.1.length cw]) ?_ HIN.out ?_
      · have ec : ∀ c, a.eval (.const c) = c := fun _ => rfl
        have ef : ∀ f, a.eval (.func f) = .func (.func f) #[] #[] := fun _ => rfl
        clear hI hdep hK
        generalize a.eval = ρ at e24 e25 ec ef ⊢
        go_simp
      · rintro e w2 ⟨rfl, hb2⟩
        exact ⟨_, rfl, hK u _ _ ((hI.world.kept hb2).up rfl) (fun _ _ _ h => h) rfl⟩
    · intro u D a w hI hdep hD0 K hK
      have e26 : a.eval (.tmp 26) = .bool true := hI.good 4 26 (dep_of hdep 4 rfl) rfl
      refine ok_value (wanted_none rfl) (v := .bool true) ?_ (hK u _ _ (hI.world.up rfl) (fun _ _ _ h => h) rfl)
      have ec : ∀ c, a.eval (.const c) = c := fun _ => rfl
      have ef : ∀ f, a.eval (.func f) = .func (.func f) #[] #[] := fun _ => rfl
      clear hI hdep hK
      generalize a.eval = ρ at e26 ec ef ⊢
      go_simp
    · intro u D a w hI hdep hD0 K hK
      have eg : a.eval (.tmp 27) = .bool true := hI.good 5 27 (dep_of hdep 5 rfl) rfl
      have e5 : a.eval (.tmp 5) = .pointer (some ⟨g, 0, none⟩) := hI.read 5 rfl
      refine ok_value (wanted_is rfl rfl hI.size (by simp) eg) (v := .pointer (some ⟨g, 0, none⟩)) ?_ (hK u _ _ (hI.world.up rfl) (fun _ _ _ h => h) rfl)
      have ec : ∀ c, a.eval (.const c) = c := fun _ => rfl
      have ef : ∀ f, a.eval (.func f) = .func (.func f) #[] #[] := fun _ => rfl
      clear hI hdep hK
      generalize a.eval = ρ at eg e5 ec ef ⊢
      go_simp
    · intro u D a w hI hdep hD0 K hK
      have eg : a.eval (.tmp 27) = .bool true := hI.good 5 27 (dep_of hdep 5 rfl) rfl
      have e28 : a.eval (.tmp 28) = .pointer (some ⟨g, 0, none⟩) := hI.good 6 28 (dep_of hdep 6 rfl) rfl
      have h5 := dep_of hdep 5 rfl
      have h4 := hI.shut 5 4 h5 rfl
      have H2 := hI.shut 4 2 h4 rfl
      refine ok_call (wanted_is rfl rfl hI.size (by simp) eg) (f := 18) (args := #[.pointer (some ⟨g, 0, none⟩)]) ?_ (err_cur g o.2 w (hI.world.after H2)) ?_
      · have ec : ∀ c, a.eval (.const c) = c := fun _ => rfl
        have ef : ∀ f, a.eval (.func f) = .func (.func f) #[] #[] := fun _ => rfl
        clear hI hdep hK
        generalize a.eval = ρ at eg e28 ec ef ⊢
        go_simp
      · rintro e w2 ⟨rfl, rfl⟩
        exact ⟨_, rfl, hK u _ _ (hI.world.up rfl) (fun _ _ _ h => h) rfl⟩
    · intro u D a w hI hdep hD0 K hK
      have eg : a.eval (.tmp 27) = .bool true := hI.good 5 27 (dep_of hdep 5 rfl) rfl
      have e7 : a.eval (.tmp 7) = .pointer (some ⟨p7, 0, none⟩) := hI.read 7 rfl
      refine ok_value (wanted_is rfl rfl hI.size (by simp) eg) (v := .pointer (some ⟨p7, 1, none⟩)) ?_ (hK u _ _ (hI.world.up rfl) (fun _ _ _ h => h) rfl)
      have ec : ∀ c, a.eval (.const c) = c := fun _ => rfl
      have ef : ∀ f, a.eval (.func f) = .func (.func f) #[] #[] := fun _ => rfl
      clear hI hdep hK
      generalize a.eval = ρ at eg e7 ec ef ⊢
      go_simp
    · intro u D a w hI hdep hD0 K hK
      have eg : a.eval (.tmp 27) = .bool true := hI.good 5 27 (dep_of hdep 5 rfl) rfl
      have e30 : a.eval (.tmp 30) = .pointer (some ⟨p7, 1, none⟩) := hI.good 8 30 (dep_of hdep 8 rfl) rfl
      have x0 := hI.world.two.c1
      refine ok_value (wanted_is rfl rfl hI.size (by simp) eg) (v := .int .i64 (o.2.2 : Int)) ?_ (hK u _ _ (hI.world.up rfl) (fun _ _ _ h => h) rfl)
      have ec : ∀ c, a.eval (.const c) = c := fun _ => rfl
      have ef : ∀ f, a.eval (.func f) = .func (.func f) #[] #[] := fun _ => rfl
      clear hI hdep hK
      generalize a.eval = ρ at eg e30 ec ef ⊢
      go_simp
    · intro u D a w hI hdep hD0 K hK
      have eg : a.eval (.tmp 27) = .bool true := hI.good 5 27 (dep_of hdep 5 rfl) rfl
      have e29 : a.eval (.tmp 29) = .int .i64 (o.2.2 : Int) := hI.good 7 29 (dep_of hdep 7 rfl) rfl
      have e31 : a.eval (.tmp 31) = .int .i64 (o.2.2 : Int) := hI.good 9 31 (dep_of hdep 9 rfl) rfl
      refine ok_value (wanted_is rfl rfl hI.size (by simp) eg) (v := .bool true) ?_ (hK u _ _ (hI.world.up rfl) (fun _ _ _ h => h) rfl)
      have ec : ∀ c, a.eval (.const c) = c := fun _ => rfl
      have ef : ∀ f, a.eval (.func f) = .func (.func f) #[] #[] := fun _ => rfl
      clear hI hdep hK
      generalize a.eval = ρ at eg e29 e31 ec ef ⊢
      go_simp
    · intro u D a w hI hdep hD0 K hK
      have e27 : a.eval (.tmp 27) = .bool true := hI.good 5 27 (dep_of hdep 5 rfl) rfl
      have e32 : a.eval (.tmp 32) = .bool true := hI.good 10 32 (dep_of hdep 10 rfl) rfl
      refine ok_value (wanted_none rfl) (v := .bool true) ?_ (hK u _ _ (hI.world.up rfl) (fun _ _ _ h => h) rfl)
      have ec : ∀ c, a.eval (.const c) = c := fun _ => rfl
      have ef : ∀ f, a.eval (.func f) = .func (.func f) #[] #[] := fun _ => rfl
      clear hI hdep hK
      generalize a.eval = ρ at e27 e32 ec ef ⊢
      go_simp
    · intro u D a w hI hdep hD0 K hK
      have e33 : a.eval (.tmp 33) = .bool true := hI.good 11 33 (dep_of hdep 11 rfl) rfl
      refine ok_value (wanted_none rfl) (v := .bool true) ?_ (hK u _ _ (hI.world.up rfl) (fun _ _ _ h => h) rfl)
      have ec : ∀ c, a.eval (.const c) = c := fun _ => rfl
      have ef : ∀ f, a.eval (.func f) = .func (.func f) #[] #[] := fun _ => rfl
      clear hI hdep hK
      generalize a.eval = ρ at e33 ec ef ⊢
      go_simp
    · intro u D a w hI hdep hD0 K hK
      have eg : a.eval (.tmp 34) = .bool true := hI.good 12 34 (dep_of hdep 12 rfl) rfl
      refine ok_call (wanted_is rfl rfl hI.size (by simp) eg) (f := 5) (args := #[]) (by go_simp) (lives12_any w) ?_
      rintro e w2 ⟨rfl, hb2⟩
      exact ⟨_, rfl, hK u _ _ ((hI.world.kept hb2).up rfl) (fun _ _ _ h => h) rfl⟩
    · intro u D a w hI hdep hD0 K hK
      have e34 : a.eval (.tmp 34) = .bool true := hI.good 12 34 (dep_of hdep 12 rfl) rfl
      have e35 : a.eval (.tmp 35) = .bool true := hI.good 13 35 (dep_of hdep 13 rfl) rfl
      refine ok_value (wanted_none rfl) (v := .bool true) ?_ (hK u _ _ (hI.world.up rfl) (fun _ _ _ h => h) rfl)
      have ec : ∀ c, a.eval (.const c) = c := fun _ => rfl
      have ef : ∀ f, a.eval (.func f) = .func (.func f) #[] #[] := fun _ => rfl
      clear hI hdep hK
      generalize a.eval = ρ at e34 e35 ec ef ⊢
      go_simp
    · intro u D a w hI hdep hD0 K hK
      have e36 : a.eval (.tmp 36) = .bool true := hI.good 14 36 (dep_of hdep 14 rfl) rfl
      refine ok_value (wanted_none rfl) (v := .bool true) ?_ (hK u _ _ (hI.world.up rfl) (fun _ _ _ h => h) rfl)
      have ec : ∀ c, a.eval (.const c) = c := fun _ => rfl
      have ef : ∀ f, a.eval (.func f) = .func (.func f) #[] #[] := fun _ => rfl
      clear hI hdep hK
      generalize a.eval = ρ at e36 ec ef ⊢
      go_simp
  · intro u D a w3 hI hD
    have hfr := hI.frame [(22, .pointer (some ⟨g, 0, none⟩)), (23, .int .i64 N), (24, u), (25, .slice Aw o.1.length cw), (26, .bool true), (27, .bool true), (28, .pointer (some ⟨g, 0, none⟩)), (29, .int .i64 (o.2.2 : Int)), (30, .pointer (some ⟨p7, 1, none⟩)), (31, .int .i64 (o.2.2 : Int)), (32, .bool true), (33, .bool true), (34, .bool true), (35, .bool true), (36, .bool true), (4, .bool true)] (all_cons (hI.good 0 22 (hD 0 (by decide)) rfl) (all_cons (hI.good 1 23 (hD 1 (by decide)) rfl) (all_cons (hI.good 2 24 (hD 2 (by decide)) rfl) (all_cons (hI.good 3 25 (hD 3 (by decide)) rfl) (all_cons (hI.good 4 26 (hD 4 (by decide)) rfl) (all_cons (hI.good 5 27 (hD 5 (by decide)) rfl) (all_cons (hI.good 6 28 (hD 6 (by decide)) rfl) (all_cons (hI.good 7 29 (hD 7 (by decide)) rfl) (all_cons (hI.good 8 30 (hD 8 (by decide)) rfl) (all_cons (hI.good 9 31 (hD 9 (by decide)) rfl) (all_cons (hI.good 10 32 (hD 10 (by decide)) rfl) (all_cons (hI.good 11 33 (hD 11 (by decide)) rfl) (all_cons (hI.good 12 34 (hD 12 (by decide)) rfl) (all_cons (hI.good 13 35 (hD 13 (by decide)) rfl) (all_cons (hI.good 14 36 (hD 14 (by decide)) rfl) (all_cons (hI.good 15 4 (hD 15 (by decide)) rfl) all_nil)))))))))))))))) rfl
    have hW := hI.world
    clear hI
    subst hfr
    simp only [List.foldl_cons, List.foldl_nil, List.setIfInBounds_toArray, List.set_cons_succ, List.set_cons_zero]
    have HB3 := Lib.hid hW.row
    clear hW hD HST
    go_wp2
    go_ret
    exact ⟨rfl, HB3.out⟩
end Go.Proofs.Ytnfflddcekffeaa
