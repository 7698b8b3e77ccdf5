/-
  The walk of TreeTakes. Conditions: the bytes can be read; their number is within the reach; the table of powers of ten is laid.
-/
import Derived.Test.YtpfcfmpfommfaaaDoorTrTkR
import Derived.Test.YtpfcfmpfommfaaaDoorTrSame
import Derived.Test.YtpfcfmpfommfaaaDoorTrL
import Derived.Test.YtpfcfmpfommfaaaDoorRegionK
namespace Go.Proofs.YtpfcfmpfommfaaaDoor
open Go.RowKit

theorem nodes_grown {w w' : World} {B g n : Nat} {a : Option Addr} {r : List Tr.Nd} (h : NodesAt w w.heap.size a n r) (hg : w.grownBy w' (some g)) (hr : 0 < n → ∀ x, a = some x → x.block ≠ g) (_ : B ≤ B) : NodesAt w' w'.heap.size a n r := by
  refine ⟨h.1, fun hn => ?_⟩
  obtain ⟨b, off, e, hlt, hc⟩ := h.2 hn
  refine ⟨b, off, e, by have := hg.size; omega, fun i hi j hj => ?_⟩
  exact hg.cell (hc i hi j hj) (by intro e'; injection e' with e'; exact hr hn _ e e')

theorem Tr.take_len (s : List Nat × Nat) : (Tr.take s).1.length ≤ 120 := by
  have := Tr.num_le s
  unfold Tr.take
  split
  · exact Nat.zero_le _
  · split
    · show (Tr.nodesV _ _).length ≤ _
      rw [Tr.nodesV_len]
      exact this
    · exact Nat.zero_le _

/-- The world while the law's last statement runs: behind operation 1 the cursor has gone on, and its tree is told. -/
structure TkC (g B j5 : Nat) (s0 s1 : List Nat × Nat) (r : List Tr.Nd) (Av : Option Addr) (A : Option Addr) (n c : Nat) (w3 : World) (u : Value) (D : Nat → Bool) (W : World) : Prop where
  cur : Cur W g (if D 1 = true then s1 else s0)
  res : D 1 = true → ∃ A2 c2, u = .slice A2 r.length c2 ∧ NodesAt W W.heap.size A2 r.length r
  doc : NodesAt W W.heap.size Av r.length r
  far : 0 < r.length → ∀ x, Av = some x → x.block ≠ g
  t5 : Two W j5 (.slice A n c) (.int .i64 (s1.2 : Int))
  dat : Dat W B A n c s1
  row : w3.grownBy W (some g)

section
variable {g B j5 : Nat} {s0 s1 : List Nat × Nat} {r : List Tr.Nd} {Av : Option Addr} {A : Option Addr} {n c : Nat} {w3 : World} {u : Value} {D : Nat → Bool} {W : World}
theorem TkC.up (h : TkC g B j5 s0 s1 r Av A n c w3 u D W) {i : Nat} (hi : (1 == i) = false) : TkC g B j5 s0 s1 r Av A n c w3 u (add D i) W :=
  ⟨by rw [up_other hi]; exact h.cur, by rw [up_other hi]; exact h.res, h.doc, h.far, h.t5, h.dat, h.row⟩
theorem TkC.curB (h : TkC g B j5 s0 s1 r Av A n c w3 u D W) (hD : D 1 = false) : Cur W g s0 := by
  have := h.cur
  rw [hD] at this
  exact this
theorem TkC.curA (h : TkC g B j5 s0 s1 r Av A n c w3 u D W) (hD : D 1 = true) : Cur W g s1 := by
  have := h.cur
  rw [hD] at this
  exact this
theorem TkC.took (h : TkC g B j5 s0 s1 r Av A n c w3 u D W) (hN : g ≠ j5 ∧ B ≤ g ∧ B ≤ g) {W' : World} {A2 : Option Addr} {c2 : Nat} (hc : Cur W' g s1) (hg : W.grownBy W' (some g)) (hn : NodesAt W' W'.heap.size A2 r.length r) : TkC g B j5 s0 s1 r Av A n c w3 (.slice A2 r.length c2) (add D 1) W' :=
  ⟨by rw [show add D 1 1 = true by simp [add]]; exact hc, fun _ => ⟨A2, c2, rfl, hn⟩, nodes_grown (B := 0) h.doc hg h.far (Nat.le_refl _), h.far, h.t5.kept hg (by intro e; injection e with e; exact hN.1 e), h.dat.kept hg (fun k e => by injection e with e; subst e; exact hN.2.1), Lib.grownBy_trans h.row hg⟩
theorem TkC.below (h : TkC g B j5 s0 s1 r Av A n c w3 u D W) (hN : g ≠ j5 ∧ B ≤ g ∧ B ≤ g) {W' : World} (hb : Below W.heap.size W W') : TkC g B j5 s0 s1 r Av A n c w3 u D W' :=
  ⟨cur_grown h.cur hb, fun e => by obtain ⟨A2, c2, e1, e2⟩ := h.res e; exact ⟨A2, c2, e1, e2.on hb⟩, h.doc.on hb, h.far, h.t5.below hb h.t5.lt, h.dat.below (hb.mono (Nat.le_trans hN.2.1 (Nat.le_of_lt h.cur.lt))), Lib.grownBy_below h.row hb⟩
theorem TkC.drew (h : TkC g B j5 s0 s1 r Av A n c w3 u D W) (hN : g ≠ j5 ∧ B ≤ g ∧ B ≤ g) : TkC g B j5 s0 s1 r Av A n c w3 u D W.drew := h.below hN (Below.refl _ _).drew
end

def TkG (g j5 : Nat) (s1 : List Nat × Nat) (r : List Tr.Nd) (Av : Option Addr) (cv : Nat) (A : Option Addr) (n c : Nat) (u : Value) : Nat → Value → Prop
  | 0, v => v = .pointer (some ⟨g, 0, none⟩)
  | 1, v => v = u
  | 2, v => v = .slice Av r.length cv
  | 3, v => v = .bool true
  | 4, v => v = .bool true
  | 5, v => v = .pointer (some ⟨g, 0, none⟩)
  | 6, v => v = .int .i64 (s1.2 : Int)
  | 7, v => v = .pointer (some ⟨j5, 1, none⟩)
  | 8, v => v = .int .i64 (s1.2 : Int)
  | 9, v => v = .bool true
  | 10, v => v = .bool true
  | 11, v => v = .bool true
  | 12, v => v = .pointer (some ⟨g, 0, none⟩)
  | 13, v => v = .int .i64 (s1.1.length : Int)
  | 14, v => v = .agg #[.slice A n c, .int .i64 (s1.2 : Int)]
  | 15, v => v = .int .i64 (s1.1.length : Int)
  | 16, v => v = .bool true
  | 17, v => v = .bool true
  | 18, v => v = .bool true
  | 19, v => v = .bool true
  | 20, v => v = .bool true
  | 21, v => v = .bool true
  | _, _ => True

theorem TkG_1 {g j5 : Nat} {s1 : List Nat × Nat} {r : List Tr.Nd} {Av : Option Addr} {cv : Nat} {A : Option Addr} {n c : Nat} {u : Value} {v z : Value} {D : Nat → Bool} {j : Nat} (hD0 : D 1 = false) (hj : D j = true) (h : TkG g j5 s1 r Av cv A n c u j z) : TkG g j5 s1 r Av cv A n c v j z := by
  by_cases e : j = 1
  · subst e
    rw [hD0] at hj
    cases hj
  · unfold TkG at h ⊢
    split at h <;> first | exact h | exact absurd rfl e

set_option maxHeartbeats 8000000 in
set_option maxRecDepth 100000 in
theorem treeTakes_walk (a0 : Option Addr) (n0 c0 : Nat) (l : List Nat) (w : World) (hb : BytesAt w w.heap.size a0 n0 l) (hnc : n0 ≤ c0) (hcm : c0 ≤ 140737488351232) (hg : Pow w) : Calls Tryd.prog 5 #[.slice a0 n0 c0] w (BoolP true w) := by
  have HG := Lib.hid hg
  have HBy := Lib.hid hb
  have HNw := Lib.hid (new_any a0 n0 c0 l w hb (by omega))
  have HL := Lib.hid (And.intro hnc hcm)
  clear hg hb hnc hcm
  go_enter Tryd.func5, Tryd.ntmps5
  go_wp2_with fail
  refine HNw.out.mono ?_
  rintro _ w1 ⟨g, rfl, hg, hc1, hb1⟩
  have C1 := Lib.hid hc1
  have B1 := Lib.hid hb1
  have HGt := Lib.hid (rtrtake_any a0 n0 c0 w.heap.size (l, 0) w1 (fun _ => ⟨HBy.out.below hb1, HL.out.1, by have := HL.out.2; omega⟩) (fun h => absurd rfl h) hb1.size)
  obtain ⟨r, s1, ht⟩ : ∃ r s1, Tr.take (l, 0) = (r, s1) := ⟨_, _, rfl⟩
  rw [ht] at HGt
  unfold RTakeT at HGt
  dsimp only at HGt
  have HT := Lib.hid ht
  have HGl := Lib.hid hg
  clear hc1 hb1 ht HNw hg
  go_wp2_with fail
  refine HGt.out.mono ?_
  rintro _ w2 ⟨Av, cv, A, n, c, rfl, hn2, hfar, hd2, hb2⟩
  have hgw : g < w1.heap.size := C1.out.lt
  have HFr : Hid (0 < r.length → ∀ x, Av = some x → x.block ≠ g) := Lib.hid (fun h x e => by obtain ⟨b, off, e2, hge⟩ := hfar h; rw [e2] at e; injection e with e; subst e; show b ≠ g; omega)
  have C2 := Lib.hid (cur_grown C1.out hb2)
  have B2 := Lib.hid (below_self B1.out hb2)
  have D2 := Lib.hid hd2
  have N2 := Lib.hid hn2
  have hrl : r.length ≤ 120 := by have := Tr.take_len (l, 0); rw [HT.out] at this; exact this
  have T5 := Two.new w2 (.slice A n c) (.int .i64 (s1.2 : Int))
  have b3 := (Below.refl w2.heap.size w2).alloc (Nat.le_refl _) (.cells #[.slice A n c, .int .i64 (s1.2 : Int)] 42)
  have C3 := cur_grown C2.out b3
  have HB3 := Lib.hid (below_self B2.out b3)
  have D3 := D2.out.below (b3.mono B2.out.size)
  have N3 := N2.out.on b3
  have HN : Hid (g ≠ w2.heap.size ∧ w.heap.size ≤ g ∧ w.heap.size ≤ g) := Lib.hid (by have := C2.out.lt; have := HGl.out; omega)
  have HK := Lib.hid (And.intro T5 (And.intro C3 (And.intro D3 N3)))
  clear T5 b3 C3 D3 N3 C2 B2 D2 N2 C1 B1 hd2 hb2 hn2 hfar hgw HGt
  go_wp2
  generalize w2.alloc (.cells #[.slice A n c, .int .i64 (s1.2 : Int)] 42) = w3 at *
  generalize w2.heap.size = j5 at *
  obtain ⟨T5, C3, D3, N3⟩ := HK.out
  have HS : TkC g w.heap.size j5 (l, 0) s1 r Av A n c w3 undef (fun _ => false) w3 := ⟨C3, fun h => (by cases h), N3, HFr.out, T5, D3, World.grownBy.refl _ _⟩
  clear T5 C3 D3 N3 HK
  have HC := Lib.hid (HS.drew HN.out)
  clear HS
  refine region_k undef 37 (fun u D W => TkC g w.heap.size j5 (l, 0) s1 r Av A n c w3 u D W) (TkG g j5 s1 r Av cv A n c) (by kernel_rfl) (by kernel_rfl) (by kernel_rfl) rfl rfl HC.out ?_ ?_
  · refine ⟨?_, ?_, ?_, ?_, ?_, ?_, ?_, ?_, ?_, ?_, ?_, ?_, ?_, ?_, ?_, ?_, ?_, ?_, ?_, ?_, ?_, ?_, trivial⟩
    · intro u D a w hI hdep hD0 K hK
      have e3 : a.eval (.tmp 3) = .pointer (some ⟨g, 0, none⟩) := hI.read 3 rfl
      refine ok_value (wanted_none rfl) (v := .pointer (some ⟨g, 0, none⟩)) ?_ (hK u _ _ (hI.world.up rfl) (fun _ _ _ h => h) rfl)
      have ec : ∀ c, a.eval (.const c) = c := fun _ => rfl
      have ef : ∀ f, a.eval (.func f) = .func (.func f) #[] #[] := fun _ => rfl
      clear hI hdep hK
      generalize a.eval = ρ at e3 ec ef ⊢
      go_simp
    · intro u D a w hI hdep hD0 K hK
      have e16 : a.eval (.tmp 16) = .pointer (some ⟨g, 0, none⟩) := hI.good 0 16 (dep_of hdep 0 rfl) rfl
      have hc0 := hI.world.curB hD0
      refine ok_call (wanted_none rfl) (f := 27) (args := #[.pointer (some ⟨g, 0, none⟩)]) ?_ (trtake_cur g (l, 0) w hc0) ?_
      · have ec : ∀ c, a.eval (.const c) = c := fun _ => rfl
        have ef : ∀ f, a.eval (.func f) = .func (.func f) #[] #[] := fun _ => rfl
        clear hI hdep hK
        generalize a.eval = ρ at e16 ec ef ⊢
        go_simp
      · unfold TakeT
        rw [HT.out]
        rintro e w2 ⟨⟨A2, c2, rfl, hn2⟩, hc2, hg2⟩
        exact ⟨_, rfl, hK (.slice A2 r.length c2) _ _ (hI.world.took HN.out hc2 hg2 hn2) (fun j z hj h => TkG_1 hD0 hj h) rfl⟩
    · intro u D a w hI hdep hD0 K hK
      have e4 : a.eval (.tmp 4) = .slice Av r.length cv := hI.read 4 rfl
      refine ok_value (wanted_none rfl) (v := .slice Av r.length cv) ?_ (hK u _ _ (hI.world.up rfl) (fun _ _ _ h => h) rfl)
      have ec : ∀ c, a.eval (.const c) = c := fun _ => rfl
      have ef : ∀ f, a.eval (.func f) = .func (.func f) #[] #[] := fun _ => rfl
      clear hI hdep hK
      generalize a.eval = ρ at e4 ec ef ⊢
      go_simp
    · intro u D a w hI hdep hD0 K hK
      have e17 := hI.good 1 17 (dep_of hdep 1 rfl) rfl
      have e18 : a.eval (.tmp 18) = .slice Av r.length cv := hI.good 2 18 (dep_of hdep 2 rfl) rfl
      obtain ⟨A2, c2, hu, hn2⟩ := hI.world.res (dep_of hdep 1 rfl)
      have e17 : a.eval (.tmp 17) = .slice A2 r.length c2 := Eq.trans e17 hu
      refine ok_call (wanted_none rfl) (f := 26) (args := #[.slice A2 r.length c2, .slice Av r.length cv]) ?_ (trsame_any A2 Av r.length c2 cv r w hn2 hI.world.doc (by omega)) ?_
      · have ec : ∀ c, a.eval (.const c) = c := fun _ => rfl
        have ef : ∀ f, a.eval (.func f) = .func (.func f) #[] #[] := fun _ => rfl
        clear hI hdep hK
        generalize a.eval = ρ at e17 e18 ec ef ⊢
        go_simp
      · rintro e w2 ⟨rfl, hb2⟩
        exact ⟨_, rfl, hK u _ _ ((hI.world.up rfl).below HN.out hb2) (fun _ _ _ h => h) rfl⟩
    · intro u D a w hI hdep hD0 K hK
      have e19 : a.eval (.tmp 19) = .bool true := hI.good 3 19 (dep_of hdep 3 rfl) rfl
      refine ok_value (wanted_none rfl) (v := .bool true) ?_ (hK u _ _ (hI.world.up rfl) (fun _ _ _ h => h) rfl)
      have ec : ∀ c, a.eval (.const c) = c := fun _ => rfl
      have ef : ∀ f, a.eval (.func f) = .func (.func f) #[] #[] := fun _ => rfl
      clear hI hdep hK
      generalize a.eval = ρ at e19 ec ef ⊢
      go_simp
    · intro u D a w hI hdep hD0 K hK
      have eg : a.eval (.tmp 20) = .bool true := hI.good 4 20 (dep_of hdep 4 rfl) rfl
      have e3 : a.eval (.tmp 3) = .pointer (some ⟨g, 0, none⟩) := hI.read 3 rfl
      refine ok_value (wanted_is rfl rfl hI.size (by simp) eg) (v := .pointer (some ⟨g, 0, none⟩)) ?_ (hK u _ _ (hI.world.up rfl) (fun _ _ _ h => h) rfl)
      have ec : ∀ c, a.eval (.const c) = c := fun _ => rfl
      have ef : ∀ f, a.eval (.func f) = .func (.func f) #[] #[] := fun _ => rfl
      clear hI hdep hK
      generalize a.eval = ρ at eg e3 ec ef ⊢
      go_simp
    · intro u D a w hI hdep hD0 K hK
      have eg : a.eval (.tmp 20) = .bool true := hI.good 4 20 (dep_of hdep 4 rfl) rfl
      have e21 : a.eval (.tmp 21) = .pointer (some ⟨g, 0, none⟩) := hI.good 5 21 (dep_of hdep 5 rfl) rfl
      have h1 : D 1 = true := eq_true_of_ne_false (fun h => absurd (dep_of hdep 4 rfl) (by rw [hI.not_up (hI.not_up h 3 rfl) 4 rfl]; decide))
      refine ok_call (wanted_is rfl rfl hI.size (by simp) eg) (f := 28) (args := #[.pointer (some ⟨g, 0, none⟩)]) ?_ (err_cur g s1 w (hI.world.curA h1)) ?_
      · have ec : ∀ c, a.eval (.const c) = c := fun _ => rfl
        have ef : ∀ f, a.eval (.func f) = .func (.func f) #[] #[] := fun _ => rfl
        clear hI hdep hK
        generalize a.eval = ρ at eg e21 ec ef ⊢
        go_simp
      · rintro e w2 ⟨rfl, he⟩
        obtain rfl := he.symm
        exact ⟨_, rfl, hK u _ _ (hI.world.up rfl) (fun _ _ _ h => h) rfl⟩
    · intro u D a w hI hdep hD0 K hK
      have eg : a.eval (.tmp 20) = .bool true := hI.good 4 20 (dep_of hdep 4 rfl) rfl
      have e5 : a.eval (.tmp 5) = .pointer (some ⟨j5, 0, none⟩) := hI.read 5 rfl
      refine ok_value (wanted_is rfl rfl hI.size (by simp) eg) (v := .pointer (some ⟨j5, 1, none⟩)) ?_ (hK u _ _ (hI.world.up rfl) (fun _ _ _ h => h) rfl)
      have ec : ∀ c, a.eval (.const c) = c := fun _ => rfl
      have ef : ∀ f, a.eval (.func f) = .func (.func f) #[] #[] := fun _ => rfl
      clear hI hdep hK
      generalize a.eval = ρ at eg e5 ec ef ⊢
      go_simp
    · intro u D a w hI hdep hD0 K hK
      have eg : a.eval (.tmp 20) = .bool true := hI.good 4 20 (dep_of hdep 4 rfl) rfl
      have e23 : a.eval (.tmp 23) = .pointer (some ⟨j5, 1, none⟩) := hI.good 7 23 (dep_of hdep 7 rfl) rfl
      have x1 := hI.world.t5.c1
      refine ok_value (wanted_is rfl rfl hI.size (by simp) eg) (v := .int .i64 (s1.2 : Int)) ?_ (hK u _ _ (hI.world.up rfl) (fun _ _ _ h => h) rfl)
      have ec : ∀ c, a.eval (.const c) = c := fun _ => rfl
      have ef : ∀ f, a.eval (.func f) = .func (.func f) #[] #[] := fun _ => rfl
      clear hI hdep hK
      generalize a.eval = ρ at eg e23 ec ef ⊢
      go_simp
    · intro u D a w hI hdep hD0 K hK
      have eg : a.eval (.tmp 20) = .bool true := hI.good 4 20 (dep_of hdep 4 rfl) rfl
      have e22 : a.eval (.tmp 22) = .int .i64 (s1.2 : Int) := hI.good 6 22 (dep_of hdep 6 rfl) rfl
      have e24 : a.eval (.tmp 24) = .int .i64 (s1.2 : Int) := hI.good 8 24 (dep_of hdep 8 rfl) rfl
      refine ok_value (wanted_is rfl rfl hI.size (by simp) eg) (v := .bool true) ?_ (hK u _ _ (hI.world.up rfl) (fun _ _ _ h => h) rfl)
      have ec : ∀ c, a.eval (.const c) = c := fun _ => rfl
      have ef : ∀ f, a.eval (.func f) = .func (.func f) #[] #[] := fun _ => rfl
      clear hI hdep hK
      generalize a.eval = ρ at eg e22 e24 ec ef ⊢
      go_simp
    · intro u D a w hI hdep hD0 K hK
      have e20 : a.eval (.tmp 20) = .bool true := hI.good 4 20 (dep_of hdep 4 rfl) rfl
      have e25 : a.eval (.tmp 25) = .bool true := hI.good 9 25 (dep_of hdep 9 rfl) rfl
      refine ok_value (wanted_none rfl) (v := .bool true) ?_ (hK u _ _ (hI.world.up rfl) (fun _ _ _ h => h) rfl)
      have ec : ∀ c, a.eval (.const c) = c := fun _ => rfl
      have ef : ∀ f, a.eval (.func f) = .func (.func f) #[] #[] := fun _ => rfl
      clear hI hdep hK
      generalize a.eval = ρ at e20 e25 ec ef ⊢
      go_simp
    · intro u D a w hI hdep hD0 K hK
      have e26 : a.eval (.tmp 26) = .bool true := hI.good 10 26 (dep_of hdep 10 rfl) rfl
      refine ok_value (wanted_none rfl) (v := .bool true) ?_ (hK u _ _ (hI.world.up rfl) (fun _ _ _ h => h) rfl)
      have ec : ∀ c, a.eval (.const c) = c := fun _ => rfl
      have ef : ∀ f, a.eval (.func f) = .func (.func f) #[] #[] := fun _ => rfl
      clear hI hdep hK
      generalize a.eval = ρ at e26 ec ef ⊢
      go_simp
    · intro u D a w hI hdep hD0 K hK
      have eg : a.eval (.tmp 27) = .bool true := hI.good 11 27 (dep_of hdep 11 rfl) rfl
      have e3 : a.eval (.tmp 3) = .pointer (some ⟨g, 0, none⟩) := hI.read 3 rfl
      refine ok_value (wanted_is rfl rfl hI.size (by simp) eg) (v := .pointer (some ⟨g, 0, none⟩)) ?_ (hK u _ _ (hI.world.up rfl) (fun _ _ _ h => h) rfl)
      have ec : ∀ c, a.eval (.const c) = c := fun _ => rfl
      have ef : ∀ f, a.eval (.func f) = .func (.func f) #[] #[] := fun _ => rfl
      clear hI hdep hK
      generalize a.eval = ρ at eg e3 ec ef ⊢
      go_simp
    · intro u D a w hI hdep hD0 K hK
      have eg : a.eval (.tmp 27) = .bool true := hI.good 11 27 (dep_of hdep 11 rfl) rfl
      have e28 : a.eval (.tmp 28) = .pointer (some ⟨g, 0, none⟩) := hI.good 12 28 (dep_of hdep 12 rfl) rfl
      have h1 : D 1 = true := eq_true_of_ne_false (fun h => absurd (dep_of hdep 11 rfl) (by rw [hI.not_up (hI.not_up (hI.not_up (hI.not_up h 3 rfl) 4 rfl) 10 rfl) 11 rfl]; decide))
      refine ok_call (wanted_is rfl rfl hI.size (by simp) eg) (f := 29) (args := #[.pointer (some ⟨g, 0, none⟩)]) ?_ (left_cur g s1 w (hI.world.curA h1)) ?_
      · have ec : ∀ c, a.eval (.const c) = c := fun _ => rfl
        have ef : ∀ f, a.eval (.func f) = .func (.func f) #[] #[] := fun _ => rfl
        clear hI hdep hK
        generalize a.eval = ρ at eg e28 ec ef ⊢
        go_simp
      · rintro e w2 ⟨rfl, he⟩
        obtain rfl := he.symm
        exact ⟨_, rfl, hK u _ _ (hI.world.up rfl) (fun _ _ _ h => h) rfl⟩
    · intro u D a w hI hdep hD0 K hK
      have eg : a.eval (.tmp 27) = .bool true := hI.good 11 27 (dep_of hdep 11 rfl) rfl
      have e5 : a.eval (.tmp 5) = .pointer (some ⟨j5, 0, none⟩) := hI.read 5 rfl
      have x0 := hI.world.t5.c0
      have x1 := hI.world.t5.c1
      refine ok_value (wanted_is rfl rfl hI.size (by simp) eg) (v := .agg #[.slice A n c, .int .i64 (s1.2 : Int)]) ?_ (hK u _ _ (hI.world.up rfl) (fun _ _ _ h => h) rfl)
      have ec : ∀ c, a.eval (.const c) = c := fun _ => rfl
      have ef : ∀ f, a.eval (.func f) = .func (.func f) #[] #[] := fun _ => rfl
      clear hI hdep hK
      generalize a.eval = ρ at eg e5 ec ef ⊢
      go_simp
    · intro u D a w hI hdep hD0 K hK
      have eg : a.eval (.tmp 27) = .bool true := hI.good 11 27 (dep_of hdep 11 rfl) rfl
      have e30 : a.eval (.tmp 30) = .agg #[.slice A n c, .int .i64 (s1.2 : Int)] := hI.good 14 30 (dep_of hdep 14 rfl) rfl
      have h1 : D 1 = true := eq_true_of_ne_false (fun h => absurd (dep_of hdep 11 rfl) (by rw [hI.not_up (hI.not_up (hI.not_up (hI.not_up h 3 rfl) 4 rfl) 10 rfl) 11 rfl]; decide))
      refine ok_call (wanted_is rfl rfl hI.size (by simp) eg) (f := 30) (args := #[.agg #[.slice A n c, .int .i64 (s1.2 : Int)]]) ?_ (rLeft_any A n c _ s1 w hI.world.dat (hI.world.curA h1).nil) ?_
      · have ec : ∀ c, a.eval (.const c) = c := fun _ => rfl
        have ef : ∀ f, a.eval (.func f) = .func (.func f) #[] #[] := fun _ => rfl
        clear hI hdep hK
        generalize a.eval = ρ at eg e30 ec ef ⊢
        go_simp
      · rintro e w2 ⟨rfl, hb2⟩
        exact ⟨_, rfl, hK u _ _ ((hI.world.up rfl).below HN.out hb2) (fun _ _ _ h => h) rfl⟩
    · intro u D a w hI hdep hD0 K hK
      have eg : a.eval (.tmp 27) = .bool true := hI.good 11 27 (dep_of hdep 11 rfl) rfl
      have e29 : a.eval (.tmp 29) = .int .i64 (s1.1.length : Int) := hI.good 13 29 (dep_of hdep 13 rfl) rfl
      have e31 : a.eval (.tmp 31) = .int .i64 (s1.1.length : Int) := hI.good 15 31 (dep_of hdep 15 rfl) rfl
      refine ok_value (wanted_is rfl rfl hI.size (by simp) eg) (v := .bool true) ?_ (hK u _ _ (hI.world.up rfl) (fun _ _ _ h => h) rfl)
      have ec : ∀ c, a.eval (.const c) = c := fun _ => rfl
      have ef : ∀ f, a.eval (.func f) = .func (.func f) #[] #[] := fun _ => rfl
      clear hI hdep hK
      generalize a.eval = ρ at eg e29 e31 ec ef ⊢
      go_simp
    · intro u D a w hI hdep hD0 K hK
      have e27 : a.eval (.tmp 27) = .bool true := hI.good 11 27 (dep_of hdep 11 rfl) rfl
      have e32 : a.eval (.tmp 32) = .bool true := hI.good 16 32 (dep_of hdep 16 rfl) rfl
      refine ok_value (wanted_none rfl) (v := .bool true) ?_ (hK u _ _ (hI.world.up rfl) (fun _ _ _ h => h) rfl)
      have ec : ∀ c, a.eval (.const c) = c := fun _ => rfl
      have ef : ∀ f, a.eval (.func f) = .func (.func f) #[] #[] := fun _ => rfl
      clear hI hdep hK
      generalize a.eval = ρ at e27 e32 ec ef ⊢
      go_simp
    · intro u D a w hI hdep hD0 K hK
      have e33 : a.eval (.tmp 33) = .bool true := hI.good 17 33 (dep_of hdep 17 rfl) rfl
      refine ok_value (wanted_none rfl) (v := .bool true) ?_ (hK u _ _ (hI.world.up rfl) (fun _ _ _ h => h) rfl)
      have ec : ∀ c, a.eval (.const c) = c := fun _ => rfl
      have ef : ∀ f, a.eval (.func f) = .func (.func f) #[] #[] := fun _ => rfl
      clear hI hdep hK
      generalize a.eval = ρ at e33 ec ef ⊢
      go_simp
    · intro u D a w hI hdep hD0 K hK
      have eg : a.eval (.tmp 34) = .bool true := hI.good 18 34 (dep_of hdep 18 rfl) rfl
      refine ok_call (wanted_is rfl rfl hI.size (by simp) eg) (f := 7) (args := #[]) ?_ (lives13_any w (HG.out.below (HB3.out.grown hI.world.row HB3.out.size (fun k hk => by injection hk with hk; subst hk; exact HN.out.2.2)))) ?_
      · have ec : ∀ c, a.eval (.const c) = c := fun _ => rfl
        have ef : ∀ f, a.eval (.func f) = .func (.func f) #[] #[] := fun _ => rfl
        clear hI hdep hK
        generalize a.eval = ρ at eg ec ef ⊢
        go_simp
      · rintro e w2 ⟨rfl, hb2⟩
        exact ⟨_, rfl, hK u _ _ ((hI.world.up rfl).below HN.out hb2) (fun _ _ _ h => h) rfl⟩
    · intro u D a w hI hdep hD0 K hK
      have e34 : a.eval (.tmp 34) = .bool true := hI.good 18 34 (dep_of hdep 18 rfl) rfl
      have e35 : a.eval (.tmp 35) = .bool true := hI.good 19 35 (dep_of hdep 19 rfl) rfl
      refine ok_value (wanted_none rfl) (v := .bool true) ?_ (hK u _ _ (hI.world.up rfl) (fun _ _ _ h => h) rfl)
      have ec : ∀ c, a.eval (.const c) = c := fun _ => rfl
      have ef : ∀ f, a.eval (.func f) = .func (.func f) #[] #[] := fun _ => rfl
      clear hI hdep hK
      generalize a.eval = ρ at e34 e35 ec ef ⊢
      go_simp
    · intro u D a w hI hdep hD0 K hK
      have e36 : a.eval (.tmp 36) = .bool true := hI.good 20 36 (dep_of hdep 20 rfl) rfl
      refine ok_value (wanted_none rfl) (v := .bool true) ?_ (hK u _ _ (hI.world.up rfl) (fun _ _ _ h => h) rfl)
      have ec : ∀ c, a.eval (.const c) = c := fun _ => rfl
      have ef : ∀ f, a.eval (.func f) = .func (.func f) #[] #[] := fun _ => rfl
      clear hI hdep hK
      generalize a.eval = ρ at e36 ec ef ⊢
      go_simp
  · intro u D a w4 hI hD
    have hfr := hI.frame [(16, .pointer (some ⟨g, 0, none⟩)), (17, u), (18, .slice Av r.length cv), (19, .bool true), (20, .bool true), (21, .pointer (some ⟨g, 0, none⟩)), (22, .int .i64 (s1.2 : Int)), (23, .pointer (some ⟨j5, 1, none⟩)), (24, .int .i64 (s1.2 : Int)), (25, .bool true), (26, .bool true), (27, .bool true), (28, .pointer (some ⟨g, 0, none⟩)), (29, .int .i64 (s1.1.length : Int)), (30, .agg #[.slice A n c, .int .i64 (s1.2 : Int)]), (31, .int .i64 (s1.1.length : Int)), (32, .bool true), (33, .bool true), (34, .bool true), (35, .bool true), (36, .bool true), (2, .bool true)] (all_cons (hI.good 0 16 (hD 0 (by decide)) rfl) (all_cons (hI.good 1 17 (hD 1 (by decide)) rfl) (all_cons (hI.good 2 18 (hD 2 (by decide)) rfl) (all_cons (hI.good 3 19 (hD 3 (by decide)) rfl) (all_cons (hI.good 4 20 (hD 4 (by decide)) rfl) (all_cons (hI.good 5 21 (hD 5 (by decide)) rfl) (all_cons (hI.good 6 22 (hD 6 (by decide)) rfl) (all_cons (hI.good 7 23 (hD 7 (by decide)) rfl) (all_cons (hI.good 8 24 (hD 8 (by decide)) rfl) (all_cons (hI.good 9 25 (hD 9 (by decide)) rfl) (all_cons (hI.good 10 26 (hD 10 (by decide)) rfl) (all_cons (hI.good 11 27 (hD 11 (by decide)) rfl) (all_cons (hI.good 12 28 (hD 12 (by decide)) rfl) (all_cons (hI.good 13 29 (hD 13 (by decide)) rfl) (all_cons (hI.good 14 30 (hD 14 (by decide)) rfl) (all_cons (hI.good 15 31 (hD 15 (by decide)) rfl) (all_cons (hI.good 16 32 (hD 16 (by decide)) rfl) (all_cons (hI.good 17 33 (hD 17 (by decide)) rfl) (all_cons (hI.good 18 34 (hD 18 (by decide)) rfl) (all_cons (hI.good 19 35 (hD 19 (by decide)) rfl) (all_cons (hI.good 20 36 (hD 20 (by decide)) rfl) (all_cons (hI.good 21 2 (hD 21 (by decide)) rfl) all_nil)))))))))))))))))))))) rfl
    have hW := hI.world
    clear hI
    subst hfr
    simp only [List.foldl_cons, List.foldl_nil, List.setIfInBounds_toArray, List.set_cons_succ, List.set_cons_zero]
    have HB4 := Lib.hid (HB3.out.grown hW.row HB3.out.size (fun k hk => by injection hk with hk; subst hk; exact HN.out.2.2))
    clear hW hD
    go_wp2
    go_ret
    exact ⟨rfl, HB4.out⟩
end Go.Proofs.YtpfcfmpfommfaaaDoor
