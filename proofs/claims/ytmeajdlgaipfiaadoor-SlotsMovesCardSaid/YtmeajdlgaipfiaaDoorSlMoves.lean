/-
  SlotsMoves answers true. Conditions: the table of math/bits is laid.
-/
import Derived.Test.YtmeajdlgaipfiaaDoorSlL
import Derived.Test.YtmeajdlgaipfiaaDoorRegionM
namespace Go.Proofs.YtmeajdlgaipfiaaDoor
open Go.RowKit Go.Shelf

attribute [local go_sem] Oper.semAt_some

theorem not_nil (p : Value) (w : World) : (binOp .eql 39 (.func (.func 30) #[] #[p]) .nilFunc).run Tryd.prog w = .ok (.bool false) w := by kernel_rfl

/-- Between two rounds of the first loop: pre has come, as the row has it, and is counted. -/
def MvI (s : Sl.Four) (A : Option Addr) (n c : Nat) (w1 : World) (pre : List Int) (W : World) : Prop :=
  (pre <+: s.list ∧ W.cell? ⟨w1.heap.size, 0, none⟩ = some (.slice A n c) ∧ SetAt W (w1.heap.size + 1) s ∧ W.cell? ⟨w1.heap.size + 1 + 1, 0, none⟩ = some (.int .i64 (pre.length : Int)) ∧ W.frozen? ⟨w1.heap.size + 1 + 1, 0, none⟩ = false) ∧ Below w1.heap.size w1 W
/-- A round that leaves has met what is not in the row. -/
def MvX (s : Sl.Four) (c : Code) (pre : List Int) (_ : World) : Prop := c = .ret ∧ ¬ pre <+: s.list
/-- Between two rounds of the second loop. -/
def MvJ (A : Option Addr) (n c D : Nat) (w1 : World) (pre : List Int) (W : World) : Prop :=
  (W.cell? ⟨w1.heap.size, 0, none⟩ = some (.slice A n c) ∧ W.cell? ⟨w1.heap.size + 1 + 1, 0, none⟩ = some (.int .i64 ((n + pre.length : Nat) : Int)) ∧ W.frozen? ⟨w1.heap.size + 1 + 1, 0, none⟩ = false) ∧ (W.heap[D]? = some (.deferred (some [])) ∧ Below w1.heap.size w1 W)

theorem mvI_own (s : Sl.Four) (A : Option Addr) (n c : Nat) (w1 : World) {B : Nat} (hB : w1.heap.size ≤ B) : OwnFrom B (MvI s A n c w1) :=
  OwnFrom.and (Own.from (fun pre U V row hs hg hr => ⟨hs.1, cell_kept hs.2.1 hg hr, SetAt.own _ (fun _ : List Int => s) pre U V row hs.2.2.1 hg hr, cell_kept hs.2.2.2.1 hg hr, (frozen_kept hs.2.2.2.1 hg hr).trans hs.2.2.2.2⟩) _) (ownFrom_below (Nat.le_refl _) hB)
theorem mvJ_own (A : Option Addr) (n c D : Nat) (w1 : World) {B : Nat} (hB : w1.heap.size ≤ B) (hD : D < B) : OwnFrom B (MvJ A n c D w1) :=
  OwnFrom.and (Own.from (fun pre U V row hs hg hr => ⟨cell_kept hs.1 hg hr, cell_kept hs.2.1 hg hr, (frozen_kept hs.2.1 hg hr).trans hs.2.2⟩) _)
    (OwnFrom.and (fun pre U V row hs hg hr => (hg.block D (Array.getElem?_eq_some_iff.1 hs).1 (fun e => by have := (hr D e.symm).1; omega)).trans hs) (ownFrom_below (Nat.le_refl _) hB))

theorem pre_snoc {l pre : List Int} (h : pre <+: l) (hlt : pre.length < l.length) (x : Int) : (pre ++ [x] <+: l) ↔ x = l.getD pre.length 0 := by
  have hp : pre = l.take pre.length := List.prefix_iff_eq_take.1 h
  have hs := take_snoc l pre.length hlt
  constructor
  · intro hx
    have e := List.prefix_iff_eq_take.1 hx
    rw [List.length_append, List.length_singleton, hs, ← hp] at e
    have := List.append_cancel_left e
    simpa using this
  · rintro rfl
    have e : pre ++ [l.getD pre.length 0] = l.take (pre.length + 1) := by rw [hs, ← hp]
    rw [e]
    exact List.take_prefix _ _

/-- What the last statement's world is: nothing that was there has turned, till the result is stored. -/
def MvC (W5 : World) (g : Nat) (D : Nat → Bool) (W : World) : Prop :=
  (D 17 = false ∧ Below W5.heap.size W5 W) ∨ (D 17 = true ∧ ∃ W6, Below W5.heap.size W5 W6 ∧ W = W6.setCell ⟨g + 1, 0, none⟩ (.bool true))
theorem MvC.up {W5 W : World} {g : Nat} {D : Nat → Bool} {i : Nat} (h : MvC W5 g D W) (hi : (17 == i) = false) : MvC W5 g (add D i) W := by
  unfold MvC add at *
  rw [hi, Bool.or_false]
  exact h
theorem MvC.before {W5 W : World} {g : Nat} {D : Nat → Bool} (h : MvC W5 g D W) (h17 : D 17 = false) : Below W5.heap.size W5 W := by
  rcases h with ⟨_, h⟩ | ⟨h, _⟩
  · exact h
  · rw [h17] at h
    cases h
theorem MvC.call {W5 W W2 : World} {g : Nat} {D : Nat → Bool} {i : Nat} (h : Below W5.heap.size W5 W) (hb : Below W.heap.size W W2) (h17 : D 17 = false) (hi : (17 == i) = false) : MvC W5 g (add D i) W2 :=
  .inl ⟨by unfold add; rw [h17, hi]; rfl, h.trans (hb.mono h.size)⟩
theorem MvC.stored {W5 W : World} {g : Nat} {D : Nat → Bool} (h : Below W5.heap.size W5 W) : MvC W5 g (add D 17) (W.setCell ⟨g + 1, 0, none⟩ (.bool true)) :=
  .inr ⟨by simp [add], W, h, rfl⟩

/-- What each operation of the last statement yields. -/
def MvG (s m : Sl.Four) (d z : Int) (A : Option Addr) (n c : Nat) : Nat → Value → Prop
  | 0, v => v = .int .i64 z
  | 1, v => v = .slice A n c
  | 2, v => v = .int .i64 (n : Int)
  | 3, v => v = .int .i64 (2 * (n : Int))
  | 6, v => v = setV s
  | 7, v => v = .int .i64 d
  | 8, v => v = setV m
  | 9, v => v = setV s
  | 10, v => v = .int .i64 d
  | 11, v => v = setV m
  | 17, _ => True
  | _, v => v = .bool true

theorem mark_other {W : World} {D1 D2 : Nat} {o o' : Obj} (h : W.heap[D1]? = some o) (hne : D1 ≠ D2) : (W.putObj D2 o').heap[D1]? = some o :=
  ((grownBy_putObj' W D2 o').block D1 (Array.getElem?_eq_some_iff.1 h).1 (fun e => hne (Option.some.inj e))).trans h

set_option maxRecDepth 100000 in
set_option maxHeartbeats 4000000 in
theorem moves_walk (s : Sl.Four) (hs : s.ok) (d : Int) (w0 : World) (hT : Tab w0) (hw : 1 ≤ w0.heap.size) :
    Calls Tryd.prog 6 #[setV s, .int .i64 d] w0 (BoolP true w0) := by
  have HS := Lib.hid hs
  have HT := Lib.hid hT
  have HW := Lib.hid hw
  have HMv := Lib.hid (fun w hT hw => move_any s hs d w hT hw)
  have HRMv := Lib.hid (fun w => rmove_any s d w)
  clear hs hT hw
  generalize s.move d = m at *
  refine (callsIn_wide (n := 6)).1 ?_
  refine callsIn_of_wp_marks Tryd.func6 rfl trivial ?_ rfl
  simp only [Tryd.ntmps6, List.size_toArray, List.length_cons, List.length_nil, Nat.reduceAdd, Nat.reduceSub, Array.replicate_succ, Array.replicate_zero, List.push_toArray, List.append_toArray, List.nil_append, List.cons_append]
  gi_wp2_with fail
  refine ⟨trivial, ?_⟩
  refine (callsIn_wide.2 (list_any s _)).mono ?_
  rintro e w1 ⟨A, c, rfl, hI, hb⟩
  have HI := Lib.hid hI
  have HLe := Lib.hid (Sl.list_le s)
  have HZ := Lib.hid (show w0.heap.size + 1 < w1.heap.size by have := hb.size; simp at this; omega)
  have HB1 := Lib.hid (((((Below.refl _ w0).alloc (Nat.le_refl _) _).alloc (by simp) _)).trans (hb.mono (by simp; omega)))
  have HS1 := Lib.hid (((SetAt.new w0 s).alloc (.cells #[.bool false] 4)).below hb (by simp; omega))
  have hR := new_cell (w0.alloc (.cells #[.int .u64 (s.a : Int), .int .u64 (s.b : Int), .int .u64 (s.c : Int), .int .u64 (s.d : Int)] 24)) (.bool false) 4
  rw [World.size_alloc] at hR
  have HR1 : Hid (w1.cell? ⟨w0.heap.size + 1, 0, none⟩ = some (.bool false) ∧ w1.frozen? ⟨w0.heap.size + 1, 0, none⟩ = false) :=
    Lib.hid ⟨(hb.cell (p := ⟨w0.heap.size + 1, 0, none⟩) (by simp)).trans hR.1, (hb.frozen (p := ⟨w0.heap.size + 1, 0, none⟩) (by simp)).trans hR.2⟩
  clear hI hb hR
  obtain ⟨n, hn⟩ : ∃ n, s.list.length = n := ⟨_, rfl⟩
  rw [hn] at HI HLe
  simp only [hn]
  have HN := Lib.hid hn
  clear hn
  obtain ⟨c0, c1, c2, c3⟩ := (HS1.out.alloc (.cells #[.slice A n c] 25)).reads.1
  have nn := not_nil
  gi_wp2_with (refine ⟨trivial, ?_⟩; gi_at_call 25; refine (all_in _ _ _).mono ?_; rintro e w' ⟨rfl, rfl⟩)
  clear c0 c1 c2 c3 nn
  have hB3 : Below w1.heap.size w1 (((w1.alloc (.cells #[.slice A n c] 25)).alloc (.cells #[.int .u64 (s.a : Int), .int .u64 (s.b : Int), .int .u64 (s.c : Int), .int .u64 (s.d : Int)] 24)).alloc (.cells #[.int .i64 0] 3)) := (((Below.refl _ w1).alloc (Nat.le_refl _) _).alloc (by simp) _).alloc (by simp; omega) _
  have hA := SetAt.new (w1.alloc (.cells #[.slice A n c] 25)) s
  have h5 := new_cell w1 (.slice A n c) 25
  have h7 := new_cell ((w1.alloc (.cells #[.slice A n c] 25)).alloc (.cells #[.int .u64 (s.a : Int), .int .u64 (s.b : Int), .int .u64 (s.c : Int), .int .u64 (s.d : Int)] 24)) (.int .i64 0) 3
  simp only [World.size_alloc] at hA h7
  have HT1 := Lib.hid (tab_below HT.out HB1.out HW.out)
  have HZ1 := Lib.hid (show 1 ≤ w1.heap.size by have := HZ.out; omega)
  refine wpIn_rangeFunc_ownF rfl (by omega) (gf := 30) (lb := #[.pointer (some ⟨w1.heap.size + 1, 0, none⟩)]) rfl trivial (enters_of Tryd.func30 (by kernel_rfl) rfl)
    (all_stops _ (by omega) (w1.heap.size + 1) w1.heap.size s HS.out _ (hA.alloc _) (tab_below HT1.out hB3 HZ1.out) HZ1.out (by simp; omega)) belowK_t (belowK_b (by simp; omega)) (Below.refl _ _) (fun _ => rfl)
    (MvI s A n c w1) (MvX s) (mvI_own s A n c w1 (by simp; omega)) (fun _ _ _ _ _ hs _ _ => hs)
    ⟨⟨List.nil_prefix, (more_cell _ (more_cell _ h5)).1, hA.alloc _, h7.1, h7.2⟩, hB3⟩
    (fun x => { tmps := #[setV s, .int .i64 d, .pointer (some ⟨w0.heap.size, 0, none⟩), undef, .pointer (some ⟨w0.heap.size + 1, 0, none⟩), .pointer (some ⟨w1.heap.size, 0, none⟩), .func (.func 30) #[] #[.pointer (some ⟨w1.heap.size + 1, 0, none⟩)], .pointer (some ⟨w1.heap.size + 1 + 1, 0, none⟩), .int .i64 x, setV s, .slice A n c, setV s, .func (.func 30) #[] #[.pointer (some ⟨w1.heap.size + 1, 0, none⟩)], .func (.func 30) #[] #[.pointer (some ⟨w1.heap.size + 1, 0, none⟩)], .bool false, .func (.func 30) #[] #[.pointer (some ⟨w1.heap.size + 1, 0, none⟩)], .int .i64 x, undef, undef, undef, undef, undef, undef, undef, undef, undef, undef, undef, undef, undef, undef, undef, undef, undef, undef, undef, undef, undef, undef, undef, undef, undef, undef, undef, undef, undef, undef, undef, undef, undef, undef, undef], defers := [] }) ?assign ?body ?done ?stop
  case assign =>
    intro l x W K hK
    gi_wp2
    exact hK
  case stop =>
    rintro D e pre W _ hpre ⟨_, hn⟩ _
    exact absurd hpre hn
  case body =>
    rintro l pre x W ⟨⟨hp, c5, hA', c7, f7⟩, hB⟩ hlt
    have HP := Lib.hid (pre_snoc hp hlt x)
    rw [HN.out] at hlt
    obtain ⟨b, off, rfl, hlb, hcs⟩ := (HI.out.below hB).2 (by omega)
    have hck := hcs pre.length hlt
    have HA' := Lib.hid hA'
    have HBW := Lib.hid hB
    have hle : n ≤ 256 := HLe.out
    have cr := (hB.cell (p := ⟨w0.heap.size + 1, 0, none⟩) HZ.out).trans HR1.out.1
    have fr := (hB.frozen (p := ⟨w0.heap.size + 1, 0, none⟩) HZ.out).trans HR1.out.2
    obtain ⟨k, hk⟩ : ∃ k, pre.length = k := ⟨_, rfl⟩
    rw [hk] at hck c7 HP hlt
    have HK := Lib.hid hk
    clear hk hcs hA' hB hp HI HN
    obtain ⟨y, hy⟩ : ∃ y, s.list.getD k 0 = y := ⟨_, rfl⟩
    rw [hy] at hck HP
    clear hy
    have hkl : ¬ n ≤ k := by omega
    by_cases hxy : x = y
    · have HX := Lib.hid (HP.out.2 hxy)
      subst hxy
      clear HP
      gi_wp2
      refine ⟨KeepsOthers.setCell _ _ _, (Below.refl _ W).setCell (p := ⟨w1.heap.size + 1 + 1, 0, none⟩) (by simp; omega) _, ⟨HX.out, ?_, ?_, ?_, ?_⟩, HBW.out.setCell (p := ⟨w1.heap.size + 1 + 1, 0, none⟩) (by simp; omega) _⟩
      · rw [World.cell?_setCell_other _ _ _ _ (by simp)]
        exact c5
      · exact HA'.out.far (p := ⟨w1.heap.size + 1 + 1, 0, none⟩) (by simp) _
      · rw [World.cell?_setCell_same' _ _ _ (by rw [c7]; rfl), List.length_append, HK.out]
        rfl
      · rw [World.frozen?_setCell]
        exact f7
    · have HX := Lib.hid (fun h => hxy (HP.out.1 h))
      have hne : (y != x) = true := by rw [bne_iff_ne]; exact fun e => hxy e.symm
      clear HP hxy
      gi_wp2
      exact ⟨KeepsOthers.setCell _ _ _, rfl, HX.out⟩
  case done =>
    rintro D1 ys W4 hD1 rfl ⟨⟨_, c5, hA4, c7, f7⟩, hB4⟩ hK1
    rw [HN.out] at c7
    have HC := Lib.hid (And.intro c5 (And.intro c7 f7))
    have HA4 := Lib.hid hA4
    have HB4 := Lib.hid hB4
    have HK1 := Lib.hid hK1
    have HD1 := Lib.hid ((Array.getElem?_eq_some_iff.1 hK1).1)
    clear hA h5 h7 hB3 c5 c7 f7 hA4 hB4 hK1
    gi_wp2
    refine wpIn_rangeFunc_ownF rfl (by omega) (gf := 30) (lb := #[.pointer (some ⟨w1.heap.size + 1, 0, none⟩)]) rfl trivial (enters_of Tryd.func30 (by kernel_rfl) rfl)
      (all_stops _ (by omega) (w1.heap.size + 1) w1.heap.size s HS.out W4 HA4.out (tab_below HT1.out HB4.out HZ1.out) HZ1.out HB4.out.size) belowK_t (belowK_b HB4.out.size) (Below.refl _ _) (fun _ => rfl)
      (MvJ A n c D1 w1) (fun _ _ _ => False) (mvJ_own A n c D1 w1 HB4.out.size HD1.out) (fun _ _ _ _ _ hs _ _ => hs)
      ⟨⟨HC.out.1, HC.out.2.1, HC.out.2.2⟩, HK1.out, HB4.out⟩
      (fun x => { tmps := #[setV s, .int .i64 d, .pointer (some ⟨w0.heap.size, 0, none⟩), undef, .pointer (some ⟨w0.heap.size + 1, 0, none⟩), .pointer (some ⟨w1.heap.size, 0, none⟩), .func (.func 30) #[] #[.pointer (some ⟨w1.heap.size + 1, 0, none⟩)], .pointer (some ⟨w1.heap.size + 1 + 1, 0, none⟩), undef, setV s, .slice A n c, setV s, .func (.func 30) #[] #[.pointer (some ⟨w1.heap.size + 1, 0, none⟩)], .func (.func 30) #[] #[.pointer (some ⟨w1.heap.size + 1, 0, none⟩)], .bool false, .func (.func 30) #[] #[.pointer (some ⟨w1.heap.size + 1, 0, none⟩)], undef, undef, undef, undef, undef, undef, undef, undef, undef, undef, undef, undef, undef, undef, undef, .func (.func 30) #[] #[.pointer (some ⟨w1.heap.size + 1, 0, none⟩)], .int .i64 x, undef, undef, undef, undef, undef, undef, undef, undef, undef, undef, undef, undef, undef, undef, undef, undef, undef, undef, undef], defers := [] }) ?assign2 ?body2 ?done2 ?stop2
    case assign2 =>
      intro l x W K hK
      gi_wp2
      exact hK
    case stop2 =>
      rintro D e pre W _ _ h _
      exact h.elim
    case body2 =>
      rintro l pre x W ⟨⟨c5, c7, f7⟩, hk1, hB⟩ hlt
      rw [HN.out] at hlt
      have hle : n ≤ 256 := HLe.out
      have HH := Lib.hid (And.intro c5 (And.intro hk1 hB))
      obtain ⟨k, hk⟩ : ∃ k, n + pre.length = k := ⟨_, rfl⟩
      rw [hk] at c7
      have hkb : k ≤ 1000 := by omega
      have HK := Lib.hid hk
      clear hk hk1 hB c5
      gi_wp2
      refine ⟨KeepsOthers.setCell _ _ _, (Below.refl _ W).setCell (p := ⟨w1.heap.size + 1 + 1, 0, none⟩) (by simp; omega) _, ⟨?_, ?_, ?_⟩, (KeepsOthers.setCell _ _ _).same D1 _ HH.out.2.1 rfl, HH.out.2.2.setCell (p := ⟨w1.heap.size + 1 + 1, 0, none⟩) (by simp; omega) _⟩
      · rw [World.cell?_setCell_other _ _ _ _ (by simp)]
        exact HH.out.1
      · rw [World.cell?_setCell_same' _ _ _ (by rw [c7]; rfl), List.length_append, ← Nat.add_assoc, HK.out]
        rfl
      · rw [World.frozen?_setCell]
        exact f7
    case done2 =>
      rintro D2 ys W5 hD2 rfl ⟨⟨c5, c7, f7⟩, hk1, hB⟩ hK2
      rw [HN.out] at c7
      obtain ⟨z, hz⟩ : ∃ z : Int, ((n + n : Nat) : Int) = z := ⟨_, rfl⟩
      rw [hz] at c7
      have hz2 : (z == 2 * (n : Int)) = true := by rw [beq_iff_eq]; omega
      have HU := Lib.hid (show IntKind.i64.wrap (2 * (n : Int)) = 2 * (n : Int) by rw [IntKind.wrap_i64]; have := HLe.out; omega)
      have H7 := Lib.hid (And.intro c7 (World.block_lt_of_cell? W5 ⟨w1.heap.size + 1 + 1, 0, none⟩ c7))
      have H5 := Lib.hid (And.intro c5 (World.block_lt_of_cell? W5 ⟨w1.heap.size, 0, none⟩ c5))
      have H4 : Hid (W5.cell? ⟨w0.heap.size + 1, 0, none⟩ = some (.bool false) ∧ W5.frozen? ⟨w0.heap.size + 1, 0, none⟩ = false ∧ w0.heap.size + 1 < W5.heap.size) :=
        Lib.hid ⟨(hB.cell (p := ⟨w0.heap.size + 1, 0, none⟩) HZ.out).trans HR1.out.1, (hB.frozen (p := ⟨w0.heap.size + 1, 0, none⟩) HZ.out).trans HR1.out.2, Nat.lt_of_lt_of_le HZ.out hB.size⟩
      have HS5 := Lib.hid (HS1.out.below hB (by have := HZ.out; omega))
      have HB5 := Lib.hid (HB1.out.trans (hB.mono HB1.out.size))
      have HT5 := Lib.hid (tab_below HT.out HB5.out HW.out)
      have HZ5 := Lib.hid (Nat.le_trans HW.out HB5.out.size)
      have HM1 := Lib.hid hk1
      have HM2 := Lib.hid hK2
      have HD2 := Lib.hid hD2
      clear hz hk1 hK2 c5 c7 f7 hB
      gi_wp2
      refine wpIn_wide.2 ?_
      refine region_m (dl := [{ target := .collected D2, args := #[] }, { target := .collected D1, args := #[] }]) 52 [(1, .int .i64 d), (2, .pointer (some ⟨w0.heap.size, 0, none⟩)), (4, .pointer (some ⟨w0.heap.size + 1, 0, none⟩)), (5, .pointer (some ⟨w1.heap.size, 0, none⟩)), (7, .pointer (some ⟨w1.heap.size + 1 + 1, 0, none⟩))] (MvC W5 w0.heap.size) (MvG s m d z A n c) (by kernel_rfl) (by kernel_rfl) (by kernel_rfl) rfl rfl (by intro p hp; simp only [List.mem_cons, List.not_mem_nil, or_false] at hp; rcases hp with rfl | rfl | rfl | rfl | rfl <;> rfl) (.inl ⟨rfl, (Below.refl _ _).drew⟩) ?_ ?_
      · refine ⟨?_, ?_, ?_, ?_, ?_, ?_, ?_, ?_, ?_, ?_, ?_, ?_, ?_, ?_, ?_, ?_, ?_, ?_, trivial⟩
        · intro D a w hI hdep hD0 K hK
          have e7 : a.eval (.tmp 7) = .pointer (some ⟨w1.heap.size + 1 + 1, 0, none⟩) := hI.fast (7, .pointer (some ⟨w1.heap.size + 1 + 1, 0, none⟩)) (by simp)
          have h17 := hI.not_up hD0 17 rfl
          have hbw := hI.world.before h17
          have hc := (hbw.cell (p := ⟨w1.heap.size + 1 + 1, 0, none⟩) H7.out.2).trans H7.out.1
          refine ok_value (wanted_none rfl) (v := .int .i64 z) ?_ (hK _ _ (hI.world.up rfl) rfl)
          have ec : ∀ c, a.eval (.const c) = c := fun _ => rfl
          have ef : ∀ f, a.eval (.func f) = .func (.func f) #[] #[] := fun _ => rfl
          clear hI hdep hK
          generalize a.eval = ρ at e7 ec ef ⊢
          go_simp
        · intro D a w hI hdep hD0 K hK
          have e5 : a.eval (.tmp 5) = .pointer (some ⟨w1.heap.size, 0, none⟩) := hI.fast (5, .pointer (some ⟨w1.heap.size, 0, none⟩)) (by simp)
          have h17 := hI.not_up hD0 17 rfl
          have hbw := hI.world.before h17
          have hc := (hbw.cell (p := ⟨w1.heap.size, 0, none⟩) H5.out.2).trans H5.out.1
          refine ok_value (wanted_none rfl) (v := .slice A n c) ?_ (hK _ _ (hI.world.up rfl) rfl)
          have ec : ∀ c, a.eval (.const c) = c := fun _ => rfl
          have ef : ∀ f, a.eval (.func f) = .func (.func f) #[] #[] := fun _ => rfl
          clear hI hdep hK
          generalize a.eval = ρ at e5 ec ef ⊢
          go_simp
        · intro D a w hI hdep hD0 K hK
          have e36 : a.eval (.tmp 36) = .slice A n c := hI.good 1 36 (dep_of hdep 1 rfl) rfl
          refine ok_value (wanted_none rfl) (v := .int .i64 (n : Int)) ?_ (hK _ _ (hI.world.up rfl) rfl)
          have ec : ∀ c, a.eval (.const c) = c := fun _ => rfl
          have ef : ∀ f, a.eval (.func f) = .func (.func f) #[] #[] := fun _ => rfl
          clear hI hdep hK
          generalize a.eval = ρ at e36 ec ef ⊢
          go_simp
        · intro D a w hI hdep hD0 K hK
          have e37 : a.eval (.tmp 37) = .int .i64 (n : Int) := hI.good 2 37 (dep_of hdep 2 rfl) rfl
          have hu1 := HU.out
          refine ok_value (wanted_none rfl) (v := .int .i64 (2 * (n : Int))) ?_ (hK _ _ (hI.world.up rfl) rfl)
          have ec : ∀ c, a.eval (.const c) = c := fun _ => rfl
          have ef : ∀ f, a.eval (.func f) = .func (.func f) #[] #[] := fun _ => rfl
          clear hI hdep hK
          generalize a.eval = ρ at e37 ec ef ⊢
          go_simp
        · intro D a w hI hdep hD0 K hK
          have e35 : a.eval (.tmp 35) = .int .i64 z := hI.good 0 35 (dep_of hdep 0 rfl) rfl
          have e38 : a.eval (.tmp 38) = .int .i64 (2 * (n : Int)) := hI.good 3 38 (dep_of hdep 3 rfl) rfl
          refine ok_value (wanted_none rfl) (v := .bool true) ?_ (hK _ _ (hI.world.up rfl) rfl)
          have ec : ∀ c, a.eval (.const c) = c := fun _ => rfl
          have ef : ∀ f, a.eval (.func f) = .func (.func f) #[] #[] := fun _ => rfl
          clear hI hdep hK
          generalize a.eval = ρ at e35 e38 ec ef ⊢
          go_simp
        · intro D a w hI hdep hD0 K hK
          have e39 : a.eval (.tmp 39) = .bool true := hI.good 4 39 (dep_of hdep 4 rfl) rfl
          refine ok_value (wanted_none rfl) (v := .bool true) ?_ (hK _ _ (hI.world.up rfl) rfl)
          have ec : ∀ c, a.eval (.const c) = c := fun _ => rfl
          have ef : ∀ f, a.eval (.func f) = .func (.func f) #[] #[] := fun _ => rfl
          clear hI hdep hK
          generalize a.eval = ρ at e39 ec ef ⊢
          go_simp
        · intro D a w hI hdep hD0 K hK
          have eg : a.eval (.tmp 40) = .bool true := hI.good 5 40 (dep_of hdep 5 rfl) rfl
          have e2 : a.eval (.tmp 2) = .pointer (some ⟨w0.heap.size, 0, none⟩) := hI.fast (2, .pointer (some ⟨w0.heap.size, 0, none⟩)) (by simp)
          have h17 := hI.not_up hD0 17 rfl
          have hbw := hI.world.before h17
          obtain ⟨⟨c0, c1, c2, c3⟩, _⟩ := (HS5.out.below hbw HS5.out.lt).reads
          refine ok_value (wanted_is rfl rfl hI.size (by decide) eg) (v := setV s) ?_ (hK _ _ (hI.world.up rfl) rfl)
          have ec : ∀ c, a.eval (.const c) = c := fun _ => rfl
          have ef : ∀ f, a.eval (.func f) = .func (.func f) #[] #[] := fun _ => rfl
          clear hI hdep hK
          generalize a.eval = ρ at eg e2 ec ef ⊢
          go_simp
        · intro D a w hI hdep hD0 K hK
          have eg : a.eval (.tmp 40) = .bool true := hI.good 5 40 (dep_of hdep 5 rfl) rfl
          have e1 : a.eval (.tmp 1) = .int .i64 d := hI.fast (1, .int .i64 d) (by simp)
          refine ok_value (wanted_is rfl rfl hI.size (by decide) eg) (v := .int .i64 d) ?_ (hK _ _ (hI.world.up rfl) rfl)
          have ec : ∀ c, a.eval (.const c) = c := fun _ => rfl
          have ef : ∀ f, a.eval (.func f) = .func (.func f) #[] #[] := fun _ => rfl
          clear hI hdep hK
          generalize a.eval = ρ at eg e1 ec ef ⊢
          go_simp
        · intro D a w hI hdep hD0 K hK
          have eg : a.eval (.tmp 40) = .bool true := hI.good 5 40 (dep_of hdep 5 rfl) rfl
          have e41 : a.eval (.tmp 41) = setV s := hI.good 6 41 (dep_of hdep 6 rfl) rfl
          have e42 : a.eval (.tmp 42) = .int .i64 d := hI.good 7 42 (dep_of hdep 7 rfl) rfl
          have h17 := hI.not_up hD0 17 rfl
          have hbw := hI.world.before h17
          refine ok_call (wanted_is rfl rfl hI.size (by decide) eg) (f := 26) (args := #[setV s, .int .i64 d]) ?_ (HMv.out w (tab_below HT5.out hbw HZ5.out) (Nat.le_trans HZ5.out hbw.size)) ?_
          · have ec : ∀ c, a.eval (.const c) = c := fun _ => rfl
            have ef : ∀ f, a.eval (.func f) = .func (.func f) #[] #[] := fun _ => rfl
            clear hI hdep hK
            generalize a.eval = ρ at eg e41 e42 ec ef ⊢
            go_simp
          rintro e w2 ⟨rfl, hb2⟩
          exact ⟨_, rfl, hK _ _ (MvC.call hbw hb2 h17 rfl) rfl⟩
        · intro D a w hI hdep hD0 K hK
          have eg : a.eval (.tmp 40) = .bool true := hI.good 5 40 (dep_of hdep 5 rfl) rfl
          have e2 : a.eval (.tmp 2) = .pointer (some ⟨w0.heap.size, 0, none⟩) := hI.fast (2, .pointer (some ⟨w0.heap.size, 0, none⟩)) (by simp)
          have h17 := hI.not_up hD0 17 rfl
          have hbw := hI.world.before h17
          obtain ⟨⟨c0, c1, c2, c3⟩, _⟩ := (HS5.out.below hbw HS5.out.lt).reads
          refine ok_value (wanted_is rfl rfl hI.size (by decide) eg) (v := setV s) ?_ (hK _ _ (hI.world.up rfl) rfl)
          have ec : ∀ c, a.eval (.const c) = c := fun _ => rfl
          have ef : ∀ f, a.eval (.func f) = .func (.func f) #[] #[] := fun _ => rfl
          clear hI hdep hK
          generalize a.eval = ρ at eg e2 ec ef ⊢
          go_simp
        · intro D a w hI hdep hD0 K hK
          have eg : a.eval (.tmp 40) = .bool true := hI.good 5 40 (dep_of hdep 5 rfl) rfl
          have e1 : a.eval (.tmp 1) = .int .i64 d := hI.fast (1, .int .i64 d) (by simp)
          refine ok_value (wanted_is rfl rfl hI.size (by decide) eg) (v := .int .i64 d) ?_ (hK _ _ (hI.world.up rfl) rfl)
          have ec : ∀ c, a.eval (.const c) = c := fun _ => rfl
          have ef : ∀ f, a.eval (.func f) = .func (.func f) #[] #[] := fun _ => rfl
          clear hI hdep hK
          generalize a.eval = ρ at eg e1 ec ef ⊢
          go_simp
        · intro D a w hI hdep hD0 K hK
          have eg : a.eval (.tmp 40) = .bool true := hI.good 5 40 (dep_of hdep 5 rfl) rfl
          have e44 : a.eval (.tmp 44) = setV s := hI.good 9 44 (dep_of hdep 9 rfl) rfl
          have e45 : a.eval (.tmp 45) = .int .i64 d := hI.good 10 45 (dep_of hdep 10 rfl) rfl
          have h17 := hI.not_up hD0 17 rfl
          have hbw := hI.world.before h17
          refine ok_call (wanted_is rfl rfl hI.size (by decide) eg) (f := 27) (args := #[setV s, .int .i64 d]) ?_ (HRMv.out w) ?_
          · have ec : ∀ c, a.eval (.const c) = c := fun _ => rfl
            have ef : ∀ f, a.eval (.func f) = .func (.func f) #[] #[] := fun _ => rfl
            clear hI hdep hK
            generalize a.eval = ρ at eg e44 e45 ec ef ⊢
            go_simp
          rintro e w2 ⟨rfl, hb2⟩
          exact ⟨_, rfl, hK _ _ (MvC.call hbw hb2 h17 rfl) rfl⟩
        · intro D a w hI hdep hD0 K hK
          have eg : a.eval (.tmp 40) = .bool true := hI.good 5 40 (dep_of hdep 5 rfl) rfl
          have e43 : a.eval (.tmp 43) = setV m := hI.good 8 43 (dep_of hdep 8 rfl) rfl
          have e46 : a.eval (.tmp 46) = setV m := hI.good 11 46 (dep_of hdep 11 rfl) rfl
          have eq := eq_same m
          refine ok_value (wanted_is rfl rfl hI.size (by decide) eg) (v := .bool true) ?_ (hK _ _ (hI.world.up rfl) rfl)
          have ec : ∀ c, a.eval (.const c) = c := fun _ => rfl
          have ef : ∀ f, a.eval (.func f) = .func (.func f) #[] #[] := fun _ => rfl
          clear hI hdep hK
          generalize a.eval = ρ at eg e43 e46 ec ef ⊢
          go_simp
        · intro D a w hI hdep hD0 K hK
          have e40 : a.eval (.tmp 40) = .bool true := hI.good 5 40 (dep_of hdep 5 rfl) rfl
          have e47 : a.eval (.tmp 47) = .bool true := hI.good 12 47 (dep_of hdep 12 rfl) rfl
          refine ok_value (wanted_none rfl) (v := .bool true) ?_ (hK _ _ (hI.world.up rfl) rfl)
          have ec : ∀ c, a.eval (.const c) = c := fun _ => rfl
          have ef : ∀ f, a.eval (.func f) = .func (.func f) #[] #[] := fun _ => rfl
          clear hI hdep hK
          generalize a.eval = ρ at e40 e47 ec ef ⊢
          go_simp
        · intro D a w hI hdep hD0 K hK
          have e48 : a.eval (.tmp 48) = .bool true := hI.good 13 48 (dep_of hdep 13 rfl) rfl
          refine ok_value (wanted_none rfl) (v := .bool true) ?_ (hK _ _ (hI.world.up rfl) rfl)
          have ec : ∀ c, a.eval (.const c) = c := fun _ => rfl
          have ef : ∀ f, a.eval (.func f) = .func (.func f) #[] #[] := fun _ => rfl
          clear hI hdep hK
          generalize a.eval = ρ at e48 ec ef ⊢
          go_simp
        · intro D a w hI hdep hD0 K hK
          have eg : a.eval (.tmp 49) = .bool true := hI.good 14 49 (dep_of hdep 14 rfl) rfl
          have h17 := hI.not_up hD0 17 rfl
          have hbw := hI.world.before h17
          refine ok_call (wanted_is rfl rfl hI.size (by decide) eg) (f := 7) (args := #[]) ?_ (lives_any w (tab_below HT5.out hbw HZ5.out) (Nat.le_trans HZ5.out hbw.size)) ?_
          · have ec : ∀ c, a.eval (.const c) = c := fun _ => rfl
            have ef : ∀ f, a.eval (.func f) = .func (.func f) #[] #[] := fun _ => rfl
            clear hI hdep hK
            generalize a.eval = ρ at eg ec ef ⊢
            go_simp
          rintro e w2 ⟨rfl, hb2⟩
          exact ⟨_, rfl, hK _ _ (MvC.call hbw hb2 h17 rfl) rfl⟩
        · intro D a w hI hdep hD0 K hK
          have e49 : a.eval (.tmp 49) = .bool true := hI.good 14 49 (dep_of hdep 14 rfl) rfl
          have e50 : a.eval (.tmp 50) = .bool true := hI.good 15 50 (dep_of hdep 15 rfl) rfl
          refine ok_value (wanted_none rfl) (v := .bool true) ?_ (hK _ _ (hI.world.up rfl) rfl)
          have ec : ∀ c, a.eval (.const c) = c := fun _ => rfl
          have ef : ∀ f, a.eval (.func f) = .func (.func f) #[] #[] := fun _ => rfl
          clear hI hdep hK
          generalize a.eval = ρ at e49 e50 ec ef ⊢
          go_simp
        · intro D a w hI hdep hD0 K hK
          have e51 : a.eval (.tmp 51) = .bool true := hI.good 16 51 (dep_of hdep 16 rfl) rfl
          have e4 : a.eval (.tmp 4) = .pointer (some ⟨w0.heap.size + 1, 0, none⟩) := hI.fast (4, .pointer (some ⟨w0.heap.size + 1, 0, none⟩)) (by simp)
          have hbw := hI.world.before hD0
          have hc := (hbw.cell (p := ⟨w0.heap.size + 1, 0, none⟩) H4.out.2.2).trans H4.out.1
          have hf := (hbw.frozen (p := ⟨w0.heap.size + 1, 0, none⟩) H4.out.2.2).trans H4.out.2.1
          refine ok_store (wanted_none rfl) (w' := w.setCell ⟨w0.heap.size + 1, 0, none⟩ (.bool true)) ?_ (hK _ _ (MvC.stored hbw) trivial)
          have ec : ∀ c, a.eval (.const c) = c := fun _ => rfl
          have ef : ∀ f, a.eval (.func f) = .func (.func f) #[] #[] := fun _ => rfl
          clear hI hdep hK
          generalize a.eval = ρ at e51 e4 ec ef ⊢
          go_simp
      · intro D a w2 hI hD
        have hd := hI.defers
        have hC := hI.world
        have e4 : a.eval (.tmp 4) = .pointer (some ⟨w0.heap.size + 1, 0, none⟩) := hI.fast (4, .pointer (some ⟨w0.heap.size + 1, 0, none⟩)) (by simp)
        obtain ⟨tmps, defers⟩ := a
        simp only at hd
        subst hd
        clear hI
        rcases hC with ⟨h, _⟩ | ⟨_, W6, hb6, rfl⟩
        · rw [hD 17 (by decide)] at h
          cases h
        clear hD
        have HB6 := Lib.hid hb6
        clear hb6
        gi_wp2
        have hKO := KeepsOthers.setCell W6 ⟨w0.heap.size + 1, 0, none⟩ (.bool true)
        have hm2 := hKO.same D2 _ ((HB6.out.block D2 (Array.getElem?_eq_some_iff.1 HM2.out).1).trans HM2.out) rfl
        have hm1 := hKO.same D1 _ ((HB6.out.block D1 (Array.getElem?_eq_some_iff.1 HM1.out).1).trans HM1.out) rfl
        have hm1' := mark_other (D2 := D2) (o' := .deferred none) hm1 (by have := HD1.out; have := HD2.out; omega)
        refine ⟨by simp, .inl ⟨_, _, rfl, run_takeDeferred hm2, ?_⟩⟩
        refine ⟨by simp, .inl ⟨_, _, rfl, run_takeDeferred hm1', ?_⟩⟩
        have hc := World.cell?_setCell_same' W6 ⟨w0.heap.size + 1, 0, none⟩ (.bool true) (by rw [(HB6.out.cell (p := ⟨w0.heap.size + 1, 0, none⟩) H4.out.2.2).trans H4.out.1]; rfl)
        have hc2 := cell_kept hc (grownBy_putObj' _ D2 (.deferred none)) (fun r e => by cases e; exact ⟨_, hm2, rfl⟩)
        have hc3 := cell_kept hc2 (grownBy_putObj' _ D1 (.deferred none)) (fun r e => by cases e; exact ⟨_, hm1', rfl⟩)
        have hbl : Below w0.heap.size w0 (W6.setCell ⟨w0.heap.size + 1, 0, none⟩ (.bool true)) := (HB5.out.trans (HB6.out.mono HB5.out.size)).setCell (p := ⟨w0.heap.size + 1, 0, none⟩) (by simp) _
        refine ⟨.bool true, ?_, rfl, (hbl.trans (belowK_b (w := w0) (Nat.le_refl _) _ D2 _ _ ?_ hm2 rfl rfl)).trans (belowK_b (w := w0) (Nat.le_refl _) _ D1 _ _ ?_ hm1' rfl rfl)⟩
        · have e4' : tmps[4]?.getD undef = .pointer (some ⟨w0.heap.size + 1, 0, none⟩) := by rw [← Array.getD_eq_getD_getElem?]; exact e4
          simp only [results, Tryd.results6]
          simp [go_sem, e4', hc3]
        · have := HD2.out
          have := HB1.out.size
          have := HB4.out.size
          omega
        · have h1 := hD1
          have := HB1.out.size
          simp at h1
          omega
end Go.Proofs.YtmeajdlgaipfiaaDoor
