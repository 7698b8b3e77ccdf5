/-
  The walk of InstrPuts. Conditions: an operand of its type; the bytes can be read; the library's variables are laid.
-/
import Derived.Test.YtipeefmmnfbcoaaDoorInP
import Derived.Test.YtipeefmmnfbcoaaDoorInM
namespace Go.Proofs.YtipeefmmnfbcoaaDoor
open Go.RowKit

/-- What is owned, as bytes that can be read. -/
theorem own_at {w : World} {base n : Nat} {v : Value} {l : List Nat} (h : w.ownsRow base 5 1 v n (bs l)) (hb : ∀ c ∈ l, c < 256) : ∃ A c, v = .slice A n c ∧ BytesAt w w.heap.size A n l ∧ n ≤ c ∧ c ≤ 9223372036854775807 := by
  have hl : l.length = n := by have := h.1; rw [bs_length] at this; omega
  rcases h.2 with ⟨rfl, h0⟩ | ⟨g, cap, cur, rfl, _, hg, hnc, hcm, _, ht⟩
  · subst h0
    obtain rfl : l = [] := List.eq_nil_of_length_eq_zero hl
    exact ⟨none, 0, rfl, ⟨rfl, by simp, by simp⟩, Nat.le_refl _, by omega⟩
  · unfold maxLen at hcm
    exact ⟨_, cap, rfl, bytesAt_own hg hl (by simpa using ht) hb, hnc, by omega⟩
theorem own_conv {w : World} {base n : Nat} {v : Value} {l : List Nat} (h : w.ownsRow base 5 1 v n (bs l)) : (convert 25 9 v).run Tryd.prog w = .ok (.string (str l)) w := by
  have hl : l.length = n := by have := h.1; rw [bs_length] at this; omega
  rcases h.2 with ⟨rfl, h0⟩ | ⟨g, cap, cur, rfl, _, hg, hnc, hcm, _, ht⟩
  · subst h0
    obtain rfl : l = [] := List.eq_nil_of_length_eq_zero hl
    exact conv_nil w
  · exact conv_own hg hl (by simpa using ht)

/-- The world while the law's first statement runs: what was made ahead of Put, by append, by Put. -/
structure PtC (n1 k : Nat) (l pb : List Nat) (w1 : World) (u : Value × Value × Value) (D : Nat → Bool) (W : World) : Prop where
  base : Below w1.heap.size w1 W
  own0 : D 0 = true → D 2 = false → W.ownsRow w1.heap.size 5 1 u.1 0 []
  own2 : D 2 = true → D 4 = false → W.ownsRow w1.heap.size 5 1 u.2.1 n1 (bs l)
  own4 : D 4 = true → W.ownsRow w1.heap.size 5 1 u.2.2 k (bs (l ++ pb))

section
variable {n1 k : Nat} {l pb : List Nat} {w1 : World} {u : Value × Value × Value} {D : Nat → Bool} {W : World}
theorem PtC.up (h : PtC n1 k l pb w1 u D W) {i : Nat} (h0 : (0 == i) = false) (h2 : (2 == i) = false) (h4 : (4 == i) = false) : PtC n1 k l pb w1 u (add D i) W :=
  ⟨h.base, by rw [up_other h0, up_other h2]; exact h.own0, by rw [up_other h2, up_other h4]; exact h.own2, by rw [up_other h4]; exact h.own4⟩
theorem PtC.below (h : PtC n1 k l pb w1 u D W) {W' : World} (hb : Below W.heap.size W W') : PtC n1 k l pb w1 u D W' :=
  ⟨h.base.trans (hb.mono h.base.size), fun a b => ownsRow_below (h.own0 a b) hb, fun a b => ownsRow_below (h.own2 a b) hb, fun a => ownsRow_below (h.own4 a) hb⟩
theorem PtC.cell0 (h : PtC n1 k l pb w1 u D W) {p i : Nat} {v : Value} (q : w1.cell? ⟨p, i, none⟩ = some v) (hp : p < w1.heap.size) : W.cell? ⟨p, i, none⟩ = some v := (h.base.cell (p := ⟨p, i, none⟩) hp).trans q
theorem PtC.new (h : PtC n1 k l pb w1 u D W) (h2 : D 2 = false) (h4 : D 4 = false) : PtC n1 k l pb w1 (.slice (some ⟨W.heap.size, 0, none⟩) 0 0, u.2) (add D 0) (W.alloc (.cells #[] 5)) :=
  ⟨h.base.alloc h.base.size _, fun _ _ => World.ownsRow_lit W #[] 0 h.base.size (by decide) rfl, (by rw [up_other rfl, h2]; intro e; cases e), (by rw [up_other rfl, h4]; intro e; cases e)⟩
theorem PtC.app (h : PtC n1 k l pb w1 u D W) {v v2 : Value} {W' : World} (hown : W.ownsRow w1.heap.size 5 1 v 0 []) (hown2 : W'.ownsRow w1.heap.size 5 1 v2 n1 (bs l)) (hg : W.grownBy W' v.ownBlock) (h4 : D 4 = false) : PtC n1 k l pb w1 (u.1, v2, u.2.2) (add D 2) W' :=
  ⟨h.base.grown hg h.base.size (fun j hj => (hown.lt j hj).1), (by rw [show add D 2 2 = true by simp [add]]; intro _ e; cases e), fun _ _ => hown2, (by rw [up_other rfl, h4]; intro e; cases e)⟩
theorem PtC.put (h : PtC n1 k l pb w1 u D W) {v v2 : Value} {W' : World} (hown : W.ownsRow w1.heap.size 5 1 v n1 (bs l)) (hinv : OwnInv w1.heap.size W v v2 (n1 + pb.length) (bs l ++ bs pb) W') (hk : k = n1 + pb.length := by rfl) (hD : D 2 = true) : PtC n1 k l pb w1 (u.1, u.2.1, v2) (add D 4) W' := by
  subst hk
  refine ⟨h.base.trans (hinv.below hown h.base.size), (by rw [up_other rfl]; intro _ e; rw [up_other rfl, hD] at e; cases e), (by rw [show add D 4 4 = true by simp [add]]; intro _ e; cases e), fun _ => ?_⟩
  have := hinv.1
  rw [← bs_append] at this
  exact this
end

def PtG (x y : Int) (a1 : Option Addr) (n1 c1 : Nat) (A5 : Option Addr) (m5 c5 : Nat) (sA sL sP tx : ByteArray) (r : Bool) (u : Value × Value × Value) : Nat → Value → Prop
  | 0, v => v = u.1
  | 1, v => v = .slice a1 n1 c1
  | 2, v => v = u.2.1
  | 3, v => v = .agg #[.int .i64 x, .int .i64 y]
  | 4, v => v = u.2.2
  | 5, v => v = .string sA
  | 6, v => v = .slice a1 n1 c1
  | 7, v => v = .string sL
  | 8, v => v = .slice A5 m5 c5
  | 9, v => v = .string sP
  | 10, v => v = .string sA
  | 11, v => v = .bool false
  | 12, v => v = .bool false
  | 13, v => v = .agg #[.int .i64 x, .int .i64 y]
  | 14, v => v = .bool r
  | 15, v => v = .agg #[.int .i64 x, .int .i64 y]
  | 16, v => v = .bool r
  | 17, v => v = .bool false
  | 18, v => v = .bool false
  | 19, v => v = .bool false
  | 20, v => v = .agg #[.int .i64 x, .int .i64 y]
  | 21, v => v = .string tx
  | 22, v => v = .agg #[.int .i64 x, .int .i64 y]
  | 23, v => v = .string tx
  | 24, v => v = .bool false
  | 25, v => v = .bool false
  | _, _ => True

theorem PtG_new {x y : Int} {a1 : Option Addr} {n1 c1 : Nat} {A5 : Option Addr} {m5 c5 : Nat} {sA sL sP tx : ByteArray} {r : Bool} {u : Value × Value × Value} {v z : Value} {D : Nat → Bool} {j : Nat} (hD0 : D 0 = false) (hj : D j = true) (h : PtG x y a1 n1 c1 A5 m5 c5 sA sL sP tx r u j z) : PtG x y a1 n1 c1 A5 m5 c5 sA sL sP tx r (v, u.2) j z := by
  by_cases e : j = 0
  · subst e
    rw [hD0] at hj
    cases hj
  · unfold PtG at h ⊢
    split at h <;> first | exact h | exact absurd rfl e

theorem PtG_app {x y : Int} {a1 : Option Addr} {n1 c1 : Nat} {A5 : Option Addr} {m5 c5 : Nat} {sA sL sP tx : ByteArray} {r : Bool} {u : Value × Value × Value} {v z : Value} {D : Nat → Bool} {j : Nat} (hD0 : D 2 = false) (hj : D j = true) (h : PtG x y a1 n1 c1 A5 m5 c5 sA sL sP tx r u j z) : PtG x y a1 n1 c1 A5 m5 c5 sA sL sP tx r (u.1, v, u.2.2) j z := by
  by_cases e : j = 2
  · subst e
    rw [hD0] at hj
    cases hj
  · unfold PtG at h ⊢
    split at h <;> first | exact h | exact absurd rfl e

theorem PtG_put {x y : Int} {a1 : Option Addr} {n1 c1 : Nat} {A5 : Option Addr} {m5 c5 : Nat} {sA sL sP tx : ByteArray} {r : Bool} {u : Value × Value × Value} {v z : Value} {D : Nat → Bool} {j : Nat} (hD0 : D 4 = false) (hj : D j = true) (h : PtG x y a1 n1 c1 A5 m5 c5 sA sL sP tx r u j z) : PtG x y a1 n1 c1 A5 m5 c5 sA sL sP tx r (u.1, u.2.1, v) j z := by
  by_cases e : j = 4
  · subst e
    rw [hD0] at hj
    cases hj
  · unfold PtG at h ⊢
    split at h <;> first | exact h | exact absurd rfl e

/-- The world while the law's last statement runs: behind operation 1 the cursor has gone on. -/
structure PuC (g p j7 : Nat) (pb : List Nat) (x y : Int) (w3 : World) (D : Nat → Bool) (W : World) : Prop where
  cur : Cur W g (if D 1 = true then ([], 0) else (pb, 0))
  i2 : Ins W p x y
  i7 : Ins W j7 x y
  row : w3.grownBy W (some g)

section
variable {g p j7 : Nat} {pb : List Nat} {x y : Int} {w3 : World} {D : Nat → Bool} {W : World}
theorem PuC.up (h : PuC g p j7 pb x y w3 D W) {i : Nat} (hi : (1 == i) = false) : PuC g p j7 pb x y w3 (add D i) W := ⟨by rw [up_other hi]; exact h.cur, h.i2, h.i7, h.row⟩
theorem PuC.curB (h : PuC g p j7 pb x y w3 D W) (hD : D 1 = false) : Cur W g (pb, 0) := by
  have := h.cur
  rw [hD] at this
  exact this
theorem PuC.curA (h : PuC g p j7 pb x y w3 D W) (hD : D 1 = true) : Cur W g ([], 0) := by
  have := h.cur
  rw [hD] at this
  exact this
theorem PuC.took (h : PuC g p j7 pb x y w3 D W) {B : Nat} (hN : g ≠ p ∧ g ≠ j7 ∧ B ≤ g) {W' : World} (hc : Cur W' g ([], 0)) (hg : W.grownBy W' (some g)) : PuC g p j7 pb x y w3 (add D 1) W' :=
  ⟨by rw [show add D 1 1 = true by simp [add]]; exact hc, h.i2.kept hg hN.1, h.i7.kept hg hN.2.1, Lib.grownBy_trans h.row hg⟩
theorem PuC.below (h : PuC g p j7 pb x y w3 D W) {W' : World} (hb : Below W.heap.size W W') : PuC g p j7 pb x y w3 D W' :=
  ⟨kept_below h.cur hb, h.i2.on hb, h.i7.on hb, Lib.grownBy_below h.row hb⟩
end

theorem in_end0 (g : Nat) (w : World) (h : Cur w g ([], 0)) : Calls Tryd.prog 16 #[.pointer (some ⟨g, 0, none⟩)] w fun e w' => e = .returned (.int .i64 0) ∧ w' = w := by
  refine (end_any (some ⟨g, 0, none⟩) ([], 0) w (.inr ⟨g, rfl, h⟩)).mono ?_
  rintro e w' ⟨rfl, ⟨_, rfl⟩ | ⟨hx, _⟩⟩
  · exact ⟨rfl, rfl⟩
  · cases hx

namespace In
/-- What was put is taken. -/
theorem take_bytes {x y : Int} (h : right x y = true) (h0 : -9223372036854775808 ≤ y) (h1 : y ≤ 9223372036854775807) : take (bytes x y, 0) = ((x, y), ([], 0)) := by
  have hk := right_known h
  obtain ⟨k, rfl⟩ := Int.eq_ofNat_of_zero_le hk.1
  have hkn : known (k : Int) = true := known_iff.2 hk
  cases hn : numbered (k : Int) with
  | false =>
    have hy := right_bare h hn
    subst hy
    have hb : bytes (k : Int) 0 = [k] := by unfold bytes; rw [h, hn]; rfl
    rw [hb]
    have hB : byteA ([k], 0) = (k, [], 0) := rfl
    rw [take_bare hB hkn hn]
    rfl
  | true =>
    have hb : bytes (k : Int) y = k :: Uv.put (Uv.fold y) := by unfold bytes; rw [h, hn]; rfl
    rw [hb]
    have hB : byteA (k :: Uv.put (Uv.fold y), 0) = (k, Uv.put (Uv.fold y), 0) := rfl
    have hi := intA_put h0 h1 []
    rw [List.append_nil] at hi
    rw [take_both hB hkn hn hi h]
    rfl
theorem text_size {x y : Int} (h0 : -9223372036854775808 ≤ y) (h1 : y ≤ 9223372036854775807) : (text x y).size ≤ 43 := by
  unfold text
  have hs1 := name_size x
  have hs2 := txt_size y h0 h1
  split
  · split
    · rw [ByteArray.size_append, ByteArray.size_append]
      have : (ByteArray.mk #[32]).size = 1 := rfl
      omega
    · omega
  · exact Nat.zero_le _
end In

def PuG (g : Nat) (x y : Int) (_ : Unit) : Nat → Value → Prop
  | 0, v => v = .pointer (some ⟨g, 0, none⟩)
  | 1, v => v = .agg #[.int .i64 x, .int .i64 y]
  | 2, v => v = .agg #[.int .i64 x, .int .i64 y]
  | 3, v => v = .bool true
  | 4, v => v = .bool true
  | 5, v => v = .pointer (some ⟨g, 0, none⟩)
  | 6, v => v = .int .i64 0
  | 7, v => v = .bool true
  | 8, v => v = .bool true
  | 9, v => v = .bool true
  | 10, v => v = .agg #[.int .i64 x, .int .i64 y]
  | 11, v => v = .agg #[.int .i64 x, .int .i64 y]
  | 12, v => v = .bool true
  | 13, v => v = .bool true
  | 14, v => v = .bool true
  | 15, v => v = .int .i64 0
  | 16, v => v = .bool true
  | 17, v => v = .bool true
  | 18, v => v = .bool true
  | 19, v => v = .bool true
  | 20, v => v = .bool true
  | 21, v => v = .bool true
  | _, _ => True

set_option maxHeartbeats 8000000 in
set_option maxRecDepth 100000 in
theorem instrPuts_walk (x y : Int) (a1 : Option Addr) (n1 c1 : Nat) (l : List Nat) (w : World) (hy0 : -9223372036854775808 ≤ y) (hy1 : y ≤ 9223372036854775807) (hb : BytesAt w w.heap.size a1 n1 l) (hnil : a1 = none → c1 = 0) (hg : Glob w) : Calls Tryd.prog 3 #[.agg #[.int .i64 x, .int .i64 y], .slice a1 n1 c1] w (BoolP true w) := by
  have HG := Lib.hid hg
  have B0 := Lib.hid ((Below.refl w.heap.size w).alloc (Nat.le_refl _) (.cells #[.int .i64 x, .int .i64 y] 24))
  have I0 := Lib.hid (Ins.new w x y)
  clear hg
  by_cases h50 : n1 ≤ 50
  · have hd50 : decide (50 < (n1 : Int)) = false := decide_eq_false (by omega)
    have HPt := rinput_any x y (w.alloc (.cells #[.int .i64 x, .int .i64 y] 24)) hy0 hy1
    have HBy := Lib.hid hb
    clear hb
    go_enter Tryd.func3, Tryd.ntmps3
    go_wp2_with fail
    refine HPt.mono ?_
    rintro _ w1 ⟨v5, rfl, hown5, b1⟩
    obtain ⟨A5, c5, rfl, hb5, hc5, hc5m⟩ := own_at hown5 (In.bytes_byte x y)
    obtain ⟨m5, hm5⟩ : ∃ m, (In.bytes x y).length = m := ⟨_, rfl⟩
    rw [hm5] at hb5 hc5 ⊢
    have HM5 := Lib.hid hm5
    have I1 := I0.out.on b1
    have q0 := I1.c0
    have q1 := I1.c1
    have hlp := I1.lt
    have B1 := Lib.hid (below_self B0.out b1)
    have HG1 := Lib.hid (HG.out.below B1.out)
    have HI1 := Lib.hid I1
    have hbl := HBy.out.below B1.out
    have hbA := hbl.more B1.out.size
    have HB5 := Lib.hid (And.intro hb5 (And.intro hc5 hc5m))
    clear HPt hown5 hm5 I1 b1 hbl hc5 hc5m
    have HR1 := Lib.hid (inright_any x y)
    have HR2 := Lib.hid (rinright_any x y)
    obtain ⟨r, hr⟩ : ∃ r, In.right x y = r := ⟨_, rfl⟩
    rw [hr] at HR1 HR2
    have HRr := Lib.hid hr
    have HT1 := Lib.hid (fun W hW => intext_any x y hy0 hy1 W hW)
    have HT2 := Lib.hid (fun W => rintext_any x y hy0 hy1 W)
    unfold StrP at HT1 HT2
    obtain ⟨tx, htx⟩ : ∃ t, In.text x y = t := ⟨_, rfl⟩
    rw [htx] at HT1 HT2
    have HTx := Lib.hid htx
    have htd : (tx.toList == tx.toList) = true := beq_self_eq_true _
    obtain ⟨sA, hsA⟩ : ∃ t, str (l ++ In.bytes x y) = t := ⟨_, rfl⟩
    obtain ⟨sL, hsL⟩ : ∃ t, str l = t := ⟨_, rfl⟩
    obtain ⟨sP, hsP⟩ : ∃ t, str (In.bytes x y) = t := ⟨_, rfl⟩
    have HSA := Lib.hid hsA
    have HSL := Lib.hid hsL
    have HSP := Lib.hid hsP
    have hcat : sL ++ sP = sA := by rw [← hsA, ← hsL, ← hsP, str_append]
    have hzL : sL.size ≤ 50 := by rw [← hsL, str_size, hbA.1]; exact h50
    have hzP : sP.size ≤ 11 := by rw [← hsP, str_size]; exact In.bytes_len hy0 hy1
    have hsd : (sA.toList == sA.toList) = true := beq_self_eq_true _
    have hx : (x == x) = true := beq_self_eq_true x
    have hy : (y == y) = true := beq_self_eq_true y
    have hrr : (r == r) = true := by cases r <;> rfl
    clear hr htx hsA hsL hsP
    go_wp2
    obtain ⟨p, hp⟩ : ∃ p, w.heap.size = p := ⟨_, rfl⟩
    rw [hp] at q0 q1 hlp ⊢
    have HP := Lib.hid hp
    clear hp
    have hS : PtC n1 (n1 + (In.bytes x y).length) l (In.bytes x y) w1 (undef, undef, undef) (fun _ => false) w1.drew := ⟨(Below.refl _ _).drew, (fun e => by cases e), (fun e => by cases e), (fun e => by cases e)⟩
    refine region_k (undef, undef, undef) 76 (fun u D W => PtC n1 (n1 + (In.bytes x y).length) l (In.bytes x y) w1 u D W) (PtG x y a1 n1 c1 A5 m5 c5 sA sL sP tx r) (by kernel_rfl) (by kernel_rfl) (by kernel_rfl) rfl rfl hS ?_ ?_
    · refine ⟨?_, ?_, ?_, ?_, ?_, ?_, ?_, ?_, ?_, ?_, ?_, ?_, ?_, ?_, ?_, ?_, ?_, ?_, ?_, ?_, ?_, ?_, ?_, ?_, ?_, ?_, trivial⟩
      · intro u D a w hI hdep hD0 K hK
        refine ok_new (wanted_none rfl) (v := .slice (some ⟨w.heap.size, 0, none⟩) 0 0) (w' := w.alloc (.cells #[] 5)) (by go_simp) ?_
        exact hK (.slice (some ⟨w.heap.size, 0, none⟩) 0 0, u.2) _ _ (hI.world.new (hI.not_up hD0 2 rfl) (hI.not_up (hI.not_up hD0 2 rfl) 4 rfl)) (fun j z hj h => PtG_new hD0 hj h) rfl
      · intro u D a w hI hdep hD0 K hK
        have e1 : a.eval (.tmp 1) = .slice a1 n1 c1 := hI.read 1 rfl
        refine ok_value (wanted_none rfl) (v := .slice a1 n1 c1) ?_ (hK u _ _ (hI.world.up rfl rfl rfl) (fun _ _ _ h => h) rfl)
        have ec : ∀ c, a.eval (.const c) = c := fun _ => rfl
        have ef : ∀ f, a.eval (.func f) = .func (.func f) #[] #[] := fun _ => rfl
        clear hI hdep hK
        generalize a.eval = ρ at e1 ec ef ⊢
        go_simp
      · intro u D a w hI hdep hD0 K hK
        have e15 := hI.good 0 15 (dep_of hdep 0 rfl) rfl
        have e16 : a.eval (.tmp 16) = .slice a1 n1 c1 := hI.good 1 16 (dep_of hdep 1 rfl) rfl
        have h0 := dep_of hdep 0 rfl
        have hown := hI.world.own0 h0 hD0
        rw [← show a.eval (.tmp 15) = u.1 from e15] at hown
        obtain ⟨v2, w2, hr2, hown2, hg2⟩ := append_bytes (c := c1) hown ((hbA.below hI.world.base).more hI.world.base.size) hnil hI.world.base.size (by omega)
        refine ok_append (wanted_none rfl) (.tmp 15) (.tmp 16) 25 25 rfl (by rw [e16]; exact hr2 _ rfl) (hK (u.1, v2, u.2.2) _ _ (hI.world.app hown (by simpa using hown2) hg2 (hI.not_up hD0 4 rfl)) (fun j z hj h => PtG_app hD0 hj h) rfl)
      · intro u D a w hI hdep hD0 K hK
        have e2 : a.eval (.tmp 2) = .pointer (some ⟨p, 0, none⟩) := hI.read 2 rfl
        have x0 := hI.world.cell0 q0 hlp
        have x1 := hI.world.cell0 q1 hlp
        refine ok_value (wanted_none rfl) (v := .agg #[.int .i64 x, .int .i64 y]) ?_ (hK u _ _ (hI.world.up rfl rfl rfl) (fun _ _ _ h => h) rfl)
        have ec : ∀ c, a.eval (.const c) = c := fun _ => rfl
        have ef : ∀ f, a.eval (.func f) = .func (.func f) #[] #[] := fun _ => rfl
        clear hI hdep hK
        generalize a.eval = ρ at e2 ec ef ⊢
        go_simp
      · intro u D a w hI hdep hD0 K hK
        have e17 := hI.good 2 17 (dep_of hdep 2 rfl) rfl
        have e18 : a.eval (.tmp 18) = .agg #[.int .i64 x, .int .i64 y] := hI.good 3 18 (dep_of hdep 3 rfl) rfl
        have h2 := dep_of hdep 2 rfl
        have hown := hI.world.own2 h2 hD0
        rw [← show a.eval (.tmp 17) = u.2.1 from e17] at hown
        refine ok_call (wanted_none rfl) (f := 8) (args := #[a.eval (.tmp 17), .agg #[.int .i64 x, .int .i64 y]]) ?_ (input_own w1.heap.size (a.eval (.tmp 17)) n1 (bs l) x y w hy0 hy1 hown hI.world.base.size (by omega)) ?_
        · have ec : ∀ c, a.eval (.const c) = c := fun _ => rfl
          have ef : ∀ f, a.eval (.func f) = .func (.func f) #[] #[] := fun _ => rfl
          clear hI hdep hK
          generalize a.eval = ρ at e17 e18 ec ef ⊢
          go_simp
        · rintro e w2 ⟨v2, rfl, hinv⟩
          exact ⟨_, rfl, hK (u.1, u.2.1, v2) _ _ (hI.world.put hown hinv rfl h2) (fun j z hj h => PtG_put hD0 hj h) rfl⟩
      · intro u D a w hI hdep hD0 K hK
        have e19 := hI.good 4 19 (dep_of hdep 4 rfl) rfl
        have h4 := dep_of hdep 4 rfl
        have e19 : a.eval (.tmp 19) = u.2.2 := e19
        have hc' := own_conv (hI.world.own4 h4)
        rw [HSA.out] at hc'
        refine ok_value (wanted_none rfl) (v := .string sA) ?_ (hK u _ _ (hI.world.up rfl rfl rfl) (fun _ _ _ h => h) rfl)
        have ec : ∀ c, a.eval (.const c) = c := fun _ => rfl
        have ef : ∀ f, a.eval (.func f) = .func (.func f) #[] #[] := fun _ => rfl
        clear hI hdep hK
        generalize a.eval = ρ at e19 ec ef ⊢
        go_simp
      · intro u D a w hI hdep hD0 K hK
        have e1 : a.eval (.tmp 1) = .slice a1 n1 c1 := hI.read 1 rfl
        refine ok_value (wanted_none rfl) (v := .slice a1 n1 c1) ?_ (hK u _ _ (hI.world.up rfl rfl rfl) (fun _ _ _ h => h) rfl)
        have ec : ∀ c, a.eval (.const c) = c := fun _ => rfl
        have ef : ∀ f, a.eval (.func f) = .func (.func f) #[] #[] := fun _ => rfl
        clear hI hdep hK
        generalize a.eval = ρ at e1 ec ef ⊢
        go_simp
      · intro u D a w hI hdep hD0 K hK
        have e21 : a.eval (.tmp 21) = .slice a1 n1 c1 := hI.good 6 21 (dep_of hdep 6 rfl) rfl
        have hc' := conv_bytes (c := c1) (hbA.below hI.world.base)
        rw [HSL.out] at hc'
        refine ok_value (wanted_none rfl) (v := .string sL) ?_ (hK u _ _ (hI.world.up rfl rfl rfl) (fun _ _ _ h => h) rfl)
        have ec : ∀ c, a.eval (.const c) = c := fun _ => rfl
        have ef : ∀ f, a.eval (.func f) = .func (.func f) #[] #[] := fun _ => rfl
        clear hI hdep hK
        generalize a.eval = ρ at e21 ec ef ⊢
        go_simp
      · intro u D a w hI hdep hD0 K hK
        have e5 : a.eval (.tmp 5) = .slice A5 m5 c5 := hI.read 5 rfl
        refine ok_value (wanted_none rfl) (v := .slice A5 m5 c5) ?_ (hK u _ _ (hI.world.up rfl rfl rfl) (fun _ _ _ h => h) rfl)
        have ec : ∀ c, a.eval (.const c) = c := fun _ => rfl
        have ef : ∀ f, a.eval (.func f) = .func (.func f) #[] #[] := fun _ => rfl
        clear hI hdep hK
        generalize a.eval = ρ at e5 ec ef ⊢
        go_simp
      · intro u D a w hI hdep hD0 K hK
        have e23 : a.eval (.tmp 23) = .slice A5 m5 c5 := hI.good 8 23 (dep_of hdep 8 rfl) rfl
        have hc' := conv_bytes (c := c5) (hb5.below hI.world.base)
        rw [HSP.out] at hc'
        refine ok_value (wanted_none rfl) (v := .string sP) ?_ (hK u _ _ (hI.world.up rfl rfl rfl) (fun _ _ _ h => h) rfl)
        have ec : ∀ c, a.eval (.const c) = c := fun _ => rfl
        have ef : ∀ f, a.eval (.func f) = .func (.func f) #[] #[] := fun _ => rfl
        clear hI hdep hK
        generalize a.eval = ρ at e23 ec ef ⊢
        go_simp
      · intro u D a w hI hdep hD0 K hK
        have e22 : a.eval (.tmp 22) = .string sL := hI.good 7 22 (dep_of hdep 7 rfl) rfl
        have e24 : a.eval (.tmp 24) = .string sP := hI.good 9 24 (dep_of hdep 9 rfl) rfl
        refine ok_value (wanted_none rfl) (v := .string sA) ?_ (hK u _ _ (hI.world.up rfl rfl rfl) (fun _ _ _ h => h) rfl)
        have ec : ∀ c, a.eval (.const c) = c := fun _ => rfl
        have ef : ∀ f, a.eval (.func f) = .func (.func f) #[] #[] := fun _ => rfl
        clear hI hdep hK
        generalize a.eval = ρ at e22 e24 ec ef ⊢
        go_simp
        omega
      · intro u D a w hI hdep hD0 K hK
        have e20 : a.eval (.tmp 20) = .string sA := hI.good 5 20 (dep_of hdep 5 rfl) rfl
        have e25 : a.eval (.tmp 25) = .string sA := hI.good 10 25 (dep_of hdep 10 rfl) rfl
        refine ok_value (wanted_none rfl) (v := .bool false) ?_ (hK u _ _ (hI.world.up rfl rfl rfl) (fun _ _ _ h => h) rfl)
        have ec : ∀ c, a.eval (.const c) = c := fun _ => rfl
        have ef : ∀ f, a.eval (.func f) = .func (.func f) #[] #[] := fun _ => rfl
        clear hI hdep hK
        generalize a.eval = ρ at e20 e25 ec ef ⊢
        go_simp
      · intro u D a w hI hdep hD0 K hK
        have e26 : a.eval (.tmp 26) = .bool false := hI.good 11 26 (dep_of hdep 11 rfl) rfl
        refine ok_value (wanted_none rfl) (v := .bool false) ?_ (hK u _ _ (hI.world.up rfl rfl rfl) (fun _ _ _ h => h) rfl)
        have ec : ∀ c, a.eval (.const c) = c := fun _ => rfl
        have ef : ∀ f, a.eval (.func f) = .func (.func f) #[] #[] := fun _ => rfl
        clear hI hdep hK
        generalize a.eval = ρ at e26 ec ef ⊢
        go_simp
      · intro u D a w hI hdep hD0 K hK
        have eg : a.eval (.tmp 27) = .bool false := hI.good 12 27 (dep_of hdep 12 rfl) rfl
        have e2 : a.eval (.tmp 2) = .pointer (some ⟨p, 0, none⟩) := hI.read 2 rfl
        have x0 := hI.world.cell0 q0 hlp
        have x1 := hI.world.cell0 q1 hlp
        refine ok_value (wanted_is rfl rfl hI.size (by simp) eg) (v := .agg #[.int .i64 x, .int .i64 y]) ?_ (hK u _ _ (hI.world.up rfl rfl rfl) (fun _ _ _ h => h) rfl)
        have ec : ∀ c, a.eval (.const c) = c := fun _ => rfl
        have ef : ∀ f, a.eval (.func f) = .func (.func f) #[] #[] := fun _ => rfl
        clear hI hdep hK
        generalize a.eval = ρ at eg e2 ec ef ⊢
        go_simp
      · intro u D a w hI hdep hD0 K hK
        have eg : a.eval (.tmp 27) = .bool false := hI.good 12 27 (dep_of hdep 12 rfl) rfl
        have e28 : a.eval (.tmp 28) = .agg #[.int .i64 x, .int .i64 y] := hI.good 13 28 (dep_of hdep 13 rfl) rfl
        refine ok_call (wanted_is rfl rfl hI.size (by simp) eg) (f := 9) (args := #[.agg #[.int .i64 x, .int .i64 y]]) ?_ (HR1.out w) ?_
        · have ec : ∀ c, a.eval (.const c) = c := fun _ => rfl
          have ef : ∀ f, a.eval (.func f) = .func (.func f) #[] #[] := fun _ => rfl
          clear hI hdep hK
          generalize a.eval = ρ at eg e28 ec ef ⊢
          go_simp
        · rintro e w2 ⟨rfl, hb2⟩
          exact ⟨_, rfl, hK u _ _ ((hI.world.up rfl rfl rfl).below hb2) (fun _ _ _ h => h) rfl⟩
      · intro u D a w hI hdep hD0 K hK
        have eg : a.eval (.tmp 27) = .bool false := hI.good 12 27 (dep_of hdep 12 rfl) rfl
        have e2 : a.eval (.tmp 2) = .pointer (some ⟨p, 0, none⟩) := hI.read 2 rfl
        have x0 := hI.world.cell0 q0 hlp
        have x1 := hI.world.cell0 q1 hlp
        refine ok_value (wanted_is rfl rfl hI.size (by simp) eg) (v := .agg #[.int .i64 x, .int .i64 y]) ?_ (hK u _ _ (hI.world.up rfl rfl rfl) (fun _ _ _ h => h) rfl)
        have ec : ∀ c, a.eval (.const c) = c := fun _ => rfl
        have ef : ∀ f, a.eval (.func f) = .func (.func f) #[] #[] := fun _ => rfl
        clear hI hdep hK
        generalize a.eval = ρ at eg e2 ec ef ⊢
        go_simp
      · intro u D a w hI hdep hD0 K hK
        have eg : a.eval (.tmp 27) = .bool false := hI.good 12 27 (dep_of hdep 12 rfl) rfl
        have e30 : a.eval (.tmp 30) = .agg #[.int .i64 x, .int .i64 y] := hI.good 15 30 (dep_of hdep 15 rfl) rfl
        refine ok_call (wanted_is rfl rfl hI.size (by simp) eg) (f := 10) (args := #[.agg #[.int .i64 x, .int .i64 y]]) ?_ (HR2.out w) ?_
        · have ec : ∀ c, a.eval (.const c) = c := fun _ => rfl
          have ef : ∀ f, a.eval (.func f) = .func (.func f) #[] #[] := fun _ => rfl
          clear hI hdep hK
          generalize a.eval = ρ at eg e30 ec ef ⊢
          go_simp
        · rintro e w2 ⟨rfl, hb2⟩
          exact ⟨_, rfl, hK u _ _ ((hI.world.up rfl rfl rfl).below hb2) (fun _ _ _ h => h) rfl⟩
      · intro u D a w hI hdep hD0 K hK
        have eg : a.eval (.tmp 27) = .bool false := hI.good 12 27 (dep_of hdep 12 rfl) rfl
        have e29 : a.eval (.tmp 29) = .bool r := hI.good 14 29 (dep_of hdep 14 rfl) rfl
        have e31 : a.eval (.tmp 31) = .bool r := hI.good 16 31 (dep_of hdep 16 rfl) rfl
        refine ok_value (wanted_is rfl rfl hI.size (by simp) eg) (v := .bool false) ?_ (hK u _ _ (hI.world.up rfl rfl rfl) (fun _ _ _ h => h) rfl)
        have ec : ∀ c, a.eval (.const c) = c := fun _ => rfl
        have ef : ∀ f, a.eval (.func f) = .func (.func f) #[] #[] := fun _ => rfl
        clear hI hdep hK
        generalize a.eval = ρ at eg e29 e31 ec ef ⊢
        go_simp
      · intro u D a w hI hdep hD0 K hK
        have e27 : a.eval (.tmp 27) = .bool false := hI.good 12 27 (dep_of hdep 12 rfl) rfl
        have e32 : a.eval (.tmp 32) = .bool false := hI.good 17 32 (dep_of hdep 17 rfl) rfl
        refine ok_value (wanted_none rfl) (v := .bool false) ?_ (hK u _ _ (hI.world.up rfl rfl rfl) (fun _ _ _ h => h) rfl)
        have ec : ∀ c, a.eval (.const c) = c := fun _ => rfl
        have ef : ∀ f, a.eval (.func f) = .func (.func f) #[] #[] := fun _ => rfl
        clear hI hdep hK
        generalize a.eval = ρ at e27 e32 ec ef ⊢
        go_simp
      · intro u D a w hI hdep hD0 K hK
        have e33 : a.eval (.tmp 33) = .bool false := hI.good 18 33 (dep_of hdep 18 rfl) rfl
        refine ok_value (wanted_none rfl) (v := .bool false) ?_ (hK u _ _ (hI.world.up rfl rfl rfl) (fun _ _ _ h => h) rfl)
        have ec : ∀ c, a.eval (.const c) = c := fun _ => rfl
        have ef : ∀ f, a.eval (.func f) = .func (.func f) #[] #[] := fun _ => rfl
        clear hI hdep hK
        generalize a.eval = ρ at e33 ec ef ⊢
        go_simp
      · intro u D a w hI hdep hD0 K hK
        have eg : a.eval (.tmp 34) = .bool false := hI.good 19 34 (dep_of hdep 19 rfl) rfl
        have e2 : a.eval (.tmp 2) = .pointer (some ⟨p, 0, none⟩) := hI.read 2 rfl
        have x0 := hI.world.cell0 q0 hlp
        have x1 := hI.world.cell0 q1 hlp
        refine ok_value (wanted_is rfl rfl hI.size (by simp) eg) (v := .agg #[.int .i64 x, .int .i64 y]) ?_ (hK u _ _ (hI.world.up rfl rfl rfl) (fun _ _ _ h => h) rfl)
        have ec : ∀ c, a.eval (.const c) = c := fun _ => rfl
        have ef : ∀ f, a.eval (.func f) = .func (.func f) #[] #[] := fun _ => rfl
        clear hI hdep hK
        generalize a.eval = ρ at eg e2 ec ef ⊢
        go_simp
      · intro u D a w hI hdep hD0 K hK
        have eg : a.eval (.tmp 34) = .bool false := hI.good 19 34 (dep_of hdep 19 rfl) rfl
        have e35 : a.eval (.tmp 35) = .agg #[.int .i64 x, .int .i64 y] := hI.good 20 35 (dep_of hdep 20 rfl) rfl
        refine ok_call (wanted_is rfl rfl hI.size (by simp) eg) (f := 11) (args := #[.agg #[.int .i64 x, .int .i64 y]]) ?_ (HT1.out w (HG1.out.below hI.world.base)) ?_
        · have ec : ∀ c, a.eval (.const c) = c := fun _ => rfl
          have ef : ∀ f, a.eval (.func f) = .func (.func f) #[] #[] := fun _ => rfl
          clear hI hdep hK
          generalize a.eval = ρ at eg e35 ec ef ⊢
          go_simp
        · rintro e w2 ⟨rfl, hb2⟩
          exact ⟨_, rfl, hK u _ _ ((hI.world.up rfl rfl rfl).below hb2) (fun _ _ _ h => h) rfl⟩
      · intro u D a w hI hdep hD0 K hK
        have eg : a.eval (.tmp 34) = .bool false := hI.good 19 34 (dep_of hdep 19 rfl) rfl
        have e2 : a.eval (.tmp 2) = .pointer (some ⟨p, 0, none⟩) := hI.read 2 rfl
        have x0 := hI.world.cell0 q0 hlp
        have x1 := hI.world.cell0 q1 hlp
        refine ok_value (wanted_is rfl rfl hI.size (by simp) eg) (v := .agg #[.int .i64 x, .int .i64 y]) ?_ (hK u _ _ (hI.world.up rfl rfl rfl) (fun _ _ _ h => h) rfl)
        have ec : ∀ c, a.eval (.const c) = c := fun _ => rfl
        have ef : ∀ f, a.eval (.func f) = .func (.func f) #[] #[] := fun _ => rfl
        clear hI hdep hK
        generalize a.eval = ρ at eg e2 ec ef ⊢
        go_simp
      · intro u D a w hI hdep hD0 K hK
        have eg : a.eval (.tmp 34) = .bool false := hI.good 19 34 (dep_of hdep 19 rfl) rfl
        have e37 : a.eval (.tmp 37) = .agg #[.int .i64 x, .int .i64 y] := hI.good 22 37 (dep_of hdep 22 rfl) rfl
        refine ok_call (wanted_is rfl rfl hI.size (by simp) eg) (f := 12) (args := #[.agg #[.int .i64 x, .int .i64 y]]) ?_ (HT2.out w) ?_
        · have ec : ∀ c, a.eval (.const c) = c := fun _ => rfl
          have ef : ∀ f, a.eval (.func f) = .func (.func f) #[] #[] := fun _ => rfl
          clear hI hdep hK
          generalize a.eval = ρ at eg e37 ec ef ⊢
          go_simp
        · rintro e w2 ⟨rfl, hb2⟩
          exact ⟨_, rfl, hK u _ _ ((hI.world.up rfl rfl rfl).below hb2) (fun _ _ _ h => h) rfl⟩
      · intro u D a w hI hdep hD0 K hK
        have eg : a.eval (.tmp 34) = .bool false := hI.good 19 34 (dep_of hdep 19 rfl) rfl
        have e36 : a.eval (.tmp 36) = .string tx := hI.good 21 36 (dep_of hdep 21 rfl) rfl
        have e38 : a.eval (.tmp 38) = .string tx := hI.good 23 38 (dep_of hdep 23 rfl) rfl
        refine ok_value (wanted_is rfl rfl hI.size (by simp) eg) (v := .bool false) ?_ (hK u _ _ (hI.world.up rfl rfl rfl) (fun _ _ _ h => h) rfl)
        have ec : ∀ c, a.eval (.const c) = c := fun _ => rfl
        have ef : ∀ f, a.eval (.func f) = .func (.func f) #[] #[] := fun _ => rfl
        clear hI hdep hK
        generalize a.eval = ρ at eg e36 e38 ec ef ⊢
        go_simp
      · intro u D a w hI hdep hD0 K hK
        have e34 : a.eval (.tmp 34) = .bool false := hI.good 19 34 (dep_of hdep 19 rfl) rfl
        have e39 : a.eval (.tmp 39) = .bool false := hI.good 24 39 (dep_of hdep 24 rfl) rfl
        refine ok_value (wanted_none rfl) (v := .bool false) ?_ (hK u _ _ (hI.world.up rfl rfl rfl) (fun _ _ _ h => h) rfl)
        have ec : ∀ c, a.eval (.const c) = c := fun _ => rfl
        have ef : ∀ f, a.eval (.func f) = .func (.func f) #[] #[] := fun _ => rfl
        clear hI hdep hK
        generalize a.eval = ρ at e34 e39 ec ef ⊢
        go_simp
    · intro u D a w2 hI hD
      have hfr := hI.frame [(15, u.1), (16, .slice a1 n1 c1), (17, u.2.1), (18, .agg #[.int .i64 x, .int .i64 y]), (19, u.2.2), (20, .string sA), (21, .slice a1 n1 c1), (22, .string sL), (23, .slice A5 m5 c5), (24, .string sP), (25, .string sA), (26, .bool false), (27, .bool false), (28, .agg #[.int .i64 x, .int .i64 y]), (29, .bool r), (30, .agg #[.int .i64 x, .int .i64 y]), (31, .bool r), (32, .bool false), (33, .bool false), (34, .bool false), (35, .agg #[.int .i64 x, .int .i64 y]), (36, .string tx), (37, .agg #[.int .i64 x, .int .i64 y]), (38, .string tx), (39, .bool false), (40, .bool false)] (all_cons (hI.good 0 15 (hD 0 (by decide)) rfl) (all_cons (hI.good 1 16 (hD 1 (by decide)) rfl) (all_cons (hI.good 2 17 (hD 2 (by decide)) rfl) (all_cons (hI.good 3 18 (hD 3 (by decide)) rfl) (all_cons (hI.good 4 19 (hD 4 (by decide)) rfl) (all_cons (hI.good 5 20 (hD 5 (by decide)) rfl) (all_cons (hI.good 6 21 (hD 6 (by decide)) rfl) (all_cons (hI.good 7 22 (hD 7 (by decide)) rfl) (all_cons (hI.good 8 23 (hD 8 (by decide)) rfl) (all_cons (hI.good 9 24 (hD 9 (by decide)) rfl) (all_cons (hI.good 10 25 (hD 10 (by decide)) rfl) (all_cons (hI.good 11 26 (hD 11 (by decide)) rfl) (all_cons (hI.good 12 27 (hD 12 (by decide)) rfl) (all_cons (hI.good 13 28 (hD 13 (by decide)) rfl) (all_cons (hI.good 14 29 (hD 14 (by decide)) rfl) (all_cons (hI.good 15 30 (hD 15 (by decide)) rfl) (all_cons (hI.good 16 31 (hD 16 (by decide)) rfl) (all_cons (hI.good 17 32 (hD 17 (by decide)) rfl) (all_cons (hI.good 18 33 (hD 18 (by decide)) rfl) (all_cons (hI.good 19 34 (hD 19 (by decide)) rfl) (all_cons (hI.good 20 35 (hD 20 (by decide)) rfl) (all_cons (hI.good 21 36 (hD 21 (by decide)) rfl) (all_cons (hI.good 22 37 (hD 22 (by decide)) rfl) (all_cons (hI.good 23 38 (hD 23 (by decide)) rfl) (all_cons (hI.good 24 39 (hD 24 (by decide)) rfl) (all_cons (hI.good 25 40 (hD 25 (by decide)) rfl) all_nil)))))))))))))))))))))))))) rfl
      have hW := hI.world
      clear hI
      subst hfr
      simp only [List.foldl_cons, List.foldl_nil, List.setIfInBounds_toArray, List.set_cons_succ, List.set_cons_zero]
      have I1p : Ins w1 p x y := by rw [← HP.out]; exact HI1.out
      have I2 := Lib.hid (I1p.on hW.base)
      have B2 := Lib.hid (below_self B1.out hW.base)
      have D2 := Lib.hid ((hb5.below hW.base).more hW.base.size)
      have i0 := I2.out.c0
      have i1 := I2.out.c1
      have hm11 : m5 ≤ 11 := by rw [← HM5.out]; exact In.bytes_len hy0 hy1
      generalize u.1 = u1 at *
      generalize u.2.1 = u2 at *
      generalize u.2.2 = u3 at *
      clear hW hD q0 q1 hlp hS hbA hb5 HB5 HI1 HG1 HSA HSL HSP hcat hzL hzP hsd I1p HR1 HT2 HM5
      go_wp2_with fail
      refine (HR2.out _).mono ?_
      rintro _ w3 ⟨rfl, b3⟩
      have B3 := Lib.hid (below_self B2.out b3)
      have I3 := Lib.hid (I2.out.on b3)
      have D3 := Lib.hid ((D2.out.below b3).more b3.size)
      clear b3 i0 i1 I2 D2 B2
      cases r with
      | false =>
        go_wp2_with (go_at_call 6; refine (lives10_any _ (HG.out.below B3.out)).mono ?_; rintro _ w4 ⟨rfl, b4⟩)
        go_ret
        exact ⟨rfl, below_self B3.out b4⟩
      | true =>
        have HNw := Lib.hid (new_any A5 m5 c5 (In.bytes x y) w3 D3.out (by omega))
        have HTk := Lib.hid (In.take_bytes HRr.out hy0 hy1)
        have HRd := fun W hW => inread_any tx (by have := In.text_size (x := x) hy0 hy1; rw [HTx.out] at this; omega) W hW
        have hrt := In.read_text HRr.out hy0 hy1
        rw [HTx.out] at hrt
        unfold ReadP at HRd
        rw [hrt] at HRd
        dsimp only at HRd
        have HRD := Lib.hid HRd
        clear HRd hrt hy0 hy1 hm11
        go_wp2_with fail
        refine HNw.out.mono ?_
        rintro _ w4 ⟨g, rfl, hg, hc4, b4⟩
        have B4 := Lib.hid (below_self B3.out b4)
        have I4 := Lib.hid (I3.out.on b4)
        have C4 := Lib.hid hc4
        have HGg : Hid (w.heap.size ≤ g ∧ p < g) := Lib.hid (by have := I3.out.lt; have := B3.out.size; omega)
        have i0 := I4.out.c0
        have i1 := I4.out.c1
        clear hg hc4 b4 HNw I3 D3 B3
        go_wp2_with fail
        refine (HT1.out _ (HG.out.below B4.out)).mono ?_
        rintro _ w5 ⟨rfl, b5⟩
        have B5 := Lib.hid (below_self B4.out b5)
        have I5 := Lib.hid (I4.out.on b5)
        have C5 := Lib.hid (kept_below C4.out b5)
        clear b5 i0 i1 I4 C4 B4
        go_wp2_with fail
        refine (HRD.out _ (HG.out.below B5.out)).mono ?_
        rintro _ w6 ⟨rfl, b6⟩
        have b7 := (Below.refl w6.heap.size w6).alloc (Nat.le_refl _) (.cells #[.int .i64 x, .int .i64 y] 24)
        have HB3 := Lib.hid (below_self (below_self B5.out b6) b7)
        have I7 := (I5.out.on b6).on b7
        have C7 := kept_below (kept_below C5.out b6) b7
        have J7 := Ins.new w6 x y
        have hN : Hid (g ≠ p ∧ g ≠ w6.heap.size ∧ w.heap.size ≤ g) := Lib.hid (by have := (kept_below C5.out b6).lt; have := HGg.out; omega)
        have HK := Lib.hid (And.intro I7 (And.intro J7 C7))
        clear b6 b7 I7 C7 J7 I5 C5 B5
        go_wp2
        generalize w6.alloc (.cells #[.int .i64 x, .int .i64 y] 24) = w7 at *
        generalize w6.heap.size = j7 at *
        obtain ⟨I7, J7, C7⟩ := HK.out
        have HC : PuC g p j7 (In.bytes x y) x y w7 (fun _ => false) w7.drew := PuC.below ⟨C7, I7, J7, World.grownBy.refl _ _⟩ (Below.refl _ _).drew
        clear I7 J7 C7 HK
        refine region_k () 76 (fun _ D W => PuC g p j7 (In.bytes x y) x y w7 D W) (PuG g x y) (by kernel_rfl) (by kernel_rfl) (by kernel_rfl) rfl rfl HC ?_ ?_
        · refine ⟨?_, ?_, ?_, ?_, ?_, ?_, ?_, ?_, ?_, ?_, ?_, ?_, ?_, ?_, ?_, ?_, ?_, ?_, ?_, ?_, ?_, ?_, trivial⟩
          · intro u D a w hI hdep hD0 K hK
            have e6 : a.eval (.tmp 6) = .pointer (some ⟨g, 0, none⟩) := hI.read 6 rfl
            refine ok_value (wanted_none rfl) (v := .pointer (some ⟨g, 0, none⟩)) ?_ (hK u _ _ (hI.world.up rfl) (fun _ _ _ h => h) rfl)
            have ec : ∀ c, a.eval (.const c) = c := fun _ => rfl
            have ef : ∀ f, a.eval (.func f) = .func (.func f) #[] #[] := fun _ => rfl
            clear hI hdep hK
            generalize a.eval = ρ at e6 ec ef ⊢
            go_simp
          · intro u D a w hI hdep hD0 K hK
            have e55 : a.eval (.tmp 55) = .pointer (some ⟨g, 0, none⟩) := hI.good 0 55 (dep_of hdep 0 rfl) rfl
            have hc0 := hI.world.curB hD0
            refine ok_call (wanted_none rfl) (f := 15) (args := #[.pointer (some ⟨g, 0, none⟩)]) ?_ (intake_cur g (In.bytes x y, 0) w hc0) ?_
            · have ec : ∀ c, a.eval (.const c) = c := fun _ => rfl
              have ef : ∀ f, a.eval (.func f) = .func (.func f) #[] #[] := fun _ => rfl
              clear hI hdep hK
              generalize a.eval = ρ at e55 ec ef ⊢
              go_simp
            · unfold TakeI
              rw [HTk.out]
              rintro e w2 ⟨rfl, hc2, hg2⟩
              exact ⟨_, rfl, hK u _ _ (hI.world.took hN.out hc2 hg2) (fun _ _ _ h => h) rfl⟩
          · intro u D a w hI hdep hD0 K hK
            have e2 : a.eval (.tmp 2) = .pointer (some ⟨p, 0, none⟩) := hI.read 2 rfl
            have x0 := hI.world.i2.c0
            have x1 := hI.world.i2.c1
            refine ok_value (wanted_none rfl) (v := .agg #[.int .i64 x, .int .i64 y]) ?_ (hK u _ _ (hI.world.up rfl) (fun _ _ _ h => h) rfl)
            have ec : ∀ c, a.eval (.const c) = c := fun _ => rfl
            have ef : ∀ f, a.eval (.func f) = .func (.func f) #[] #[] := fun _ => rfl
            clear hI hdep hK
            generalize a.eval = ρ at e2 ec ef ⊢
            go_simp
          · intro u D a w hI hdep hD0 K hK
            have e56 : a.eval (.tmp 56) = .agg #[.int .i64 x, .int .i64 y] := hI.good 1 56 (dep_of hdep 1 rfl) rfl
            have e57 : a.eval (.tmp 57) = .agg #[.int .i64 x, .int .i64 y] := hI.good 2 57 (dep_of hdep 2 rfl) rfl
            refine ok_value (wanted_none rfl) (v := .bool true) ?_ (hK u _ _ (hI.world.up rfl) (fun _ _ _ h => h) rfl)
            have ec : ∀ c, a.eval (.const c) = c := fun _ => rfl
            have ef : ∀ f, a.eval (.func f) = .func (.func f) #[] #[] := fun _ => rfl
            clear hI hdep hK
            generalize a.eval = ρ at e56 e57 ec ef ⊢
            go_simp
          · intro u D a w hI hdep hD0 K hK
            have e58 : a.eval (.tmp 58) = .bool true := hI.good 3 58 (dep_of hdep 3 rfl) rfl
            refine ok_value (wanted_none rfl) (v := .bool true) ?_ (hK u _ _ (hI.world.up rfl) (fun _ _ _ h => h) rfl)
            have ec : ∀ c, a.eval (.const c) = c := fun _ => rfl
            have ef : ∀ f, a.eval (.func f) = .func (.func f) #[] #[] := fun _ => rfl
            clear hI hdep hK
            generalize a.eval = ρ at e58 ec ef ⊢
            go_simp
          · intro u D a w hI hdep hD0 K hK
            have eg : a.eval (.tmp 59) = .bool true := hI.good 4 59 (dep_of hdep 4 rfl) rfl
            have e6 : a.eval (.tmp 6) = .pointer (some ⟨g, 0, none⟩) := hI.read 6 rfl
            refine ok_value (wanted_is rfl rfl hI.size (by simp) eg) (v := .pointer (some ⟨g, 0, none⟩)) ?_ (hK u _ _ (hI.world.up rfl) (fun _ _ _ h => h) rfl)
            have ec : ∀ c, a.eval (.const c) = c := fun _ => rfl
            have ef : ∀ f, a.eval (.func f) = .func (.func f) #[] #[] := fun _ => rfl
            clear hI hdep hK
            generalize a.eval = ρ at eg e6 ec ef ⊢
            go_simp
          · intro u D a w hI hdep hD0 K hK
            have eg : a.eval (.tmp 59) = .bool true := hI.good 4 59 (dep_of hdep 4 rfl) rfl
            have e60 : a.eval (.tmp 60) = .pointer (some ⟨g, 0, none⟩) := hI.good 5 60 (dep_of hdep 5 rfl) rfl
            have h1 : D 1 = true := eq_true_of_ne_false (fun h => absurd (dep_of hdep 4 rfl) (by rw [hI.not_up (hI.not_up h 3 rfl) 4 rfl]; decide))
            refine ok_call (wanted_is rfl rfl hI.size (by simp) eg) (f := 16) (args := #[.pointer (some ⟨g, 0, none⟩)]) ?_ (in_end0 g w (hI.world.curA h1)) ?_
            · have ec : ∀ c, a.eval (.const c) = c := fun _ => rfl
              have ef : ∀ f, a.eval (.func f) = .func (.func f) #[] #[] := fun _ => rfl
              clear hI hdep hK
              generalize a.eval = ρ at eg e60 ec ef ⊢
              go_simp
            · rintro e w2 ⟨rfl, he⟩
              obtain rfl := he.symm
              exact ⟨_, rfl, hK u _ _ (hI.world.up rfl) (fun _ _ _ h => h) rfl⟩
          · intro u D a w hI hdep hD0 K hK
            have eg : a.eval (.tmp 59) = .bool true := hI.good 4 59 (dep_of hdep 4 rfl) rfl
            have e61 : a.eval (.tmp 61) = .int .i64 0 := hI.good 6 61 (dep_of hdep 6 rfl) rfl
            refine ok_value (wanted_is rfl rfl hI.size (by simp) eg) (v := .bool true) ?_ (hK u _ _ (hI.world.up rfl) (fun _ _ _ h => h) rfl)
            have ec : ∀ c, a.eval (.const c) = c := fun _ => rfl
            have ef : ∀ f, a.eval (.func f) = .func (.func f) #[] #[] := fun _ => rfl
            clear hI hdep hK
            generalize a.eval = ρ at eg e61 ec ef ⊢
            go_simp
          · intro u D a w hI hdep hD0 K hK
            have e59 : a.eval (.tmp 59) = .bool true := hI.good 4 59 (dep_of hdep 4 rfl) rfl
            have e62 : a.eval (.tmp 62) = .bool true := hI.good 7 62 (dep_of hdep 7 rfl) rfl
            refine ok_value (wanted_none rfl) (v := .bool true) ?_ (hK u _ _ (hI.world.up rfl) (fun _ _ _ h => h) rfl)
            have ec : ∀ c, a.eval (.const c) = c := fun _ => rfl
            have ef : ∀ f, a.eval (.func f) = .func (.func f) #[] #[] := fun _ => rfl
            clear hI hdep hK
            generalize a.eval = ρ at e59 e62 ec ef ⊢
            go_simp
          · intro u D a w hI hdep hD0 K hK
            have e63 : a.eval (.tmp 63) = .bool true := hI.good 8 63 (dep_of hdep 8 rfl) rfl
            refine ok_value (wanted_none rfl) (v := .bool true) ?_ (hK u _ _ (hI.world.up rfl) (fun _ _ _ h => h) rfl)
            have ec : ∀ c, a.eval (.const c) = c := fun _ => rfl
            have ef : ∀ f, a.eval (.func f) = .func (.func f) #[] #[] := fun _ => rfl
            clear hI hdep hK
            generalize a.eval = ρ at e63 ec ef ⊢
            go_simp
          · intro u D a w hI hdep hD0 K hK
            have eg : a.eval (.tmp 64) = .bool true := hI.good 9 64 (dep_of hdep 9 rfl) rfl
            have e7 : a.eval (.tmp 7) = .pointer (some ⟨j7, 0, none⟩) := hI.read 7 rfl
            have x0 := hI.world.i7.c0
            have x1 := hI.world.i7.c1
            refine ok_value (wanted_is rfl rfl hI.size (by simp) eg) (v := .agg #[.int .i64 x, .int .i64 y]) ?_ (hK u _ _ (hI.world.up rfl) (fun _ _ _ h => h) rfl)
            have ec : ∀ c, a.eval (.const c) = c := fun _ => rfl
            have ef : ∀ f, a.eval (.func f) = .func (.func f) #[] #[] := fun _ => rfl
            clear hI hdep hK
            generalize a.eval = ρ at eg e7 ec ef ⊢
            go_simp
          · intro u D a w hI hdep hD0 K hK
            have eg : a.eval (.tmp 64) = .bool true := hI.good 9 64 (dep_of hdep 9 rfl) rfl
            have e2 : a.eval (.tmp 2) = .pointer (some ⟨p, 0, none⟩) := hI.read 2 rfl
            have x0 := hI.world.i2.c0
            have x1 := hI.world.i2.c1
            refine ok_value (wanted_is rfl rfl hI.size (by simp) eg) (v := .agg #[.int .i64 x, .int .i64 y]) ?_ (hK u _ _ (hI.world.up rfl) (fun _ _ _ h => h) rfl)
            have ec : ∀ c, a.eval (.const c) = c := fun _ => rfl
            have ef : ∀ f, a.eval (.func f) = .func (.func f) #[] #[] := fun _ => rfl
            clear hI hdep hK
            generalize a.eval = ρ at eg e2 ec ef ⊢
            go_simp
          · intro u D a w hI hdep hD0 K hK
            have eg : a.eval (.tmp 64) = .bool true := hI.good 9 64 (dep_of hdep 9 rfl) rfl
            have e65 : a.eval (.tmp 65) = .agg #[.int .i64 x, .int .i64 y] := hI.good 10 65 (dep_of hdep 10 rfl) rfl
            have e66 : a.eval (.tmp 66) = .agg #[.int .i64 x, .int .i64 y] := hI.good 11 66 (dep_of hdep 11 rfl) rfl
            refine ok_value (wanted_is rfl rfl hI.size (by simp) eg) (v := .bool true) ?_ (hK u _ _ (hI.world.up rfl) (fun _ _ _ h => h) rfl)
            have ec : ∀ c, a.eval (.const c) = c := fun _ => rfl
            have ef : ∀ f, a.eval (.func f) = .func (.func f) #[] #[] := fun _ => rfl
            clear hI hdep hK
            generalize a.eval = ρ at eg e65 e66 ec ef ⊢
            go_simp
          · intro u D a w hI hdep hD0 K hK
            have e64 : a.eval (.tmp 64) = .bool true := hI.good 9 64 (dep_of hdep 9 rfl) rfl
            have e67 : a.eval (.tmp 67) = .bool true := hI.good 12 67 (dep_of hdep 12 rfl) rfl
            refine ok_value (wanted_none rfl) (v := .bool true) ?_ (hK u _ _ (hI.world.up rfl) (fun _ _ _ h => h) rfl)
            have ec : ∀ c, a.eval (.const c) = c := fun _ => rfl
            have ef : ∀ f, a.eval (.func f) = .func (.func f) #[] #[] := fun _ => rfl
            clear hI hdep hK
            generalize a.eval = ρ at e64 e67 ec ef ⊢
            go_simp
          · intro u D a w hI hdep hD0 K hK
            have e68 : a.eval (.tmp 68) = .bool true := hI.good 13 68 (dep_of hdep 13 rfl) rfl
            refine ok_value (wanted_none rfl) (v := .bool true) ?_ (hK u _ _ (hI.world.up rfl) (fun _ _ _ h => h) rfl)
            have ec : ∀ c, a.eval (.const c) = c := fun _ => rfl
            have ef : ∀ f, a.eval (.func f) = .func (.func f) #[] #[] := fun _ => rfl
            clear hI hdep hK
            generalize a.eval = ρ at e68 ec ef ⊢
            go_simp
          · intro u D a w hI hdep hD0 K hK
            have eg : a.eval (.tmp 69) = .bool true := hI.good 14 69 (dep_of hdep 14 rfl) rfl
            have e8 : a.eval (.tmp 8) = .int .i64 0 := hI.read 8 rfl
            refine ok_value (wanted_is rfl rfl hI.size (by simp) eg) (v := .int .i64 0) ?_ (hK u _ _ (hI.world.up rfl) (fun _ _ _ h => h) rfl)
            have ec : ∀ c, a.eval (.const c) = c := fun _ => rfl
            have ef : ∀ f, a.eval (.func f) = .func (.func f) #[] #[] := fun _ => rfl
            clear hI hdep hK
            generalize a.eval = ρ at eg e8 ec ef ⊢
            go_simp
          · intro u D a w hI hdep hD0 K hK
            have eg : a.eval (.tmp 69) = .bool true := hI.good 14 69 (dep_of hdep 14 rfl) rfl
            have e70 : a.eval (.tmp 70) = .int .i64 0 := hI.good 15 70 (dep_of hdep 15 rfl) rfl
            refine ok_value (wanted_is rfl rfl hI.size (by simp) eg) (v := .bool true) ?_ (hK u _ _ (hI.world.up rfl) (fun _ _ _ h => h) rfl)
            have ec : ∀ c, a.eval (.const c) = c := fun _ => rfl
            have ef : ∀ f, a.eval (.func f) = .func (.func f) #[] #[] := fun _ => rfl
            clear hI hdep hK
            generalize a.eval = ρ at eg e70 ec ef ⊢
            go_simp
          · intro u D a w hI hdep hD0 K hK
            have e69 : a.eval (.tmp 69) = .bool true := hI.good 14 69 (dep_of hdep 14 rfl) rfl
            have e71 : a.eval (.tmp 71) = .bool true := hI.good 16 71 (dep_of hdep 16 rfl) rfl
            refine ok_value (wanted_none rfl) (v := .bool true) ?_ (hK u _ _ (hI.world.up rfl) (fun _ _ _ h => h) rfl)
            have ec : ∀ c, a.eval (.const c) = c := fun _ => rfl
            have ef : ∀ f, a.eval (.func f) = .func (.func f) #[] #[] := fun _ => rfl
            clear hI hdep hK
            generalize a.eval = ρ at e69 e71 ec ef ⊢
            go_simp
          · intro u D a w hI hdep hD0 K hK
            have e72 : a.eval (.tmp 72) = .bool true := hI.good 17 72 (dep_of hdep 17 rfl) rfl
            refine ok_value (wanted_none rfl) (v := .bool true) ?_ (hK u _ _ (hI.world.up rfl) (fun _ _ _ h => h) rfl)
            have ec : ∀ c, a.eval (.const c) = c := fun _ => rfl
            have ef : ∀ f, a.eval (.func f) = .func (.func f) #[] #[] := fun _ => rfl
            clear hI hdep hK
            generalize a.eval = ρ at e72 ec ef ⊢
            go_simp
          · intro u D a w hI hdep hD0 K hK
            have eg : a.eval (.tmp 73) = .bool true := hI.good 18 73 (dep_of hdep 18 rfl) rfl
            refine ok_call (wanted_is rfl rfl hI.size (by simp) eg) (f := 6) (args := #[]) ?_ (lives10_any w (HG.out.below (HB3.out.grown hI.world.row HB3.out.size (fun k hk => by injection hk with hk; subst hk; exact hN.out.2.2)))) ?_
            · have ec : ∀ c, a.eval (.const c) = c := fun _ => rfl
              have ef : ∀ f, a.eval (.func f) = .func (.func f) #[] #[] := fun _ => rfl
              clear hI hdep hK
              generalize a.eval = ρ at eg ec ef ⊢
              go_simp
            · rintro e w2 ⟨rfl, hb2⟩
              exact ⟨_, rfl, hK u _ _ ((hI.world.up rfl).below hb2) (fun _ _ _ h => h) rfl⟩
          · intro u D a w hI hdep hD0 K hK
            have e73 : a.eval (.tmp 73) = .bool true := hI.good 18 73 (dep_of hdep 18 rfl) rfl
            have e74 : a.eval (.tmp 74) = .bool true := hI.good 19 74 (dep_of hdep 19 rfl) rfl
            refine ok_value (wanted_none rfl) (v := .bool true) ?_ (hK u _ _ (hI.world.up rfl) (fun _ _ _ h => h) rfl)
            have ec : ∀ c, a.eval (.const c) = c := fun _ => rfl
            have ef : ∀ f, a.eval (.func f) = .func (.func f) #[] #[] := fun _ => rfl
            clear hI hdep hK
            generalize a.eval = ρ at e73 e74 ec ef ⊢
            go_simp
          · intro u D a w hI hdep hD0 K hK
            have e75 : a.eval (.tmp 75) = .bool true := hI.good 20 75 (dep_of hdep 20 rfl) rfl
            refine ok_value (wanted_none rfl) (v := .bool true) ?_ (hK u _ _ (hI.world.up rfl) (fun _ _ _ h => h) rfl)
            have ec : ∀ c, a.eval (.const c) = c := fun _ => rfl
            have ef : ∀ f, a.eval (.func f) = .func (.func f) #[] #[] := fun _ => rfl
            clear hI hdep hK
            generalize a.eval = ρ at e75 ec ef ⊢
            go_simp
        · intro u D a w8 hI hD
          have hfr := hI.frame [(55, .pointer (some ⟨g, 0, none⟩)), (56, .agg #[.int .i64 x, .int .i64 y]), (57, .agg #[.int .i64 x, .int .i64 y]), (58, .bool true), (59, .bool true), (60, .pointer (some ⟨g, 0, none⟩)), (61, .int .i64 0), (62, .bool true), (63, .bool true), (64, .bool true), (65, .agg #[.int .i64 x, .int .i64 y]), (66, .agg #[.int .i64 x, .int .i64 y]), (67, .bool true), (68, .bool true), (69, .bool true), (70, .int .i64 0), (71, .bool true), (72, .bool true), (73, .bool true), (74, .bool true), (75, .bool true), (4, .bool true)] (all_cons (hI.good 0 55 (hD 0 (by decide)) rfl) (all_cons (hI.good 1 56 (hD 1 (by decide)) rfl) (all_cons (hI.good 2 57 (hD 2 (by decide)) rfl) (all_cons (hI.good 3 58 (hD 3 (by decide)) rfl) (all_cons (hI.good 4 59 (hD 4 (by decide)) rfl) (all_cons (hI.good 5 60 (hD 5 (by decide)) rfl) (all_cons (hI.good 6 61 (hD 6 (by decide)) rfl) (all_cons (hI.good 7 62 (hD 7 (by decide)) rfl) (all_cons (hI.good 8 63 (hD 8 (by decide)) rfl) (all_cons (hI.good 9 64 (hD 9 (by decide)) rfl) (all_cons (hI.good 10 65 (hD 10 (by decide)) rfl) (all_cons (hI.good 11 66 (hD 11 (by decide)) rfl) (all_cons (hI.good 12 67 (hD 12 (by decide)) rfl) (all_cons (hI.good 13 68 (hD 13 (by decide)) rfl) (all_cons (hI.good 14 69 (hD 14 (by decide)) rfl) (all_cons (hI.good 15 70 (hD 15 (by decide)) rfl) (all_cons (hI.good 16 71 (hD 16 (by decide)) rfl) (all_cons (hI.good 17 72 (hD 17 (by decide)) rfl) (all_cons (hI.good 18 73 (hD 18 (by decide)) rfl) (all_cons (hI.good 19 74 (hD 19 (by decide)) rfl) (all_cons (hI.good 20 75 (hD 20 (by decide)) rfl) (all_cons (hI.good 21 4 (hD 21 (by decide)) rfl) all_nil)))))))))))))))))))))) rfl
          have hW := hI.world
          clear hI
          subst hfr
          simp only [List.foldl_cons, List.foldl_nil, List.setIfInBounds_toArray, List.set_cons_succ, List.set_cons_zero]
          have HB8 := Lib.hid (HB3.out.grown hW.row HB3.out.size (fun k hk => by injection hk with hk; subst hk; exact hN.out.2.2))
          clear hW hD HC
          go_wp2
          go_ret
          exact ⟨rfl, HB8.out⟩
  · have hd50 : 50 < (n1 : Int) := by omega
    go_enter Tryd.func3, Tryd.ntmps3
    go_wp2_with (go_at_call 6; refine (lives10_any _ (HG.out.below B0.out)).mono ?_; rintro _ w5 ⟨rfl, b5⟩)
    go_ret
    exact ⟨rfl, below_self B0.out b5⟩
end Go.Proofs.YtipeefmmnfbcoaaDoor
