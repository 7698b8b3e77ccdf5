/-
  The walk of CellDoes. Conditions: the values can be read, and their numbers are within 64 bits; the library's table of powers of ten is laid.
-/
import Derived.Test.YtdenboakcbipdaaDoorCeF
import Derived.Test.YtdenboakcbipdaaDoorCeG
import Derived.Test.YtdenboakcbipdaaDoorCeL
namespace Go.Proofs.YtdenboakcbipdaaDoor
open Go.RowKit
attribute [local go_sem] Ce.run_store_complex

theorem info_val : (Tryd.prog.info? 29).map (fun i => (i.zero, i.size, i.bytes)) = some (some (.agg #[.int .i64 0, .int .i64 0, .complex .f64 0 0]), 3, 32) := by kernel_rfl

/-- Values as cells. -/
def cs : List Ce.Cv → List Value
  | [] => []
  | v :: l => .int .i64 v.k :: .int .i64 v.n :: .complex .f64 v.re v.im :: cs l
theorem cs_append (a b : List Ce.Cv) : cs (a ++ b) = cs a ++ cs b := by
  induction a with
  | nil => rfl
  | cons p r ih => simp [cs, ih]
theorem cs_length (r : List Ce.Cv) : (cs r).length = r.length * 3 := by
  induction r with
  | nil => rfl
  | cons p r ih => simp only [cs, List.length_cons, ih]; omega
theorem cs_one (r : List Ce.Cv) : ∀ u ∈ cs r, u.oneCell' = true := by
  induction r with
  | nil => intro u hu; simp [cs] at hu
  | cons p r ih =>
    intro u hu
    simp only [cs, List.mem_cons] at hu
    rcases hu with rfl | rfl | rfl | hu
    · rfl
    · rfl
    · rfl
    · exact ih u hu
theorem cs_get (r : List Ce.Cv) : ∀ i, i < r.length → (cs r)[i * 3]? = some (.int .i64 (r.getD i Ce.c0).k) ∧ (cs r)[i * 3 + 1]? = some (.int .i64 (r.getD i Ce.c0).n) ∧ (cs r)[i * 3 + 2]? = some (.complex .f64 (r.getD i Ce.c0).re (r.getD i Ce.c0).im) := by
  induction r with
  | nil => intro i hi; simp at hi
  | cons p r ih =>
    intro i hi
    cases i with
    | zero => exact ⟨rfl, rfl, rfl⟩
    | succ i =>
      have h := ih i (by simpa using hi)
      rw [show (i + 1) * 3 = i * 3 + 1 + 1 + 1 by omega]
      simpa [cs] using h

/-- Values that the call itself has made, read. -/
theorem vals_of_own {w : World} {b n : Nat} {e : TypeId} {A : Option Addr} {k c : Nat} {r : List Ce.Cv} (h : w.ownsRow b e 3 (.slice A k c) n (cs r)) : k = n ∧ ValsAt w w.heap.size A k r ∧ r.length = n ∧ k ≤ c := by
  have hl : r.length = n := by have := h.1; rw [cs_length] at this; omega
  have hlt := h.lt
  rcases h.2 with ⟨hv, hn⟩ | ⟨g, cap, cur, hv, hg, hh, hnc, hcm, hcs, ht⟩
  · injection hv with h1 h2 h3
    subst h1 h2 h3 hn
    exact ⟨rfl, ⟨hl, fun h => absurd h (by omega)⟩, hl, Nat.le_refl _⟩
  · injection hv with h1 h2 h3
    subst h1 h2 h3
    refine ⟨rfl, ⟨hl, fun hn => ⟨g, 0, rfl, (hlt g rfl).2, fun i hi => ?_⟩⟩, hl, hnc⟩
    obtain ⟨e0, e1, e2⟩ := cs_get r i (by omega)
    rw [← ht, List.getElem?_take, if_pos (by omega), Array.getElem?_toList] at e0 e1 e2
    rw [Nat.zero_add, cell_of_row w g _ cur _ _ hh, cell_of_row w g _ cur _ _ hh, cell_of_row w g _ cur _ _ hh]
    exact ⟨e0, e1, e2⟩
theorem vals_slice {w : World} {b : Nat} {e : TypeId} {v : Value} {r : List Ce.Cv} (h : w.ownsRow b e 3 v r.length (cs r)) : ∃ A c, v = .slice A r.length c ∧ ValsAt w w.heap.size A r.length r ∧ r.length ≤ c := by
  rcases h.2 with ⟨rfl, hn⟩ | ⟨g, cap, cur, rfl, _⟩
  · have hi := vals_of_own h
    rw [← hn] at hi
    exact ⟨none, 0, by rw [hn], hi.2.1, by omega⟩
  · exact ⟨_, cap, rfl, (vals_of_own h).2.1, (vals_of_own h).2.2.2⟩

/-- One value more: its cells in new memory. -/
theorem new_val (w : World) (v : Ce.Cv) : ∀ j u, (cs [v])[j]? = some u → (w.alloc v.obj).cell? ((⟨w.heap.size, 0, none⟩ : Addr).add j) = some u :=
  World.news_of_block (heap_alloc_new w v.obj)

theorem own_grown {w wr w2 : World} {e : TypeId} {size k : Nat} {u : Value} {xs : List Value} {o : Obj} (hB : Below w.heap.size w wr) (hO : wr.ownsRow w.heap.size e size u k xs) (hg : (wr.alloc o).grownBy w2 u.ownBlock) : Below w.heap.size w w2 :=
  (hB.alloc hB.size o).grown hg (by have := hB.size; simp; omega) (fun k hk => (hO.lt k hk).1)

/-- A statement's values: a Kind, a number, two parts. -/
structure Ce.Vv where
  k : Int
  n : Int
  re : Int
  im : Int
abbrev Ce.v0 : Ce.Vv := ⟨0, 0, 0, 0⟩
def Ce.Vv.cv (v : Ce.Vv) : Ce.Cv := ⟨v.k, v.n, floatOfInt .f64 v.re, floatOfInt .f64 v.im⟩

/-- A slice of n of them, below block B. -/
def VvsAt (w : World) (B : Nat) (a : Option Addr) (n : Nat) (l : List Ce.Vv) : Prop :=
  l.length = n ∧ (0 < n → ∃ b off, a = some ⟨b, off, none⟩ ∧ b < B ∧ ∀ i, i < n → w.cell? ⟨b, off + i * 4, none⟩ = some (.int .i64 (l.getD i Ce.v0).k) ∧ w.cell? ⟨b, off + i * 4 + 1, none⟩ = some (.int .i64 (l.getD i Ce.v0).n) ∧ w.cell? ⟨b, off + i * 4 + 2, none⟩ = some (.int .i64 (l.getD i Ce.v0).re) ∧ w.cell? ⟨b, off + i * 4 + 3, none⟩ = some (.int .i64 (l.getD i Ce.v0).im))

/-- Two answers of an operation are alike. -/
theorem made_al {op : Int} {a b : Ce.Cv} {r r' : Option Ce.Cv} (h : Ce.MadeR op a b r) (h' : Ce.MadeR op a b r') : (r = none ∧ r' = none) ∨ ∃ v v', r = some v ∧ r' = some v' ∧ Ce.same v v' = true := by
  have two : Wh.takes op = 2 → op = 6 ∨ op = 7 ∨ op = 8 ∨ op = 9 ∨ op = 10 ∨ op = 12 ∨ op = 13 := wh_two op
  have self : ∀ x, Ce.same ⟨1, x, 0, 0⟩ ⟨1, x, 0, 0⟩ = true := fun x => by simp [Ce.same]
  rcases h with ⟨e, h⟩ | ⟨e, re, im, h, t⟩ | ⟨e, h⟩ | ⟨e, h⟩ | ⟨e, h⟩
  · rcases h' with ⟨e', h'⟩ | ⟨e', re', im', h', t'⟩ | ⟨e', h'⟩ | ⟨e', h'⟩ | ⟨e', h'⟩
    · refine .inr ⟨_, _, h, h', ?_⟩
      show (Pl.al _ _ && Pl.al _ _) = true
      rw [Pl.al_of (.inl rfl), Pl.al_of (.inl rfl)]
      rfl
    · omega
    · omega
    · omega
    · have := two e'; omega
  · rcases h' with ⟨e', h'⟩ | ⟨e', re', im', h', t'⟩ | ⟨e', h'⟩ | ⟨e', h'⟩ | ⟨e', h'⟩
    · omega
    · obtain ⟨x1, x2⟩ := Pl.two_al t t' (.refl _) (.refl _) (.refl _) (.refl _)
      refine .inr ⟨_, _, h, h', ?_⟩
      show (Pl.al _ _ && Pl.al _ _) = true
      rw [Pl.al_of x1, Pl.al_of x2]
      rfl
    · omega
    · omega
    · have := two e'; omega
  · rcases h' with ⟨e', h'⟩ | ⟨e', re', im', h', t'⟩ | ⟨e', h'⟩ | ⟨e', h'⟩ | ⟨e', h'⟩
    · omega
    · omega
    · exact .inr ⟨_, _, h, h', self _⟩
    · omega
    · have := two e'; omega
  · rcases h' with ⟨e', h'⟩ | ⟨e', re', im', h', t'⟩ | ⟨e', h'⟩ | ⟨e', h'⟩ | ⟨e', h'⟩
    · omega
    · omega
    · omega
    · exact .inr ⟨_, _, h, h', self _⟩
    · have := two e'; omega
  · have := two e
    rcases h' with ⟨e', h'⟩ | ⟨e', re', im', h', t'⟩ | ⟨e', h'⟩ | ⟨e', h'⟩ | ⟨e', h'⟩
    · omega
    · omega
    · omega
    · omega
    · cases hy : (Wh.two op a.n b.n).2
      · rw [hy] at h h'
        exact .inl ⟨h, h'⟩
      · rw [hy] at h h'
        exact .inr ⟨_, _, h, h', self _⟩
theorem do_al {op : Int} {l : List Ce.Cv} {r r' : Option Ce.Cv} (h : Ce.DoR op l r) (h' : Ce.DoR op l r') : (r = none ∧ r' = none) ∨ ∃ v v', r = some v ∧ r' = some v' ∧ Ce.same v v' = true := by
  rcases h with ⟨hf, h⟩ | ⟨hf, h⟩
  · rcases h' with ⟨_, h'⟩ | ⟨hf', _⟩
    · exact .inl ⟨h, h'⟩
    · exact absurd hf' hf
  · rcases h' with ⟨hf', _⟩ | ⟨_, h'⟩
    · exact absurd hf hf'
    · exact made_al h h'

def DoesRel (w : World) (n : Nat) (l : List Ce.Vv) (u i : Value) (wr : World) : Prop :=
  ∃ k : Nat, k ≤ n ∧ i = .int .i64 (k : Int) ∧ wr.ownsRow w.heap.size 29 3 u ((l.take k).map Ce.Vv.cv).length (cs ((l.take k).map Ce.Vv.cv)) ∧ Below w.heap.size w wr

set_option maxHeartbeats 4000000 in
set_option maxRecDepth 100000 in
theorem does_walk (op : Int) (a : Option Addr) (n c : Nat) (l : List Ce.Vv) (w : World) (h : VvsAt w w.heap.size a n l) (hb : ∀ v ∈ l, -9223372036854775808 ≤ v.n ∧ v.n ≤ 9223372036854775807) (hn : n ≤ 9223372036854775807) (hp : Pow w) :
    Calls Tryd.prog 3 #[.int .i64 op, .slice a n c] w (BoolP true w) := by
  obtain ⟨i0, hi, hz0, hz1, hz2⟩ := info_parts info_val
  have HS := Lib.hid h
  have HN := Lib.hid hb
  have HP := Lib.hid hp
  have hl := h.1
  clear h hb hp
  by_cases h5 : 5 < n
  · have hi5 : (5 : Int) < (n : Int) := by omega
    go_enter Tryd.func3, Tryd.ntmps3
    go_wp2_with (go_at_call 5; refine (lives8_any _ HP.out).mono ?_; rintro e w1 ⟨rfl, hb1⟩)
    go_ret
    exact ⟨rfl, hb1⟩
  have hi5 : ¬ (5 : Int) < (n : Int) := by omega
  go_enter Tryd.func3, Tryd.ntmps3
  go_wp2
  go_loopw [5, 6] (DoesRel w n l) (fun _ i _ => n - (intOf i).toNat)
  case atStart => exact ⟨0, Nat.zero_le _, rfl, World.ownsRow_nil _ _ _ _, Below.refl _ _⟩
  case round =>
    obtain ⟨k, hk, rfl, hO, hB⟩ := hrel
    obtain ⟨A, cc, rfl, hVA, hcc⟩ := vals_slice hO
    have HO := Lib.hid hO
    have HB := Lib.hid hB
    have hs := hB.size
    by_cases hlt : k < n
    · obtain ⟨b, off, rfl, hlb, hc⟩ := HS.out.2 (by omega)
      obtain ⟨c0, c1, c2, c3⟩ := hc k hlt
      have HT : Hid (l.take (k + 1) = l.take k ++ [l.getD k Ce.v0]) := Lib.hid (by
        rw [List.take_succ_eq_append_getElem (by omega)]
        simp [List.getD, hl, hlt])
      have HQ : Hid (((l.take k).map Ce.Vv.cv).length = k) := Lib.hid (by rw [List.length_map, List.length_take]; omega)
      have q0 := (hB.cell (p := ⟨b, off + k * 4, none⟩) hlb).trans c0
      have q1 := (hB.cell (p := ⟨b, off + k * 4 + 1, none⟩) hlb).trans c1
      have q2 := (hB.cell (p := ⟨b, off + k * 4 + 2, none⟩) hlb).trans c2
      have q3 := (hB.cell (p := ⟨b, off + k * 4 + 3, none⟩) hlb).trans c3
      clear hc hO hB hVA c0 c1 c2 c3
      generalize l.getD k Ce.v0 = p at *
      obtain ⟨pk, pn, pr, pi⟩ := p
      simp only at q0 q1 q2 q3
      generalize hm : (l.take k).map Ce.Vv.cv = q at *
      have HM := Lib.hid hm
      clear hm
      have hki : (k : Int) < (n : Int) := by omega
      have HV := fun w => vvalue_any pk pn pr pi w
      go_wp2_with (first
        | (go_at_call 6; refine (HV _).mono ?_; rintro e w1 ⟨rfl, b1⟩)
        | (at_builtin; refine wpList_append_lies _ rfl (.tmp 21) (.tmp 27) 25 rfl w.heap.size 29 i0 (.agg #[.int .i64 0, .int .i64 0, .complex .f64 0 0]) 3 32 Tryd.underlying25 hi hz0 hz1 hz2 rfl (by decide) (.slice A q.length cc) q.length (cs q) rfl ((ownsRow_below HO.out b1).alloc _) ⟨w1.heap.size, 0, none⟩ 1 1 (cs [⟨pk, pn, floatOfInt .f64 pr, floatOfInt .f64 pi⟩]) rfl rfl (new_val w1 ⟨pk, pn, floatOfInt .f64 pr, floatOfInt .f64 pi⟩) (cs_one _) (by decide) ?c3 ?c4 ?c5 (w1.heap.size + 1) ?c6 ?_))
      case c3 => have := HQ.out; unfold maxLen; omega
      case c4 => have := HQ.out; omega
      case c5 => have := b1.size; simp; omega
      case c6 => simp
      intro g cap w2 hown2 hgrow2 _ _
      have HB2 := Lib.hid (own_grown (HB.out.trans (b1.mono HB.out.size)) (ownsRow_below HO.out b1) hgrow2)
      have HO2 := Lib.hid hown2
      clear hown2 hgrow2 b1 q0 q1 q2 q3
      go_wp2
      go_roundw
      case rel =>
        refine ⟨k + 1, by omega, by go_num, ?_, HB2.out⟩
        rw [HT.out, List.map_append, List.length_append, cs_append, HM.out]
        exact HO2.out
      case measure => simp [intOf]; omega
    · have hkn : k = n := by omega
      subst hkn
      have HE : Hid (l.take k = l) := Lib.hid (List.take_of_length_le (by omega))
      have hlen : ((l.take k).map Ce.Vv.cv).length = k := by rw [HE.out, List.length_map, hl]
      rw [hlen] at hVA hcc ⊢
      rw [HE.out] at hVA
      have HVA := Lib.hid hVA
      have HNB : Hid (∀ v ∈ l.map Ce.Vv.cv, -9223372036854775808 ≤ v.n ∧ v.n ≤ 9223372036854775807) := Lib.hid (by
        intro v hv
        obtain ⟨u, hu, rfl⟩ := List.mem_map.1 hv
        exact HN.out u hu)
      clear hO hB hVA hlen
      have hki : decide ((k : Int) < (k : Int)) = false := decide_eq_false (by omega)
      go_wp2_with fail
      refine (do_any op A k cc (l.map Ce.Vv.cv) wr HVA.out (by omega)).mono ?_
      rintro e w1 ⟨r, hr, b1, ho⟩
      have HB1 := Lib.hid (HB.out.trans (b1.mono HB.out.size))
      have HV1 := Lib.hid ((HVA.out.below b1).more b1.size)
      have HR := Lib.hid hr
      clear hr b1
      cases r with
      | none =>
        have ho' : e = _ := ho
        subst ho'
        clear ho
        go_wp2_with fail
        refine (rdo_any op A k cc (l.map Ce.Vv.cv) w1 HV1.out HNB.out).mono ?_
        rintro e w2 ⟨r', hr', b2, ho⟩
        have HB2 := Lib.hid (HB1.out.trans (b2.mono HB1.out.size))
        rcases do_al HR.out hr' with ⟨_, rfl⟩ | ⟨v, v', h1, _⟩
        case inr => cases h1
        have ho' : e = _ := ho
        subst ho'
        clear ho hr' b2
        have HX := rvalues_any none none 0 0 0 0 [] [] w2 ⟨rfl, fun h => absurd h (by omega)⟩ ⟨rfl, fun h => absurd h (by omega)⟩ (by omega)
        go_wp2_with (go_at_call 9; refine HX.mono ?_; rintro e w3 ⟨rfl, b3⟩)
        have HB3 := Lib.hid (HB2.out.trans (b3.mono HB2.out.size))
        clear b3 HX
        refine (lives8_any w3 (HP.out.below HB3.out)).mono ?_
        rintro e w4 ⟨rfl, b4⟩
        go_wp2
        go_ret
        exact ⟨rfl, HB3.out.trans (b4.mono HB3.out.size)⟩
      | some v =>
        obtain ⟨A1, rfl, hv1⟩ := ho
        have HW1 := Lib.hid hv1
        clear hv1
        go_wp2_with fail
        refine (rdo_any op A k cc (l.map Ce.Vv.cv) w1 HV1.out HNB.out).mono ?_
        rintro e w2 ⟨r', hr', b2, ho⟩
        have HB2 := Lib.hid (HB1.out.trans (b2.mono HB1.out.size))
        have HW2 := Lib.hid ((HW1.out.below b2).more b2.size)
        rcases do_al HR.out hr' with ⟨h1, _⟩ | ⟨u, v', h1, rfl, hsame⟩
        case inl => cases h1
        injection h1 with h1
        subst h1
        obtain ⟨A2, rfl, hv2⟩ := ho
        have HX := rvalues_any A1 A2 1 1 1 1 [v] [v'] w2 HW2.out hv2 (by omega)
        rw [show Ce.sames [v] [v'] = true by simp [Ce.sames, hsame]] at HX
        clear hv2 hr' b2 hsame
        go_wp2_with (go_at_call 9; refine HX.mono ?_; rintro e w3 ⟨rfl, b3⟩)
        have HB3 := Lib.hid (HB2.out.trans (b3.mono HB2.out.size))
        clear b3 HX
        refine (lives8_any w3 (HP.out.below HB3.out)).mono ?_
        rintro e w4 ⟨rfl, b4⟩
        go_wp2
        go_ret
        exact ⟨rfl, HB3.out.trans (b4.mono HB3.out.size)⟩
end Go.Proofs.YtdenboakcbipdaaDoor
