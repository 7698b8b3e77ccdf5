/-
  What ops.types tells of letters. Conditions: the letters are of ASCII, 4096 at most.
-/
import Derived.Test.YtfkhcoeggfgjeaaBase
import Derived.Lib.OthersKept
import Derived.OwnWalk
import Derived.Laws.RangeString
namespace Go.Proofs.Ytfkhcoeggfgjeaa
open Go.RowKit

namespace Op
/-- The type of a letter. -/
def ty (c : Nat) : Int := if c = 99 then 2 else 1
/-- The types of letters. -/
def tys (s : ByteArray) : List Int := s.data.toList.map fun c => ty c.toNat
theorem tys_length (s : ByteArray) : (tys s).length = s.size := by
  unfold tys
  rw [List.length_map]
  rfl
theorem tys_at (s : ByteArray) (i : Nat) (h : i < s.size) : (tys s).getD i 0 = ty (s[i]).toNat := by
  have h' : i < s.data.size := h
  show _ = ty s.data[i].toNat
  have e : s.data[i]? = some s.data[i] := Array.getElem?_eq_getElem h'
  simp only [tys, List.getD, List.getElem?_map, Array.getElem?_toList, e, Option.map_some, Option.getD_some]
end Op

/-- A row of types of the call's own, read. -/
theorem ints_of_rowE {w : World} {b n : Nat} {E : TypeId} {A : Option Addr} {k c : Nat} {l : List Int} (h : w.ownsRow b E 1 (.slice A k c) n (vs l)) : k = n ∧ IntsAt w w.heap.size A k l ∧ l.length = n := by
  have hl : l.length = n := by have := h.1; unfold vs at this; simpa using this
  have hlt := h.lt
  rcases h.2 with ⟨hv, hn⟩ | ⟨g, cap, cur, hv, hg, hh, hnc, hcm, hcs, ht⟩
  · injection hv with h1 h2 h3
    subst h1 h2 hn
    exact ⟨rfl, ⟨hl, fun h => absurd h (by omega)⟩, hl⟩
  · injection hv with h1 h2 h3
    subst h1 h2
    refine ⟨rfl, ⟨hl, fun hn => ⟨g, 0, rfl, (hlt g rfl).2, fun i hi => ?_⟩⟩, hl⟩
    rw [Nat.zero_add, cell_of_row w g i cur _ _ hh]
    have e := congrArg (fun z => z[i]?) ht
    simp only [Nat.mul_one, List.getElem?_take, hi, if_true, vs] at e
    rw [← Array.getElem?_toList, e]
    simp [List.getD, hl, hi]

/-- What is owned stays owned while an iterator in another block moves on. -/
theorem ownsRow_iter {w : World} {b : Nat} {e : TypeId} {size n g k c : Nat} {xs : List Value} (h : w.ownsRow b e size (.slice (some ⟨g, 0, none⟩) k c) n xs) {r : Nat} (hr : r ≠ g) (s : ByteArray) (p : Nat) : (w.iterAt r s p).ownsRow b e size (.slice (some ⟨g, 0, none⟩) k c) n xs := by
  obtain ⟨h1, h2⟩ := h
  refine ⟨h1, ?_⟩
  rcases h2 with h2 | ⟨g', cap, cur, hv, hg, hh, rest⟩
  · exact .inl h2
  · have e : g' = g := by injection hv with h1 _ _; injection h1 with h1; injection h1 with h1; exact h1.symm
    refine .inr ⟨g', cap, cur, hv, hg, ?_, rest⟩
    rw [Lib.iterAt_other _ _ _ _ _ (by rw [e]; exact Ne.symm hr)]
    exact hh

theorem made_ints (n : Nat) : (madeCells #[.int .i64 0] n).toList = vs (List.replicate n 0) := by
  simp only [madeCells, vs, List.map_replicate]
  simp [Nat.mod_one, List.map_const']

theorem info_type : (Try.prog.info? 37).map (fun i => (i.zero, i.size, i.bytes)) = some (some (.int .i64 0), 1, 8) := by kernel_rfl

/-- A row of whole numbers of the call's own is answered; nothing below has turned. -/
def TysP (l : List Int) (w : World) (e : Ending) (w' : World) : Prop := ∃ A c, e = .returned (.slice A l.length c) ∧ IntsAt w' w'.heap.size A l.length l ∧ Below w.heap.size w w'

def TysRel (w : World) (it : Nat) (t : ByteArray) (_ : Value) (wr : World) : Prop :=
  ∃ (k : Nat) (r : List Int), k ≤ t.size ∧ r.length = t.size ∧ (∀ j, j < k → r.getD j 0 = (Op.tys t).getD j 0) ∧ wr.heap[it]? = some (.stringIter t k) ∧ wr.ownsRow w.heap.size 37 1 (.slice (some ⟨w.heap.size, 0, none⟩) t.size t.size) t.size (vs r) ∧ Below w.heap.size w wr

theorem vs_at (r : List Int) (k : Nat) (h : k < r.length) : (vs r)[k]? = some (.int .i64 (r.getD k 0)) := by
  simp [vs, List.getD, h]

theorem vs_set (r : List Int) (k : Nat) (v : Int) : (vs r).set k (.int .i64 v) = vs (r.set k v) := by simp [vs, List.map_set]

/-- One letter more. -/
theorem tysRel_next {w w2 : World} {it k : Nat} {t : ByteArray} {r : List Int} {v : Int} {u : Value} (hlt : k < t.size) (hr : r.length = t.size) (hW : ∀ j, j < k → r.getD j 0 = (Op.tys t).getD j 0) (hv : (Op.tys t).getD k 0 = v) (hit : w2.heap[it]? = some (.stringIter t (k + 1)))
    (hO : w2.ownsRow w.heap.size 37 1 (.slice (some ⟨w.heap.size, 0, none⟩) t.size t.size) t.size (vs (r.set k v))) (hB : Below w.heap.size w w2) : TysRel w it t u w2 := by
  refine ⟨k + 1, r.set k v, hlt, by rw [List.length_set]; exact hr, fun j hj => ?_, hit, hO, hB⟩
  by_cases hjk : j = k
  · subst hjk
    have : j < r.length := by omega
    rw [hv]
    simp [List.getD, this]
  · rw [← hW j (by omega)]
    simp [List.getD, Ne.symm hjk]

set_option maxHeartbeats 4000000 in
set_option maxRecDepth 100000 in
theorem types_any (t : ByteArray) (w : World) (hn : t.size ≤ 4096) (ha : ∀ i (h : i < t.size), (t[i]'h).toNat < 128) :
    Calls Try.prog 24 #[.string t] w (TysP (Op.tys t) w) := by
  obtain ⟨i0, hi, hz0, hz1, hz2⟩ := info_parts info_type
  have HA := Lib.hid ha
  clear ha
  go_enter Try.func24, Try.ntmps24
  go_wp2_with (at_make; refine wpList_make_full _ rfl _ _ 28 rfl w.heap.size 37 i0 (.int .i64 0) 1 Try.underlying28 hi hz0 hz1 .i64 .i64 _ _ t.size rfl rfl rfl rfl ?m1 ?m2 (Nat.le_refl _) ?_)
  case m1 => rw [hz2]; omega
  case m2 => unfold maxLen; omega
  intro w1 hown hgrow
  have HB1 := Lib.hid ((Below.refl w.heap.size w).grown hgrow (Nat.le_refl _) (fun k hk => by cases hk))
  rw [made_ints] at hown
  have HO1 := Lib.hid hown
  have hgl := (hown.lt w.heap.size rfl).2
  clear hown hgrow
  go_wp2
  go_loopw [4] (TysRel w w1.heap.size t) (fun _ wr => t.size - wr.iterPos w1.heap.size)
  case atStart => exact ⟨0, List.replicate t.size 0, Nat.zero_le _, by simp, fun j hj => absurd hj (Nat.not_lt_zero _), World.iter_heap _ _ _, HO1.out.alloc _, HB1.out.alloc (by omega) _⟩
  case round =>
    obtain ⟨k, r, hk, hr, hW, hit, hO, hB⟩ := hrel
    have HO := Lib.hid hO
    have HB := Lib.hid hB
    have HW := Lib.hid hW
    have HRL := Lib.hid hr
    have HIT := Lib.hid hit
    clear hO hB hW hr HO1 HB1 hit
    by_cases hlt : k < t.size
    · have hnx := fun ty => Lib.run_next_ascii_at (P := Try.prog) wr w1.heap.size t k ty HIT.out hlt (HA.out k hlt)
      have HK : Hid (k < r.length) := Lib.hid (by rw [HRL.out]; exact hlt)
      have hO2 := ownsRow_iter HO.out (r := w1.heap.size) (by omega) t (k + 1)
      have x0 := (hO2.cellAt k (by omega)).trans (vs_at r k HK.out)
      have f0 := hO2.frozenAt k
      have HO2 := Lib.hid hO2
      have HI2 := Lib.hid (Lib.iterAt_heap wr w1.heap.size t k (k + 1) HIT.out)
      have HB2 := Lib.hid (Lib.below_iterAt HB.out (k := w1.heap.size) (by omega) t (k + 1))
      have HM : Hid (wr.iterPos w1.heap.size = k) := Lib.hid (iterPos_of HIT.out)
      generalize wr.iterAt w1.heap.size t (k + 1) = w2 at *
      clear hO2
      have hd : (t[k].toNat : Int) = 99 ∨ (((t[k].toNat : Nat) : Int) == 99) = false := by
        by_cases h : (t[k].toNat : Int) = 99
        · exact .inl h
        · exact .inr (beq_eq_false_iff_ne.2 h)
      have HTY : Hid ((Op.tys t).getD k 0 = Op.ty (t[k]).toNat) := Lib.hid (Op.tys_at t k hlt)
      generalize t[k].toNat = c at *
      rcases hd with hd | hd
      · obtain rfl : c = 99 := by omega
        clear hd
        have hd : ((((99 : Nat) : Int)) == 99) = true := rfl
        go_wp2
        have hit3 : ((w2.setCell ⟨w.heap.size, k, none⟩ (.int .i64 1)).setCell ⟨w.heap.size, k, none⟩ (.int .i64 2)).heap[w1.heap.size]? = some (.stringIter t (k + 1)) := (Below.heap_setCell _ ⟨w.heap.size, k, none⟩ _ _ (by simp; omega)).trans ((Below.heap_setCell _ ⟨w.heap.size, k, none⟩ _ _ (by simp; omega)).trans HI2.out)
        refine ⟨tysRel_next hlt HRL.out HW.out HTY.out hit3 ?_ ((HB2.out.setCell (p := ⟨w.heap.size, k, none⟩) (Nat.le_refl _) _).setCell (p := ⟨w.heap.size, k, none⟩) (Nat.le_refl _) _), ?_⟩
        · have h1 := (HO2.out.stored k (.int .i64 1)).1
          have h2 := (h1.stored k (.int .i64 2)).1
          rw [List.set_set, vs_set] at h2
          exact h2
        · rw [iterPos_of hit3, HM.out]
          omega
      · go_wp2
        have hit3 : (w2.setCell ⟨w.heap.size, k, none⟩ (.int .i64 1)).heap[w1.heap.size]? = some (.stringIter t (k + 1)) := (Below.heap_setCell _ ⟨w.heap.size, k, none⟩ _ _ (by simp; omega)).trans HI2.out
        refine ⟨tysRel_next hlt HRL.out HW.out (HTY.out.trans (by unfold Op.ty; rw [if_neg (by intro e; subst e; simp at hd)])) hit3 ?_ (HB2.out.setCell (p := ⟨w.heap.size, k, none⟩) (Nat.le_refl _) _), ?_⟩
        · have h1 := (HO2.out.stored k (.int .i64 1)).1
          rw [vs_set] at h1
          exact h1
        · rw [iterPos_of hit3, HM.out]
          omega
    · have hnx := fun ty => Lib.run_next_end_at (P := Try.prog) wr w1.heap.size t k ty HIT.out hlt
      have HE : Hid (r = Op.tys t) := Lib.hid (by
        apply List.ext_getElem?
        intro j
        have hl := Op.tys_length t
        by_cases hj : j < t.size
        · have h1 := HW.out j (by omega)
          have h2 : j < r.length := by rw [HRL.out]; exact hj
          have h3 : j < (Op.tys t).length := by omega
          simp only [List.getD, List.getElem?_eq_getElem h2, List.getElem?_eq_getElem h3, Option.getD_some] at h1
          rw [List.getElem?_eq_getElem h2, List.getElem?_eq_getElem h3, h1]
        · rw [List.getElem?_eq_none (by rw [HRL.out]; omega), List.getElem?_eq_none (by omega)])
      go_wp2
      go_ret
      have hl := Op.tys_length t
      refine ⟨some ⟨w.heap.size, 0, none⟩, t.size, by rw [hl]; rfl, ?_, HB.out⟩
      have := (ints_of_rowE HO.out).2.1
      rw [HE.out] at this
      rw [hl]
      exact this
end Go.Proofs.Ytfkhcoeggfgjeaa
