/-
  Names that were met stand in a map: what names.met makes, what (names).drop tells and takes out. Conditions: no name is longer than a string can be.
-/
import Derived.Test.YtebdfcelgaeeoaaDoorNmFind
import Derived.Maps.OwnSet
namespace Go.Proofs.YtebdfcelgaeeoaaDoor
open Go.RowKit Go.Maps

namespace Nm
/-- A name as a key. -/
def key (x : ByteArray) : Lit := .string x.data.toList
theorem key_inj {x y : ByteArray} (h : key x = key y) : x = y := by
  injection h with h
  exact ByteArray.ext (Array.toList_inj.mp h)
theorem key_ok (x : ByteArray) : WideAt.IsKeyLit (key x) := by unfold key; exact trivial
/-- The set as read holds just those. -/
def Is (D : DataW Unit) (T : ByteArray → Prop) : Prop := Tidy D ∧ ∀ x, Maps.has D (key x) = true ↔ T x
theorem Is.none : Is (.map []) (fun _ => False) := ⟨tidy_empty, fun x => by simp [Maps.has]⟩
theorem Is.put {D : DataW Unit} {T : ByteArray → Prop} (h : Is D T) (x : ByteArray) (d : DataW Unit) : Is (D.put (key x) d) (fun y => T y ∨ y = x) := by
  refine ⟨h.1.put (key_ok x) d, fun y => ?_⟩
  by_cases e : y = x
  · subst e
    rw [has_put_same h.1.isMap (key_ok _)]
    simp
  · rw [has_put_other (fun h => e (key_inj h)), h.2 y]
    simp [e]
theorem Is.del {D : DataW Unit} {T : ByteArray → Prop} (h : Is D T) (x : ByteArray) : Is (D.del (key x)) (fun y => T y ∧ y ≠ x) := by
  refine ⟨h.1.del _, fun y => ?_⟩
  by_cases e : y = x
  · subst e
    rw [has_del_same]
    simp
  · rw [has_del_other (fun h => e (key_inj h)), h.2 y]
    simp [e]
theorem Is.iff {D : DataW Unit} {T T' : ByteArray → Prop} (h : Is D T) (ht : ∀ x, T x ↔ T' x) : Is D T' := ⟨h.1, fun x => (h.2 x).trans (ht x)⟩
end Nm

/-- Block b is a map of names, of at most m of them: just those of T. -/
def Met (w : World) (b n m : Nat) (T : ByteArray → Prop) : Prop := ∃ D : DataW Unit, w.ownsMap Tryd.prog 9 unitElem b n D ∧ Maps.size D ≤ m ∧ Nm.Is D T

theorem Met.pos {w : World} {b n m : Nat} {T : ByteArray → Prop} {x : ByteArray} (h : Met w b n m T) (hx : T x) : 0 < m := by
  obtain ⟨D, _, hs, hi⟩ := h
  have := size_del (k := Nm.key x) hi.1
  rw [(hi.2 x).2 hx] at this
  simp at this
  omega

theorem Met.iff {w : World} {b n m : Nat} {T T' : ByteArray → Prop} (h : Met w b n m T) (ht : ∀ x, T x ↔ T' x) : Met w b n m T' := by
  obtain ⟨D, h1, h2, h3⟩ := h
  exact ⟨D, h1, h2, h3.iff ht⟩

theorem Met.lt {w : World} {b n m : Nat} {T : ByteArray → Prop} (h : Met w b n m T) : b < w.heap.size := by
  obtain ⟨D, h1, _⟩ := h
  exact h1.lt

theorem Met.below {w w' : World} {b n m : Nat} {T : ByteArray → Prop} (h : Met w b n m T) (hb : Below w.heap.size w w') : Met w' b n m T := by
  obtain ⟨D, h1, h2, h3⟩ := h
  have hlt := h1.lt
  obtain ⟨es, clock, hb', r⟩ := h1
  exact ⟨D, ⟨es, clock, by rw [hb.block b hlt]; exact hb', r⟩, h2, h3⟩

theorem keyed_string : Keyed Tryd.prog 9 := string_keyed Tryd.underlying9
theorem zero_unit (w : World) : (zeroValue 34).run Tryd.prog w = .ok (.agg #[]) w := by kernel_rfl

set_option maxHeartbeats 1000000 in
set_option maxRecDepth 100000 in
theorem met_any (a : Option Addr) (n c : Nat) (zs : List ByteArray) (w : World) (h : NamesAt w w.heap.size a n zs) (hz : ∀ z ∈ zs, z.size ≤ maxLen) (hn : n ≤ 60) :
    Calls Tryd.prog 18 #[.slice a n c] w fun e w' => e = .returned (.map (some w.heap.size)) ∧ Met w' w.heap.size n n (fun x => x ∈ zs) ∧ Below w.heap.size w w' := by
  have H := Lib.hid h
  have HZ := Lib.hid hz
  clear h hz
  have hmm := @run_makeMap Tryd.prog
  go_enter Tryd.func18, Tryd.ntmps18
  go_wp2
  go_loopw [5, 9] (fun _ i wr => ∃ (k : Nat) (D : DataW Unit), k ≤ n ∧ i = .int .i64 (k : Int) ∧ wr.ownsMap Tryd.prog 9 unitElem w.heap.size k D ∧ Nm.Is D (fun x => x ∈ zs.take k) ∧ Below w.heap.size w wr) (fun _ i _ => n - (intOf i).toNat)
  case atStart => exact ⟨0, _, Nat.zero_le _, rfl, World.ownsMap_made _ _ _ _, Nm.Is.none.iff (fun x => by simp), (Below.refl _ _).alloc (Nat.le_refl _) _⟩
  case round =>
    obtain ⟨k, D, hk, rfl, hown, hI, hB⟩ := hrel
    have HI := Lib.hid hI
    have HB := Lib.hid hB
    clear hI hB
    by_cases hlt : k < n
    · obtain ⟨b, off, rfl, _, hcA⟩ := (H.out.below HB.out).2 (by omega)
      have hc := hcA k hlt
      have HK : Hid (k < zs.length) := Lib.hid (by rw [H.out.1]; exact hlt)
      obtain ⟨y, hy⟩ : ∃ y, y = zs.getD k ByteArray.empty := ⟨_, rfl⟩
      have HY : Hid (Nm.nth zs k = y) := Lib.hid hy.symm
      have HS : Hid (y.size ≤ maxLen) := Lib.hid (HZ.out y (HY.out ▸ Nm.nth_mem HK.out))
      have hkey : keyOf Tryd.prog 9 (.string y) = some (Nm.key y) := WideMaps.keyOf_string_mk Tryd.underlying9 HS.out
      rw [← hy] at hc
      clear hy hcA
      go_wp2_with (first
        | (at_mapUpdate; refine wpList_mapUpdate_own _ rfl _ _ _ 31 rfl 9 34 keyed_string Tryd.underlying31 (unitElem (H := Unit)) w.heap.size k _ rfl hown (by unfold maxLen; omega) _ _ _ rfl rfl hkey _ [] unitElem_mk ?_; intro w1 hown1 hgrow1)
        | go_in)
      go_roundw
      case rel =>
        refine ⟨k + 1, _, by omega, by go_num, hown1, (HI.out.put y _).iff (fun x => ?_), HB.out.grown hgrow1 HB.out.size (fun j hj => by cases hj; exact Nat.le_refl _)⟩
        rw [Nm.mem_take_nth (by have := HK.out; omega), Nm.mem_take_nth (by have := HK.out; omega)]
        constructor
        · rintro (⟨j, hj, e⟩ | rfl)
          · exact ⟨j, by omega, e⟩
          · exact ⟨k, by omega, HY.out⟩
        · rintro ⟨j, hj, e⟩
          by_cases hjk : j = k
          · subst hjk; exact .inr (e.symm.trans HY.out)
          · exact .inl ⟨j, by omega, e⟩
      case measure => simp [intOf]; omega
    · obtain rfl : k = n := by omega
      go_wp2
      go_ret
      refine ⟨rfl, ⟨D, hown, hown.size_le, HI.out.iff (fun x => ?_)⟩, HB.out⟩
      rw [← H.out.1, List.take_length]

set_option maxHeartbeats 1000000 in
set_option maxRecDepth 100000 in
theorem drop_any (b n m m' : Nat) (T : ByteArray → Prop) (x : ByteArray) (w : World) (h : Met w b n m T) (hx : x.size ≤ maxLen) (r : Bool) (hr : r = true ↔ T x) (hm : m ≤ m' + (if r then 1 else 0)) :
    Calls Tryd.prog 19 #[.map (some b), .string x] w fun e w' => e = .returned (.bool r) ∧ Met w' b n m' (fun y => T y ∧ y ≠ x) ∧ w.grownBy w' (some b) := by
  obtain ⟨D, hown, hs, hi⟩ := h
  have hkey : keyOf Tryd.prog 9 (.string x) = some (Nm.key x) := WideMaps.keyOf_string_mk Tryd.underlying9 hx
  have HR : Maps.has D (Nm.key x) = r := by
    have := hi.2 x
    rw [← hr] at this
    exact Bool.eq_iff_iff.2 this
  have HI := Lib.hid hi
  have HS : Hid (Maps.size (D.del (Nm.key x)) ≤ m') := Lib.hid (by
    have := size_del (k := Nm.key x) hi.1
    rw [HR] at this
    cases r <;> simp at this hm ⊢ <;> omega)
  clear hi hr hs hx hm
  go_enter Tryd.func19, Tryd.ntmps19
  go_wp2_with (first
    | (at_lookup; refine wpList_lookup_own_unit _ rfl _ _ 31 rfl 9 34 keyed_string Tryd.underlying31 (zero_unit _) b n D rfl hown _ _ rfl hkey ?_)
    | (at_delete; refine wpList_delete_own _ rfl _ _ 31 9 rfl 34 keyed_string Tryd.underlying31 (unitElem (H := Unit)) b n D rfl (hown.alloc _) _ _ rfl hkey ?_; intro w1 hown1 hturn1)
    | go_in)
  go_ret
  exact ⟨rfl, ⟨_, hown1, HS.out, HI.out.del x⟩, (World.grownBy_alloc w _ _).trans hturn1.grown⟩
end Go.Proofs.YtebdfcelgaeeoaaDoor
