/-
 Names in memory; what slices.Index, names.Find and the document's Find answer; the document's Unlike. Conditions: none but that the names can be read.
-/
import Derived.Test.YtmhmlhlplfkpaaaGreatDoorNmA
import Derived.Maps.OwnSet
set_option maxRecDepth 100000
namespace Go.Proofs.YtmhmlhlplfkpaaaGreatDoor
open Go.RowKit
def NamesAt (w : World) (B : Nat) (a : Option Addr) (n : Nat) (l : List ByteArray) : Prop :=
 l.length = n ∧ (0 < n → ∃ b off, a = some ⟨b, off, none⟩ ∧ b < B ∧ ∀ i, i < n → w.cell? ⟨b, off + i, none⟩ = some (.string (l.getD i ByteArray.empty)))
theorem NamesAt.below {w w' : World} {B : Nat} {a : Option Addr} {n : Nat} {l : List ByteArray} (h : NamesAt w B a n l) (hb : Below B w w') : NamesAt w' B a n l := by
 refine ⟨h.1, fun hn => ?_⟩
 obtain ⟨b, off, e, hlt, hc⟩ := h.2 hn
 exact ⟨b, off, e, hlt, fun i hi => (hb.cell (p := ⟨b, off + i, none⟩) hlt).trans (hc i hi)⟩
theorem NamesAt.more {w : World} {B B' : Nat} {a : Option Addr} {n : Nat} {l : List ByteArray} (h : NamesAt w B a n l) (hb : B ≤ B') : NamesAt w B' a n l := by
 refine ⟨h.1, fun hn => ?_⟩
 obtain ⟨b, off, e, hlt, hc⟩ := h.2 hn
 exact ⟨b, off, e, by omega, hc⟩
namespace Nm
def find (zs : List ByteArray) (x : ByteArray) : Int := Lib.idxOfS zs x
def nth (zs : List ByteArray) (k : Nat) : ByteArray := zs.getD k ByteArray.empty
theorem find_hit {zs : List ByteArray} {x : ByteArray} {k : Nat} (hk : k < zs.length) (h : nth zs k = x) (hne : ∀ j, j < k → nth zs j ≠ x) : find zs x = k := by
 have := Lib.idxOfS_hit zs zs.length k x hk (Nat.le_refl _) h hne
 rwa [List.take_length] at this
theorem find_miss {zs : List ByteArray} {x : ByteArray} (h : ∀ j, j < zs.length → nth zs j ≠ x) : find zs x = -1 := by
 have := Lib.idxOfS_miss zs zs.length x h
 rwa [List.take_length] at this
theorem nth_mem {zs : List ByteArray} {k : Nat} (h : k < zs.length) : nth zs k ∈ zs := by simp [nth, List.getD, h]
theorem mem_nth {zs : List ByteArray} {x : ByteArray} (h : x ∈ zs) : ∃ k, k < zs.length ∧ nth zs k = x := by
 obtain ⟨k, hk, rfl⟩ := List.mem_iff_getElem.1 h
 exact ⟨k, hk, by simp [nth, List.getD, hk]⟩
theorem find_none {zs : List ByteArray} {x : ByteArray} (h : ¬ x ∈ zs) : find zs x = -1 := find_miss fun _ hj e => h (e ▸ nth_mem hj)
theorem mem_take_nth {zs : List ByteArray} {x : ByteArray} {k : Nat} (hk : k ≤ zs.length) : x ∈ zs.take k ↔ ∃ j, j < k ∧ nth zs j = x := by
 constructor
 · intro h
   obtain ⟨j, hj, e⟩ := mem_nth h
   have hj' : j < k := by simp at hj; omega
   refine ⟨j, hj', ?_⟩
   rw [← e]
   simp [nth, List.getD, hj']
 · rintro ⟨j, hj, rfl⟩
   have : nth (zs.take k) j = nth zs j := by simp [nth, List.getD, hj]
   rw [← this]
   exact nth_mem (by simp; omega)
end Nm
theorem findInv_step {zs : List ByteArray} {x y : ByteArray} {k : Nat} (h : ∀ j, j < k → Nm.nth zs j ≠ x) (hy : Nm.nth zs k = y) (hne : ¬ y = x) : ∀ j, j < k + 1 → Nm.nth zs j ≠ x := by
 intro j hj
 by_cases e : j = k
 · rw [e, hy]; exact hne
 · exact h j (by omega)
set_option maxHeartbeats 1000000 in
theorem rfind_any (a : Option Addr) (n c B : Nat) (zs : List ByteArray) (x : ByteArray) (w : World) (h : NamesAt w B a n zs) (hn : n ≤ 9223372036854775807) :
   Calls Tryz.prog 70 #[.slice a n c, .string x] w fun e w' => e = .returned (.int .i64 (Nm.find zs x)) ∧ w' = w := by
 have H := Lib.hid h
 clear h
 go_enter Tryz.func70, Tryz.ntmps70
 go_wp2
 go_loopw [5] (fun i wr => ∃ k : Nat, k ≤ n ∧ i = .int .i64 (k : Int) ∧ wr = w ∧ ∀ j, j < k → Nm.nth zs j ≠ x) (fun i _ => n - (intOf i).toNat)
 case atStart => exact ⟨0, Nat.zero_le _, rfl, rfl, fun j hj => absurd hj (Nat.not_lt_zero _)⟩
 case round =>
   obtain ⟨k, hk, rfl, rfl, hW⟩ := hrel
   have HW := Lib.hid hW
   clear hW
   by_cases hlt : k < n
   · obtain ⟨b, off, rfl, _, hcA⟩ := H.out.2 (by omega)
     have hc := hcA k hlt
     clear hcA
     have HK : Hid (k < zs.length) := Lib.hid (by rw [H.out.1]; exact hlt)
     obtain ⟨y, hy⟩ : ∃ y, y = zs.getD k ByteArray.empty := ⟨_, rfl⟩
     have HY : Hid (Nm.nth zs k = y) := Lib.hid hy.symm
     rw [← hy] at hc
     clear hy H
     by_cases hxy : y = x
     · subst hxy
       have HG := Lib.hid (Nm.find_hit HK.out HY.out HW.out)
       clear HW HY
       go_wp2
       go_ret
       exact ⟨ret_int HG.out.symm, rfl⟩
     · have hd : (y.toList == x.toList) = false := (Lib.bytes_beq_false_iff _ _).2 hxy
       have HG := Lib.hid (findInv_step HW.out HY.out hxy)
       clear HW HY hxy
       go_wp2
       go_roundw
       case rel => exact ⟨k + 1, by omega, by go_num, by trivial, HG.out⟩
       case measure => simp [intOf]; omega
   · have HG := Lib.hid (Nm.find_miss (zs := zs) (x := x) fun j hj => HW.out j (by rw [H.out.1] at hj; omega))
     go_wp2
     go_ret
     exact ⟨ret_int HG.out.symm, rfl⟩
end Go.Proofs.YtmhmlhlplfkpaaaGreatDoor
namespace Go.Proofs.YtmhmlhlplfkpaaaGreatDoor
open Go.RowKit Go.Maps
namespace Nm
def key (x : ByteArray) : Lit := .string x.data.toList
theorem key_inj {x y : ByteArray} (h : key x = key y) : x = y := by
 injection h with h
 exact ByteArray.ext (Array.toList_inj.mp h)
theorem key_ok (x : ByteArray) : WideAt.IsKeyLit (key x) := by unfold key; exact trivial
def Is (D : DataW Unit) (T : ByteArray → Prop) : Prop := Tidy D ∧ ∀ x, Maps.has D (key x) = true ↔ T x
theorem Is.none : Is (.map []) (fun _ => False) := ⟨tidy_empty, fun x => by simp [Maps.has]⟩
theorem Is.put {D : DataW Unit} {T : ByteArray → Prop} (h : Is D T) (x : ByteArray) (d : DataW Unit) : Is (D.put (key x) d) (fun y => T y ∨ y = x) := by
 refine ⟨h.1.put (key_ok x) d, fun y => ?_⟩
 by_cases e : y = x
 · subst e
   rw [has_put_same h.1.isMap (key_ok _)]
   simp
 · rw [has_put_other (fun h => e (key_inj h)), h.2 y]
   simp [e]
theorem Is.del {D : DataW Unit} {T : ByteArray → Prop} (h : Is D T) (x : ByteArray) : Is (D.del (key x)) (fun y => T y ∧ y ≠ x) := by
 refine ⟨h.1.del _, fun y => ?_⟩
 by_cases e : y = x
 · subst e
   rw [has_del_same]
   simp
 · rw [has_del_other (fun h => e (key_inj h)), h.2 y]
   simp [e]
theorem Is.iff {D : DataW Unit} {T T' : ByteArray → Prop} (h : Is D T) (ht : ∀ x, T x ↔ T' x) : Is D T' := ⟨h.1, fun x => (h.2 x).trans (ht x)⟩
end Nm
def Met (w : World) (b n m : Nat) (T : ByteArray → Prop) : Prop := ∃ D : DataW Unit, w.ownsMap Tryz.prog 9 unitElem b n D ∧ Maps.size D ≤ m ∧ Nm.Is D T
theorem Met.iff {w : World} {b n m : Nat} {T T' : ByteArray → Prop} (h : Met w b n m T) (ht : ∀ x, T x ↔ T' x) : Met w b n m T' := by
 obtain ⟨D, h1, h2, h3⟩ := h
 exact ⟨D, h1, h2, h3.iff ht⟩
theorem Met.lt {w : World} {b n m : Nat} {T : ByteArray → Prop} (h : Met w b n m T) : b < w.heap.size := by
 obtain ⟨D, h1, _⟩ := h
 exact h1.lt
theorem Met.below {w w' : World} {b n m : Nat} {T : ByteArray → Prop} (h : Met w b n m T) (hb : Below w.heap.size w w') : Met w' b n m T := by
 obtain ⟨D, h1, h2, h3⟩ := h
 have hlt := h1.lt
 obtain ⟨es, clock, hb', r⟩ := h1
 exact ⟨D, ⟨es, clock, by rw [hb.block b hlt]; exact hb', r⟩, h2, h3⟩
theorem keyed_string : Keyed Tryz.prog 9 := string_keyed Tryz.underlying9
theorem zero_unit (w : World) : (zeroValue 152).run Tryz.prog w = .ok (.agg #[]) w := by kernel_rfl
set_option maxHeartbeats 1000000 in
theorem met_any (a : Option Addr) (n c : Nat) (zs : List ByteArray) (w : World) (h : NamesAt w w.heap.size a n zs) (hz : ∀ z ∈ zs, z.size ≤ maxLen) (hn : n ≤ 60) :
   Calls Tryz.prog 164 #[.slice a n c] w fun e w' => e = .returned (.map (some w.heap.size)) ∧ Met w' w.heap.size n n (fun x => x ∈ zs) ∧ Below w.heap.size w w' := by
 have H := Lib.hid h
 have HZ := Lib.hid hz
 clear h hz
 have hmm := @run_makeMap Tryz.prog
 go_enter Tryz.func164, Tryz.ntmps164
 go_wp2
 go_loopw [5, 9] (fun _ i wr => ∃ (k : Nat) (D : DataW Unit), k ≤ n ∧ i = .int .i64 (k : Int) ∧ wr.ownsMap Tryz.prog 9 unitElem w.heap.size k D ∧ Nm.Is D (fun x => x ∈ zs.take k) ∧ Below w.heap.size w wr) (fun _ i _ => n - (intOf i).toNat)
 case atStart => exact ⟨0, _, Nat.zero_le _, rfl, World.ownsMap_made _ _ _ _, Nm.Is.none.iff (fun x => by simp), (Below.refl _ _).alloc (Nat.le_refl _) _⟩
 case round =>
   obtain ⟨k, D, hk, rfl, hown, hI, hB⟩ := hrel
   have HI := Lib.hid hI
   have HB := Lib.hid hB
   clear hI hB
   by_cases hlt : k < n
   · obtain ⟨b, off, rfl, _, hcA⟩ := (H.out.below HB.out).2 (by omega)
     have hc := hcA k hlt
     have HK : Hid (k < zs.length) := Lib.hid (by rw [H.out.1]; exact hlt)
     obtain ⟨y, hy⟩ : ∃ y, y = zs.getD k ByteArray.empty := ⟨_, rfl⟩
     have HY : Hid (Nm.nth zs k = y) := Lib.hid hy.symm
     have HS : Hid (y.size ≤ maxLen) := Lib.hid (HZ.out y (HY.out ▸ Nm.nth_mem HK.out))
     have hkey : keyOf Tryz.prog 9 (.string y) = some (Nm.key y) := WideMaps.keyOf_string_mk Tryz.underlying9 HS.out
     rw [← hy] at hc
     clear hy hcA
     go_wp2_with (first
       | (at_mapUpdate; refine wpList_mapUpdate_own _ rfl _ _ _ 189 rfl 9 152 keyed_string Tryz.underlying189 (unitElem (H := Unit)) w.heap.size k _ rfl hown (by unfold maxLen; omega) _ _ _ rfl rfl hkey _ [] unitElem_mk ?_; intro w1 hown1 hgrow1)
       | go_in)
     go_roundw
     case rel =>
       refine ⟨k + 1, _, by omega, by go_num, hown1, (HI.out.put y _).iff (fun x => ?_), HB.out.grown hgrow1 HB.out.size (fun j hj => by cases hj; exact Nat.le_refl _)⟩
       rw [Nm.mem_take_nth (by have := HK.out; omega), Nm.mem_take_nth (by have := HK.out; omega)]
       constructor
       · rintro (⟨j, hj, e⟩ | rfl)
         · exact ⟨j, by omega, e⟩
         · exact ⟨k, by omega, HY.out⟩
       · rintro ⟨j, hj, e⟩
         by_cases hjk : j = k
         · subst hjk; exact .inr (e.symm.trans HY.out)
         · exact .inl ⟨j, by omega, e⟩
     case measure => simp [intOf]; omega
   · obtain rfl : k = n := by omega
     go_wp2
     go_ret
     refine ⟨rfl, ⟨D, hown, hown.size_le, HI.out.iff (fun x => ?_)⟩, HB.out⟩
     rw [← H.out.1, List.take_length]
set_option maxHeartbeats 1000000 in
theorem drop_any (b n m m' : Nat) (T : ByteArray → Prop) (x : ByteArray) (w : World) (h : Met w b n m T) (hx : x.size ≤ maxLen) (r : Bool) (hr : r = true ↔ T x) (hm : m ≤ m' + (if r then 1 else 0)) :
   Calls Tryz.prog 165 #[.map (some b), .string x] w fun e w' => e = .returned (.bool r) ∧ Met w' b n m' (fun y => T y ∧ y ≠ x) ∧ w.grownBy w' (some b) := by
 obtain ⟨D, hown, hs, hi⟩ := h
 have hkey : keyOf Tryz.prog 9 (.string x) = some (Nm.key x) := WideMaps.keyOf_string_mk Tryz.underlying9 hx
 have HR : Maps.has D (Nm.key x) = r := by
   have := hi.2 x
   rw [← hr] at this
   exact Bool.eq_iff_iff.2 this
 have HI := Lib.hid hi
 have HS : Hid (Maps.size (D.del (Nm.key x)) ≤ m') := Lib.hid (by
   have := size_del (k := Nm.key x) hi.1
   rw [HR] at this
   cases r <;> simp at this hm ⊢ <;> omega)
 clear hi hr hs hx hm
 go_enter Tryz.func165, Tryz.ntmps165
 go_wp2_with (first
   | (at_lookup; refine wpList_lookup_own_unit _ rfl _ _ 189 rfl 9 152 keyed_string Tryz.underlying189 (zero_unit _) b n D rfl hown _ _ rfl hkey ?_)
   | (at_delete; refine wpList_delete_own _ rfl _ _ 189 9 rfl 152 keyed_string Tryz.underlying189 (unitElem (H := Unit)) b n D rfl (hown.alloc _) _ _ rfl hkey ?_; intro w1 hown1 hturn1)
   | go_in)
 go_ret
 exact ⟨rfl, ⟨_, hown1, HS.out, HI.out.del x⟩, (World.grownBy_alloc w _ _).trans hturn1.grown⟩
end Go.Proofs.YtmhmlhlplfkpaaaGreatDoor
namespace Go.Proofs.YtmhmlhlplfkpaaaGreatDoor
open Go.RowKit Go.Maps
namespace Nm
def unlike (zs : List ByteArray) : Bool := (List.range zs.length).all fun k => decide (find zs (nth zs k) = (k : Int))
theorem find_le {zs : List ByteArray} {x : ByteArray} : ∀ j, j < zs.length → nth zs j = x → find zs x ≤ (j : Int) := by
 intro j
 induction j using Nat.strongRecOn with
 | _ j ih =>
   intro hj h
   by_cases hex : ∃ i, i < j ∧ nth zs i = x
   · obtain ⟨i, hi, e⟩ := hex
     have := ih i hi (by omega) e
     omega
   · rw [find_hit hj h (fun i hi e => hex ⟨i, hi, e⟩)]
     exact Int.le_refl _
theorem first_iff {zs : List ByteArray} {k : Nat} (hk : k < zs.length) : find zs (nth zs k) = (k : Int) ↔ ¬ nth zs k ∈ zs.take k := by
 rw [mem_take_nth (by omega)]
 constructor
 · rintro h ⟨j, hj, e⟩
   have := find_le j (by omega) e
   omega
 · intro h
   exact find_hit hk rfl (fun j hj e => h ⟨j, hj, e⟩)
theorem unlike_not {zs : List ByteArray} {k : Nat} (hk : k < zs.length) (h : ¬ find zs (nth zs k) = (k : Int)) : unlike zs = false := by
 unfold unlike
 rw [List.all_eq_false]
 exact ⟨k, List.mem_range.2 hk, by rw [decide_eq_false h]; decide⟩
theorem unlike_all {zs : List ByteArray} (h : ∀ k, k < zs.length → find zs (nth zs k) = (k : Int)) : unlike zs = true :=
 List.all_eq_true.2 fun k hk => decide_eq_true (h k (List.mem_range.1 hk))
theorem upto_step {zs : List ByteArray} {k : Nat} (h : ∀ j, j < k → find zs (nth zs j) = (j : Int)) (hk : find zs (nth zs k) = (k : Int)) : ∀ j, j < k + 1 → find zs (nth zs j) = (j : Int) := by
 intro j hj
 by_cases e : j = k
 · rw [e]; exact hk
 · exact h j (by omega)
theorem left_step {zs : List ByteArray} {k : Nat} (hk : k < zs.length) (x : ByteArray) : ((x ∈ zs ∧ ¬ x ∈ zs.take k) ∧ x ≠ nth zs k) ↔ (x ∈ zs ∧ ¬ x ∈ zs.take (k + 1)) := by
 rw [mem_take_nth (by omega), mem_take_nth (by omega)]
 constructor
 · rintro ⟨⟨h1, h2⟩, h3⟩
   refine ⟨h1, ?_⟩
   rintro ⟨j, hj, e⟩
   by_cases hjk : j = k
   · subst hjk; exact h3 e.symm
   · exact h2 ⟨j, by omega, e⟩
 · rintro ⟨h1, h2⟩
   exact ⟨⟨h1, fun ⟨j, hj, e⟩ => h2 ⟨j, by omega, e⟩⟩, fun e => h2 ⟨k, by omega, e.symm⟩⟩
end Nm
set_option maxHeartbeats 1000000 in
theorem runlike_any (a : Option Addr) (n c B : Nat) (zs : List ByteArray) (w : World) (h : NamesAt w B a n zs) (hn : n ≤ 60) :
   Calls Tryz.prog 42 #[.slice a n c] w fun e w' => e = .returned (.bool (Nm.unlike zs)) ∧ w' = w := by
 have H := Lib.hid h
 clear h
 go_enter Tryz.func42, Tryz.ntmps42
 go_wp2
 go_loopw [3] (fun i wr => ∃ k : Nat, k ≤ n ∧ i = .int .i64 (k : Int) ∧ wr = w ∧ ∀ j, j < k → Nm.find zs (Nm.nth zs j) = (j : Int)) (fun i _ => n - (intOf i).toNat)
 case atStart => exact ⟨0, Nat.zero_le _, rfl, rfl, fun j hj => absurd hj (Nat.not_lt_zero _)⟩
 case round =>
   obtain ⟨k, hk, rfl, rfl, hW⟩ := hrel
   have HW := Lib.hid hW
   clear hW
   by_cases hlt : k < n
   · have HC := rfind_any a n c B zs (Nm.nth zs k) wr H.out (by omega)
     obtain ⟨b, off, rfl, _, hcA⟩ := H.out.2 (by omega)
     have hc := hcA k hlt
     have HK : Hid (k < zs.length) := Lib.hid (by rw [H.out.1]; exact hlt)
     have HN := Lib.hid (Nm.unlike_not HK.out)
     have HS := Lib.hid (Nm.upto_step HW.out)
     obtain ⟨y, hy⟩ : ∃ y, y = zs.getD k ByteArray.empty := ⟨_, rfl⟩
     have HY : Hid (Nm.nth zs k = y) := Lib.hid hy.symm
     rw [← hy] at hc
     rw [HY.out] at HC HN HS
     clear hy hcA H HW
     generalize Nm.find zs y = f at *
     by_cases hf : f = (k : Int)
     · subst hf
       have HG := Lib.hid (HS.out rfl)
       clear HS HN
       go_wp2_with (go_at_call 70; refine HC.mono ?_; rintro _ w1 ⟨rfl, he⟩; obtain rfl := he.symm)
       go_roundw
       case rel => exact ⟨k + 1, by omega, by go_num, by trivial, HG.out⟩
       case measure => simp [intOf]; omega
     · have HG := Lib.hid (HN.out hf)
       have hd : (f != (k : Int)) = true := by rw [bne_iff_ne]; exact hf
       clear HS HN hf
       go_wp2_with (go_at_call 70; refine HC.mono ?_; rintro _ w1 ⟨rfl, he⟩; obtain rfl := he.symm)
       go_ret
       exact ⟨retB HG.out.symm, rfl⟩
   · have HG := Lib.hid (Nm.unlike_all (zs := zs) fun j hj => HW.out j (by rw [H.out.1] at hj; omega))
     go_wp2
     go_ret
     exact ⟨retB HG.out.symm, rfl⟩
set_option maxHeartbeats 1000000 in
theorem unlike_any (a : Option Addr) (n c : Nat) (zs : List ByteArray) (w : World) (h : NamesAt w w.heap.size a n zs) (hz : ∀ z ∈ zs, z.size ≤ maxLen) (hn : n ≤ 60) :
   Calls Tryz.prog 134 #[.slice a n c] w (BoolP (Nm.unlike zs) w) := by
 have HM := met_any a n c zs w h hz hn
 have H := Lib.hid h
 have HZ := Lib.hid hz
 clear h hz
 go_enter Tryz.func134, Tryz.ntmps134
 go_wp2_with (go_at_call 164; refine HM.mono ?_; rintro _ w0 ⟨rfl, hm0, hb0⟩)
 have HM0 := Lib.hid hm0
 have HB0 := Lib.hid hb0
 clear HM hm0 hb0
 go_loopw [5, 10] (fun _ i wr => ∃ (k m : Nat), k ≤ n ∧ i = .int .i64 (k : Int) ∧ Met wr w.heap.size n m (fun x => x ∈ zs ∧ ¬ x ∈ zs.take k) ∧ Below w.heap.size w wr ∧ ∀ j, j < k → Nm.find zs (Nm.nth zs j) = (j : Int)) (fun _ i _ => n - (intOf i).toNat)
 case atStart => exact ⟨0, n, Nat.zero_le _, rfl, HM0.out.iff (fun x => by simp), HB0.out, fun j hj => absurd hj (Nat.not_lt_zero _)⟩
 case round =>
   obtain ⟨k, m, hk, rfl, hm, hB, hW⟩ := hrel
   have HW := Lib.hid hW
   have HB := Lib.hid hB
   have HMr := Lib.hid hm
   clear hW hB hm HM0 HB0
   by_cases hlt : k < n
   · obtain ⟨b, off, rfl, _, hcA⟩ := (H.out.below HB.out).2 (by omega)
     have hc := hcA k hlt
     have HK : Hid (k < zs.length) := Lib.hid (by rw [H.out.1]; exact hlt)
     have HS : Hid ((Nm.nth zs k).size ≤ maxLen) := Lib.hid (HZ.out _ (Nm.nth_mem HK.out))
     have HF := Lib.hid (Nm.first_iff HK.out)
     have HD := Lib.hid (fun r (hr : r = true ↔ (Nm.nth zs k ∈ zs ∧ ¬ Nm.nth zs k ∈ zs.take k)) => drop_any w.heap.size n m m _ (Nm.nth zs k) wr HMr.out HS.out r hr (by omega))
     have hin := Lib.hid (Nm.nth_mem HK.out)
     have HL := Lib.hid (Nm.left_step HK.out)
     have HY : Hid (Nm.nth zs k = zs.getD k ByteArray.empty) := Lib.hid rfl
     by_cases hf : Nm.find zs (Nm.nth zs k) = (k : Int)
     · have HC := HD.out true ⟨fun _ => ⟨hin.out, HF.out.1 hf⟩, fun _ => rfl⟩
       have HG := Lib.hid (Nm.upto_step HW.out hf)
       clear hf HD HW
       rw [← HY.out] at hc
       generalize Nm.nth zs k = y at *
       clear hcA
       go_wp2_with (go_at_call 165; refine HC.mono ?_; rintro _ w1 ⟨rfl, hm1, hg1⟩)
       go_roundw
       case rel => exact ⟨k + 1, m, by omega, by go_num, hm1.iff HL.out, HB.out.grown hg1 HB.out.size (fun j hj => by cases hj; exact Nat.le_refl _), HG.out⟩
       case measure => simp [intOf]; omega
     · have HC := HD.out false ⟨(fun h => by cases h), fun h => absurd (HF.out.2 h.2) hf⟩
       have HG := Lib.hid (Nm.unlike_not HK.out hf)
       clear hf HD HW
       rw [← HY.out] at hc
       generalize Nm.nth zs k = y at *
       clear hcA
       go_wp2_with (go_at_call 165; refine HC.mono ?_; rintro _ w1 ⟨rfl, hm1, hg1⟩)
       go_ret
       exact ⟨retB HG.out.symm, HB.out.grown hg1 HB.out.size (fun j hj => by cases hj; exact Nat.le_refl _)⟩
   · have HG := Lib.hid (Nm.unlike_all (zs := zs) fun j hj => HW.out j (by rw [H.out.1] at hj; omega))
     go_wp2
     go_ret
     exact ⟨retB HG.out.symm, HB.out⟩
end Go.Proofs.YtmhmlhlplfkpaaaGreatDoor
