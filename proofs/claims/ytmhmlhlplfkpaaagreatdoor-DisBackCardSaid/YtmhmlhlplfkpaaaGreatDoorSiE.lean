/-
 What sig.Read and the document's Read tell of any text. Conditions: at most a million bytes.
-/
import Derived.Test.YtmhmlhlplfkpaaaGreatDoorSiOp
import Derived.Laws.RangeAny
set_option maxRecDepth 100000
namespace Go.Proofs.YtmhmlhlplfkpaaaGreatDoor
open Go.RowKit
namespace Si
def codes (s : ByteArray) : List Nat := s.data.toList.map UInt8.toNat
theorem codes_length (s : ByteArray) : (codes s).length = s.size := by
 unfold codes
 rw [List.length_map]
 rfl
theorem codes_take (s : ByteArray) (k : Nat) (h : k < s.size) : (codes s).take (k + 1) = (codes s).take k ++ [(s[k]'h).toNat] := by
 have h' : k < (codes s).length := by rw [codes_length]; exact h
 rw [List.take_succ_eq_append_getElem h']
 congr 2
 simp only [codes, List.getElem_map]
 rfl
theorem types_take_succ (s : ByteArray) (k : Nat) (h : k < s.size) : types ((codes s).take (k + 1)) = types ((codes s).take k) ++ [typed (((s[k]'h).toNat : Nat) : Int)] := by
 rw [codes_take s k h]
 unfold types
 rw [List.map_append]
 rfl
theorem read_bad (s : ByteArray) (k : Nat) (h : k < s.size) (hn : codes s ≠ [45]) (hb : may (typed (((s[k]'h).toNat : Nat) : Int)) = false) : read (codes s) = none := by
 unfold read
 rw [if_neg hn]
 split
 · rfl
 · rw [if_neg]
   intro e
   have h2 : (types ((codes s).take (k + 1))).all may = true := by
     rw [← types_take, List.all_eq_true]
     intro x hx
     exact List.all_eq_true.1 e x (List.mem_of_mem_take hx)
   rw [types_take_succ s k h, List.all_append] at h2
   simp [hb] at h2
theorem read_good (s : ByteArray) (hn : codes s ≠ [45]) (h0 : 0 < s.size) (ha : (types (codes s)).all may = true) : read (codes s) = some (types (codes s)) := by
 unfold read
 rw [if_neg hn, if_neg (fun e => by have := codes_length s; rw [e] at this; simp at this; omega), if_pos ha]
theorem codes_str (c : List Nat) (h : ∀ x ∈ c, x < 256) : codes ⟨(c.map UInt8.ofNat).toArray⟩ = c := by
 show (c.map UInt8.ofNat).map UInt8.toNat = c
 rw [List.map_map]
 conv => rhs; rw [← List.map_id c]
 refine List.map_congr_left fun x hx => ?_
 have := h x hx
 simp [UInt8.toNat_ofNat']
 omega
theorem codes_inj {s t : ByteArray} (h : codes s = codes t) : s = t := by
 have h1 : s.data.toList = t.data.toList := List.map_inj_right (fun a b e => UInt8.toNat_inj.1 e) |>.1 h
 exact ByteArray.ext (Array.toList_inj.1 h1)
end Si
def SrdP (r : Option (List Int)) (w : World) (e : Ending) (w' : World) : Prop :=
 ∃ A c, e = .returned (.tuple #[.slice A (r.getD []).length c, .int .i64 (if r.isSome then 0 else 5)]) ∧ IntsAt w' w'.heap.size A (r.getD []).length (r.getD []) ∧ Below w.heap.size w w'
def SrdO (r : Option (List Int)) (w : World) (e : Ending) (w' : World) : Prop :=
 ∃ A c, e = .returned (.tuple #[.slice A (r.getD []).length c, .int .i64 (if r.isSome then 0 else 5)]) ∧ w'.ownsRow w.heap.size 87 1 (.slice A (r.getD []).length c) (r.getD []).length (vs (r.getD [])) ∧ Below w.heap.size w w'
theorem SrdO.read {r : Option (List Int)} {w w' : World} {e : Ending} (h : SrdO r w e w') : SrdP r w e w' := by
 obtain ⟨A, c, he, ho, hb⟩ := h
 exact ⟨A, c, he, (ints_of_rowE ho).2.1, hb⟩
theorem srd_none {w w' : World} (h : Below w.heap.size w w') : SrdO none w (.returned (.tuple #[.slice none 0 0, .int .i64 5])) w' := ⟨none, 0, rfl, World.ownsRow_nil _ _ _ _, h⟩
theorem srd_empty {w w' : World} (h : Below w.heap.size w w') : SrdO (some []) w (.returned (.tuple #[.slice none 0 0, .int .i64 0])) w' := ⟨none, 0, rfl, World.ownsRow_nil _ _ _ _, h⟩
theorem srd_some {l : List Int} {w w' : World} {A : Option Addr} {k c b n : Nat} (ho : w'.ownsRow b 87 1 (.slice A k c) n (vs l)) (hb : w.heap.size ≤ b) (h : Below w.heap.size w w') : SrdO (some l) w (.returned (.tuple #[.slice A k c, .int .i64 0])) w' := by
 obtain ⟨h1, h2, h3⟩ := ints_of_rowE ho
 have e : l.length = k := h3.trans h1.symm
 subst e
 have h4 := ownsRow_base ho hb
 rw [← h1] at h4
 exact ⟨A, c, rfl, h4, h⟩
theorem own_iter {w : World} {b : Nat} {e : TypeId} {size n : Nat} {v : Value} {xs : List Value} (h : w.ownsRow b e size v n xs) {r : Nat} (hr : r < b) (s : ByteArray) (p : Nat) : (w.iterAt r s p).ownsRow b e size v n xs := by
 obtain ⟨h1, h2⟩ := h
 refine ⟨h1, ?_⟩
 rcases h2 with h2 | ⟨g', cap, cur, hv, hg, hh, rest⟩
 · exact .inl h2
 · refine .inr ⟨g', cap, cur, hv, hg, ?_, rest⟩
   rw [Lib.iterAt_other _ _ _ _ _ (by omega)]
   exact hh
theorem iter_pos {w : World} {it : Nat} {s : ByteArray} {p : Nat} (h : w.heap[it]? = some (.stringIter s p)) : w.iterPos it = p := by
 simp only [World.iterPos, h]
def SrdRel (s : ByteArray) (w : World) (u : Value) (wr : World) : Prop :=
 ∃ k : Nat, k ≤ s.size ∧ wr.heap[w.heap.size]? = some (.stringIter s k) ∧ wr.ownsRow (w.heap.size + 1) 87 1 u k (vs (Si.types ((Si.codes s).take k))) ∧ (Si.types ((Si.codes s).take k)).all Si.may = true ∧ Below w.heap.size w wr
theorem srdRel_next {s : ByteArray} {w wr w2 : World} {u u' : Value} {k : Nat} {o : Obj} {t : Int} (hk : k < s.size) (ht : Si.typed (((s[k]'hk).toNat : Nat) : Int) = t) (hm : Si.may t = true) (hit : wr.heap[w.heap.size]? = some (.stringIter s (k + 1))) (hall : (Si.types ((Si.codes s).take k)).all Si.may = true)
   (hO : wr.ownsRow (w.heap.size + 1) 87 1 u k (vs (Si.types ((Si.codes s).take k)))) (hB : Below w.heap.size w wr)
   (ho : w2.ownsRow (w.heap.size + 1) 87 1 u' (k + 1) (vs (Si.types ((Si.codes s).take k)) ++ vs [t])) (hg : (wr.alloc o).grownBy w2 u.ownBlock) : SrdRel s w u' w2 := by
 have hlt : w.heap.size < wr.heap.size := (Array.getElem?_eq_some_iff.1 hit).1
 refine ⟨k + 1, hk, ?_, ?_, ?_, ?_⟩
 · rw [hg.block w.heap.size (by simp; omega) (fun e => by have := (hO.lt _ e.symm).1; omega), Below.heap_alloc wr o _ hlt]
   exact hit
 · rw [Si.types_take_succ s k hk, ht, vs_append]
   exact ho
 · rw [Si.types_take_succ s k hk, ht, List.all_append, hall]
   simp [hm]
 · exact (hB.alloc hB.size o).grown hg (by have := hB.size; simp; omega) (fun j hj => by have := (hO.lt j hj).1; omega)
set_option maxHeartbeats 4000000 in
theorem siread_own (s : ByteArray) (w : World) (hs : s.size ≤ 1048576) :
   Calls Tryz.prog 125 #[.string s] w (SrdO (Si.read (Si.codes s)) w) := by
 obtain ⟨i0, hi, hz0, hz1, hz2⟩ := info_parts info_type
 by_cases h0 : s = ⟨#[]⟩
 · subst h0
   rw [show Si.read (Si.codes ⟨#[]⟩) = none by rfl]
   go_enter Tryz.func125, Tryz.ntmps125
   go_wp2
   go_ret2
   exact srd_none (Below.refl _ _)
 by_cases h1 : s = ⟨#[45]⟩
 · subst h1
   rw [show Si.read (Si.codes ⟨#[45]⟩) = some [] by rfl]
   go_enter Tryz.func125, Tryz.ntmps125
   go_wp2
   go_ret2
   exact srd_empty (Below.refl _ _)
 have hn45 : Si.codes s ≠ [45] := fun e => h1 (Si.codes_inj e)
 have hpos : 0 < s.size := by
   rcases Nat.eq_zero_or_pos s.size with e | e
   · exact absurd (ByteArray.ext (Array.eq_empty_of_size_eq_zero e)) h0
   · exact e
 have hd0 : s.toList.isEmpty = false := by
   have h2 : s.toList.length = s.size := by rw [ByteArray.toList_eq]; rfl
   generalize s.toList = y at h2
   cases y with
   | nil => simp at h2; omega
   | cons _ _ => rfl
 have hd1 : (s.toList == [45]) = false := by
   have e : (⟨#[45]⟩ : ByteArray).toList = [45] := by kernel_rfl
   rw [← e]
   exact (Lib.bytes_beq_false_iff _ _).2 h1
 have HN := Lib.hid hn45
 have HP := Lib.hid hpos
 clear h0 h1 hn45 hpos
 go_enter Tryz.func125, Tryz.ntmps125
 go_wp2
 go_loopw [4, 6, 7] (fun u _ _ wr => SrdRel s w u wr) (fun _ _ _ wr => s.size - wr.iterPos w.heap.size)
 case atStart => exact ⟨0, Nat.zero_le _, World.iter_heap _ _ _, World.ownsRow_nil _ _ _ _, rfl, (Below.refl _ _).alloc (Nat.le_refl _) _⟩
 case round =>
   obtain ⟨k, hk, hit, hO, hall, hB⟩ := hrel
   have HO := Lib.hid hO
   have HB := Lib.hid hB
   have HA := Lib.hid hall
   have HIT := Lib.hid hit
   clear hO hB hall hit
   by_cases hlt : k < s.size
   · have HI0 := Lib.hid ((Array.getElem?_eq_some_iff.1 HIT.out).1)
     by_cases hasc : (s[k]'hlt).toNat < 128
     · have hnx := fun ty => Lib.run_next_ascii_at (P := Tryz.prog) wr w.heap.size s k ty HIT.out hlt hasc
       have HO2 := Lib.hid (own_iter HO.out (r := w.heap.size) (by omega) s (k + 1))
       have HI2 := Lib.hid (Lib.iterAt_heap wr w.heap.size s k (k + 1) HIT.out)
       have HB2 := Lib.hid (Lib.below_iterAt HB.out (k := w.heap.size) (Nat.le_refl _) s (k + 1))
       have HM : Hid (wr.iterPos w.heap.size = k) := Lib.hid (iter_pos HIT.out)
       have HS2 : Hid (w.heap.size + 1 ≤ (wr.iterAt w.heap.size s (k + 1)).heap.size) := Lib.hid (by rw [Lib.iterAt_size]; exact HI0.out)
       generalize wr.iterAt w.heap.size s (k + 1) = w2 at *
       have HBad := Lib.hid (Si.read_bad s k hlt HN.out)
       have HNext := Lib.hid (fun (t : Int) (ht : Si.typed (((s[k]'hlt).toNat : Nat) : Int) = t) => ht)
       have HTy := sityped_any (((s[k]'hlt).toNat : Nat) : Int)
       obtain ⟨t, ht⟩ : ∃ t, Si.typed (((s[k]'hlt).toNat : Nat) : Int) = t := ⟨_, rfl⟩
       have HT := Lib.hid ht
       rw [ht] at HTy HBad
       have HOt := siother_any t
       clear ht
       have hk12 : t = 1 ∨ t = 2 ∨ Si.may t = false := by
         rcases ty_kinds t with h | h | ⟨_, _, h, _⟩
         · exact .inl h
         · exact .inr (.inl h)
         · exact .inr (.inr h)
       generalize ((s[k]'hlt).toNat : Int) = c at hnx HTy
       rcases hk12 with rfl | rfl | hm
       · rw [show Si.may 1 = true from rfl] at HOt
         go_wp2_with (first
           | (go_at_call 150; refine (HTy _).mono ?_; rintro _ wa ⟨rfl, he⟩; obtain rfl := he.symm)
           | (go_at_call 151; refine (HOt _).mono ?_; rintro _ wa ⟨rfl, he⟩; obtain rfl := he.symm)
           | (at_builtin; refine wpList_append_lies _ rfl (.tmp 22) (.tmp 24) 22 rfl (w.heap.size + 1) 87 i0 (.int .i64 0) 1 8 Tryz.underlying22 hi hz0 hz1 hz2 rfl (by decide) u4 k (vs (Si.types ((Si.codes s).take k))) rfl (HO2.out.alloc _) ⟨w2.heap.size, 0, none⟩ 1 1 (vs [1]) rfl rfl ?c1 (vs_one _) (by decide) ?c3 ?c4 ?c5 (w2.heap.size + 1) ?c6 ?_))
         case c1 => exact new_one w2 _ 1
         case c3 => have h1 := hs; unfold maxLen; omega
         case c4 => omega
         case c5 => have h1 := HS2.out; simp; omega
         case c6 => simp
         intro g cap w3 hown3 hgrow3 hat3 _
         have HR3 : Hid (SrdRel s w (.slice (some ⟨g, 0, none⟩) (k + 1) cap) w3) := Lib.hid (srdRel_next hlt HT.out rfl HI2.out HA.out HO2.out HB2.out hown3 hgrow3)
         clear hown3 hgrow3 hat3
         go_wp2
         go_roundw
         case rel => exact HR3.out
         case measure =>
           obtain ⟨k', hk', hit', hO', _⟩ := HR3.out
           have e : k' = k + 1 := by
             have h1 := (ints_of_rowE hO').1
             omega
           simp only [HM.out, iter_pos hit']
           omega
       · rw [show Si.may 2 = true from rfl] at HOt
         go_wp2_with (first
           | (go_at_call 150; refine (HTy _).mono ?_; rintro _ wa ⟨rfl, he⟩; obtain rfl := he.symm)
           | (go_at_call 151; refine (HOt _).mono ?_; rintro _ wa ⟨rfl, he⟩; obtain rfl := he.symm)
           | (at_builtin; refine wpList_append_lies _ rfl (.tmp 22) (.tmp 24) 22 rfl (w.heap.size + 1) 87 i0 (.int .i64 0) 1 8 Tryz.underlying22 hi hz0 hz1 hz2 rfl (by decide) u4 k (vs (Si.types ((Si.codes s).take k))) rfl (HO2.out.alloc _) ⟨w2.heap.size, 0, none⟩ 1 1 (vs [2]) rfl rfl ?c1 (vs_one _) (by decide) ?c3 ?c4 ?c5 (w2.heap.size + 1) ?c6 ?_))
         case c1 => exact new_one w2 _ 2
         case c3 => have h1 := hs; unfold maxLen; omega
         case c4 => omega
         case c5 => have h1 := HS2.out; simp; omega
         case c6 => simp
         intro g cap w3 hown3 hgrow3 hat3 _
         have HR3 : Hid (SrdRel s w (.slice (some ⟨g, 0, none⟩) (k + 1) cap) w3) := Lib.hid (srdRel_next hlt HT.out rfl HI2.out HA.out HO2.out HB2.out hown3 hgrow3)
         clear hown3 hgrow3 hat3
         go_wp2
         go_roundw
         case rel => exact HR3.out
         case measure =>
           obtain ⟨k', hk', hit', hO', _⟩ := HR3.out
           have e : k' = k + 1 := by
             have h1 := (ints_of_rowE hO').1
             omega
           simp only [HM.out, iter_pos hit']
           omega
       · rw [hm] at HOt HBad
         have HE := Lib.hid (HBad.out rfl)
         clear hm HBad
         go_wp2_with (first
           | (go_at_call 150; refine (HTy _).mono ?_; rintro _ wa ⟨rfl, he⟩; obtain rfl := he.symm)
           | (go_at_call 151; refine (HOt _).mono ?_; rintro _ wa ⟨rfl, he⟩; obtain rfl := he.symm))
         go_ret2
         rw [HE.out]
         exact srd_none HB2.out
     · have hnx := fun ty => Lib.run_next_any_at (P := Tryz.prog) wr w.heap.size s k ty HIT.out hlt
       have HH := (decode_high s k hlt (by omega)).1
       have HB2 := Lib.hid (Lib.below_iterAt HB.out (k := w.heap.size) (Nat.le_refl _) s (k + (Utf8.decode s k).2))
       have HE := Lib.hid (Si.read_bad s k hlt HN.out (by rw [Si.typed_high (by omega)]; rfl))
       have HTy := sityped_any ((Utf8.decode s k).1 : Int)
       rw [Si.typed_high (by omega)] at HTy
       have HOt := siother_any 0
       rw [show Si.may 0 = false from rfl] at HOt
       generalize wr.iterAt w.heap.size s (k + (Utf8.decode s k).2) = w2 at *
       generalize ((Utf8.decode s k).1 : Int) = c at hnx HTy
       clear HH hasc
       go_wp2_with (first
         | (go_at_call 150; refine (HTy _).mono ?_; rintro _ wa ⟨rfl, he⟩; obtain rfl := he.symm)
         | (go_at_call 151; refine (HOt _).mono ?_; rintro _ wa ⟨rfl, he⟩; obtain rfl := he.symm))
       go_ret2
       rw [HE.out]
       exact srd_none HB2.out
   · have hnx := fun ty => Lib.run_next_end_at (P := Tryz.prog) wr w.heap.size s k ty HIT.out hlt
     have hkn : k = s.size := by omega
     have HE : Hid ((Si.codes s).take k = Si.codes s) := Lib.hid (List.take_of_length_le (by rw [Si.codes_length]; omega))
     rw [HE.out] at HO HA
     have HR := Lib.hid (Si.read_good s HN.out HP.out HA.out)
     obtain ⟨g, cap, rfl, _, _⟩ := HO.out.form (by have := HP.out; omega)
     clear hkn
     go_wp2
     go_ret2
     rw [HR.out]
     exact srd_some HO.out (by omega) HB.out
end Go.Proofs.YtmhmlhlplfkpaaaGreatDoor
