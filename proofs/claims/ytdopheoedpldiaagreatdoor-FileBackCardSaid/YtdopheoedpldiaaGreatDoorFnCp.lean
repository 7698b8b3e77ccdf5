/-
 What fnc.Copy tells: the same lists, in memory of the call's own. Conditions: the function can be read; at most a million of each list.
-/
import Derived.Test.YtdopheoedpldiaaGreatDoorAtA
import Derived.Test.YtdopheoedpldiaaGreatDoorMpX
set_option maxRecDepth 100000
namespace Go.Proofs.YtdopheoedpldiaaGreatDoor
open Go.RowKit
def RowAt (w : World) (B : Nat) (a : Option Addr) (ys : List Value) : Prop := 0 < ys.length → ∃ b off, a = some ⟨b, off, none⟩ ∧ b < B ∧ ∀ j, j < ys.length → w.cell? ⟨b, off + j, none⟩ = ys[j]?
theorem row_ints {w : World} {B n : Nat} {a : Option Addr} {l : List Int} (h : IntsAt w B a n l) : RowAt w B a (vs l) := by
 intro hp
 have hl : (vs l).length = n := by rw [vs, List.length_map, h.1]
 obtain ⟨b, off, e, hlt, hc⟩ := h.2 (by omega)
 refine ⟨b, off, e, hlt, fun j hj => ?_⟩
 rw [hc j (by omega)]
 have hjl : j < l.length := by rw [h.1]; omega
 simp [vs, List.getD, hjl]
theorem row_pairs {w : World} {B n : Nat} {a : Option Addr} {l : Ru.Runs} (h : PairsAt w B a n l) : RowAt w B a (ps l) := by
 intro hp
 rw [ps_length] at hp
 obtain ⟨b, off, e, hlt, hc⟩ := h.2 (by have := h.1; omega)
 refine ⟨b, off, e, hlt, fun j hj => ?_⟩
 rw [ps_length, h.1] at hj
 have hi : j / 2 < n := by omega
 obtain ⟨g0, g1⟩ := ps_get l (j / 2) (by rw [h.1]; exact hi)
 obtain ⟨c0, c1⟩ := hc (j / 2) hi
 rcases (show j = j / 2 * 2 ∨ j = j / 2 * 2 + 1 by omega) with h1 | h1
 · rw [h1, g0, c0]
 · rw [h1, g1, ← Nat.add_assoc, c1]
theorem row_nodes {w : World} {B n : Nat} {a : Option Addr} {l : List Tr.Nd} (h : NodesAt w B a n l) : RowAt w B a (nds l) := by
 intro hp
 rw [nds_length] at hp
 obtain ⟨b, off, e, hlt, hc⟩ := h.2 (by have := h.1; omega)
 refine ⟨b, off, e, hlt, fun j hj => ?_⟩
 rw [nds_length, h.1] at hj
 have hi : j / 7 < n := by omega
 have hm : j % 7 < 7 := Nat.mod_lt _ (by decide)
 have hjj : j = j / 7 * 7 + j % 7 := by omega
 have g0 := nds_get l (j / 7) (by rw [h.1]; exact hi) (j % 7) hm
 have c0 := hc (j / 7) hi (j % 7) hm
 rw [← hjj] at g0
 rw [Nat.add_assoc, ← hjj] at c0
 rw [g0, c0]
theorem row_sets {w : World} {B n : Nat} {a : Option Addr} {l : List Sl.Four} (h : SetsAt w B a n l) : RowAt w B a (sets l) := by
 intro hp
 rw [sets_length] at hp
 obtain ⟨b, off, e, hlt, hc⟩ := h.2 (by have := h.1; omega)
 refine ⟨b, off, e, hlt, fun j hj => ?_⟩
 rw [sets_length, h.1] at hj
 have hi : j / 4 < n := by omega
 have hm : j % 4 < 4 := Nat.mod_lt _ (by decide)
 have hjj : j = j / 4 * 4 + j % 4 := by omega
 have g0 := sets_get l (j / 4) (by rw [h.1]; exact hi) (j % 4) hm
 have c0 := hc (j / 4) hi (j % 4) hm
 rw [← hjj] at g0
 rw [Nat.add_assoc, ← hjj] at c0
 rw [g0, c0]
theorem append_fresh {w : World} {t e : TypeId} {i0 : TypeInfo} {z : Value} {sz by_ : Nat} (ht : Tryz.prog.underlying t = some (.slice e)) (hi : Tryz.prog.info? e = some i0) (hz0 : i0.zero = some z) (hz1 : i0.size = sz) (hz2 : i0.bytes = by_) (hzc : z.cells.size = sz) (hp : 0 < sz) (hby : by_ ≤ 64)
   {a : Option Addr} {n c : Nat} {ys : List Value} (hs : RowAt w w.heap.size a ys) (hn : ys.length = n * sz) (hnil : a = none → c = 0) (hone : ∀ u ∈ ys, u.oneCell' = true) (hl : n ≤ 1048576) :
   ∃ v w', (∀ ty, ty = t → (Builtin.append_ #[t, t] ty #[.slice none 0 0, .slice a n c]).run Tryz.prog w = .ok v w') ∧ w'.ownsRow w.heap.size e sz v n ys ∧ Below w.heap.size w w' := by
 cases a with
 | none =>
   have hm : n = 0 := by
     rcases Nat.eq_zero_or_pos n with h | h
     · exact h
     · obtain ⟨b, off, h, _⟩ := hs (by rw [hn]; exact Nat.mul_pos h hp)
       cases h
   subst hm
   have hc := hnil rfl
   subst hc
   rw [Nat.zero_mul] at hn
   obtain rfl := List.eq_nil_of_length_eq_zero hn
   exact ⟨_, w, fun ty _ => run_append_owned_none (P := Tryz.prog) (w := w) w.heap.size t ty e i0 sz ht hi (.slice none 0 0) 0 [] (World.ownsRow_nil _ _ _ _), World.ownsRow_nil _ _ _ _, Below.refl _ _⟩
 | some ad =>
   have hcells : ∀ j u, ys[j]? = some u → w.cell? (ad.add j) = some u := by
     intro j u hu
     have hj : j < ys.length := (List.getElem?_eq_some_iff.1 hu).1
     obtain ⟨b, off, he, _, hc⟩ := hs (Nat.lt_of_le_of_lt (Nat.zero_le _) hj)
     obtain rfl : ad = ⟨b, off, none⟩ := Option.some.inj he
     have e : (⟨b, off, none⟩ : Addr).add j = ⟨b, off + j, none⟩ := by simp [Addr.add]
     rw [e, hc j hj, hu]
   obtain ⟨v', w', hr, ho, hg, _⟩ := run_append_own (P := Tryz.prog) w w.heap.size t t e i0 z sz by_ ht hi hz0 hz1 hz2 hzc hp (.slice none 0 0) 0 [] (World.ownsRow_nil _ _ _ _) ad n c ys hn hcells hone (by unfold maxLen; omega) (Nat.le_trans (Nat.mul_le_mul (show 0 + n ≤ 1048576 by omega) hby) (by decide)) (Nat.le_refl _)
   exact ⟨v', w', fun ty hty => by rw [hty]; exact hr, by simpa using ho, (Below.refl _ _).grown hg (Nat.le_refl _) (fun k hk => by cases hk)⟩
end Go.Proofs.YtdopheoedpldiaaGreatDoor
namespace Go.Proofs.YtdopheoedpldiaaGreatDoor
open Go.RowKit
def FreshP (e : TypeId) (sz n : Nat) (xs : List Value) (w : World) (en : Ending) (w' : World) : Prop := ∃ s : Sl3, en = .returned s.val ∧ w'.ownsRow w.heap.size e sz s.val n xs ∧ Below w.heap.size w w'
theorem own_sl {w : World} {base n size : Nat} {e : TypeId} {v : Value} {xs : List Value} (h : w.ownsRow base e size v n xs) : ∃ s : Sl3, v = s.val := by
 rcases h.2 with ⟨hv, _⟩ | ⟨g, cap, cur, hv, _⟩
 · exact ⟨⟨_, _, _⟩, hv⟩
 · exact ⟨⟨_, _, _⟩, hv⟩
theorem one_vs (l : List Int) : ∀ u ∈ vs l, u.oneCell' = true := by
 intro u hu
 unfold vs at hu
 obtain ⟨x, _, rfl⟩ := List.mem_map.1 hu
 rfl
theorem one_ps : ∀ (l : Ru.Runs), ∀ u ∈ ps l, u.oneCell' = true
 | [], u, hu => by cases hu
 | p :: r, u, hu => by
   rw [ps] at hu
   simp only [List.mem_cons] at hu
   rcases hu with rfl | rfl | h
   · rfl
   · rfl
   · exact one_ps r u h
theorem one_nds : ∀ (l : List Tr.Nd), ∀ u ∈ nds l, u.oneCell' = true
 | [], u, hu => by cases hu
 | p :: r, u, hu => by
   rw [nds] at hu
   rcases List.mem_append.1 hu with h | h
   · exact one_vs _ u h
   · exact one_nds r u h
theorem one_sets : ∀ (l : List Sl.Four), ∀ u ∈ sets l, u.oneCell' = true
 | [], u, hu => by cases hu
 | p :: r, u, hu => by
   rw [sets] at hu
   rcases List.mem_append.1 hu with h | h
   · unfold words at h
     simp only [List.mem_cons, List.not_mem_nil, or_false] at h
     rcases h with rfl | rfl | rfl | rfl <;> rfl
   · exact one_sets r u h
theorem info_fresh_int : (Tryz.prog.info? 3).map (fun i => (i.zero, i.size, i.bytes)) = some (some (.int .i64 0), 1, 8) := by kernel_rfl
theorem info_fresh_type : (Tryz.prog.info? 99).map (fun i => (i.zero, i.size, i.bytes)) = some (some (.int .i64 0), 1, 8) := by kernel_rfl
theorem info_fresh_instr : (Tryz.prog.info? 68).map (fun i => (i.zero, i.size, i.bytes)) = some (some (.agg #[.int .i64 0, .int .i64 0]), 2, 16) := by kernel_rfl
theorem info_fresh_node : (Tryz.prog.info? 104).map (fun i => (i.zero, i.size, i.bytes)) = some (some (.agg #[.int .i64 0, .int .i64 0, .int .i64 0, .int .i64 0, .int .i64 0, .int .i64 0, .int .i64 0]), 7, 56) := by kernel_rfl
theorem info_fresh_set : (Tryz.prog.info? 107).map (fun i => (i.zero, i.size, i.bytes)) = some (some (.agg #[.int .u64 0, .int .u64 0, .int .u64 0, .int .u64 0]), 4, 32) := by kernel_rfl
theorem fresh_types (a : Option Addr) (n c : Nat) (l : List Int) (w : World) (h : IntsAt w w.heap.size a n l) (hnil : a = none → c = 0) (hn : n ≤ 1048576) :
   Calls Tryz.prog 71 #[.slice a n c] w (FreshP 99 1 n (vs l) w) := by
 have hl1 : l.length = n := h.1
 obtain ⟨i0, hi, hz0, hz1, hz2⟩ := info_parts info_fresh_type
 obtain ⟨v, w1, hr, ho, hb⟩ := append_fresh (t := 37) Tryz.underlying37 hi hz0 hz1 hz2 rfl (by decide) (by decide) (row_ints h) (by rw [vs, List.length_map, hl1]; omega) hnil (one_vs l) hn
 obtain ⟨s, rfl⟩ := own_sl ho
 have HR := Lib.hid (hr 37 rfl)
 have HO := Lib.hid ho
 have HB := Lib.hid hb
 clear hr ho hb h hl1 hi hz0 hz1 hz2 hnil hn
 go_enter Tryz.func71, Tryz.ntmps71
 go_wp2_with (at_builtin; refine Lib.wpList_append_run _ rfl (.const (.slice none 0 0)) (.tmp 3) _ _ rfl _ _ rfl rfl _ _ HR.out ?_)
 go_ret
 exact ⟨s, rfl, HO.out, HB.out⟩
theorem fresh_ints (a : Option Addr) (n c : Nat) (l : List Int) (w : World) (h : IntsAt w w.heap.size a n l) (hnil : a = none → c = 0) (hn : n ≤ 1048576) :
   Calls Tryz.prog 73 #[.slice a n c] w (FreshP 3 1 n (vs l) w) := by
 have hl1 : l.length = n := h.1
 obtain ⟨i0, hi, hz0, hz1, hz2⟩ := info_parts info_fresh_int
 obtain ⟨v, w1, hr, ho, hb⟩ := append_fresh (t := 39) Tryz.underlying39 hi hz0 hz1 hz2 rfl (by decide) (by decide) (row_ints h) (by rw [vs, List.length_map, hl1]; omega) hnil (one_vs l) hn
 obtain ⟨s, rfl⟩ := own_sl ho
 have HR := Lib.hid (hr 39 rfl)
 have HO := Lib.hid ho
 have HB := Lib.hid hb
 clear hr ho hb h hl1 hi hz0 hz1 hz2 hnil hn
 go_enter Tryz.func73, Tryz.ntmps73
 go_wp2_with (at_builtin; refine Lib.wpList_append_run _ rfl (.const (.slice none 0 0)) (.tmp 3) _ _ rfl _ _ rfl rfl _ _ HR.out ?_)
 go_ret
 exact ⟨s, rfl, HO.out, HB.out⟩
theorem fresh_instrs (a : Option Addr) (n c : Nat) (l : Ru.Runs) (w : World) (h : PairsAt w w.heap.size a n l) (hnil : a = none → c = 0) (hn : n ≤ 1048576) :
   Calls Tryz.prog 72 #[.slice a n c] w (FreshP 68 2 n (ps l) w) := by
 have hl1 : l.length = n := h.1
 obtain ⟨i0, hi, hz0, hz1, hz2⟩ := info_parts info_fresh_instr
 obtain ⟨v, w1, hr, ho, hb⟩ := append_fresh (t := 38) Tryz.underlying38 hi hz0 hz1 hz2 rfl (by decide) (by decide) (row_pairs h) (by rw [ps_length, hl1]) hnil (one_ps l) hn
 obtain ⟨s, rfl⟩ := own_sl ho
 have HR := Lib.hid (hr 38 rfl)
 have HO := Lib.hid ho
 have HB := Lib.hid hb
 clear hr ho hb h hl1 hi hz0 hz1 hz2 hnil hn
 go_enter Tryz.func72, Tryz.ntmps72
 go_wp2_with (at_builtin; refine Lib.wpList_append_run _ rfl (.const (.slice none 0 0)) (.tmp 3) _ _ rfl _ _ rfl rfl _ _ HR.out ?_)
 go_ret
 exact ⟨s, rfl, HO.out, HB.out⟩
theorem fresh_nodes (a : Option Addr) (n c : Nat) (l : List Tr.Nd) (w : World) (h : NodesAt w w.heap.size a n l) (hnil : a = none → c = 0) (hn : n ≤ 1048576) :
   Calls Tryz.prog 74 #[.slice a n c] w (FreshP 104 7 n (nds l) w) := by
 have hl1 : l.length = n := h.1
 obtain ⟨i0, hi, hz0, hz1, hz2⟩ := info_parts info_fresh_node
 obtain ⟨v, w1, hr, ho, hb⟩ := append_fresh (t := 40) Tryz.underlying40 hi hz0 hz1 hz2 rfl (by decide) (by decide) (row_nodes h) (by rw [nds_length, hl1]) hnil (one_nds l) hn
 obtain ⟨s, rfl⟩ := own_sl ho
 have HR := Lib.hid (hr 40 rfl)
 have HO := Lib.hid ho
 have HB := Lib.hid hb
 clear hr ho hb h hl1 hi hz0 hz1 hz2 hnil hn
 go_enter Tryz.func74, Tryz.ntmps74
 go_wp2_with (at_builtin; refine Lib.wpList_append_run _ rfl (.const (.slice none 0 0)) (.tmp 3) _ _ rfl _ _ rfl rfl _ _ HR.out ?_)
 go_ret
 exact ⟨s, rfl, HO.out, HB.out⟩
theorem fresh_sets (a : Option Addr) (n c : Nat) (l : List Sl.Four) (w : World) (h : SetsAt w w.heap.size a n l) (hnil : a = none → c = 0) (hn : n ≤ 1048576) :
   Calls Tryz.prog 75 #[.slice a n c] w (FreshP 107 4 n (sets l) w) := by
 have hl1 : l.length = n := h.1
 obtain ⟨i0, hi, hz0, hz1, hz2⟩ := info_parts info_fresh_set
 obtain ⟨v, w1, hr, ho, hb⟩ := append_fresh (t := 41) Tryz.underlying41 hi hz0 hz1 hz2 rfl (by decide) (by decide) (row_sets h) (by rw [sets_length, hl1]) hnil (one_sets l) hn
 obtain ⟨s, rfl⟩ := own_sl ho
 have HR := Lib.hid (hr 41 rfl)
 have HO := Lib.hid ho
 have HB := Lib.hid hb
 clear hr ho hb h hl1 hi hz0 hz1 hz2 hnil hn
 go_enter Tryz.func75, Tryz.ntmps75
 go_wp2_with (at_builtin; refine Lib.wpList_append_run _ rfl (.const (.slice none 0 0)) (.tmp 3) _ _ rfl _ _ rfl rfl _ _ HR.out ?_)
 go_ret
 exact ⟨s, rfl, HO.out, HB.out⟩
end Go.Proofs.YtdopheoedpldiaaGreatDoor
