/-
 What sig.May, other, letter, typed and the document's May tell. Conditions: none.
-/
import Derived.WalkSmall
import Derived.Deep.WholeRow
import Derived.Test.YtmhmlhlplfkpaaaGreatDoorAtA
set_option maxRecDepth 100000
namespace Go.Proofs.YtmhmlhlplfkpaaaGreatDoor
open Go.RowKit
theorem ty_kinds (t : Int) : t = 1 ∨ t = 2 ∨ ((t == 1) = false ∧ (t == 2) = false ∧ Si.may t = false ∧ Si.letter t = 63) := by
 by_cases h1 : t = 1
 · exact .inl h1
 by_cases h2 : t = 2
 · exact .inr (.inl h2)
 have e1 : (t == 1) = false := beq_eq_false_iff_ne.2 h1
 have e2 : (t == 2) = false := beq_eq_false_iff_ne.2 h2
 exact .inr (.inr ⟨e1, e2, by simp [Si.may, h1, h2], by simp [Si.letter, h1, h2]⟩)
theorem simay_any (t : Int) (w : World) : Calls Tryz.prog 172 #[.int .i64 t] w (SameP (.bool (Si.may t)) w) := by
 rcases ty_kinds t with rfl | rfl | ⟨e1, e2, em, _⟩
 · go_enter Tryz.func172, Tryz.ntmps172
   go_wp2
   go_ret
   exact ⟨rfl, rfl⟩
 · go_enter Tryz.func172, Tryz.ntmps172
   go_wp2
   go_ret
   exact ⟨rfl, rfl⟩
 · rw [em]
   go_enter Tryz.func172, Tryz.ntmps172
   go_wp2
   go_ret
   exact ⟨rfl, rfl⟩
theorem rsimay_any (t : Int) (w : World) : Calls Tryz.prog 49 #[.int .i64 t] w (SameP (.bool (Si.may t)) w) := by
 rcases ty_kinds t with rfl | rfl | ⟨e1, e2, em, _⟩
 · go_enter Tryz.func49, Tryz.ntmps49
   go_wp2
   go_ret
   exact ⟨rfl, rfl⟩
 · go_enter Tryz.func49, Tryz.ntmps49
   go_wp2
   go_ret
   exact ⟨rfl, rfl⟩
 · rw [em]
   go_enter Tryz.func49, Tryz.ntmps49
   go_wp2
   go_ret
   exact ⟨rfl, rfl⟩
theorem siother_any (t : Int) (w : World) : Calls Tryz.prog 151 #[.int .i64 t] w (SameP (.bool (!Si.may t)) w) := by
 have H := simay_any t w
 go_enter Tryz.func151, Tryz.ntmps151
 go_wp2_with (go_at_call 172; refine H.mono ?_; rintro _ w1 ⟨rfl, he⟩; obtain rfl := he.symm)
 go_ret
 exact ⟨rfl, rfl⟩
theorem siletter_any (t : Int) (w : World) : Calls Tryz.prog 65 #[.int .i64 t] w (SameP (.int .i32 (Si.letter t)) w) := by
 rcases ty_kinds t with rfl | rfl | ⟨e1, e2, _, el⟩
 · go_enter Tryz.func65, Tryz.ntmps65
   go_wp2
   go_ret
   exact ⟨rfl, rfl⟩
 · go_enter Tryz.func65, Tryz.ntmps65
   go_wp2
   go_ret
   exact ⟨rfl, rfl⟩
 · rw [el]
   go_enter Tryz.func65, Tryz.ntmps65
   go_wp2
   go_ret
   exact ⟨rfl, rfl⟩
theorem sityped_any (c : Int) (w : World) : Calls Tryz.prog 150 #[.int .i32 c] w (SameP (.int .i64 (Si.typed c)) w) := by
 by_cases h1 : c = 105
 · subst h1
   go_enter Tryz.func150, Tryz.ntmps150
   go_wp2
   go_ret
   exact ⟨rfl, rfl⟩
 by_cases h2 : c = 99
 · subst h2
   go_enter Tryz.func150, Tryz.ntmps150
   go_wp2
   go_ret
   exact ⟨rfl, rfl⟩
 have e1 : (c == 105) = false := beq_eq_false_iff_ne.2 h1
 have e2 : (c == 99) = false := beq_eq_false_iff_ne.2 h2
 rw [show Si.typed c = 0 by simp [Si.typed, h1, h2]]
 clear h1 h2
 go_enter Tryz.func150, Tryz.ntmps150
 go_wp2
 go_ret
 exact ⟨rfl, rfl⟩
end Go.Proofs.YtmhmlhlplfkpaaaGreatDoor
namespace Go.Proofs.YtmhmlhlplfkpaaaGreatDoor
open Go.RowKit
set_option maxHeartbeats 1000000 in
theorem siindex_any (a : Option Addr) (n c B : Nat) (l : List Int) (w : World) (h : IntsAt w B a n l) (hn : n ≤ 9223372036854775807) :
   Calls Tryz.prog 196 #[.slice a n c, .func (.func 151) #[] #[]] w fun e w' => (∃ i : Int, e = .returned (.int .i64 i) ∧ decide (0 ≤ i) = !l.all Si.may) ∧ w' = w := by
 have H := Lib.hid h
 clear h
 go_enter Tryz.func196, Tryz.ntmps196
 go_wp2
 go_loopw [5, 8] (fun _ i wr => ∃ k : Nat, k ≤ n ∧ i = .int .i64 (k : Int) ∧ wr = w ∧ (l.take k).all Si.may = true) (fun _ i _ => n - (intOf i).toNat)
 case atStart => exact ⟨0, Nat.zero_le _, rfl, rfl, rfl⟩
 case round =>
   obtain ⟨k, hk, rfl, rfl, hW⟩ := hrel
   by_cases hlt : k < n
   · obtain ⟨b, off, x, rfl, _, hc, hx, hkl⟩ := ints_cell H.out hlt
     have HS := Lib.hid (Si.all_take_succ hkl)
     have HB := Lib.hid (fun hb => Si.all_bad hkl hb)
     rw [hx, hW] at HS
     rw [hx] at HB
     have HO := siother_any x
     clear hW hx hkl
     cases hm : Si.may x with
     | false =>
       rw [hm] at HO
       have HE := Lib.hid (HB.out hm)
       clear HS HB hm
       go_wp2_with (go_at_call 151; refine (HO _).mono ?_; rintro _ w1 ⟨rfl, he⟩; obtain rfl := he.symm)
       go_ret
       exact ⟨⟨_, rfl, by rw [HE.out]; simp⟩, rfl⟩
     | true =>
       rw [hm] at HO HS
       clear HB hm
       go_wp2_with (go_at_call 151; refine (HO _).mono ?_; rintro _ w1 ⟨rfl, he⟩; obtain rfl := he.symm)
       go_roundw
       case rel => exact ⟨k + 1, hlt, by go_num, by trivial, HS.out⟩
       case measure => simp [intOf]; omega
   · have HE : Hid (l.all Si.may = true) := Lib.hid (by rw [← hW, List.take_of_length_le (by rw [H.out.1]; omega)])
     clear hW
     go_wp2
     go_ret
     exact ⟨⟨_, rfl, by rw [HE.out]; rfl⟩, rfl⟩
theorem sicontains_any (a : Option Addr) (n c B : Nat) (l : List Int) (w : World) (h : IntsAt w B a n l) (hn : n ≤ 9223372036854775807) :
   Calls Tryz.prog 176 #[.slice a n c, .func (.func 151) #[] #[]] w (SameP (.bool (!l.all Si.may)) w) := by
 have H := siindex_any a n c B l w h hn
 clear h
 generalize (!l.all Si.may) = r at *
 go_enter Tryz.func176, Tryz.ntmps176
 go_wp2_with (go_at_call 196; refine H.mono ?_; rintro _ w1 ⟨⟨i, rfl, hi⟩, he⟩; obtain rfl := he.symm)
 go_ret
 exact ⟨rfl, rfl⟩
theorem siright_any (a : Option Addr) (n c B : Nat) (l : List Int) (most : Int) (w : World) (h : IntsAt w B a n l) (hn : n ≤ 9223372036854775807) :
   Calls Tryz.prog 155 #[.slice a n c, .int .i64 most] w (SameP (.bool (Si.right l most)) w) := by
 have H := sicontains_any a n c B l w h hn
 have hl : l.length = n := h.1
 unfold Si.right
 rw [hl]
 clear h hl
 generalize l.all Si.may = r at *
 cases hd : decide ((n : Int) ≤ most) with
 | false =>
   go_enter Tryz.func155, Tryz.ntmps155
   go_wp2
   go_ret
   exact ⟨rfl, rfl⟩
 | true =>
   go_enter Tryz.func155, Tryz.ntmps155
   go_wp2_with (go_at_call 176; refine H.mono ?_; rintro _ w1 ⟨rfl, he⟩; obtain rfl := he.symm)
   go_ret
   exact ⟨by cases r <;> rfl, rfl⟩
set_option maxHeartbeats 1000000 in
theorem rsiright_any (a : Option Addr) (n c B : Nat) (l : List Int) (most : Int) (w : World) (h : IntsAt w B a n l) (hn : n ≤ 9223372036854775807) :
   Calls Tryz.prog 21 #[.slice a n c, .int .i64 most] w (SameP (.bool (Si.right l most)) w) := by
 have H := Lib.hid h
 have hl : l.length = n := h.1
 unfold Si.right
 rw [hl]
 clear h hl
 go_enter Tryz.func21, Tryz.ntmps21
 go_wp2
 go_loopw [5] (fun i wr => ∃ k : Nat, k ≤ n ∧ i = .int .i64 (k : Int) ∧ wr = w ∧ (l.take k).all Si.may = true) (fun i _ => n - (intOf i).toNat)
 case atStart => exact ⟨0, Nat.zero_le _, rfl, rfl, rfl⟩
 case round =>
   obtain ⟨k, hk, rfl, rfl, hW⟩ := hrel
   by_cases hlt : k < n
   · obtain ⟨b, off, x, rfl, _, hc, hx, hkl⟩ := ints_cell H.out hlt
     have HS := Lib.hid (Si.all_take_succ hkl)
     have HB := Lib.hid (fun hb => Si.all_bad hkl hb)
     rw [hx, hW] at HS
     rw [hx] at HB
     have HO := rsimay_any x
     clear hW hx hkl
     cases hm : Si.may x with
     | false =>
       rw [hm] at HO
       have HE := Lib.hid (HB.out hm)
       clear HS HB hm
       go_wp2_with (go_at_call 49; refine (HO _).mono ?_; rintro _ w1 ⟨rfl, he⟩; obtain rfl := he.symm)
       go_ret
       exact ⟨by rw [HE.out, Bool.and_false]; rfl, rfl⟩
     | true =>
       rw [hm] at HO HS
       clear HB hm
       go_wp2_with (go_at_call 49; refine (HO _).mono ?_; rintro _ w1 ⟨rfl, he⟩; obtain rfl := he.symm)
       go_roundw
       case rel => exact ⟨k + 1, hlt, by go_num, by trivial, HS.out⟩
       case measure => simp [intOf]; omega
   · have HE : Hid (l.all Si.may = true) := Lib.hid (by rw [← hW, List.take_of_length_le (by rw [H.out.1]; omega)])
     clear hW
     go_wp2
     go_ret
     exact ⟨by rw [HE.out, Bool.and_true]; rfl, rfl⟩
theorem take_eq_succ {l m : List Int} {k : Nat} (h : l.take k = m.take k) (h1 : k < l.length) (h2 : k < m.length) (e : l.getD k 0 = m.getD k 0) : l.take (k + 1) = m.take (k + 1) := by
 rw [take_snoc l k h1, take_snoc m k h2, h, e]
set_option maxHeartbeats 1000000 in
theorem rsisame_any (a a2 : Option Addr) (n n2 c c2 : Nat) (l m : List Int) (w : World) (h : IntsAt w w.heap.size a n l) (h2 : IntsAt w w.heap.size a2 n2 m) (hn : n ≤ 9223372036854775807) :
   Calls Tryz.prog 78 #[.slice a n c, .slice a2 n2 c2] w (BoolP (decide (l = m)) w) := by
 have H := Lib.hid h
 have H2 := Lib.hid h2
 clear h h2
 by_cases hnm : n = n2
 · subst hnm
   go_enter Tryz.func78, Tryz.ntmps78
   go_wp2
   go_loopw [5] (fun i wr => ∃ k : Nat, k ≤ n ∧ i = .int .i64 (k : Int) ∧ Below w.heap.size w wr ∧ l.take k = m.take k) (fun i _ => n - (intOf i).toNat)
   case atStart => exact ⟨0, Nat.zero_le _, rfl, Below.refl _ _, by simp⟩
   case round =>
     obtain ⟨k, hk, rfl, hB, hW⟩ := hrel
     have HB := Lib.hid hB
     have HW := Lib.hid hW
     clear hB hW
     by_cases hlt : k < n
     · obtain ⟨b, off, x, rfl, hlb, q1, hx, hkl⟩ := ints_cell (H.out.below HB.out) hlt
       obtain ⟨b2, off2, y, rfl, hlb2, q2, hy, hkm⟩ := ints_cell (H2.out.below HB.out) hlt
       have hki : (k : Int) < (n : Int) := by omega
       by_cases hxy : x = y
       · have HS := Lib.hid (take_eq_succ HW.out hkl hkm (by rw [hx, hy, hxy]))
         subst hxy
         clear hx hy hkl hkm
         go_wp2
         go_quiet (fail)
         go_wp2
         go_roundw
         case rel => exact ⟨k + 1, hlt, by go_num, below_drewN HB.out _, HS.out⟩
         case measure => simp [intOf]; omega
       · have HN : Hid (decide (l = m) = false) := Lib.hid (decide_eq_false (fun e => hxy (by rw [← hx, ← hy, e])))
         have hd : (x != y) = true := bne_iff_ne.2 hxy
         clear hx hy hkl hkm hxy
         go_wp2
         go_quiet (fail)
         go_wp2
         go_ret
         exact ⟨by rw [HN.out]; rfl, below_drewN HB.out _⟩
     · have HN : Hid (decide (l = m) = true) := Lib.hid (decide_eq_true (by
         have h1 := HW.out
         rwa [List.take_of_length_le (by rw [H.out.1]; omega), List.take_of_length_le (by rw [H2.out.1]; omega)] at h1))
       have hki : decide ((k : Int) < (n : Int)) = false := decide_eq_false (by omega)
       go_wp2
       go_ret
       exact ⟨by rw [HN.out]; rfl, HB.out⟩
 · have HN : Hid (decide (l = m) = false) := Lib.hid (decide_eq_false (fun e => hnm (by rw [← H.out.1, ← H2.out.1, e])))
   have hd : ((n : Int) != (n2 : Int)) = true := bne_iff_ne.2 (by omega)
   clear hnm
   go_enter Tryz.func78, Tryz.ntmps78
   go_wp2
   go_ret
   exact ⟨by rw [HN.out]; rfl, Below.refl _ _⟩
end Go.Proofs.YtmhmlhlplfkpaaaGreatDoor
namespace Go.Proofs.YtmhmlhlplfkpaaaGreatDoor
open Go.RowKit
theorem wpList_build_is {P : Program} {ops : Array Oper} {rest : List Oper} {o : Oper} {a : Act} {w : World} {Q : Exit → Act → World → Prop} (hg : o.guard = none) (t : TypeId) (parts : Array (Nat × Operand)) (ho : o.op = .build t parts)
   (cells : Array Value) (hc : P.built t (parts.map fun (i, x) => (i, a.eval x)).toList = some cells)
   (h : wpList P ops Q rest (a.put o.dst (.agg cells)) w) : wpList P ops Q (o :: rest) a w :=
 wpList_build hg t parts ho (by rw [hc]; rfl) (by rw [hc]; exact h)
theorem wpList_store_last {P : Program} {ops : Array Oper} {rest : List Oper} {o : Oper} {a : Act} {w : World} {Q : Exit → Act → World → Prop} (hg : o.guard = none) (t : TypeId) (x y : Operand) (ho : o.op = .store t x y)
   (c c' : Array Value) (hx : a.eval x = .pointer (some ⟨w.heap.size, 0, none⟩)) (hy : a.eval y = .agg c') (hi : (P.info? t).map (·.size) = some c'.size) (hs : c.size = c'.size) (h1 : c'.all (·.oneCell') = true)
   (h : wpList P ops Q rest (a.put o.dst undef) (w.alloc (.cells c' t))) : wpList P ops Q (o :: rest) a (w.alloc (.cells c t)) :=
 wpList_plain hg fun _ hK => wp_store_row t x y ho w.heap.size c' hx hy t c (heap_alloc_last w _) hi hs h1 (hK _ _ (by rw [World.setRow_alloc_new]; exact h))
theorem info_rows : (Tryz.prog.info? 195).map (fun i => (i.zero, i.size)) = some (some (.agg Op.zeros), 210) := by kernel_rfl
def rowZ : Obj := .cells #[.int .i64 0, .bool false, .string ⟨#[]⟩, .string ⟨#[]⟩, .bool false, .bool false] 177
theorem table_cell (k j : Nat) (hk : k < 35) (hj : j < 6) (w : World) (v : Value) (hv : (Op.cells (Op.row (k : Int)))[j]? = some v) :
   ((w.alloc rowZ).alloc (.cells Op.table 195)).cell? ⟨w.heap.size + 1, k * 6 + j, none⟩ = some v := by
 have h := heap_alloc_last (w.alloc rowZ) (.cells Op.table 195)
 rw [World.size_alloc] at h
 rw [cell_of_row _ _ _ _ _ _ h, Op.table_at k j hk hj, hv]
set_option maxHeartbeats 4000000 in
theorem look_in (k : Nat) (hk : k < 35) (w : World) : Calls Tryz.prog 145 #[.int .i64 (k : Int)] w fun e w' => e = .returned (.agg (Op.cells (Op.row (k : Int))).toArray) ∧ Below w.heap.size w w' := by
 have h1 : (k : Int) < 35 := by omega
 have d0 : decide ((k : Int) < 0) = false := decide_eq_false (by omega)
 have d1 : decide (35 ≤ (k : Int)) = false := decide_eq_false (by omega)
 have hz := (zero_of_info info_rows).1
 have hi : Hid ((Tryz.prog.info? 195).map (·.size) = some Op.table.size) := Lib.hid (by rw [Op.table_size]; exact (zero_of_info info_rows).2)
 have H := table_cell k
 generalize Op.row (k : Int) = r at H ⊢
 obtain ⟨o, f, t, g, e, s⟩ := r
 have c0 : (((w.alloc rowZ).alloc (.cells Op.table 195)).cell? ⟨w.heap.size + 1, k * 6, none⟩ = some (.int .i64 o)) := H 0 hk (by omega) w _ rfl
 have c1 := H 1 hk (by omega) w _ rfl
 have c2 := H 2 hk (by omega) w _ rfl
 have c3 := H 3 hk (by omega) w _ rfl
 have c4 := H 4 hk (by omega) w _ rfl
 have c5 := H 5 hk (by omega) w _ rfl
 simp only [rowZ] at c0 c1 c2 c3 c4 c5
 clear H
 go_enter Tryz.func145, Tryz.ntmps145
 go_wp2_with (first | refine wpList_build_is rfl 195 _ rfl Op.table (by kernel_rfl) ?_ | refine wpList_store_last rfl 195 _ _ rfl Op.zeros Op.table (by rw [World.size_alloc]; rfl) rfl hi.out (by kernel_rfl) (by kernel_rfl) ?_)
 exact bodyPost_ret (v := .agg #[.int .i64 o, .bool f, .string t, .string g, .bool e, .bool s]) (by simp [results, Tryz.results145, go_sem]) rfl ⟨rfl, ((Below.refl _ w).alloc (Nat.le_refl _) _).alloc (by simp) _⟩
theorem look_low (op : Int) (h : op < 0) (w : World) : Calls Tryz.prog 145 #[.int .i64 op] w fun e w' => e = .returned (.agg (Op.cells Op.none_).toArray) ∧ Below w.heap.size w w' := by
 have d0 : decide (op < 0) = true := decide_eq_true h
 go_enter Tryz.func145, Tryz.ntmps145
 go_wp2
 exact bodyPost_ret (v := .agg #[.int .i64 0, .bool false, .string ⟨#[]⟩, .string ⟨#[]⟩, .bool false, .bool false]) (by simp [results, Tryz.results145, go_sem]) rfl ⟨rfl, (Below.refl _ w).alloc (Nat.le_refl _) _⟩
theorem look_high (op : Int) (h : 35 ≤ op) (w : World) : Calls Tryz.prog 145 #[.int .i64 op] w fun e w' => e = .returned (.agg (Op.cells Op.none_).toArray) ∧ Below w.heap.size w w' := by
 have d0 : decide (op < 0) = false := decide_eq_false (by omega)
 have d1 : decide (35 ≤ op) = true := decide_eq_true h
 go_enter Tryz.func145, Tryz.ntmps145
 go_wp2
 exact bodyPost_ret (v := .agg #[.int .i64 0, .bool false, .string ⟨#[]⟩, .string ⟨#[]⟩, .bool false, .bool false]) (by simp [results, Tryz.results145, go_sem]) rfl ⟨rfl, (Below.refl _ w).alloc (Nat.le_refl _) _⟩
theorem look_any (op : Int) (w : World) : Calls Tryz.prog 145 #[.int .i64 op] w fun e w' => e = .returned (.agg (Op.cells (Op.row op)).toArray) ∧ Below w.heap.size w w' := by
 by_cases h0 : op < 0
 · rw [Op.row_out (by omega)]; exact look_low op h0 w
 by_cases h1 : 35 ≤ op
 · rw [Op.row_out (by omega)]; exact look_high op h1 w
 obtain ⟨k, rfl⟩ : ∃ k : Nat, op = (k : Int) := ⟨op.toNat, by omega⟩
 exact look_in k (by omega) w
end Go.Proofs.YtmhmlhlplfkpaaaGreatDoor
namespace Go.Proofs.YtmhmlhlplfkpaaaGreatDoor
open Go.RowKit
theorem field_operand (o : Int) (f : Bool) (t g : ByteArray) (e s : Bool) (w : World) : (Instr.field 177 (.agg #[.int .i64 o, .bool f, .string t, .string g, .bool e, .bool s]) 0).run Tryz.prog w = .ok (.int .i64 o) w := by kernel_rfl
theorem operand_any (op : Int) (w : World) : Calls Tryz.prog 116 #[.int .i64 op] w fun e w' => e = .returned (.int .i64 (Op.row op).operand) ∧ Below w.heap.size w w' := by
 have H := look_any op w
 generalize Op.row op = r at H ⊢
 obtain ⟨o, f, t, g, e, s⟩ := r
 simp only [Op.cells] at H
 have hf := field_operand o f t g e s
 go_enter Tryz.func116, Tryz.ntmps116
 go_wp2_with (go_at_call 145; refine H.mono ?_; rintro _ w1 ⟨rfl, hB⟩)
 go_ret
 exact ⟨rfl, hB⟩
end Go.Proofs.YtmhmlhlplfkpaaaGreatDoor
namespace Go.Proofs.YtmhmlhlplfkpaaaGreatDoor
open Go.RowKit
theorem retBool {a b : Bool} (h : a = b) : Ending.returned (.bool a) = .returned (.bool b) := by rw [h]
theorem bare_any (op a : Int) (w : World) : Calls Tryz.prog 144 #[.agg #[.int .i64 op, .int .i64 a]] w (BoolP (decide (a = 0)) w) := by
 have he : (op == op) = true := beq_self_eq_true op
 by_cases h : a = 0
 · subst h
   go_enter Tryz.func144, Tryz.ntmps144
   go_wp2
   go_ret
   exact ⟨rfl, (Below.refl _ _).alloc (Nat.le_refl _) _⟩
 · have hb : (a == 0) = false := beq_eq_false_iff_ne.2 h
   go_enter Tryz.func144, Tryz.ntmps144
   go_wp2
   go_ret
   exact ⟨retBool (decide_eq_false h).symm, (Below.refl _ _).alloc (Nat.le_refl _) _⟩
theorem inbelow_any (op a n : Int) (w : World) : Calls Tryz.prog 170 #[.agg #[.int .i64 op, .int .i64 a], .int .i64 n] w (BoolP (decide (0 ≤ a) && decide (a < n)) w) := by
 by_cases h : 0 ≤ a
 · have h1 : decide (0 ≤ a) = true := decide_eq_true h
   go_enter Tryz.func170, Tryz.ntmps170
   go_wp2
   all_goals
     go_ret
     exact ⟨retBool (by simp [*]), (Below.refl _ _).alloc (Nat.le_refl _) _⟩
 · have h1 : decide (0 ≤ a) = false := decide_eq_false h
   go_enter Tryz.func170, Tryz.ntmps170
   go_wp2
   all_goals
     go_ret
     exact ⟨retBool (by simp [*]), (Below.refl _ _).alloc (Nat.le_refl _) _⟩
theorem number_s (op a : Int) (w : World) : Calls Tryz.prog 138 #[.agg #[.int .i64 op, .int .i64 a]] w (BoolP true w) := by
 go_enter Tryz.func138, Tryz.ntmps138
 go_wp2
 go_ret
 exact ⟨rfl, (Below.refl _ _).alloc (Nat.le_refl _) _⟩
theorem slot_s (op a : Int) (w : World) : Calls Tryz.prog 139 #[.agg #[.int .i64 op, .int .i64 a]] w (BoolP (decide (0 ≤ a) && decide (a < 256)) w) := by
 go_enter Tryz.func139, Tryz.ntmps139
 go_wp2_with (go_at_call 170; refine (inbelow_any op a 256 _).mono ?_; rintro _ w1 ⟨rfl, b1⟩)
 go_ret
 exact ⟨rfl, below_self ((Below.refl _ _).alloc (Nat.le_refl _) _) b1⟩
theorem place_s (op a : Int) (w : World) : Calls Tryz.prog 140 #[.agg #[.int .i64 op, .int .i64 a]] w (BoolP (decide (0 ≤ a) && decide (a < 2000)) w) := by
 go_enter Tryz.func140, Tryz.ntmps140
 go_wp2_with (go_at_call 170; refine (inbelow_any op a 2000 _).mono ?_; rintro _ w1 ⟨rfl, b1⟩)
 go_ret
 exact ⟨rfl, below_self ((Below.refl _ _).alloc (Nat.le_refl _) _) b1⟩
theorem function_s (op a : Int) (w : World) : Calls Tryz.prog 141 #[.agg #[.int .i64 op, .int .i64 a]] w (BoolP (decide (0 ≤ a) && decide (a < 40)) w) := by
 go_enter Tryz.func141, Tryz.ntmps141
 go_wp2_with (go_at_call 170; refine (inbelow_any op a 40 _).mono ?_; rintro _ w1 ⟨rfl, b1⟩)
 go_ret
 exact ⟨rfl, below_self ((Below.refl _ _).alloc (Nat.le_refl _) _) b1⟩
theorem result_s (op a : Int) (w : World) : Calls Tryz.prog 142 #[.agg #[.int .i64 op, .int .i64 a]] w (BoolP (decide (0 ≤ a) && decide (a < 4)) w) := by
 go_enter Tryz.func142, Tryz.ntmps142
 go_wp2_with (go_at_call 170; refine (inbelow_any op a 4 _).mono ?_; rintro _ w1 ⟨rfl, b1⟩)
 go_ret
 exact ⟨rfl, below_self ((Below.refl _ _).alloc (Nat.le_refl _) _) b1⟩
theorem node_s (op a : Int) (w : World) : Calls Tryz.prog 143 #[.agg #[.int .i64 op, .int .i64 a]] w (BoolP (decide (0 ≤ a) && decide (a < 120)) w) := by
 go_enter Tryz.func143, Tryz.ntmps143
 go_wp2_with (go_at_call 170; refine (inbelow_any op a 120 _).mono ?_; rintro _ w1 ⟨rfl, b1⟩)
 go_ret
 exact ⟨rfl, below_self ((Below.refl _ _).alloc (Nat.le_refl _) _) b1⟩
def mayF (k : Int) : Nat := if k = 1 then 138 else if k = 2 then 139 else if k = 3 then 140 else if k = 4 then 141 else if k = 5 then 142 else if k = 6 then 143 else 144
def MayP (f : Nat) (w : World) (e : Ending) (w' : World) : Prop := e = .returned (.func (.func f) #[] #[]) ∧ w' = w
theorem inmay_any (k : Int) (h : 0 ≤ k ∧ k ≤ 6) (w : World) : Calls Tryz.prog 115 #[.int .i64 k] w (MayP (mayF k) w) := by
 obtain rfl | rfl | rfl | rfl | rfl | rfl | rfl : k = 0 ∨ k = 1 ∨ k = 2 ∨ k = 3 ∨ k = 4 ∨ k = 5 ∨ k = 6 := by omega
 all_goals
   go_enter Tryz.func115, Tryz.ntmps115
   go_wp2
   go_ret
   exact ⟨rfl, rfl⟩
theorem known_any (op : Int) (w : World) : Calls Tryz.prog 114 #[.int .i64 op] w fun e w' => e = .returned (.bool (In.known op)) ∧ w' = w := by
 by_cases h : 0 ≤ op
 · have h1 : decide (0 ≤ op) = true := decide_eq_true h
   go_enter Tryz.func114, Tryz.ntmps114
   go_wp2
   all_goals
     go_ret
     exact ⟨retBool (by simp [In.known, *]), rfl⟩
 · have h1 : decide (0 ≤ op) = false := decide_eq_false h
   go_enter Tryz.func114, Tryz.ntmps114
   go_wp2
   all_goals
     go_ret
     exact ⟨retBool (by simp [In.known, *]), rfl⟩
theorem numbered_any (op : Int) (w : World) : Calls Tryz.prog 96 #[.int .i64 op] w (BoolP (In.numbered op) w) := by
 have HO := operand_any op
 have hn : In.numbered op = ((Op.row op).operand != 0) := by
   unfold In.numbered In.kind
   rw [Bool.eq_iff_iff]
   simp
 rw [hn]
 clear hn
 generalize (Op.row op).operand = k at *
 go_enter Tryz.func96, Tryz.ntmps96
 go_wp2_with (go_at_call 116; refine (HO _).mono ?_; rintro _ w1 ⟨rfl, b1⟩)
 go_ret
 exact ⟨rfl, b1⟩
theorem asked_any (k : Int) (h : 0 ≤ k ∧ k ≤ 6) (op a : Int) (w : World) : Calls Tryz.prog (mayF k) #[.agg #[.int .i64 op, .int .i64 a]] w (BoolP (In.fits k a) w) := by
 obtain rfl | rfl | rfl | rfl | rfl | rfl | rfl : k = 0 ∨ k = 1 ∨ k = 2 ∨ k = 3 ∨ k = 4 ∨ k = 5 ∨ k = 6 := by omega
 · rw [show In.fits 0 a = decide (a = 0) by unfold In.fits In.bound; rw [Bool.eq_iff_iff]; simp; omega]
   exact bare_any op a w
 · exact number_s op a w
 · exact slot_s op a w
 · exact place_s op a w
 · exact function_s op a w
 · exact result_s op a w
 · exact node_s op a w
end Go.Proofs.YtmhmlhlplfkpaaaGreatDoor
