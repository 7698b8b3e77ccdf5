/-
 Programs as bytes: the plain mathematics. Conditions: none.
-/
import Derived.Test.YtmhmlhlplfkpaaaGreatDoorTkA
import Derived.Test.YtmhmlhlplfkpaaaGreatDoorFlA
import Derived.Recover
import Derived.Test.YtmhmlhlplfkpaaaGreatDoorNmRow
import Derived.Test.YtmhmlhlplfkpaaaGreatDoorCanQ
set_option maxRecDepth 100000
namespace Go.Proofs.YtmhmlhlplfkpaaaGreatDoor
namespace Fl
open _root_.Go.Proofs.YtmhmlhlplfkpaaaGreatDoor.Fn (F)
def magic : List Nat := [73, 78, 76, 49]
def names (l : List F) : List ByteArray := l.map (·.name)
def canF : List F → Nat
 | [] => 0
 | f :: r => if f.can ≠ 0 then f.can else canF r
def can (l : List F) : Nat := if l.length < 1 ∨ 40 < l.length then 6 else if canF l ≠ 0 then canF l else if Nm.unlike (names l) then 0 else 7
theorem canF_all : ∀ {l : List F}, canF l = 0 ↔ ∀ f ∈ l, f.can = 0
 | [] => ⟨(fun _ f hf => by cases hf), fun _ => rfl⟩
 | f :: r => by
   rw [canF]
   constructor
   · intro h
     split at h
     · rename_i h1; exact absurd h h1
     · rename_i h1
       intro g hg
       rcases List.mem_cons.1 hg with rfl | hg
       · omega
       · exact (canF_all.1 h) g hg
   · intro h
     rw [if_neg (by have := h f (List.mem_cons_self ..); omega)]
     exact canF_all.2 fun g hg => h g (List.mem_cons_of_mem _ hg)
theorem canF_append : ∀ {l : List F} (r : List F), canF l = 0 → canF (l ++ r) = canF r
 | [], _, _ => rfl
 | f :: l, r, h => by
   have h0 := canF_all.1 h
   rw [List.cons_append, canF, if_neg (by have := h0 f (List.mem_cons_self ..); omega)]
   exact canF_append r (canF_all.2 fun g hg => h0 g (List.mem_cons_of_mem _ hg))
theorem canF_at {l : List F} {k : Nat} (hk : k < l.length) (h0 : canF (l.take k) = 0) (h1 : l[k].can ≠ 0) : canF l = l[k].can := by
 have e : l = l.take k ++ l.drop k := (List.take_append_drop k l).symm
 have e2 : l.drop k = l[k] :: l.drop (k + 1) := List.drop_eq_getElem_cons hk
 have e3 : canF l = canF (l.take k ++ l.drop k) := congrArg canF e
 rw [e3, canF_append _ h0, e2, canF, if_pos h1]
theorem canF_next {l : List F} {k : Nat} (hk : k < l.length) (h0 : canF (l.take k) = 0) (h1 : l[k].can = 0) : canF (l.take (k + 1)) = 0 := by
 rw [List.take_succ_eq_append_getElem hk, canF_append _ h0, canF, if_neg (by omega)]
 rfl
theorem can_ok {l : List F} : can l = 0 ↔ 1 ≤ l.length ∧ l.length ≤ 40 ∧ (∀ f ∈ l, f.can = 0) ∧ Nm.unlike (names l) = true := by
 unfold can
 constructor
 · intro h
   split at h
   · cases h
   · rename_i h1
     split at h
     · rename_i h2; exact absurd h h2
     · rename_i h2
       split at h
       · rename_i h3
         exact ⟨by omega, by omega, canF_all.1 (by omega), h3⟩
       · cases h
 · rintro ⟨h1, h2, h3, h4⟩
   rw [if_neg (by omega), if_neg (by rw [canF_all.2 h3]; decide), if_pos h4]
def laid (l : List F) : List Nat := magic ++ (Uv.put l.length ++ l.flatMap F.laid)
def bytes (l : List F) : List Nat := if can l = 0 then laid l else []
end Fl
end Go.Proofs.YtmhmlhlplfkpaaaGreatDoor
namespace Go.Proofs.YtmhmlhlplfkpaaaGreatDoor
open Go.RowKit
def Fl.odd (b : Bool) : Nat := if b = true then 0 else 7
def Fl.few (n : Nat) : Nat := if n < 1 ∨ 40 < n then 6 else 0
def Mu (er : Nat) : Ending := if er = 0 then .returned (.tuple #[]) else .panicked [{ v := .iface 30 (.int .i64 (er : Int)), recovered := false }]
theorem Mu.ok : Mu 0 = .returned (.tuple #[]) := rfl
theorem Mu.bad {er : Nat} (h : er ≠ 0) : Mu er = .panicked [{ v := .iface 30 (.int .i64 (er : Int)), recovered := false }] := if_neg h
theorem flmust_any (er : Nat) (w : World) : Calls Tryz.prog 102 #[.int .i64 (er : Int)] w fun e w' => e = Mu er ∧ w' = w := by
 by_cases h : er = 0
 · subst h
   go_enter Tryz.func102, Tryz.ntmps102
   go_wp2
   go_end0
   exact ⟨rfl, rfl⟩
 · have hz : ((er : Int) != 0) = true := bne_iff_ne.2 (by omega)
   have hM := Lib.hid (Mu.bad h)
   clear h
   go_enter Tryz.func102, Tryz.ntmps102
   go_wp2
   exact ⟨rfl, hM.out.symm, rfl⟩
theorem ended_nil (w : World) : Calls Tryz.prog 76 #[.nilIface] w fun e w' => e = .returned (.int .i64 0) ∧ w' = w := by
 go_enter Tryz.func76, Tryz.ntmps76
 go_wp2
 go_ret
 exact ⟨rfl, rfl⟩
theorem flmust_ok (er : Nat) (h : er = 0) (w : World) : Calls Tryz.prog 102 #[.int .i64 (er : Int)] w fun e w' => e = .returned (.tuple #[]) ∧ w' = w := by
 subst h
 exact flmust_any 0 w
theorem flmust_bad (er : Nat) (h : er ≠ 0) (w : World) : Calls Tryz.prog 102 #[.int .i64 (er : Int)] w fun e w' => e = .panicked [{ v := .iface 30 (.int .i64 (er : Int)), recovered := false }] ∧ w' = w := by
 have := flmust_any er w
 rwa [Mu.bad h] at this
theorem assert_errno (t : TypeId) (x : Int) (w : World) : (Instr.typeAssert (.iface 30 (.int .i64 x)) t 30 false).run Tryz.prog w = .ok (.int .i64 x) w := by
 simp [Instr.typeAssert, run_underlying Tryz.underlying30]
theorem ended_err (x : Int) (w : World) : Calls Tryz.prog 76 #[.iface 30 (.int .i64 x)] w fun e w' => e = .returned (.int .i64 x) ∧ w' = w := by
 have hr := fun t => assert_errno t x
 go_enter Tryz.func76, Tryz.ntmps76
 go_wp2
 go_ret
 exact ⟨rfl, rfl⟩
theorem flmany_any (n : Nat) (w : World) : Calls Tryz.prog 103 #[.int .i64 (n : Int)] w fun e w' => e = .returned (.int .i64 (Fl.few n : Int)) ∧ w' = w := by
 by_cases h1 : n < 1
 · have d1 : decide ((n : Int) < 1) = true := decide_eq_true (by omega)
   rw [show Fl.few n = 6 from if_pos (.inl h1)]
   go_enter Tryz.func103, Tryz.ntmps103
   go_wp2
   go_ret
   exact ⟨rfl, rfl⟩
 · have d1 : decide ((n : Int) < 1) = false := decide_eq_false (by omega)
   by_cases h2 : 40 < n
   · have d2 : decide ((40 : Int) < (n : Int)) = true := decide_eq_true (by omega)
     rw [show Fl.few n = 6 from if_pos (.inr h2)]
     go_enter Tryz.func103, Tryz.ntmps103
     go_wp2
     go_ret
     exact ⟨rfl, rfl⟩
   · have d2 : decide ((40 : Int) < (n : Int)) = false := decide_eq_false (by omega)
     rw [show Fl.few n = 0 from if_neg (by omega)]
     go_enter Tryz.func103, Tryz.ntmps103
     go_wp2
     go_ret
     exact ⟨rfl, rfl⟩
theorem catch_bad (p : Addr) (c : Value) (x : Int) (older : List PanicEntry) (w : World) (hc : w.cell? p = some c) (hz : w.frozen? p = false) :
   CallsD Tryz.prog 75 #[.pointer (some p)] (.panicking ({ v := .iface 30 (.int .i64 x), recovered := false } :: older)) w fun e u' w' =>
     e = .returned (.tuple #[]) ∧ u' = .panicking ({ v := .iface 30 (.int .i64 x), recovered := true } :: older) ∧ w' = w.setCell p (.int .i64 x) := by
 have HE := ended_err x w
 refine callsD_of_wpS Tryz.func75 rfl fun c₀ cs hu => ?_
 apply wpS_region
 simp [wpOpsS, go_sem, recoverD, hu, Tryz.ntmps75]
 refine HE.mono ?_
 rintro e w' ⟨rfl, rfl⟩
 simp [go_sem, hc, hz, bodyPostS, results, Tryz.results75]
theorem catch_idle (p : Addr) (c : Value) (w : World) (hc : w.cell? p = some c) (hz : w.frozen? p = false) :
   CallsD Tryz.prog 75 #[.pointer (some p)] .returning w fun e u' w' => e = .returned (.tuple #[]) ∧ u' = .returning ∧ w' = w.setCell p (.int .i64 0) := by
 have HE := ended_nil w
 refine callsD_of_wpS Tryz.func75 rfl fun c₀ cs hu => ?_
 apply wpS_region
 simp [wpOpsS, go_sem, recoverD, hu, Tryz.ntmps75]
 refine HE.mono ?_
 rintro e w' ⟨rfl, rfl⟩
 cases c₀
 simp_all [go_sem, bodyPostS, results, Tryz.results75]
end Go.Proofs.YtmhmlhlplfkpaaaGreatDoor
namespace Go.Proofs.YtmhmlhlplfkpaaaGreatDoor
open Go.RowKit
theorem names_take {fs : List Fn.F} {k : Nat} (h : k < fs.length) {f : Fn.F} (e : fs.getD k .zero = f) : (Fl.names fs).take (k + 1) = (Fl.names fs).take k ++ [f.name] := by
 unfold Fl.names
 rw [List.take_succ_eq_append_getElem (by simpa using h)]
 simp [List.getD, h] at e
 simp [e]
theorem names_len (fs : List Fn.F) : (Fl.names fs).length = fs.length := by simp [Fl.names]
theorem names_size {w : World} {B n : Nat} {a : Option Addr} {vs : List FnV} {fs : List Fn.F} (h : FnsAt w B a n vs fs) : ∀ z ∈ Fl.names fs, z.size ≤ maxLen := by
 intro z hz
 obtain ⟨f, hf, rfl⟩ := List.mem_map.1 hz
 obtain ⟨k, hk, rfl⟩ := List.mem_iff_getElem.1 hf
 have h1 := (h.ok k (by rw [← h.lenf]; exact hk)).name
 have h2 := (h.len k (by rw [← h.lenf]; exact hk)).name
 rw [h1] at h2
 simpa [List.getD, hk, maxLen] using h2
def FlNmRel (w : World) (n : Nat) (fs : List Fn.F) (out i : Value) (wr : World) : Prop :=
 ∃ (k : Nat) (l : List ByteArray), k ≤ n ∧ i = .int .i64 (k : Int) ∧ l = (Fl.names fs).take k ∧ l.length = k ∧ wr.ownsRow w.heap.size 9 1 out l.length (strs l) ∧ Below w.heap.size w wr
set_option maxHeartbeats 4000000 in
theorem flunlike_any (a : Option Addr) (n c : Nat) (vs : List FnV) (fs : List Fn.F) (w : World) (h : FnsAt w w.heap.size a n vs fs) (hn : n ≤ 60) :
   Calls Tryz.prog 105 #[.agg #[.slice a n c]] w (ErrP (Fl.odd (Nm.unlike (Fl.names fs))) w) := by
 obtain ⟨i0, hi, hz0, hz1, hz2⟩ := info_parts info_str
 have b0 := (Below.refl w.heap.size w).alloc (Nat.le_refl _) (.cells #[.slice a n c] 36)
 have H := Lib.hid (h.on b0)
 have B0 := Lib.hid b0
 clear h b0
 go_enter Tryz.func105, Tryz.ntmps105
 go_wp2
 generalize hw1 : w.alloc (.cells #[.slice a n c] 36) = w1 at *
 clear hw1
 go_loopw [3, 5, 9] (fun out _ i wr => FlNmRel w1 n fs out i wr) (fun _ _ i _ => n - (intOf i).toNat)
 case atStart => exact ⟨0, [], Nat.zero_le _, rfl, rfl, rfl, World.ownsRow_nil _ _ _ _, Below.refl _ _⟩
 case round =>
   obtain ⟨k, l, hk, rfl, hl, hlk, hO, hB⟩ := hrel
   have HB := Lib.hid hB
   have HO := Lib.hid hO
   have HL := Lib.hid (And.intro hl hlk)
   clear hB hO hl hlk
   by_cases hlt : k < n
   · obtain ⟨b, off, v, f, rfl, hltb, hv, hf, hok, hlen, hkl, d0, d1, d2, d3, d4, d5, d6, d7, d8, d9, d10⟩ := fns_cell (H.out.below HB.out) hlt
     have HT := Lib.hid (names_take hkl hf)
     have HN := Lib.hid hok.name
     clear hok hlen hf hv hkl
     go_wp2_with (at_builtin; refine wpList_append_lies _ rfl (.tmp 13) (.tmp 16) 73 rfl w1.heap.size 9 i0 (.string ⟨#[]⟩) 1 16 Tryz.underlying73 hi hz0 hz1 hz2 rfl (by decide) u3 l.length (strs l) rfl ((HO.out.alloc _).alloc _) ⟨wr.heap.size + 1, 0, none⟩ 1 1 (strs [v.name]) rfl rfl ?c1 (strs_one _) (by decide) ?c3 ?c4 ?c5 (wr.heap.size + 1 + 1) ?c6 ?_)
     case c1 => exact new_str2 wr _ _ _
     case c3 => have := HL.out.2; unfold maxLen; omega
     case c4 => have := HL.out.2; omega
     case c5 => have := HB.out.size; simp; omega
     case c6 => simp
     intro g cap w2 hown2 hgrow2 hat2 _
     have HB2 := Lib.hid (((HB.out.alloc HB.out.size _).alloc (by have := HB.out.size; simp; omega) _).grown hgrow2 (by have := HB.out.size; simp; omega) (fun k hk => (HO.out.lt k hk).1))
     have HO2 := Lib.hid hown2
     clear hown2 hgrow2 hat2 d0 d1 d2 d3 d4 d5 d6 d7 d8 d9 d10
     go_wp2
     go_roundw
     case rel => exact ⟨k + 1, l ++ [v.name], hlt, by go_num, by rw [HT.out, ← HL.out.1, HN.out], by rw [List.length_append, HL.out.2]; rfl, by rw [List.length_append, strs_append]; exact HO2.out, HB2.out⟩
     case measure => simp [intOf]; omega
   · have HE : Hid (Fl.names fs = l) := Lib.hid (by rw [HL.out.1, show k = n by omega, List.take_of_length_le (by rw [names_len, H.out.lenf]; exact Nat.le_refl _)])
     have HZ := Lib.hid (names_size H.out)
     rw [HE.out] at HZ
     obtain ⟨A, m, cc, rfl⟩ : ∃ A m cc, u3 = .slice A m cc := by
       rcases HO.out.2 with ⟨e, _⟩ | ⟨g, cap, cur, e, _⟩
       · exact ⟨_, _, _, e⟩
       · exact ⟨_, _, _, e⟩
     have HA := Lib.hid (names_of_own HO.out)
     have HU := Lib.hid (unlike_any A m cc l wr HA.out.2 HZ.out (by rw [HA.out.1, HL.out.2]; omega))
     have HF := Lib.hid (show ∀ W, Below wr.heap.size wr W → Below w.heap.size w W from fun W hb => B0.out.trans ((HB.out.trans (hb.mono HB.out.size)).mono B0.out.size))
     obtain ⟨bu, hbu⟩ : ∃ bu, Nm.unlike l = bu := ⟨_, rfl⟩
     rw [hbu] at HU
     have HBu := Lib.hid hbu
     clear hbu
     cases bu with
     | true =>
       go_wp2_with (go_at_call 134; refine HU.out.mono ?_; rintro _ w2 ⟨rfl, hb2⟩)
       go_ret
       rw [HE.out, HBu.out, show Fl.odd true = 0 from rfl]
       exact ⟨rfl, HF.out _ hb2⟩
     | false =>
       go_wp2_with (go_at_call 134; refine HU.out.mono ?_; rintro _ w2 ⟨rfl, hb2⟩)
       go_ret
       rw [HE.out, HBu.out, show Fl.odd false = 7 from rfl]
       exact ⟨rfl, HF.out _ hb2⟩
set_option maxHeartbeats 4000000 in
theorem rflnames_any (a : Option Addr) (n c : Nat) (vs : List FnV) (fs : List Fn.F) (w : World) (h : FnsAt w w.heap.size a n vs fs) (hn : n ≤ 60) :
   Calls Tryz.prog 43 #[.agg #[.slice a n c]] w (NewNames (Fl.names fs) w) := by
 obtain ⟨i0, hi, hz0, hz1, hz2⟩ := info_parts info_str
 have b0 := (Below.refl w.heap.size w).alloc (Nat.le_refl _) (.cells #[.slice a n c] 36)
 have H := Lib.hid (h.on b0)
 have B0 := Lib.hid b0
 have HC := Lib.hid (cell_of_row (w.alloc (.cells #[.slice a n c] 36)) _ 0 _ _ _ (heap_alloc_new w (.cells #[.slice a n c] 36)))
 have HZ := Lib.hid (show w.heap.size < (w.alloc (.cells #[.slice a n c] 36)).heap.size by simp)
 clear h b0
 go_enter Tryz.func43, Tryz.ntmps43
 go_wp2
 generalize hw1 : w.alloc (.cells #[.slice a n c] 36) = w1 at *
 clear hw1
 go_loopw [3, 4] (fun out i wr => FlNmRel w1 n fs out i wr) (fun _ i _ => n - (intOf i).toNat)
 case atStart => exact ⟨0, [], Nat.zero_le _, rfl, rfl, rfl, World.ownsRow_nil _ _ _ _, Below.refl _ _⟩
 case round =>
   obtain ⟨k, l, hk, rfl, hl, hlk, hO, hB⟩ := hrel
   have HB := Lib.hid hB
   have HO := Lib.hid hO
   have HL := Lib.hid (And.intro hl hlk)
   have hc0 : wr.cell? ⟨w.heap.size, 0, none⟩ = some (.slice a n c) := (HB.out.cell (p := ⟨w.heap.size, 0, none⟩) HZ.out).trans HC.out
   clear hB hO hl hlk
   by_cases hlt : k < n
   · obtain ⟨b, off, v, f, rfl, hltb, hv, hf, hok, hlen, hkl, d0, _⟩ := fns_cell (H.out.below HB.out) hlt
     have HT := Lib.hid (names_take hkl hf)
     have HN := Lib.hid hok.name
     clear hok hlen hf hv hkl
     go_wp2_with (at_builtin; refine wpList_append_lies _ rfl (.tmp 12) (.tmp 19) 73 rfl w1.heap.size 9 i0 (.string ⟨#[]⟩) 1 16 Tryz.underlying73 hi hz0 hz1 hz2 rfl (by decide) u3 l.length (strs l) rfl (HO.out.alloc _) ⟨wr.heap.size, 0, none⟩ 1 1 (strs [v.name]) rfl rfl ?c1 (strs_one _) (by decide) ?c3 ?c4 ?c5 (wr.heap.size + 1) ?c6 ?_)
     case c1 => exact new_str wr _ _
     case c3 => have := HL.out.2; unfold maxLen; omega
     case c4 => have := HL.out.2; omega
     case c5 => have := HB.out.size; simp; omega
     case c6 => simp
     intro g cap w2 hown2 hgrow2 hat2 _
     have HB2 := Lib.hid (own_grown HB.out HO.out hgrow2)
     have HO2 := Lib.hid hown2
     clear hown2 hgrow2 hat2 d0 hc0
     go_wp2
     go_roundw
     case rel => exact ⟨k + 1, l ++ [v.name], hlt, by go_num, by rw [HT.out, ← HL.out.1, HN.out], by rw [List.length_append, HL.out.2]; rfl, by rw [List.length_append, strs_append]; exact HO2.out, HB2.out⟩
     case measure => simp [intOf]; omega
   · have HE : Hid (Fl.names fs = l) := Lib.hid (by rw [HL.out.1, show k = n by omega, List.take_of_length_le (by rw [names_len, H.out.lenf]; exact Nat.le_refl _)])
     obtain ⟨A, m, cc, rfl⟩ : ∃ A m cc, u3 = .slice A m cc := by
       rcases HO.out.2 with ⟨e, _⟩ | ⟨g, cap, cur, e, _⟩
       · exact ⟨_, _, _, e⟩
       · exact ⟨_, _, _, e⟩
     have HA := names_of_own HO.out
     obtain ⟨rfl, hA⟩ := HA
     go_wp2
     go_ret
     rw [HE.out]
     exact ⟨A, cc, rfl, hA, B0.out.trans (HB.out.mono B0.out.size)⟩
end Go.Proofs.YtmhmlhlplfkpaaaGreatDoor
namespace Go.Proofs.YtmhmlhlplfkpaaaGreatDoor
open Go.RowKit
def MuP (n : Nat) (w : World) (e : Ending) (w' : World) : Prop := e = Mu n ∧ Below w.heap.size w w'
theorem Fl.can_few {fs : List Fn.F} (h : Fl.few fs.length ≠ 0) : Fl.can fs = Fl.few fs.length := by
 unfold Fl.can
 unfold Fl.few at h ⊢
 split at h
 · rename_i h1
   rw [if_pos h1, if_pos h1]
 · exact absurd rfl h
theorem Fl.few_ok {n : Nat} (h : Fl.few n = 0) : 1 ≤ n ∧ n ≤ 40 := by
 unfold Fl.few at h
 split at h
 · cases h
 · omega
theorem Fl.can_at {fs : List Fn.F} {k : Nat} {f : Fn.F} (h : Fl.few fs.length = 0) (hk : k < fs.length) (e : fs.getD k .zero = f) (h0 : Fl.canF (fs.take k) = 0) (h1 : f.can ≠ 0) : Fl.can fs = f.can := by
 have e2 : fs[k] = f := by rw [← e]; simp [List.getD, hk]
 have h2 := Fl.canF_at hk h0 (by rw [e2]; exact h1)
 rw [e2] at h2
 have := Fl.few_ok h
 unfold Fl.can
 rw [if_neg (by omega), h2, if_pos h1]
theorem Fl.can_step {fs : List Fn.F} {k : Nat} {f : Fn.F} (hk : k < fs.length) (e : fs.getD k .zero = f) (h0 : Fl.canF (fs.take k) = 0) (h1 : f.can = 0) : Fl.canF (fs.take (k + 1)) = 0 := by
 have e2 : fs[k] = f := by rw [← e]; simp [List.getD, hk]
 exact Fl.canF_next hk h0 (by rw [e2]; exact h1)
theorem Fl.can_names {fs : List Fn.F} (h : Fl.few fs.length = 0) (h0 : Fl.canF fs = 0) : Fl.can fs = Fl.odd (Nm.unlike (Fl.names fs)) := by
 have := Fl.few_ok h
 unfold Fl.can Fl.odd
 rw [if_neg (by omega), if_neg (by omega)]
theorem FnsAt.wf {w : World} {B n : Nat} {a : Option Addr} {vs : List FnV} {fs : List Fn.F} (h : FnsAt w B a n vs fs) (hw : ∀ f ∈ fs, f.Wf) {k : Nat} (hk : k < n) {f : Fn.F} (e : fs.getD k .zero = f) : f.Wf := by
 have h1 : k < fs.length := by rw [h.lenf]; exact hk
 exact hw f (by rw [← e]; simp [List.getD, h1])
set_option maxHeartbeats 4000000 in
theorem flcheck_any (a : Option Addr) (n c : Nat) (vs : List FnV) (fs : List Fn.F) (w : World) (h : FnsAt w w.heap.size a n vs fs) (hw : ∀ f ∈ fs, f.Wf) (hT : Tab w) (hg : 0 < w.heap.size) :
   Calls Tryz.prog 77 #[.agg #[.slice a n c]] w (MuP (Fl.can fs) w) := by
 have b0 := (Below.refl w.heap.size w).alloc (Nat.le_refl _) (.cells #[.slice a n c] 36)
 have H := Lib.hid (h.on b0)
 have B0 := Lib.hid b0
 have HC := Lib.hid (cell_of_row (w.alloc (.cells #[.slice a n c] 36)) _ 0 _ _ _ (heap_alloc_new w (.cells #[.slice a n c] 36)))
 have HZ := Lib.hid (show w.heap.size < (w.alloc (.cells #[.slice a n c] 36)).heap.size by simp)
 have HT := Lib.hid (And.intro (tab_below hT b0 hg) (Nat.lt_of_lt_of_le hg b0.size))
 have HW := Lib.hid hw
 have HLf := Lib.hid h.lenf
 clear h b0 hT hg hw
 have HMn := flmany_any n (w.alloc (.cells #[.slice a n c] 36))
 obtain ⟨c0, hc0⟩ : ∃ c0, Fl.few n = c0 := ⟨_, rfl⟩
 rw [hc0] at HMn
 have hcell := HC.out
 by_cases hf0 : c0 = 0
 rotate_left
 · have HMu := flmust_bad c0 hf0 (w.alloc (.cells #[.slice a n c] 36))
   have HE : Hid (Fl.can fs = c0) := Lib.hid (by rw [Fl.can_few (by rw [HLf.out, hc0]; exact hf0), HLf.out, hc0])
   have HMb := Lib.hid (Mu.bad hf0)
   clear hc0 hf0
   go_enter Tryz.func77, Tryz.ntmps77
   go_wp2_with (first
     | (go_at_call 103; refine HMn.mono ?_; rintro _ w2 ⟨rfl, he⟩; obtain rfl := he.symm; clear HMn)
     | (go_at_call 102; refine HMu.mono ?_; rintro _ w2 ⟨rfl, he⟩; obtain rfl := he.symm; clear HMu))
   exact ⟨rfl, by rw [HE.out]; exact HMb.out.symm, B0.out⟩
 · have HMu := flmust_ok c0 hf0 (w.alloc (.cells #[.slice a n c] 36))
   have HF0 : Hid (Fl.few fs.length = 0) := Lib.hid (by rw [HLf.out, hc0, hf0])
   have hn40 : n ≤ 40 := by have := (Fl.few_ok HF0.out).2; have := HLf.out; omega
   clear hc0 hf0
   go_enter Tryz.func77, Tryz.ntmps77
   go_wp2_with (first
     | (go_at_call 103; refine HMn.mono ?_; rintro _ w2 ⟨rfl, he⟩; obtain rfl := he.symm; clear HMn)
     | (go_at_call 102; refine HMu.mono ?_; rintro _ w2 ⟨rfl, he⟩; obtain rfl := he.symm; clear HMu))
   generalize hw1 : w.alloc (.cells #[.slice a n c] 36) = w1 at *
   clear hw1 hcell
   go_loopw [3, 12] (fun _ i wr => ∃ k : Nat, k ≤ n ∧ i = .int .i64 (k : Int) ∧ Fl.canF (fs.take k) = 0 ∧ Below w1.heap.size w1 wr) (fun _ i _ => n - (intOf i).toNat)
   case atStart => exact ⟨0, Nat.zero_le _, rfl, rfl, Below.refl _ _⟩
   case round =>
     obtain ⟨k, hk, rfl, h0, hB⟩ := hrel
     have HB := Lib.hid hB
     have H0 := Lib.hid h0
     clear hB h0
     by_cases hlt : k < n
     · obtain ⟨b, off, v, f, rfl, hltb, hv, hf, hok, hlen, hkl, d0, d1, d2, d3, d4, d5, d6, d7, d8, d9, d10⟩ := fns_cell (H.out.on HB.out) hlt
       have hb1 := (Below.refl wr.heap.size wr).alloc (Nat.le_refl _) (.cells v.cells 28)
       have hb2 := HB.out.trans (hb1.mono HB.out.size)
       have HCn := fncan_any v f (wr.alloc (.cells v.cells 28)) (hok.on hb1) hlen (H.out.wf HW.out hlt hf) (tab_below HT.out.1 hb2 HT.out.2) (Nat.lt_of_lt_of_le HT.out.2 hb2.size)
       have HB2 := Lib.hid hb2
       obtain ⟨cf, hcf⟩ : ∃ cf, f.can = cf := ⟨_, rfl⟩
       rw [hcf] at HCn
       unfold ErrP at HCn
       have HMk := Lib.hid (fun h W => flmust_ok cf h W)
       have HMb := Lib.hid (fun h W => flmust_bad cf h W)
       clear hok hlen hb1 hb2
       by_cases hz : cf = 0
       · have HS := Lib.hid (Fl.can_step hkl hf H0.out (by rw [hcf]; exact hz))
         have HM := Lib.hid (HMk.out hz)
         clear hcf hkl hf hv HMk HMb hz
         go_wp2_with (first
           | (go_at_call 104; refine HCn.mono ?_; rintro _ w2 ⟨rfl, hb3⟩; have HB3 := Lib.hid (HB2.out.trans (hb3.mono HB2.out.size)); clear HCn hb3 d0 d1 d2 d3 d4 d5 d6 d7 d8 d9 d10)
           | (go_at_call 102; refine (HM.out _).mono ?_; rintro _ w3 ⟨rfl, he⟩; obtain rfl := he.symm))
         go_roundw
         case rel => exact ⟨k + 1, by omega, by go_num, HS.out, HB3.out⟩
         case measure => simp [intOf]; omega
       · have HE := Lib.hid ((Fl.can_at HF0.out hkl hf H0.out (by rw [hcf]; exact hz)).trans hcf)
         have HM := Lib.hid (HMb.out hz)
         have HMu := Lib.hid (Mu.bad hz)
         clear hcf hkl hf hv HMk HMb hz
         go_wp2_with (first
           | (go_at_call 104; refine HCn.mono ?_; rintro _ w2 ⟨rfl, hb3⟩; have HB3 := Lib.hid (HB2.out.trans (hb3.mono HB2.out.size)); clear HCn hb3 d0 d1 d2 d3 d4 d5 d6 d7 d8 d9 d10)
           | (go_at_call 102; refine (HM.out _).mono ?_; rintro _ w3 ⟨rfl, he⟩; obtain rfl := he.symm))
         exact ⟨rfl, by rw [HE.out]; exact HMu.out.symm, B0.out.trans (HB3.out.mono B0.out.size)⟩
     · have hcell : wr.cell? ⟨w.heap.size, 0, none⟩ = some (.slice a n c) := (HB.out.cell (p := ⟨w.heap.size, 0, none⟩) HZ.out).trans HC.out
       have HN := flunlike_any a n c vs fs wr (H.out.on HB.out) (by have := Fl.few_ok HF0.out; have := HLf.out; omega)
       have HE := Lib.hid (Fl.can_names HF0.out (by have := H0.out; rwa [List.take_of_length_le (by have := HLf.out; omega)] at this))
       obtain ⟨cf, hcf⟩ : ∃ cf, Fl.odd (Nm.unlike (Fl.names fs)) = cf := ⟨_, rfl⟩
       rw [hcf] at HN HE
       unfold ErrP at HN
       clear hcf
       by_cases hz : cf = 0
       · have HM := Lib.hid (flmust_ok cf hz)
         have HMu := Lib.hid (show Mu cf = .returned (.tuple #[]) from by rw [hz, Mu.ok])
         clear hz
         go_wp2_with (first
           | (go_at_call 105; refine HN.mono ?_; rintro _ w2 ⟨rfl, hb3⟩; have HB3 := Lib.hid (HB.out.trans (hb3.mono HB.out.size)); clear HN hb3 hcell)
           | (go_at_call 102; refine (HM.out _).mono ?_; rintro _ w3 ⟨rfl, he⟩; obtain rfl := he.symm))
         go_end0
         exact ⟨by rw [HE.out]; exact HMu.out.symm, B0.out.trans (HB3.out.mono B0.out.size)⟩
       · have HM := Lib.hid (flmust_bad cf hz)
         have HMu := Lib.hid (Mu.bad hz)
         clear hz
         go_wp2_with (first
           | (go_at_call 105; refine HN.mono ?_; rintro _ w2 ⟨rfl, hb3⟩; have HB3 := Lib.hid (HB.out.trans (hb3.mono HB.out.size)); clear HN hb3 hcell)
           | (go_at_call 102; refine (HM.out _).mono ?_; rintro _ w3 ⟨rfl, he⟩; obtain rfl := he.symm))
         exact ⟨rfl, by rw [HE.out]; exact HMu.out.symm, B0.out.trans (HB3.out.mono B0.out.size)⟩
theorem set_cell {w : World} {p : Addr} {x : Value} (y : Value) (h : w.cell? p = some x) : (w.setCell p y).cell? p = some y := by
 simp [go_sem, h]
theorem own_cell {w w' : World} {x : Value} {t : TypeId} (h : Below (w.alloc (.cells #[x] t)).heap.size (w.alloc (.cells #[x] t)) w') : w'.cell? ⟨w.heap.size, 0, none⟩ = some x ∧ w'.frozen? ⟨w.heap.size, 0, none⟩ = false := by
 have hh := heap_alloc_new w (.cells #[x] t)
 have hl : w.heap.size < (w.alloc (.cells #[x] t)).heap.size := by simp
 refine ⟨(h.cell (p := ⟨w.heap.size, 0, none⟩) hl).trans (cell_of_row _ _ 0 _ _ _ hh), (h.frozen (p := ⟨w.heap.size, 0, none⟩) hl).trans ?_⟩
 unfold World.frozen?
 rw [hh]
 rfl
set_option maxHeartbeats 4000000 in
theorem flcan_any (a : Option Addr) (n c : Nat) (vs : List FnV) (fs : List Fn.F) (w : World) (h : FnsAt w w.heap.size a n vs fs) (hw : ∀ f ∈ fs, f.Wf) (hT : Tab w) (hg : 0 < w.heap.size) :
   Calls Tryz.prog 47 #[.agg #[.slice a n c]] w (ErrP (Fl.can fs) w) := by
 have b0 := (Below.refl w.heap.size w).alloc (Nat.le_refl _) (.cells #[.slice a n c] 36)
 have b1 := b0.alloc (by simp) (.cells #[.int .i64 0] 30)
 have hCh := flcheck_any a n c vs fs _ (h.on b1) hw (tab_below hT b1 hg) (Nat.lt_of_lt_of_le hg b1.size)
 have hmf : ∀ (fn : Fn) (first cap : Array Value) (w : World), (Instr.makeFunc fn first cap).run Tryz.prog w = .ok (.func fn first cap) w := fun _ _ _ _ => rfl
 unfold MuP at hCh
 obtain ⟨cf, hcf⟩ : ∃ cf, Fl.can fs = cf := ⟨_, rfl⟩
 rw [hcf] at hCh ⊢
 have B1 := Lib.hid b1
 have HO := Lib.hid (fun (W : World) (hb : Below ((w.alloc (.cells #[.slice a n c] 36)).alloc (.cells #[.int .i64 0] 30)).heap.size ((w.alloc (.cells #[.slice a n c] 36)).alloc (.cells #[.int .i64 0] 30)) W) => show W.cell? ⟨w.heap.size + 1, 0, none⟩ = some (.int .i64 0) ∧ W.frozen? ⟨w.heap.size + 1, 0, none⟩ = false from by
   have := own_cell hb
   rwa [World.size_alloc] at this)
 clear b0 b1 h hw hT hg hcf
 by_cases hz : cf = 0
 · subst hz
   rw [Mu.ok] at hCh
   go_enter_defers Tryz.func47, Tryz.ntmps47
   go_wp2_with (go_at_call 77; refine hCh.mono ?_; rintro _ w2 ⟨rfl, hb3⟩; have HB3 := Lib.hid hb3; clear hCh hb3; have k0 := (HO.out w2 HB3.out).1; have k1 := (HO.out w2 HB3.out).2)
   refine leaves_cons (f := 75) (args := #[.pointer (some ⟨w.heap.size + 1, 0, none⟩)]) (by simp) (by simp [go_sem]) ?_
   refine (catch_idle ⟨w.heap.size + 1, 0, none⟩ (.int .i64 0) _ ?_ ?_).mono ?_
   · simp [go_sem, k0]
   · simp [go_sem, k1]
   rintro e u' w'' ⟨rfl, rfl, rfl⟩
   simp [Leaves, settle, results, Tryz.results47, go_sem]
   rw [set_cell _ (set_cell _ k0)]
   exact ⟨_, rfl, rfl, ((B1.out.trans (HB3.out.mono B1.out.size)).setCell (Nat.le_succ _) _).setCell (Nat.le_succ _) _⟩
 · rw [Mu.bad hz] at hCh
   go_enter_defers Tryz.func47, Tryz.ntmps47
   go_wp2_with (go_at_call 77; refine hCh.mono ?_; rintro _ w2 ⟨rfl, hb3⟩; have HB3 := Lib.hid hb3; clear hCh hb3; have k0 := (HO.out w2 HB3.out).1; have k1 := (HO.out w2 HB3.out).2)
   refine leaves_cons (f := 75) (args := #[.pointer (some ⟨w.heap.size + 1, 0, none⟩)]) (by simp) (by simp [go_sem]) ?_
   refine (catch_bad ⟨w.heap.size + 1, 0, none⟩ (.int .i64 0) (cf : Int) [] _ k0 k1).mono ?_
   rintro e u' w'' ⟨rfl, rfl, rfl⟩
   simp [Leaves, settle, results, Tryz.results47, go_sem]
   rw [set_cell _ k0]
   exact ⟨_, rfl, rfl, (B1.out.trans (HB3.out.mono B1.out.size)).setCell (Nat.le_succ _) _⟩
set_option maxHeartbeats 4000000 in
theorem rflcan_any (a : Option Addr) (n c : Nat) (vs : List FnV) (fs : List Fn.F) (w : World) (h : FnsAt w w.heap.size a n vs fs) (hw : ∀ f ∈ fs, f.Wf) (hs : ∀ k, k < n → (vs.getD k .zero).Few) :
   Calls Tryz.prog 15 #[.agg #[.slice a n c]] w (ErrP (Fl.can fs) w) := by
 have b0 := (Below.refl w.heap.size w).alloc (Nat.le_refl _) (.cells #[.slice a n c] 36)
 have H := Lib.hid (h.on b0)
 have B0 := Lib.hid b0
 have hc0 := cell_of_row (w.alloc (.cells #[.slice a n c] 36)) _ 0 _ _ _ (heap_alloc_new w (.cells #[.slice a n c] 36))
 have HC := Lib.hid hc0
 have HZ := Lib.hid (show w.heap.size < (w.alloc (.cells #[.slice a n c] 36)).heap.size by simp)
 have HW := Lib.hid hw
 have HS := Lib.hid hs
 have HLf := Lib.hid h.lenf
 clear h b0 hw hs
 by_cases h1 : n < 1
 · have d1 : decide ((n : Int) < 1) = true := decide_eq_true (by omega)
   have HE : Hid (Fl.can fs = 6) := Lib.hid (if_pos (.inl (by rw [HLf.out]; exact h1)))
   clear h1
   go_enter Tryz.func15, Tryz.ntmps15
   go_wp2
   go_ret
   rw [HE.out]
   exact ⟨rfl, B0.out⟩
 have d1 : decide ((n : Int) < 1) = false := decide_eq_false (by omega)
 by_cases h2 : 40 < n
 · have d2 : decide ((40 : Int) < (n : Int)) = true := decide_eq_true (by omega)
   have HE : Hid (Fl.can fs = 6) := Lib.hid (if_pos (.inr (by rw [HLf.out]; exact h2)))
   clear h1 h2
   go_enter Tryz.func15, Tryz.ntmps15
   go_wp2
   go_ret
   rw [HE.out]
   exact ⟨rfl, B0.out⟩
 have d2 : decide ((40 : Int) < (n : Int)) = false := decide_eq_false (by omega)
 have HF0 : Hid (Fl.few fs.length = 0) := Lib.hid (by rw [HLf.out]; exact if_neg (by omega))
 have hn40 : n ≤ 40 := by omega
 clear h1 h2
 go_enter Tryz.func15, Tryz.ntmps15
 go_wp2
 generalize hw1 : w.alloc (.cells #[.slice a n c] 36) = w1 at *
 clear hw1 d1 d2 hc0
 go_loopw [3, 4] (fun i _ wr => ∃ k : Nat, k ≤ n ∧ i = .int .i64 (k : Int) ∧ Fl.canF (fs.take k) = 0 ∧ Below w1.heap.size w1 wr) (fun i _ _ => n - (intOf i).toNat)
 case atStart => exact ⟨0, Nat.zero_le _, rfl, rfl, Below.refl _ _⟩
 case round =>
   obtain ⟨k, hk, rfl, h0, hB⟩ := hrel
   have HB := Lib.hid hB
   have H0 := Lib.hid h0
   have hcell : wr.cell? ⟨w.heap.size, 0, none⟩ = some (.slice a n c) := (HB.out.cell (p := ⟨w.heap.size, 0, none⟩) HZ.out).trans HC.out
   clear hB h0
   by_cases hlt : k < n
   · obtain ⟨b, off, v, f, rfl, hltb, hv, hf, hok, hlen, hkl, d0, d1, d2, d3, d4, d5, d6, d7, d8, d9, d10⟩ := fns_cell (H.out.on HB.out) hlt
     have HCn := rfncan_any v f wr hok hlen (H.out.wf HW.out hlt hf) (by rw [← hv]; exact HS.out k hlt)
     obtain ⟨cf, hcf⟩ : ∃ cf, f.can = cf := ⟨_, rfl⟩
     rw [hcf] at HCn
     unfold ErrP at HCn
     clear hok hlen
     by_cases hz : cf = 0
     · have HN := Lib.hid (Fl.can_step hkl hf H0.out (by rw [hcf]; exact hz))
       have hd : ((cf : Int) != 0) = false := by rw [hz]; rfl
       clear hcf hkl hf hv hz
       go_wp2_with (go_at_call 6; refine HCn.mono ?_; rintro _ w2 ⟨rfl, hb3⟩; have HB3 := Lib.hid (HB.out.trans (hb3.mono HB.out.size)); clear HCn hb3 d0 d1 d2 d3 d4 d5 d6 d7 d8 d9 d10 hcell)
       go_roundw
       case rel => exact ⟨k + 1, by omega, by go_num, HN.out, HB3.out⟩
       case measure => simp [intOf]; omega
     · have HE := Lib.hid ((Fl.can_at HF0.out hkl hf H0.out (by rw [hcf]; exact hz)).trans hcf)
       have hd : ((cf : Int) != 0) = true := bne_iff_ne.2 (by omega)
       clear hcf hkl hf hv hz
       go_wp2_with (go_at_call 6; refine HCn.mono ?_; rintro _ w2 ⟨rfl, hb3⟩; have HB3 := Lib.hid (HB.out.trans (hb3.mono HB.out.size)); clear HCn hb3 d0 d1 d2 d3 d4 d5 d6 d7 d8 d9 d10 hcell)
       go_ret
       rw [HE.out]
       exact ⟨rfl, B0.out.trans (HB3.out.mono B0.out.size)⟩
   · have HN := rflnames_any a n c vs fs wr (H.out.on HB.out) (by omega)
     have HE := Lib.hid (Fl.can_names HF0.out (by have := H0.out; rwa [List.take_of_length_le (by have := HLf.out; omega)] at this))
     have HU := Lib.hid (fun a2 n2 c2 zs W (hN : NamesAt W W.heap.size a2 n2 zs) => runlike_any a2 n2 c2 _ zs W hN)
     have HNl := Lib.hid (names_len fs)
     obtain ⟨l, hl⟩ : ∃ l, Fl.names fs = l := ⟨_, rfl⟩
     rw [hl] at HN HE HNl
     unfold NewNames at HN
     obtain ⟨bu, hbu⟩ : ∃ bu, Nm.unlike l = bu := ⟨_, rfl⟩
     rw [hbu] at HE
     have HBu := Lib.hid hbu
     clear hl hbu
     cases bu with
     | true =>
       go_wp2_with (first
         | (go_at_call 43; refine HN.mono ?_; rintro _ w2 ⟨a2, c2, rfl, hN, hb3⟩; have HB3 := Lib.hid (HB.out.trans (hb3.mono HB.out.size)); have HR := Lib.hid (HU.out a2 _ c2 l w2 hN (by rw [HNl.out, HLf.out]; omega)); clear HN hb3 hN hcell)
         | (go_at_call 42; refine HR.out.mono ?_; rintro _ w3 ⟨rfl, he⟩; obtain rfl := he.symm; rw [HBu.out]; clear HR))
       go_ret
       rw [HE.out, show Fl.odd true = 0 from rfl]
       exact ⟨rfl, B0.out.trans (HB3.out.mono B0.out.size)⟩
     | false =>
       go_wp2_with (first
         | (go_at_call 43; refine HN.mono ?_; rintro _ w2 ⟨a2, c2, rfl, hN, hb3⟩; have HB3 := Lib.hid (HB.out.trans (hb3.mono HB.out.size)); have HR := Lib.hid (HU.out a2 _ c2 l w2 hN (by rw [HNl.out, HLf.out]; omega)); clear HN hb3 hN hcell)
         | (go_at_call 42; refine HR.out.mono ?_; rintro _ w3 ⟨rfl, he⟩; obtain rfl := he.symm; rw [HBu.out]; clear HR))
       go_ret
       rw [HE.out, show Fl.odd false = 7 from rfl]
       exact ⟨rfl, B0.out.trans (HB3.out.mono B0.out.size)⟩
end Go.Proofs.YtmhmlhlplfkpaaaGreatDoor
namespace Go.Proofs.YtmhmlhlplfkpaaaGreatDoor
open Go.RowKit
theorem row_other {w w' : World} {base n size : Nat} {e : TypeId} {v : Value} {xs : List Value} {row : Option Nat} (h : w.ownsRow base e size v n xs) (hg : w.grownBy w' row)
   (hr : ∀ b, row = some b → ∃ C t m, w.heap[b]? = some (.cells C t m) ∧ t ≠ e) : w'.ownsRow base e size v n xs := by
 refine row_kept h fun b hb => hg.block b (h.lt b hb).2 fun e' => ?_
 obtain ⟨C, t, m, h1, h2⟩ := hr b e'.symm
 rcases h.2 with ⟨rfl, _⟩ | ⟨g, cap, cur, rfl, _, hh, _⟩
 · cases hb
 · injection hb with hb
   subst hb
   rw [h1] at hh
   injection hh with hh
   injection hh with _ h3
   exact h2 h3
def Else (t : TypeId) : Prop := t ≠ 87 ∧ t ≠ 48 ∧ t ≠ 3 ∧ t ≠ 93 ∧ t ≠ 70
theorem FnOwn.kept {w w' : World} {base : Nat} {v : FnV} {f : Fn.F} {row : Option Nat} (h : FnOwn w base v f) (hg : w.grownBy w' row)
   (hr : ∀ b, row = some b → ∃ C t m, w.heap[b]? = some (.cells C t m) ∧ Else t) : FnOwn w' base v f := by
 have k : ∀ e, (∀ t, Else t → t ≠ e) → ∀ b, row = some b → ∃ C t m, w.heap[b]? = some (.cells C t m) ∧ t ≠ e := fun e he b hb => by
   obtain ⟨C, t, m, h1, h2⟩ := hr b hb
   exact ⟨C, t, m, h1, he t h2⟩
 exact ⟨h.name, h.inner, row_other h.outer hg (k _ fun t h => h.1), row_other h.params hg (k _ fun t h => h.1), row_other h.results hg (k _ fun t h => h.1), row_other h.locals hg (k _ fun t h => h.1), row_other h.code hg (k _ fun t h => h.2.1), row_other h.lines hg (k _ fun t h => h.2.2.1),
   row_other h.nodes hg (k _ fun t h => h.2.2.2.1), row_other h.at_ hg (k _ fun t h => h.2.2.1), row_other h.live hg (k _ fun t h => h.2.2.2.2)⟩
theorem FnOwn.below {w w' : World} {base : Nat} {v : FnV} {f : Fn.F} (h : FnOwn w base v f) (hb : Below w.heap.size w w') : FnOwn w' base v f :=
 h.kept (row := none) ⟨hb.os, hb.tape, hb.output, hb.size, fun j hj _ => hb.block j hj⟩ (fun _ e => by cases e)
theorem FnOwn.base {w : World} {b b' : Nat} {v : FnV} {f : Fn.F} (h : FnOwn w b v f) (hb : b' ≤ b) : FnOwn w b' v f :=
 ⟨h.name, h.inner, ownsRow_base h.outer hb, ownsRow_base h.params hb, ownsRow_base h.results hb, ownsRow_base h.locals hb, ownsRow_base h.code hb, ownsRow_base h.lines hb, ownsRow_base h.nodes hb, ownsRow_base h.at_ hb, ownsRow_base h.live hb⟩
theorem FnOwn.lens {b : Nat} {w : World} {v : FnV} {f : Fn.F} (h : FnOwn w b v f) (hn : f.name.size ≤ 9223372036854775807) : v.Len :=
 ⟨by rw [h.name]; exact hn, (nil_own h.outer).2, (nil_own h.params).2, (nil_own h.results).2, (nil_own h.locals).2, (nil_own h.code).2, (nil_own h.lines).2, (nil_own h.nodes).2, (nil_own h.at_).2, (nil_own h.live).2⟩
theorem else_func : Else 28 := by unfold Else; decide
theorem info_func : (Tryz.prog.info? 28).map (fun i => (i.zero, i.size, i.bytes)) = some (some (.agg FnV.zero.cells), 11, 240) := by kernel_rfl
theorem row_funcs {w : World} {base n : Nat} {v : Value} {xs : List Value} (h : w.ownsRow base 28 11 v n xs) : ∀ b, v.ownBlock = some b → ∃ C t m, w.heap[b]? = some (.cells C t m) ∧ Else t := by
 intro b hb
 rcases h.2 with ⟨rfl, _⟩ | ⟨g, cap, cur, rfl, _, hh, _⟩
 · cases hb
 · injection hb with hb
   subst hb
   exact ⟨_, _, _, hh, else_func⟩
theorem funcs_of_own {w : World} {base n : Nat} {s : Sl3} {us : List FnV} {fs : List Fn.F} (h : w.ownsRow base 28 11 s.val n (fcs us)) (ho : ∀ k, k < n → FnOwn w base (us.getD k .zero) (fs.getD k .zero)) (hl : fs.length = n) (hn : ∀ f ∈ fs, f.name.size ≤ 9223372036854775807) :
   s.n = n ∧ FnsAt w w.heap.size s.a n us fs ∧ s.nilOk := by
 have hu : us.length = n := by have := h.1; rw [fcs_length] at this; omega
 have hlt := h.lt
 have hname : ∀ k, k < n → (fs.getD k .zero).name.size ≤ 9223372036854775807 := fun k hk => hn _ (by simp [List.getD, show k < fs.length by omega])
 have hok : ∀ k, k < n → FnOk w w.heap.size (us.getD k .zero) (fs.getD k .zero) := fun k hk => (ho k hk).ok
 have hln : ∀ k, k < n → (us.getD k .zero).Len := fun k hk => (ho k hk).lens (hname k hk)
 rcases h.2 with ⟨hv, hn⟩ | ⟨g, cap, cur, hv, hg, hh, hnc, hcm, hcs, ht⟩
 · unfold Sl3.val at hv
   injection hv with h1 h2 h3
   rw [h1, h2]
   exact ⟨hn.symm, ⟨hu, hl, hok, hln, fun h => absurd h (by omega)⟩, fun _ => h3⟩
 · unfold Sl3.val at hv
   injection hv with h1 h2 h3
   rw [h1, h2]
   refine ⟨rfl, ⟨hu, hl, hok, hln, fun hp => ⟨g, 0, rfl, (hlt g (by rw [Sl3.val, h1]; rfl)).2, fun i hi j hj => ?_⟩⟩, fun e => by rw [h1] at e; cases e⟩
   have e0 := fcs_get us i (by omega) j hj
   rw [← ht, List.getElem?_take, if_pos (by omega), Array.getElem?_toList] at e0
   rw [Nat.zero_add, cell_of_row w g _ cur _ _ hh]
   exact e0
theorem getD_last {α : Type} (l : List α) (x d : α) : (l ++ [x]).getD l.length d = x := by simp [List.getD]
theorem getD_init {α : Type} (l : List α) (x d : α) {j : Nat} (h : j < l.length) : (l ++ [x]).getD j d = l.getD j d := by simp [List.getD, List.getElem?_append_left h]
theorem FnsAt.names {w : World} {B n : Nat} {a : Option Addr} {vs : List FnV} {fs : List Fn.F} (h : FnsAt w B a n vs fs) : ∀ f ∈ fs, f.name.size ≤ 9223372036854775807 := by
 intro f hf
 obtain ⟨k, hk, rfl⟩ := List.mem_iff_getElem.1 hf
 have h1 := (h.ok k (by rw [← h.lenf]; exact hk)).name
 have h2 := (h.len k (by rw [← h.lenf]; exact hk)).name
 rw [h1] at h2
 simpa [List.getD, hk] using h2
theorem prog_cell {w : World} {b : Nat} {u : Value} {t : TypeId} (h : w.heap[b]? = some (.cells #[u] t (0, 0))) : w.cell? ⟨b, 0, none⟩ = some u ∧ w.frozen? ⟨b, 0, none⟩ = false := by
 refine ⟨cell_of_row w b 0 _ _ _ h, ?_⟩
 unfold World.frozen?
 rw [h]
 rfl
end Go.Proofs.YtmhmlhlplfkpaaaGreatDoor
namespace Go.Proofs.YtmhmlhlplfkpaaaGreatDoor
open Go.RowKit
theorem EqP.tells {p : Prop} {b : Bool} (hb : b = true ↔ p) {w w' : World} {e : Ending} (h : EqP p w e w') : e = .returned (.bool b) ∧ Below w.heap.size w w' := by
 obtain ⟨c, rfl, hc, hbl⟩ := h
 have : c = b := by rw [Bool.eq_iff_iff]; exact hc.trans hb.symm
 exact ⟨by rw [this], hbl⟩
set_option maxHeartbeats 8000000 in
theorem rflsame_any (a b : Option Addr) (n c m d : Nat) (us vs : List FnV) (fs gs : List Fn.F) (w : World) (h : FnsAt w w.heap.size a n us fs) (h2 : FnsAt w w.heap.size b m vs gs) (hn : n ≤ 9223372036854775807) :
   Calls Tryz.prog 19 #[.agg #[.slice a n c], .agg #[.slice b m d]] w (EqP (fs = gs) w) := by
 have b0 := (Below.refl w.heap.size w).alloc (Nat.le_refl _) (.cells #[.slice a n c] 36)
 have b1 := b0.alloc b0.size (.cells #[.slice b m d] 36)
 have H := Lib.hid (h.on b1)
 have H2 := Lib.hid (h2.on b1)
 have B1 := Lib.hid b1
 have hh2 := heap_alloc_new (w.alloc (.cells #[.slice a n c] 36)) (.cells #[.slice b m d] 36)
 rw [World.size_alloc] at hh2
 have hh1 := (Below.heap_alloc (w.alloc (.cells #[.slice a n c] 36)) (.cells #[.slice b m d] 36) w.heap.size (by simp)).trans (heap_alloc_new w (.cells #[.slice a n c] 36))
 have hq1 := cell_of_row _ _ 0 _ _ _ hh1
 have hq2 := cell_of_row _ _ 0 _ _ _ hh2
 have HQ1 := Lib.hid hq1
 have HQ2 := Lib.hid hq2
 have HZ := Lib.hid (show w.heap.size + 1 < ((w.alloc (.cells #[.slice a n c] 36)).alloc (.cells #[.slice b m d] 36)).heap.size by simp)
 clear h h2 b0 b1 hh1 hh2
 by_cases hnm : n = m
 · subst hnm
   go_enter Tryz.func19, Tryz.ntmps19
   go_wp2
   generalize hw1 : (w.alloc (.cells #[.slice a n c] 36)).alloc (.cells #[.slice b n d] 36) = w1 at *
   clear hw1 hq1 hq2
   go_loopw [5] (fun i wr => ∃ k : Nat, k ≤ n ∧ i = .int .i64 (k : Int) ∧ Below w1.heap.size w1 wr ∧ fs.take k = gs.take k) (fun i _ => n - (intOf i).toNat)
   case atStart => exact ⟨0, Nat.zero_le _, rfl, Below.refl _ _, by simp⟩
   case round =>
     obtain ⟨k, hk, rfl, hB, hW⟩ := hrel
     have HB := Lib.hid hB
     have HW := Lib.hid hW
     have hq1 := (HB.out.cell (p := ⟨w.heap.size, 0, none⟩) (show w.heap.size < w1.heap.size by have := HZ.out; omega)).trans HQ1.out
     have hq2 := (HB.out.cell (p := ⟨w.heap.size + 1, 0, none⟩) (show w.heap.size + 1 < w1.heap.size from HZ.out)).trans HQ2.out
     clear hB hW
     by_cases hlt : k < n
     · obtain ⟨b1, off1, x, f, rfl, hlt1, e1, ef, ok1, ln1, hk1, c0, c1, c2, c3, c4, c5, c6, c7, c8, c9, c10⟩ := fns_cell (H.out.on HB.out) hlt
       obtain ⟨b2, off2, y, g, rfl, hlt2, e2, eg, ok2, ln2, hk2, d0, d1, d2, d3, d4, d5, d6, d7, d8, d9, d10⟩ := fns_cell (H2.out.on HB.out) hlt
       obtain ⟨K, hK, F, HC, HBe, HU⟩ := worlds_of wr
       have HSm := Lib.hid (fun q => rfnsame_any x y f g (F q) (ok1.on (HBe.out q)) (ok2.on (HBe.out q)) ln1)
       have p0 := cell_q HBe.out hlt1 c0; have p1 := cell_q HBe.out hlt1 c1; have p2 := cell_q HBe.out hlt1 c2; have p3 := cell_q HBe.out hlt1 c3; have p4 := cell_q HBe.out hlt1 c4; have p5 := cell_q HBe.out hlt1 c5; have p6 := cell_q HBe.out hlt1 c6; have p7 := cell_q HBe.out hlt1 c7; have p8 := cell_q HBe.out hlt1 c8; have p9 := cell_q HBe.out hlt1 c9; have p10 := cell_q HBe.out hlt1 c10
       have r0 := cell_q HBe.out hlt2 d0; have r1 := cell_q HBe.out hlt2 d1; have r2 := cell_q HBe.out hlt2 d2; have r3 := cell_q HBe.out hlt2 d3; have r4 := cell_q HBe.out hlt2 d4; have r5 := cell_q HBe.out hlt2 d5; have r6 := cell_q HBe.out hlt2 d6; have r7 := cell_q HBe.out hlt2 d7; have r8 := cell_q HBe.out hlt2 d8; have r9 := cell_q HBe.out hlt2 d9; have r10 := cell_q HBe.out hlt2 d10
       have s1 := cell_q HBe.out (show w.heap.size < wr.heap.size by have := HZ.out; have := HB.out.size; omega) hq1
       have s2 := cell_q HBe.out (show w.heap.size + 1 < wr.heap.size by have := HZ.out; have := HB.out.size; omega) hq2
       have hki : (k : Int) < (n : Int) := by omega
       clear ok1 ok2 ln1 ln2 c0 c1 c2 c3 c4 c5 c6 c7 c8 c9 c10 d0 d1 d2 d3 d4 d5 d6 d7 d8 d9 d10
       by_cases hfg : f = g
       · have HE := Lib.hid (fun q => (HSm.out q).mono fun _ _ => EqP.tells (b := true) ⟨fun _ => hfg, fun _ => rfl⟩)
         have HN := Lib.hid (take_same_succ Fn.F.zero HW.out hk1 hk2 (by rw [ef, eg, hfg]))
         clear HSm hfg ef eg e1 e2 hk1 hk2
         go_wp2
         refine region_q F HC.out (by kernel_rfl) (by kernel_rfl) ?_
         repeat (go_big_quiet_step (first | (go_at_call 48; refine Calls.q HU.out (HE.out _))))
         refine wpQuiet_nil ?_
         rintro _ ⟨nq, rfl⟩
         go_wp2
         go_roundw
         case rel => exact ⟨k + 1, hlt, by go_num, HB.out.trans ((HBe.out nq).mono HB.out.size), HN.out⟩
         case measure => simp [intOf]; omega
       · have HE := Lib.hid (fun q => (HSm.out q).mono fun _ _ => EqP.tells (b := false) ⟨fun e => (by cases e), fun e => absurd e hfg⟩)
         have HN : Hid (¬ fs = gs) := Lib.hid (fun e => hfg (by rw [← ef, ← eg, e]))
         clear HSm hfg ef eg e1 e2 hk1 hk2
         go_wp2
         refine region_q F HC.out (by kernel_rfl) (by kernel_rfl) ?_
         repeat (go_big_quiet_step (first | (go_at_call 48; refine Calls.q HU.out (HE.out _))))
         refine wpQuiet_nil ?_
         rintro _ ⟨nq, rfl⟩
         go_wp2
         go_ret
         exact EqP.no HN.out (B1.out.trans ((HB.out.trans ((HBe.out nq).mono HB.out.size)).mono B1.out.size))
     · have HN : Hid (fs = gs) := Lib.hid (by
         have h1 := HW.out
         rwa [List.take_of_length_le (by rw [H.out.lenf]; omega), List.take_of_length_le (by rw [H2.out.lenf]; omega)] at h1)
       go_wp2
       go_ret
       exact EqP.yes HN.out (B1.out.trans (HB.out.mono B1.out.size))
 · have HN : Hid (¬ fs = gs) := Lib.hid (fun e => hnm (by rw [← H.out.lenf, ← H2.out.lenf, e]))
   have hd : ((n : Int) != (m : Int)) = true := bne_iff_ne.2 (by omega)
   clear hnm
   go_enter Tryz.func19, Tryz.ntmps19
   go_wp2
   go_ret
   exact EqP.no HN.out B1.out
end Go.Proofs.YtmhmlhlplfkpaaaGreatDoor
