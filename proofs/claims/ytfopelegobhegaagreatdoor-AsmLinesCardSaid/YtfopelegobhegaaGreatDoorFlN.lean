/-
 Programs as bytes: the plain mathematics. Conditions: none.
-/
import Derived.Test.YtfopelegobhegaaGreatDoorFnTkM
import Derived.Test.YtfopelegobhegaaGreatDoorNmU
import Derived.Test.YtfopelegobhegaaGreatDoorFlA
import Derived.Test.YtfopelegobhegaaGreatDoorFnCanL
import Derived.Recover
set_option maxRecDepth 100000
namespace Go.Proofs.YtfopelegobhegaaGreatDoor
namespace Fl
open _root_.Go.Proofs.YtfopelegobhegaaGreatDoor.Fn (F)
def magic : List Nat := [73, 78, 76, 49]
def names (l : List F) : List ByteArray := l.map (·.name)
def canF : List F → Nat
 | [] => 0
 | f :: r => if f.can ≠ 0 then f.can else canF r
def can (l : List F) : Nat := if l.length < 1 ∨ 40 < l.length then 6 else if canF l ≠ 0 then canF l else if Nm.unlike (names l) then 0 else 7
theorem canF_all : ∀ {l : List F}, canF l = 0 ↔ ∀ f ∈ l, f.can = 0
 | [] => ⟨(fun _ f hf => by cases hf), fun _ => rfl⟩
 | f :: r => by
   rw [canF]
   constructor
   · intro h
     split at h
     · rename_i h1; exact absurd h h1
     · rename_i h1
       intro g hg
       rcases List.mem_cons.1 hg with rfl | hg
       · omega
       · exact (canF_all.1 h) g hg
   · intro h
     rw [if_neg (by have := h f (List.mem_cons_self ..); omega)]
     exact canF_all.2 fun g hg => h g (List.mem_cons_of_mem _ hg)
theorem canF_append : ∀ {l : List F} (r : List F), canF l = 0 → canF (l ++ r) = canF r
 | [], _, _ => rfl
 | f :: l, r, h => by
   have h0 := canF_all.1 h
   rw [List.cons_append, canF, if_neg (by have := h0 f (List.mem_cons_self ..); omega)]
   exact canF_append r (canF_all.2 fun g hg => h0 g (List.mem_cons_of_mem _ hg))
theorem canF_at {l : List F} {k : Nat} (hk : k < l.length) (h0 : canF (l.take k) = 0) (h1 : l[k].can ≠ 0) : canF l = l[k].can := by
 have e : l = l.take k ++ l.drop k := (List.take_append_drop k l).symm
 have e2 : l.drop k = l[k] :: l.drop (k + 1) := List.drop_eq_getElem_cons hk
 have e3 : canF l = canF (l.take k ++ l.drop k) := congrArg canF e
 rw [e3, canF_append _ h0, e2, canF, if_pos h1]
theorem canF_next {l : List F} {k : Nat} (hk : k < l.length) (h0 : canF (l.take k) = 0) (h1 : l[k].can = 0) : canF (l.take (k + 1)) = 0 := by
 rw [List.take_succ_eq_append_getElem hk, canF_append _ h0, canF, if_neg (by omega)]
 rfl
def laid (l : List F) : List Nat := magic ++ (Uv.put l.length ++ l.flatMap F.laid)
def bytes (l : List F) : List Nat := if can l = 0 then laid l else []
end Fl
end Go.Proofs.YtfopelegobhegaaGreatDoor
namespace Go.Proofs.YtfopelegobhegaaGreatDoor
open Go.RowKit
def Fl.odd (b : Bool) : Nat := if b = true then 0 else 7
def Fl.few (n : Nat) : Nat := if n < 1 ∨ 40 < n then 6 else 0
def Mu (er : Nat) : Ending := if er = 0 then .returned (.tuple #[]) else .panicked [{ v := .iface 26 (.int .i64 (er : Int)), recovered := false }]
theorem Mu.ok : Mu 0 = .returned (.tuple #[]) := rfl
theorem Mu.bad {er : Nat} (h : er ≠ 0) : Mu er = .panicked [{ v := .iface 26 (.int .i64 (er : Int)), recovered := false }] := if_neg h
theorem flmust_any (er : Nat) (w : World) : Calls Tryz.prog 71 #[.int .i64 (er : Int)] w fun e w' => e = Mu er ∧ w' = w := by
 by_cases h : er = 0
 · subst h
   go_enter Tryz.func71, Tryz.ntmps71
   go_wp2
   go_end0
   exact ⟨rfl, rfl⟩
 · have hz : ((er : Int) != 0) = true := bne_iff_ne.2 (by omega)
   have hM := Lib.hid (Mu.bad h)
   clear h
   go_enter Tryz.func71, Tryz.ntmps71
   go_wp2
   exact ⟨rfl, hM.out.symm, rfl⟩
theorem ended_nil (w : World) : Calls Tryz.prog 53 #[.nilIface] w fun e w' => e = .returned (.int .i64 0) ∧ w' = w := by
 go_enter Tryz.func53, Tryz.ntmps53
 go_wp2
 go_ret
 exact ⟨rfl, rfl⟩
theorem flmust_ok (er : Nat) (h : er = 0) (w : World) : Calls Tryz.prog 71 #[.int .i64 (er : Int)] w fun e w' => e = .returned (.tuple #[]) ∧ w' = w := by
 subst h
 exact flmust_any 0 w
theorem flmust_bad (er : Nat) (h : er ≠ 0) (w : World) : Calls Tryz.prog 71 #[.int .i64 (er : Int)] w fun e w' => e = .panicked [{ v := .iface 26 (.int .i64 (er : Int)), recovered := false }] ∧ w' = w := by
 have := flmust_any er w
 rwa [Mu.bad h] at this
theorem assert_errno (t : TypeId) (x : Int) (w : World) : (Instr.typeAssert (.iface 26 (.int .i64 x)) t 26 false).run Tryz.prog w = .ok (.int .i64 x) w := by
 simp [Instr.typeAssert, run_underlying Tryz.underlying26]
theorem ended_err (x : Int) (w : World) : Calls Tryz.prog 53 #[.iface 26 (.int .i64 x)] w fun e w' => e = .returned (.int .i64 x) ∧ w' = w := by
 have hr := fun t => assert_errno t x
 go_enter Tryz.func53, Tryz.ntmps53
 go_wp2
 go_ret
 exact ⟨rfl, rfl⟩
theorem flmany_any (n : Nat) (w : World) : Calls Tryz.prog 72 #[.int .i64 (n : Int)] w fun e w' => e = .returned (.int .i64 (Fl.few n : Int)) ∧ w' = w := by
 by_cases h1 : n < 1
 · have d1 : decide ((n : Int) < 1) = true := decide_eq_true (by omega)
   rw [show Fl.few n = 6 from if_pos (.inl h1)]
   go_enter Tryz.func72, Tryz.ntmps72
   go_wp2
   go_ret
   exact ⟨rfl, rfl⟩
 · have d1 : decide ((n : Int) < 1) = false := decide_eq_false (by omega)
   by_cases h2 : 40 < n
   · have d2 : decide ((40 : Int) < (n : Int)) = true := decide_eq_true (by omega)
     rw [show Fl.few n = 6 from if_pos (.inr h2)]
     go_enter Tryz.func72, Tryz.ntmps72
     go_wp2
     go_ret
     exact ⟨rfl, rfl⟩
   · have d2 : decide ((40 : Int) < (n : Int)) = false := decide_eq_false (by omega)
     rw [show Fl.few n = 0 from if_neg (by omega)]
     go_enter Tryz.func72, Tryz.ntmps72
     go_wp2
     go_ret
     exact ⟨rfl, rfl⟩
theorem catch_bad (p : Addr) (c : Value) (x : Int) (older : List PanicEntry) (w : World) (hc : w.cell? p = some c) (hz : w.frozen? p = false) :
   CallsD Tryz.prog 52 #[.pointer (some p)] (.panicking ({ v := .iface 26 (.int .i64 x), recovered := false } :: older)) w fun e u' w' =>
     e = .returned (.tuple #[]) ∧ u' = .panicking ({ v := .iface 26 (.int .i64 x), recovered := true } :: older) ∧ w' = w.setCell p (.int .i64 x) := by
 have HE := ended_err x w
 refine callsD_of_wpS Tryz.func52 rfl fun c₀ cs hu => ?_
 apply wpS_region
 simp [wpOpsS, go_sem, recoverD, hu, Tryz.ntmps52]
 refine HE.mono ?_
 rintro e w' ⟨rfl, rfl⟩
 simp [go_sem, hc, hz, bodyPostS, results, Tryz.results52]
theorem catch_idle (p : Addr) (c : Value) (w : World) (hc : w.cell? p = some c) (hz : w.frozen? p = false) :
   CallsD Tryz.prog 52 #[.pointer (some p)] .returning w fun e u' w' => e = .returned (.tuple #[]) ∧ u' = .returning ∧ w' = w.setCell p (.int .i64 0) := by
 have HE := ended_nil w
 refine callsD_of_wpS Tryz.func52 rfl fun c₀ cs hu => ?_
 apply wpS_region
 simp [wpOpsS, go_sem, recoverD, hu, Tryz.ntmps52]
 refine HE.mono ?_
 rintro e w' ⟨rfl, rfl⟩
 cases c₀
 simp_all [go_sem, bodyPostS, results, Tryz.results52]
end Go.Proofs.YtfopelegobhegaaGreatDoor
namespace Go.Proofs.YtfopelegobhegaaGreatDoor
open Go.RowKit
def strs (l : List ByteArray) : List Value := l.map Value.string
theorem strs_append (a b : List ByteArray) : strs (a ++ b) = strs a ++ strs b := List.map_append
theorem strs_one (l : List ByteArray) : ∀ u ∈ strs l, u.oneCell' = true := by
 intro u hu
 obtain ⟨x, _, rfl⟩ := List.mem_map.1 hu
 rfl
theorem names_of_own {w : World} {b n : Nat} {e : TypeId} {A : Option Addr} {k c : Nat} {r : List ByteArray} (h : w.ownsRow b e 1 (.slice A k c) n (strs r)) : k = n ∧ NamesAt w w.heap.size A k r := by
 have hl : r.length = n := by have := h.1; simpa [strs] using this
 have hlt := h.lt
 rcases h.2 with ⟨hv, hn⟩ | ⟨g, cap, cur, hv, hg, hh, hnc, hcm, hcs, ht⟩
 · injection hv with h1 h2 h3
   subst h1 h2 h3 hn
   exact ⟨rfl, hl, fun h => absurd h (by omega)⟩
 · injection hv with h1 h2 h3
   subst h1 h2 h3
   refine ⟨rfl, hl, fun hn => ⟨g, 0, rfl, (hlt g rfl).2, fun i hi => ?_⟩⟩
   have e0 : (strs r)[i]? = some (.string (r.getD i ByteArray.empty)) := by simp [strs, List.getD, show i < r.length by omega]
   rw [← ht, List.getElem?_take, if_pos (by omega), Array.getElem?_toList] at e0
   rw [Nat.zero_add, cell_of_row w g _ cur _ _ hh]
   exact e0
theorem names_take {fs : List Fn.F} {k : Nat} (h : k < fs.length) {f : Fn.F} (e : fs.getD k .zero = f) : (Fl.names fs).take (k + 1) = (Fl.names fs).take k ++ [f.name] := by
 unfold Fl.names
 rw [List.take_succ_eq_append_getElem (by simpa using h)]
 simp [List.getD, h] at e
 simp [e]
theorem names_len (fs : List Fn.F) : (Fl.names fs).length = fs.length := by simp [Fl.names]
theorem names_size {w : World} {B n : Nat} {a : Option Addr} {vs : List FnV} {fs : List Fn.F} (h : FnsAt w B a n vs fs) : ∀ z ∈ Fl.names fs, z.size ≤ maxLen := by
 intro z hz
 obtain ⟨f, hf, rfl⟩ := List.mem_map.1 hz
 obtain ⟨k, hk, rfl⟩ := List.mem_iff_getElem.1 hf
 have h1 := (h.ok k (by rw [← h.lenf]; exact hk)).name
 have h2 := (h.len k (by rw [← h.lenf]; exact hk)).name
 rw [h1] at h2
 simpa [List.getD, hk, maxLen] using h2
def FlNmRel (w : World) (n : Nat) (fs : List Fn.F) (out i : Value) (wr : World) : Prop :=
 ∃ (k : Nat) (l : List ByteArray), k ≤ n ∧ i = .int .i64 (k : Int) ∧ l = (Fl.names fs).take k ∧ l.length = k ∧ wr.ownsRow w.heap.size 9 1 out l.length (strs l) ∧ Below w.heap.size w wr
theorem info_str : (Tryz.prog.info? 9).map (fun i => (i.zero, i.size, i.bytes)) = some (some (.string ⟨#[]⟩), 1, 16) := by kernel_rfl
theorem new_str (w : World) (t : TypeId) (x : ByteArray) : ∀ j u, (strs [x])[j]? = some u → (w.alloc (.cells #[.string x] t)).cell? ((⟨w.heap.size, 0, none⟩ : Addr).add j) = some u :=
 World.news_of_block (heap_alloc_new w (.cells #[.string x] t))
theorem new_str2 (w : World) (o : Obj) (t : TypeId) (x : ByteArray) : ∀ j u, (strs [x])[j]? = some u → ((w.alloc o).alloc (.cells #[.string x] t)).cell? ((⟨w.heap.size + 1, 0, none⟩ : Addr).add j) = some u := by
 have := new_str (w.alloc o) t x
 simpa only [World.size_alloc] using this
def NewNames (l : List ByteArray) (w : World) (e : Ending) (w' : World) : Prop := ∃ a c, e = .returned (.slice a l.length c) ∧ NamesAt w' w'.heap.size a l.length l ∧ Below w.heap.size w w'
set_option maxHeartbeats 4000000 in
theorem flunlike_any (a : Option Addr) (n c : Nat) (vs : List FnV) (fs : List Fn.F) (w : World) (h : FnsAt w w.heap.size a n vs fs) (hn : n ≤ 60) :
   Calls Tryz.prog 74 #[.agg #[.slice a n c]] w (ErrP (Fl.odd (Nm.unlike (Fl.names fs))) w) := by
 obtain ⟨i0, hi, hz0, hz1, hz2⟩ := info_parts info_str
 have b0 := (Below.refl w.heap.size w).alloc (Nat.le_refl _) (.cells #[.slice a n c] 42)
 have H := Lib.hid (h.on b0)
 have B0 := Lib.hid b0
 clear h b0
 go_enter Tryz.func74, Tryz.ntmps74
 go_wp2
 generalize hw1 : w.alloc (.cells #[.slice a n c] 42) = w1 at *
 clear hw1
 go_loopw [3, 5, 9] (fun out _ i wr => FlNmRel w1 n fs out i wr) (fun _ _ i _ => n - (intOf i).toNat)
 case atStart => exact ⟨0, [], Nat.zero_le _, rfl, rfl, rfl, World.ownsRow_nil _ _ _ _, Below.refl _ _⟩
 case round =>
   obtain ⟨k, l, hk, rfl, hl, hlk, hO, hB⟩ := hrel
   have HB := Lib.hid hB
   have HO := Lib.hid hO
   have HL := Lib.hid (And.intro hl hlk)
   clear hB hO hl hlk
   by_cases hlt : k < n
   · obtain ⟨b, off, v, f, rfl, hltb, hv, hf, hok, hlen, hkl, d0, d1, d2, d3, d4, d5, d6, d7, d8, d9, d10⟩ := fns_cell (H.out.below HB.out) hlt
     have HT := Lib.hid (names_take hkl hf)
     have HN := Lib.hid hok.name
     clear hok hlen hf hv hkl
     go_wp2_with (at_builtin; refine wpList_append_lies _ rfl (.tmp 13) (.tmp 16) 51 rfl w1.heap.size 9 i0 (.string ⟨#[]⟩) 1 16 Tryz.underlying51 hi hz0 hz1 hz2 rfl (by decide) u3 l.length (strs l) rfl ((HO.out.alloc _).alloc _) ⟨wr.heap.size + 1, 0, none⟩ 1 1 (strs [v.name]) rfl rfl ?c1 (strs_one _) (by decide) ?c3 ?c4 ?c5 (wr.heap.size + 1 + 1) ?c6 ?_)
     case c1 => exact new_str2 wr _ _ _
     case c3 => have := HL.out.2; unfold maxLen; omega
     case c4 => have := HL.out.2; omega
     case c5 => have := HB.out.size; simp; omega
     case c6 => simp
     intro g cap w2 hown2 hgrow2 hat2 _
     have HB2 := Lib.hid (((HB.out.alloc HB.out.size _).alloc (by have := HB.out.size; simp; omega) _).grown hgrow2 (by have := HB.out.size; simp; omega) (fun k hk => (HO.out.lt k hk).1))
     have HO2 := Lib.hid hown2
     clear hown2 hgrow2 hat2 d0 d1 d2 d3 d4 d5 d6 d7 d8 d9 d10
     go_wp2
     go_roundw
     case rel => exact ⟨k + 1, l ++ [v.name], hlt, by go_num, by rw [HT.out, ← HL.out.1, HN.out], by rw [List.length_append, HL.out.2]; rfl, by rw [List.length_append, strs_append]; exact HO2.out, HB2.out⟩
     case measure => simp [intOf]; omega
   · have HE : Hid (Fl.names fs = l) := Lib.hid (by rw [HL.out.1, show k = n by omega, List.take_of_length_le (by rw [names_len, H.out.lenf]; exact Nat.le_refl _)])
     have HZ := Lib.hid (names_size H.out)
     rw [HE.out] at HZ
     obtain ⟨A, m, cc, rfl⟩ : ∃ A m cc, u3 = .slice A m cc := by
       rcases HO.out.2 with ⟨e, _⟩ | ⟨g, cap, cur, e, _⟩
       · exact ⟨_, _, _, e⟩
       · exact ⟨_, _, _, e⟩
     have HA := Lib.hid (names_of_own HO.out)
     have HU := Lib.hid (unlike_any A m cc l wr HA.out.2 HZ.out (by rw [HA.out.1, HL.out.2]; omega))
     have HF := Lib.hid (show ∀ W, Below wr.heap.size wr W → Below w.heap.size w W from fun W hb => B0.out.trans ((HB.out.trans (hb.mono HB.out.size)).mono B0.out.size))
     obtain ⟨bu, hbu⟩ : ∃ bu, Nm.unlike l = bu := ⟨_, rfl⟩
     rw [hbu] at HU
     have HBu := Lib.hid hbu
     clear hbu
     cases bu with
     | true =>
       go_wp2_with (go_at_call 98; refine HU.out.mono ?_; rintro _ w2 ⟨rfl, hb2⟩)
       go_ret
       rw [HE.out, HBu.out, show Fl.odd true = 0 from rfl]
       exact ⟨rfl, HF.out _ hb2⟩
     | false =>
       go_wp2_with (go_at_call 98; refine HU.out.mono ?_; rintro _ w2 ⟨rfl, hb2⟩)
       go_ret
       rw [HE.out, HBu.out, show Fl.odd false = 7 from rfl]
       exact ⟨rfl, HF.out _ hb2⟩
end Go.Proofs.YtfopelegobhegaaGreatDoor
