/-
 Whether a program can be laid, or what is wrong first: what ends all tells it. Conditions: the functions can be read; the library's table is laid.
-/
import Derived.Test.YtfopelegobhegaaGreatDoorFlN
import Derived.Test.YtfopelegobhegaaGreatDoorCanQ
set_option maxRecDepth 100000
namespace Go.Proofs.YtfopelegobhegaaGreatDoor
open Go.RowKit
def MuP (n : Nat) (w : World) (e : Ending) (w' : World) : Prop := e = Mu n ∧ Below w.heap.size w w'
theorem Fl.can_few {fs : List Fn.F} (h : Fl.few fs.length ≠ 0) : Fl.can fs = Fl.few fs.length := by
 unfold Fl.can
 unfold Fl.few at h ⊢
 split at h
 · rename_i h1
   rw [if_pos h1, if_pos h1]
 · exact absurd rfl h
theorem Fl.few_ok {n : Nat} (h : Fl.few n = 0) : 1 ≤ n ∧ n ≤ 40 := by
 unfold Fl.few at h
 split at h
 · cases h
 · omega
theorem Fl.can_at {fs : List Fn.F} {k : Nat} {f : Fn.F} (h : Fl.few fs.length = 0) (hk : k < fs.length) (e : fs.getD k .zero = f) (h0 : Fl.canF (fs.take k) = 0) (h1 : f.can ≠ 0) : Fl.can fs = f.can := by
 have e2 : fs[k] = f := by rw [← e]; simp [List.getD, hk]
 have h2 := Fl.canF_at hk h0 (by rw [e2]; exact h1)
 rw [e2] at h2
 have := Fl.few_ok h
 unfold Fl.can
 rw [if_neg (by omega), h2, if_pos h1]
theorem Fl.can_step {fs : List Fn.F} {k : Nat} {f : Fn.F} (hk : k < fs.length) (e : fs.getD k .zero = f) (h0 : Fl.canF (fs.take k) = 0) (h1 : f.can = 0) : Fl.canF (fs.take (k + 1)) = 0 := by
 have e2 : fs[k] = f := by rw [← e]; simp [List.getD, hk]
 exact Fl.canF_next hk h0 (by rw [e2]; exact h1)
theorem Fl.can_names {fs : List Fn.F} (h : Fl.few fs.length = 0) (h0 : Fl.canF fs = 0) : Fl.can fs = Fl.odd (Nm.unlike (Fl.names fs)) := by
 have := Fl.few_ok h
 unfold Fl.can Fl.odd
 rw [if_neg (by omega), if_neg (by omega)]
theorem FnsAt.wf {w : World} {B n : Nat} {a : Option Addr} {vs : List FnV} {fs : List Fn.F} (h : FnsAt w B a n vs fs) (hw : ∀ f ∈ fs, f.Wf) {k : Nat} (hk : k < n) {f : Fn.F} (e : fs.getD k .zero = f) : f.Wf := by
 have h1 : k < fs.length := by rw [h.lenf]; exact hk
 exact hw f (by rw [← e]; simp [List.getD, h1])
set_option maxHeartbeats 4000000 in
theorem flcheck_any (a : Option Addr) (n c : Nat) (vs : List FnV) (fs : List Fn.F) (w : World) (h : FnsAt w w.heap.size a n vs fs) (hw : ∀ f ∈ fs, f.Wf) (hT : Tab w) (hg : 5 < w.heap.size) :
   Calls Tryz.prog 54 #[.agg #[.slice a n c]] w (MuP (Fl.can fs) w) := by
 have b0 := (Below.refl w.heap.size w).alloc (Nat.le_refl _) (.cells #[.slice a n c] 42)
 have H := Lib.hid (h.on b0)
 have B0 := Lib.hid b0
 have HC := Lib.hid (cell_of_row (w.alloc (.cells #[.slice a n c] 42)) _ 0 _ _ _ (heap_alloc_new w (.cells #[.slice a n c] 42)))
 have HZ := Lib.hid (show w.heap.size < (w.alloc (.cells #[.slice a n c] 42)).heap.size by simp)
 have HT := Lib.hid (And.intro (tab_below hT b0 hg) (Nat.lt_of_lt_of_le hg b0.size))
 have HW := Lib.hid hw
 have HLf := Lib.hid h.lenf
 clear h b0 hT hg hw
 have HMn := flmany_any n (w.alloc (.cells #[.slice a n c] 42))
 obtain ⟨c0, hc0⟩ : ∃ c0, Fl.few n = c0 := ⟨_, rfl⟩
 rw [hc0] at HMn
 have hcell := HC.out
 by_cases hf0 : c0 = 0
 rotate_left
 · have HMu := flmust_bad c0 hf0 (w.alloc (.cells #[.slice a n c] 42))
   have HE : Hid (Fl.can fs = c0) := Lib.hid (by rw [Fl.can_few (by rw [HLf.out, hc0]; exact hf0), HLf.out, hc0])
   have HMb := Lib.hid (Mu.bad hf0)
   clear hc0 hf0
   go_enter Tryz.func54, Tryz.ntmps54
   go_wp2_with (first
     | (go_at_call 72; refine HMn.mono ?_; rintro _ w2 ⟨rfl, he⟩; obtain rfl := he.symm; clear HMn)
     | (go_at_call 71; refine HMu.mono ?_; rintro _ w2 ⟨rfl, he⟩; obtain rfl := he.symm; clear HMu))
   exact ⟨rfl, by rw [HE.out]; exact HMb.out.symm, B0.out⟩
 · have HMu := flmust_ok c0 hf0 (w.alloc (.cells #[.slice a n c] 42))
   have HF0 : Hid (Fl.few fs.length = 0) := Lib.hid (by rw [HLf.out, hc0, hf0])
   have hn40 : n ≤ 40 := by have := (Fl.few_ok HF0.out).2; have := HLf.out; omega
   clear hc0 hf0
   go_enter Tryz.func54, Tryz.ntmps54
   go_wp2_with (first
     | (go_at_call 72; refine HMn.mono ?_; rintro _ w2 ⟨rfl, he⟩; obtain rfl := he.symm; clear HMn)
     | (go_at_call 71; refine HMu.mono ?_; rintro _ w2 ⟨rfl, he⟩; obtain rfl := he.symm; clear HMu))
   generalize hw1 : w.alloc (.cells #[.slice a n c] 42) = w1 at *
   clear hw1 hcell
   go_loopw [3, 12] (fun _ i wr => ∃ k : Nat, k ≤ n ∧ i = .int .i64 (k : Int) ∧ Fl.canF (fs.take k) = 0 ∧ Below w1.heap.size w1 wr) (fun _ i _ => n - (intOf i).toNat)
   case atStart => exact ⟨0, Nat.zero_le _, rfl, rfl, Below.refl _ _⟩
   case round =>
     obtain ⟨k, hk, rfl, h0, hB⟩ := hrel
     have HB := Lib.hid hB
     have H0 := Lib.hid h0
     clear hB h0
     by_cases hlt : k < n
     · obtain ⟨b, off, v, f, rfl, hltb, hv, hf, hok, hlen, hkl, d0, d1, d2, d3, d4, d5, d6, d7, d8, d9, d10⟩ := fns_cell (H.out.on HB.out) hlt
       have hb1 := (Below.refl wr.heap.size wr).alloc (Nat.le_refl _) (.cells v.cells 35)
       have hb2 := HB.out.trans (hb1.mono HB.out.size)
       have HCn := fncan_any v f (wr.alloc (.cells v.cells 35)) (hok.on hb1) hlen (H.out.wf HW.out hlt hf) (tab_below HT.out.1 hb2 HT.out.2) (Nat.lt_of_lt_of_le HT.out.2 hb2.size)
       have HB2 := Lib.hid hb2
       obtain ⟨cf, hcf⟩ : ∃ cf, f.can = cf := ⟨_, rfl⟩
       rw [hcf] at HCn
       unfold ErrP at HCn
       have HMk := Lib.hid (fun h W => flmust_ok cf h W)
       have HMb := Lib.hid (fun h W => flmust_bad cf h W)
       clear hok hlen hb1 hb2
       by_cases hz : cf = 0
       · have HS := Lib.hid (Fl.can_step hkl hf H0.out (by rw [hcf]; exact hz))
         have HM := Lib.hid (HMk.out hz)
         clear hcf hkl hf hv HMk HMb hz
         go_wp2_with (first
           | (go_at_call 73; refine HCn.mono ?_; rintro _ w2 ⟨rfl, hb3⟩; have HB3 := Lib.hid (HB2.out.trans (hb3.mono HB2.out.size)); clear HCn hb3 d0 d1 d2 d3 d4 d5 d6 d7 d8 d9 d10)
           | (go_at_call 71; refine (HM.out _).mono ?_; rintro _ w3 ⟨rfl, he⟩; obtain rfl := he.symm))
         go_roundw
         case rel => exact ⟨k + 1, by omega, by go_num, HS.out, HB3.out⟩
         case measure => simp [intOf]; omega
       · have HE := Lib.hid ((Fl.can_at HF0.out hkl hf H0.out (by rw [hcf]; exact hz)).trans hcf)
         have HM := Lib.hid (HMb.out hz)
         have HMu := Lib.hid (Mu.bad hz)
         clear hcf hkl hf hv HMk HMb hz
         go_wp2_with (first
           | (go_at_call 73; refine HCn.mono ?_; rintro _ w2 ⟨rfl, hb3⟩; have HB3 := Lib.hid (HB2.out.trans (hb3.mono HB2.out.size)); clear HCn hb3 d0 d1 d2 d3 d4 d5 d6 d7 d8 d9 d10)
           | (go_at_call 71; refine (HM.out _).mono ?_; rintro _ w3 ⟨rfl, he⟩; obtain rfl := he.symm))
         exact ⟨rfl, by rw [HE.out]; exact HMu.out.symm, B0.out.trans (HB3.out.mono B0.out.size)⟩
     · have hcell : wr.cell? ⟨w.heap.size, 0, none⟩ = some (.slice a n c) := (HB.out.cell (p := ⟨w.heap.size, 0, none⟩) HZ.out).trans HC.out
       have HN := flunlike_any a n c vs fs wr (H.out.on HB.out) (by have := Fl.few_ok HF0.out; have := HLf.out; omega)
       have HE := Lib.hid (Fl.can_names HF0.out (by have := H0.out; rwa [List.take_of_length_le (by have := HLf.out; omega)] at this))
       obtain ⟨cf, hcf⟩ : ∃ cf, Fl.odd (Nm.unlike (Fl.names fs)) = cf := ⟨_, rfl⟩
       rw [hcf] at HN HE
       unfold ErrP at HN
       clear hcf
       by_cases hz : cf = 0
       · have HM := Lib.hid (flmust_ok cf hz)
         have HMu := Lib.hid (show Mu cf = .returned (.tuple #[]) from by rw [hz, Mu.ok])
         clear hz
         go_wp2_with (first
           | (go_at_call 74; refine HN.mono ?_; rintro _ w2 ⟨rfl, hb3⟩; have HB3 := Lib.hid (HB.out.trans (hb3.mono HB.out.size)); clear HN hb3 hcell)
           | (go_at_call 71; refine (HM.out _).mono ?_; rintro _ w3 ⟨rfl, he⟩; obtain rfl := he.symm))
         go_end0
         exact ⟨by rw [HE.out]; exact HMu.out.symm, B0.out.trans (HB3.out.mono B0.out.size)⟩
       · have HM := Lib.hid (flmust_bad cf hz)
         have HMu := Lib.hid (Mu.bad hz)
         clear hz
         go_wp2_with (first
           | (go_at_call 74; refine HN.mono ?_; rintro _ w2 ⟨rfl, hb3⟩; have HB3 := Lib.hid (HB.out.trans (hb3.mono HB.out.size)); clear HN hb3 hcell)
           | (go_at_call 71; refine (HM.out _).mono ?_; rintro _ w3 ⟨rfl, he⟩; obtain rfl := he.symm))
         exact ⟨rfl, by rw [HE.out]; exact HMu.out.symm, B0.out.trans (HB3.out.mono B0.out.size)⟩
theorem set_cell {w : World} {p : Addr} {x : Value} (y : Value) (h : w.cell? p = some x) : (w.setCell p y).cell? p = some y := by
 simp [go_sem, h]
theorem own_cell {w w' : World} {x : Value} {t : TypeId} (h : Below (w.alloc (.cells #[x] t)).heap.size (w.alloc (.cells #[x] t)) w') : w'.cell? ⟨w.heap.size, 0, none⟩ = some x ∧ w'.frozen? ⟨w.heap.size, 0, none⟩ = false := by
 have hh := heap_alloc_new w (.cells #[x] t)
 have hl : w.heap.size < (w.alloc (.cells #[x] t)).heap.size := by simp
 refine ⟨(h.cell (p := ⟨w.heap.size, 0, none⟩) hl).trans (cell_of_row _ _ 0 _ _ _ hh), (h.frozen (p := ⟨w.heap.size, 0, none⟩) hl).trans ?_⟩
 unfold World.frozen?
 rw [hh]
 rfl
set_option maxHeartbeats 4000000 in
theorem flcan_any (a : Option Addr) (n c : Nat) (vs : List FnV) (fs : List Fn.F) (w : World) (h : FnsAt w w.heap.size a n vs fs) (hw : ∀ f ∈ fs, f.Wf) (hT : Tab w) (hg : 5 < w.heap.size) :
   Calls Tryz.prog 31 #[.agg #[.slice a n c]] w (ErrP (Fl.can fs) w) := by
 have b0 := (Below.refl w.heap.size w).alloc (Nat.le_refl _) (.cells #[.slice a n c] 42)
 have b1 := b0.alloc (by simp) (.cells #[.int .i64 0] 26)
 have hCh := flcheck_any a n c vs fs _ (h.on b1) hw (tab_below hT b1 hg) (Nat.lt_of_lt_of_le hg b1.size)
 have hmf : ∀ (fn : Fn) (first cap : Array Value) (w : World), (Instr.makeFunc fn first cap).run Tryz.prog w = .ok (.func fn first cap) w := fun _ _ _ _ => rfl
 unfold MuP at hCh
 obtain ⟨cf, hcf⟩ : ∃ cf, Fl.can fs = cf := ⟨_, rfl⟩
 rw [hcf] at hCh ⊢
 have B1 := Lib.hid b1
 have HO := Lib.hid (fun (W : World) (hb : Below ((w.alloc (.cells #[.slice a n c] 42)).alloc (.cells #[.int .i64 0] 26)).heap.size ((w.alloc (.cells #[.slice a n c] 42)).alloc (.cells #[.int .i64 0] 26)) W) => show W.cell? ⟨w.heap.size + 1, 0, none⟩ = some (.int .i64 0) ∧ W.frozen? ⟨w.heap.size + 1, 0, none⟩ = false from by
   have := own_cell hb
   rwa [World.size_alloc] at this)
 clear b0 b1 h hw hT hg hcf
 by_cases hz : cf = 0
 · subst hz
   rw [Mu.ok] at hCh
   go_enter_defers Tryz.func31, Tryz.ntmps31
   go_wp2_with (go_at_call 54; refine hCh.mono ?_; rintro _ w2 ⟨rfl, hb3⟩; have HB3 := Lib.hid hb3; clear hCh hb3; have k0 := (HO.out w2 HB3.out).1; have k1 := (HO.out w2 HB3.out).2)
   refine leaves_cons (f := 52) (args := #[.pointer (some ⟨w.heap.size + 1, 0, none⟩)]) (by simp) (by simp [go_sem]) ?_
   refine (catch_idle ⟨w.heap.size + 1, 0, none⟩ (.int .i64 0) _ ?_ ?_).mono ?_
   · simp [go_sem, k0]
   · simp [go_sem, k1]
   rintro e u' w'' ⟨rfl, rfl, rfl⟩
   simp [Leaves, settle, results, Tryz.results31, go_sem]
   rw [set_cell _ (set_cell _ k0)]
   exact ⟨_, rfl, rfl, ((B1.out.trans (HB3.out.mono B1.out.size)).setCell (Nat.le_succ _) _).setCell (Nat.le_succ _) _⟩
 · rw [Mu.bad hz] at hCh
   go_enter_defers Tryz.func31, Tryz.ntmps31
   go_wp2_with (go_at_call 54; refine hCh.mono ?_; rintro _ w2 ⟨rfl, hb3⟩; have HB3 := Lib.hid hb3; clear hCh hb3; have k0 := (HO.out w2 HB3.out).1; have k1 := (HO.out w2 HB3.out).2)
   refine leaves_cons (f := 52) (args := #[.pointer (some ⟨w.heap.size + 1, 0, none⟩)]) (by simp) (by simp [go_sem]) ?_
   refine (catch_bad ⟨w.heap.size + 1, 0, none⟩ (.int .i64 0) (cf : Int) [] _ k0 k1).mono ?_
   rintro e u' w'' ⟨rfl, rfl, rfl⟩
   simp [Leaves, settle, results, Tryz.results31, go_sem]
   rw [set_cell _ k0]
   exact ⟨_, rfl, rfl, (B1.out.trans (HB3.out.mono B1.out.size)).setCell (Nat.le_succ _) _⟩
end Go.Proofs.YtfopelegobhegaaGreatDoor
