/-
 Whether a program can be laid, or what is wrong first: what ends all tells it. Conditions: the functions can be read; the library's table is laid.
-/
import Derived.Test.YtdopheoedpldiaaGreatDoorFlN
import Derived.Test.YtdopheoedpldiaaGreatDoorCanQ
import Derived.Test.YtdopheoedpldiaaGreatDoorPutX
import Derived.Lib.SlBytesConst
set_option maxRecDepth 100000
namespace Go.Proofs.YtdopheoedpldiaaGreatDoor
open Go.RowKit
def MuP (n : Nat) (w : World) (e : Ending) (w' : World) : Prop := e = Mu n ∧ Below w.heap.size w w'
theorem Fl.can_few {fs : List Fn.F} (h : Fl.few fs.length ≠ 0) : Fl.can fs = Fl.few fs.length := by
 unfold Fl.can
 unfold Fl.few at h ⊢
 split at h
 · rename_i h1
   rw [if_pos h1, if_pos h1]
 · exact absurd rfl h
theorem Fl.few_ok {n : Nat} (h : Fl.few n = 0) : 1 ≤ n ∧ n ≤ 40 := by
 unfold Fl.few at h
 split at h
 · cases h
 · omega
theorem Fl.can_at {fs : List Fn.F} {k : Nat} {f : Fn.F} (h : Fl.few fs.length = 0) (hk : k < fs.length) (e : fs.getD k .zero = f) (h0 : Fl.canF (fs.take k) = 0) (h1 : f.can ≠ 0) : Fl.can fs = f.can := by
 have e2 : fs[k] = f := by rw [← e]; simp [List.getD, hk]
 have h2 := Fl.canF_at hk h0 (by rw [e2]; exact h1)
 rw [e2] at h2
 have := Fl.few_ok h
 unfold Fl.can
 rw [if_neg (by omega), h2, if_pos h1]
theorem Fl.can_step {fs : List Fn.F} {k : Nat} {f : Fn.F} (hk : k < fs.length) (e : fs.getD k .zero = f) (h0 : Fl.canF (fs.take k) = 0) (h1 : f.can = 0) : Fl.canF (fs.take (k + 1)) = 0 := by
 have e2 : fs[k] = f := by rw [← e]; simp [List.getD, hk]
 exact Fl.canF_next hk h0 (by rw [e2]; exact h1)
theorem Fl.can_names {fs : List Fn.F} (h : Fl.few fs.length = 0) (h0 : Fl.canF fs = 0) : Fl.can fs = Fl.odd (Nm.unlike (Fl.names fs)) := by
 have := Fl.few_ok h
 unfold Fl.can Fl.odd
 rw [if_neg (by omega), if_neg (by omega)]
theorem FnsAt.wf {w : World} {B n : Nat} {a : Option Addr} {vs : List FnV} {fs : List Fn.F} (h : FnsAt w B a n vs fs) (hw : ∀ f ∈ fs, f.Wf) {k : Nat} (hk : k < n) {f : Fn.F} (e : fs.getD k .zero = f) : f.Wf := by
 have h1 : k < fs.length := by rw [h.lenf]; exact hk
 exact hw f (by rw [← e]; simp [List.getD, h1])
set_option maxHeartbeats 4000000 in
theorem flcheck_any (a : Option Addr) (n c : Nat) (vs : List FnV) (fs : List Fn.F) (w : World) (h : FnsAt w w.heap.size a n vs fs) (hw : ∀ f ∈ fs, f.Wf) (hT : Tab w) (hg : 0 < w.heap.size) :
   Calls Tryz.prog 26 #[.agg #[.slice a n c]] w (MuP (Fl.can fs) w) := by
 have b0 := (Below.refl w.heap.size w).alloc (Nat.le_refl _) (.cells #[.slice a n c] 24)
 have H := Lib.hid (h.on b0)
 have B0 := Lib.hid b0
 have HC := Lib.hid (cell_of_row (w.alloc (.cells #[.slice a n c] 24)) _ 0 _ _ _ (heap_alloc_new w (.cells #[.slice a n c] 24)))
 have HZ := Lib.hid (show w.heap.size < (w.alloc (.cells #[.slice a n c] 24)).heap.size by simp)
 have HT := Lib.hid (And.intro (tab_below hT b0 hg) (Nat.lt_of_lt_of_le hg b0.size))
 have HW := Lib.hid hw
 have HLf := Lib.hid h.lenf
 clear h b0 hT hg hw
 have HMn := flmany_any n (w.alloc (.cells #[.slice a n c] 24))
 obtain ⟨c0, hc0⟩ : ∃ c0, Fl.few n = c0 := ⟨_, rfl⟩
 rw [hc0] at HMn
 have hcell := HC.out
 by_cases hf0 : c0 = 0
 rotate_left
 · have HMu := flmust_bad c0 hf0 (w.alloc (.cells #[.slice a n c] 24))
   have HE : Hid (Fl.can fs = c0) := Lib.hid (by rw [Fl.can_few (by rw [HLf.out, hc0]; exact hf0), HLf.out, hc0])
   have HMb := Lib.hid (Mu.bad hf0)
   clear hc0 hf0
   go_enter Tryz.func26, Tryz.ntmps26
   go_wp2_with (first
     | (go_at_call 58; refine HMn.mono ?_; rintro _ w2 ⟨rfl, he⟩; obtain rfl := he.symm; clear HMn)
     | (go_at_call 57; refine HMu.mono ?_; rintro _ w2 ⟨rfl, he⟩; obtain rfl := he.symm; clear HMu))
   exact ⟨rfl, by rw [HE.out]; exact HMb.out.symm, B0.out⟩
 · have HMu := flmust_ok c0 hf0 (w.alloc (.cells #[.slice a n c] 24))
   have HF0 : Hid (Fl.few fs.length = 0) := Lib.hid (by rw [HLf.out, hc0, hf0])
   have hn40 : n ≤ 40 := by have := (Fl.few_ok HF0.out).2; have := HLf.out; omega
   clear hc0 hf0
   go_enter Tryz.func26, Tryz.ntmps26
   go_wp2_with (first
     | (go_at_call 58; refine HMn.mono ?_; rintro _ w2 ⟨rfl, he⟩; obtain rfl := he.symm; clear HMn)
     | (go_at_call 57; refine HMu.mono ?_; rintro _ w2 ⟨rfl, he⟩; obtain rfl := he.symm; clear HMu))
   generalize hw1 : w.alloc (.cells #[.slice a n c] 24) = w1 at *
   clear hw1 hcell
   go_loopw [3, 12] (fun _ i wr => ∃ k : Nat, k ≤ n ∧ i = .int .i64 (k : Int) ∧ Fl.canF (fs.take k) = 0 ∧ Below w1.heap.size w1 wr) (fun _ i _ => n - (intOf i).toNat)
   case atStart => exact ⟨0, Nat.zero_le _, rfl, rfl, Below.refl _ _⟩
   case round =>
     obtain ⟨k, hk, rfl, h0, hB⟩ := hrel
     have HB := Lib.hid hB
     have H0 := Lib.hid h0
     clear hB h0
     by_cases hlt : k < n
     · obtain ⟨b, off, v, f, rfl, hltb, hv, hf, hok, hlen, hkl, d0, d1, d2, d3, d4, d5, d6, d7, d8, d9, d10⟩ := fns_cell (H.out.on HB.out) hlt
       have hb1 := (Below.refl wr.heap.size wr).alloc (Nat.le_refl _) (.cells v.cells 43)
       have hb2 := HB.out.trans (hb1.mono HB.out.size)
       have HCn := fncan_any v f (wr.alloc (.cells v.cells 43)) (hok.on hb1) hlen (H.out.wf HW.out hlt hf) (tab_below HT.out.1 hb2 HT.out.2) (Nat.lt_of_lt_of_le HT.out.2 hb2.size)
       have HB2 := Lib.hid hb2
       obtain ⟨cf, hcf⟩ : ∃ cf, f.can = cf := ⟨_, rfl⟩
       rw [hcf] at HCn
       unfold ErrP at HCn
       have HMk := Lib.hid (fun h W => flmust_ok cf h W)
       have HMb := Lib.hid (fun h W => flmust_bad cf h W)
       clear hok hlen hb1 hb2
       by_cases hz : cf = 0
       · have HS := Lib.hid (Fl.can_step hkl hf H0.out (by rw [hcf]; exact hz))
         have HM := Lib.hid (HMk.out hz)
         clear hcf hkl hf hv HMk HMb hz
         go_wp2_with (first
           | (go_at_call 42; refine HCn.mono ?_; rintro _ w2 ⟨rfl, hb3⟩; have HB3 := Lib.hid (HB2.out.trans (hb3.mono HB2.out.size)); clear HCn hb3 d0 d1 d2 d3 d4 d5 d6 d7 d8 d9 d10)
           | (go_at_call 57; refine (HM.out _).mono ?_; rintro _ w3 ⟨rfl, he⟩; obtain rfl := he.symm))
         go_roundw
         case rel => exact ⟨k + 1, by omega, by go_num, HS.out, HB3.out⟩
         case measure => simp [intOf]; omega
       · have HE := Lib.hid ((Fl.can_at HF0.out hkl hf H0.out (by rw [hcf]; exact hz)).trans hcf)
         have HM := Lib.hid (HMb.out hz)
         have HMu := Lib.hid (Mu.bad hz)
         clear hcf hkl hf hv HMk HMb hz
         go_wp2_with (first
           | (go_at_call 42; refine HCn.mono ?_; rintro _ w2 ⟨rfl, hb3⟩; have HB3 := Lib.hid (HB2.out.trans (hb3.mono HB2.out.size)); clear HCn hb3 d0 d1 d2 d3 d4 d5 d6 d7 d8 d9 d10)
           | (go_at_call 57; refine (HM.out _).mono ?_; rintro _ w3 ⟨rfl, he⟩; obtain rfl := he.symm))
         exact ⟨rfl, by rw [HE.out]; exact HMu.out.symm, B0.out.trans (HB3.out.mono B0.out.size)⟩
     · have hcell : wr.cell? ⟨w.heap.size, 0, none⟩ = some (.slice a n c) := (HB.out.cell (p := ⟨w.heap.size, 0, none⟩) HZ.out).trans HC.out
       have HN := flunlike_any a n c vs fs wr (H.out.on HB.out) (by have := Fl.few_ok HF0.out; have := HLf.out; omega)
       have HE := Lib.hid (Fl.can_names HF0.out (by have := H0.out; rwa [List.take_of_length_le (by have := HLf.out; omega)] at this))
       obtain ⟨cf, hcf⟩ : ∃ cf, Fl.odd (Nm.unlike (Fl.names fs)) = cf := ⟨_, rfl⟩
       rw [hcf] at HN HE
       unfold ErrP at HN
       clear hcf
       by_cases hz : cf = 0
       · have HM := Lib.hid (flmust_ok cf hz)
         have HMu := Lib.hid (show Mu cf = .returned (.tuple #[]) from by rw [hz, Mu.ok])
         clear hz
         go_wp2_with (first
           | (go_at_call 59; refine HN.mono ?_; rintro _ w2 ⟨rfl, hb3⟩; have HB3 := Lib.hid (HB.out.trans (hb3.mono HB.out.size)); clear HN hb3 hcell)
           | (go_at_call 57; refine (HM.out _).mono ?_; rintro _ w3 ⟨rfl, he⟩; obtain rfl := he.symm))
         go_end0
         exact ⟨by rw [HE.out]; exact HMu.out.symm, B0.out.trans (HB3.out.mono B0.out.size)⟩
       · have HM := Lib.hid (flmust_bad cf hz)
         have HMu := Lib.hid (Mu.bad hz)
         clear hz
         go_wp2_with (first
           | (go_at_call 59; refine HN.mono ?_; rintro _ w2 ⟨rfl, hb3⟩; have HB3 := Lib.hid (HB.out.trans (hb3.mono HB.out.size)); clear HN hb3 hcell)
           | (go_at_call 57; refine (HM.out _).mono ?_; rintro _ w3 ⟨rfl, he⟩; obtain rfl := he.symm))
         exact ⟨rfl, by rw [HE.out]; exact HMu.out.symm, B0.out.trans (HB3.out.mono B0.out.size)⟩
theorem set_cell {w : World} {p : Addr} {x : Value} (y : Value) (h : w.cell? p = some x) : (w.setCell p y).cell? p = some y := by
 simp [go_sem, h]
theorem own_cell {w w' : World} {x : Value} {t : TypeId} (h : Below (w.alloc (.cells #[x] t)).heap.size (w.alloc (.cells #[x] t)) w') : w'.cell? ⟨w.heap.size, 0, none⟩ = some x ∧ w'.frozen? ⟨w.heap.size, 0, none⟩ = false := by
 have hh := heap_alloc_new w (.cells #[x] t)
 have hl : w.heap.size < (w.alloc (.cells #[x] t)).heap.size := by simp
 refine ⟨(h.cell (p := ⟨w.heap.size, 0, none⟩) hl).trans (cell_of_row _ _ 0 _ _ _ hh), (h.frozen (p := ⟨w.heap.size, 0, none⟩) hl).trans ?_⟩
 unfold World.frozen?
 rw [hh]
 rfl
set_option maxHeartbeats 4000000 in
theorem flcan_any (a : Option Addr) (n c : Nat) (vs : List FnV) (fs : List Fn.F) (w : World) (h : FnsAt w w.heap.size a n vs fs) (hw : ∀ f ∈ fs, f.Wf) (hT : Tab w) (hg : 0 < w.heap.size) :
   Calls Tryz.prog 11 #[.agg #[.slice a n c]] w (ErrP (Fl.can fs) w) := by
 have b0 := (Below.refl w.heap.size w).alloc (Nat.le_refl _) (.cells #[.slice a n c] 24)
 have b1 := b0.alloc (by simp) (.cells #[.int .i64 0] 28)
 have hCh := flcheck_any a n c vs fs _ (h.on b1) hw (tab_below hT b1 hg) (Nat.lt_of_lt_of_le hg b1.size)
 have hmf : ∀ (fn : Fn) (first cap : Array Value) (w : World), (Instr.makeFunc fn first cap).run Tryz.prog w = .ok (.func fn first cap) w := fun _ _ _ _ => rfl
 unfold MuP at hCh
 obtain ⟨cf, hcf⟩ : ∃ cf, Fl.can fs = cf := ⟨_, rfl⟩
 rw [hcf] at hCh ⊢
 have B1 := Lib.hid b1
 have HO := Lib.hid (fun (W : World) (hb : Below ((w.alloc (.cells #[.slice a n c] 24)).alloc (.cells #[.int .i64 0] 28)).heap.size ((w.alloc (.cells #[.slice a n c] 24)).alloc (.cells #[.int .i64 0] 28)) W) => show W.cell? ⟨w.heap.size + 1, 0, none⟩ = some (.int .i64 0) ∧ W.frozen? ⟨w.heap.size + 1, 0, none⟩ = false from by
   have := own_cell hb
   rwa [World.size_alloc] at this)
 clear b0 b1 h hw hT hg hcf
 by_cases hz : cf = 0
 · subst hz
   rw [Mu.ok] at hCh
   go_enter_defers Tryz.func11, Tryz.ntmps11
   go_wp2_with (go_at_call 26; refine hCh.mono ?_; rintro _ w2 ⟨rfl, hb3⟩; have HB3 := Lib.hid hb3; clear hCh hb3; have k0 := (HO.out w2 HB3.out).1; have k1 := (HO.out w2 HB3.out).2)
   refine leaves_cons (f := 24) (args := #[.pointer (some ⟨w.heap.size + 1, 0, none⟩)]) (by simp) (by simp [go_sem]) ?_
   refine (catch_idle ⟨w.heap.size + 1, 0, none⟩ (.int .i64 0) _ ?_ ?_).mono ?_
   · simp [go_sem, k0]
   · simp [go_sem, k1]
   rintro e u' w'' ⟨rfl, rfl, rfl⟩
   simp [Leaves, settle, results, Tryz.results11, go_sem]
   rw [set_cell _ (set_cell _ k0)]
   exact ⟨_, rfl, rfl, ((B1.out.trans (HB3.out.mono B1.out.size)).setCell (Nat.le_succ _) _).setCell (Nat.le_succ _) _⟩
 · rw [Mu.bad hz] at hCh
   go_enter_defers Tryz.func11, Tryz.ntmps11
   go_wp2_with (go_at_call 26; refine hCh.mono ?_; rintro _ w2 ⟨rfl, hb3⟩; have HB3 := Lib.hid hb3; clear hCh hb3; have k0 := (HO.out w2 HB3.out).1; have k1 := (HO.out w2 HB3.out).2)
   refine leaves_cons (f := 24) (args := #[.pointer (some ⟨w.heap.size + 1, 0, none⟩)]) (by simp) (by simp [go_sem]) ?_
   refine (catch_bad ⟨w.heap.size + 1, 0, none⟩ (.int .i64 0) (cf : Int) [] _ k0 k1).mono ?_
   rintro e u' w'' ⟨rfl, rfl, rfl⟩
   simp [Leaves, settle, results, Tryz.results11, go_sem]
   rw [set_cell _ k0]
   exact ⟨_, rfl, rfl, (B1.out.trans (HB3.out.mono B1.out.size)).setCell (Nat.le_succ _) _⟩
set_option maxHeartbeats 4000000 in
theorem rflcan_any (a : Option Addr) (n c : Nat) (vs : List FnV) (fs : List Fn.F) (w : World) (h : FnsAt w w.heap.size a n vs fs) (hw : ∀ f ∈ fs, f.Wf) (hs : ∀ k, k < n → (vs.getD k .zero).Few) :
   Calls Tryz.prog 12 #[.agg #[.slice a n c]] w (ErrP (Fl.can fs) w) := by
 have b0 := (Below.refl w.heap.size w).alloc (Nat.le_refl _) (.cells #[.slice a n c] 24)
 have H := Lib.hid (h.on b0)
 have B0 := Lib.hid b0
 have hc0 := cell_of_row (w.alloc (.cells #[.slice a n c] 24)) _ 0 _ _ _ (heap_alloc_new w (.cells #[.slice a n c] 24))
 have HC := Lib.hid hc0
 have HZ := Lib.hid (show w.heap.size < (w.alloc (.cells #[.slice a n c] 24)).heap.size by simp)
 have HW := Lib.hid hw
 have HS := Lib.hid hs
 have HLf := Lib.hid h.lenf
 clear h b0 hw hs
 by_cases h1 : n < 1
 · have d1 : decide ((n : Int) < 1) = true := decide_eq_true (by omega)
   have HE : Hid (Fl.can fs = 6) := Lib.hid (if_pos (.inl (by rw [HLf.out]; exact h1)))
   clear h1
   go_enter Tryz.func12, Tryz.ntmps12
   go_wp2
   go_ret
   rw [HE.out]
   exact ⟨rfl, B0.out⟩
 have d1 : decide ((n : Int) < 1) = false := decide_eq_false (by omega)
 by_cases h2 : 40 < n
 · have d2 : decide ((40 : Int) < (n : Int)) = true := decide_eq_true (by omega)
   have HE : Hid (Fl.can fs = 6) := Lib.hid (if_pos (.inr (by rw [HLf.out]; exact h2)))
   clear h1 h2
   go_enter Tryz.func12, Tryz.ntmps12
   go_wp2
   go_ret
   rw [HE.out]
   exact ⟨rfl, B0.out⟩
 have d2 : decide ((40 : Int) < (n : Int)) = false := decide_eq_false (by omega)
 have HF0 : Hid (Fl.few fs.length = 0) := Lib.hid (by rw [HLf.out]; exact if_neg (by omega))
 have hn40 : n ≤ 40 := by omega
 clear h1 h2
 go_enter Tryz.func12, Tryz.ntmps12
 go_wp2
 generalize hw1 : w.alloc (.cells #[.slice a n c] 24) = w1 at *
 clear hw1 d1 d2 hc0
 go_loopw [3, 4] (fun i _ wr => ∃ k : Nat, k ≤ n ∧ i = .int .i64 (k : Int) ∧ Fl.canF (fs.take k) = 0 ∧ Below w1.heap.size w1 wr) (fun i _ _ => n - (intOf i).toNat)
 case atStart => exact ⟨0, Nat.zero_le _, rfl, rfl, Below.refl _ _⟩
 case round =>
   obtain ⟨k, hk, rfl, h0, hB⟩ := hrel
   have HB := Lib.hid hB
   have H0 := Lib.hid h0
   have hcell : wr.cell? ⟨w.heap.size, 0, none⟩ = some (.slice a n c) := (HB.out.cell (p := ⟨w.heap.size, 0, none⟩) HZ.out).trans HC.out
   clear hB h0
   by_cases hlt : k < n
   · obtain ⟨b, off, v, f, rfl, hltb, hv, hf, hok, hlen, hkl, d0, d1, d2, d3, d4, d5, d6, d7, d8, d9, d10⟩ := fns_cell (H.out.on HB.out) hlt
     have HCn := rfncan_any v f wr hok hlen (H.out.wf HW.out hlt hf) (by rw [← hv]; exact HS.out k hlt)
     obtain ⟨cf, hcf⟩ : ∃ cf, f.can = cf := ⟨_, rfl⟩
     rw [hcf] at HCn
     unfold ErrP at HCn
     clear hok hlen
     by_cases hz : cf = 0
     · have HN := Lib.hid (Fl.can_step hkl hf H0.out (by rw [hcf]; exact hz))
       have hd : ((cf : Int) != 0) = false := by rw [hz]; rfl
       clear hcf hkl hf hv hz
       go_wp2_with (go_at_call 27; refine HCn.mono ?_; rintro _ w2 ⟨rfl, hb3⟩; have HB3 := Lib.hid (HB.out.trans (hb3.mono HB.out.size)); clear HCn hb3 d0 d1 d2 d3 d4 d5 d6 d7 d8 d9 d10 hcell)
       go_roundw
       case rel => exact ⟨k + 1, by omega, by go_num, HN.out, HB3.out⟩
       case measure => simp [intOf]; omega
     · have HE := Lib.hid ((Fl.can_at HF0.out hkl hf H0.out (by rw [hcf]; exact hz)).trans hcf)
       have hd : ((cf : Int) != 0) = true := bne_iff_ne.2 (by omega)
       clear hcf hkl hf hv hz
       go_wp2_with (go_at_call 27; refine HCn.mono ?_; rintro _ w2 ⟨rfl, hb3⟩; have HB3 := Lib.hid (HB.out.trans (hb3.mono HB.out.size)); clear HCn hb3 d0 d1 d2 d3 d4 d5 d6 d7 d8 d9 d10 hcell)
       go_ret
       rw [HE.out]
       exact ⟨rfl, B0.out.trans (HB3.out.mono B0.out.size)⟩
   · have HN := rflnames_any a n c vs fs wr (H.out.on HB.out) (by omega)
     have HE := Lib.hid (Fl.can_names HF0.out (by have := H0.out; rwa [List.take_of_length_le (by have := HLf.out; omega)] at this))
     have HU := Lib.hid (fun a2 n2 c2 zs W (hN : NamesAt W W.heap.size a2 n2 zs) => runlike_any a2 n2 c2 _ zs W hN)
     have HNl := Lib.hid (names_len fs)
     obtain ⟨l, hl⟩ : ∃ l, Fl.names fs = l := ⟨_, rfl⟩
     rw [hl] at HN HE HNl
     unfold NewNames at HN
     obtain ⟨bu, hbu⟩ : ∃ bu, Nm.unlike l = bu := ⟨_, rfl⟩
     rw [hbu] at HE
     have HBu := Lib.hid hbu
     clear hl hbu
     cases bu with
     | true =>
       go_wp2_with (first
         | (go_at_call 29; refine HN.mono ?_; rintro _ w2 ⟨a2, c2, rfl, hN, hb3⟩; have HB3 := Lib.hid (HB.out.trans (hb3.mono HB.out.size)); have HR := Lib.hid (HU.out a2 _ c2 l w2 hN (by rw [HNl.out, HLf.out]; omega)); clear HN hb3 hN hcell)
         | (go_at_call 28; refine HR.out.mono ?_; rintro _ w3 ⟨rfl, he⟩; obtain rfl := he.symm; rw [HBu.out]; clear HR))
       go_ret
       rw [HE.out, show Fl.odd true = 0 from rfl]
       exact ⟨rfl, B0.out.trans (HB3.out.mono B0.out.size)⟩
     | false =>
       go_wp2_with (first
         | (go_at_call 29; refine HN.mono ?_; rintro _ w2 ⟨a2, c2, rfl, hN, hb3⟩; have HB3 := Lib.hid (HB.out.trans (hb3.mono HB.out.size)); have HR := Lib.hid (HU.out a2 _ c2 l w2 hN (by rw [HNl.out, HLf.out]; omega)); clear HN hb3 hN hcell)
         | (go_at_call 28; refine HR.out.mono ?_; rintro _ w3 ⟨rfl, he⟩; obtain rfl := he.symm; rw [HBu.out]; clear HR))
       go_ret
       rw [HE.out, show Fl.odd false = 7 from rfl]
       exact ⟨rfl, B0.out.trans (HB3.out.mono B0.out.size)⟩
end Go.Proofs.YtdopheoedpldiaaGreatDoor
namespace Go.Proofs.YtdopheoedpldiaaGreatDoor
open Go.RowKit
namespace Fl
open _root_.Go.Proofs.YtdopheoedpldiaaGreatDoor.Fn (F)
def upto (fs : List F) (k : Nat) : List Nat := magic ++ (Uv.put fs.length ++ (fs.take k).flatMap F.laid)
theorem upto_zero (fs : List F) : magic ++ Uv.put fs.length = upto fs 0 := by simp [upto]
theorem upto_step {fs : List F} {k : Nat} {f : F} (hk : k < fs.length) (e : fs.getD k .zero = f) : upto fs (k + 1) = upto fs k ++ f.laid := by
 have e2 : fs[k] = f := by rw [← e]; simp [List.getD, hk]
 unfold upto
 rw [List.take_succ_eq_append_getElem hk, List.flatMap_append, e2]
 simp
theorem upto_all (fs : List F) {k : Nat} (hk : fs.length ≤ k) : upto fs k = laid fs := by
 unfold upto laid
 rw [List.take_of_length_le hk]
theorem upto_len {fs : List F} (hc : ∀ f ∈ fs, f.can = 0) (hw : ∀ f ∈ fs, f.Wf) (hn : fs.length ≤ 40) : ∀ k, k ≤ fs.length → (upto fs k).length ≤ 14 + k * 300000
 | 0, _ => by
   rw [← upto_zero, List.length_append]
   have := Uv.put_len_10 (n := fs.length) (by omega)
   unfold magic
   simp
   omega
 | k + 1, hk => by
   have h := upto_len hc hw hn k (by omega)
   have hk' : k < fs.length := by omega
   rw [upto_step hk' (f := fs[k]) (by simp [List.getD, hk']), List.length_append]
   have := Fn.laid_len (hc _ (List.getElem_mem hk')) (hw _ (List.getElem_mem hk'))
   omega
theorem laid_lens {fs : List F} (h : can fs = 0) (hw : ∀ f ∈ fs, f.Wf) : (laid fs).length ≤ 12000014 := by
 obtain ⟨_, h2, h3, _⟩ := can_ok.1 h
 have := upto_len h3 hw h2 fs.length (Nat.le_refl _)
 rw [upto_all fs (Nat.le_refl _)] at this
 omega
theorem laid_bytes (fs : List F) : ∀ c ∈ laid fs, c < 256 := by
 intro c hc
 unfold laid at hc
 rcases List.mem_append.1 hc with hc | hc
 · unfold magic at hc
   simp at hc
   omega
 · rcases List.mem_append.1 hc with hc | hc
   · exact Uv.put_byte _ c hc
   · obtain ⟨f, _, hf⟩ := List.mem_flatMap.1 hc
     exact Fn.laid_byte c hf
end Fl
theorem FnsAt.canF {w : World} {B n : Nat} {a : Option Addr} {vs : List FnV} {fs : List Fn.F} (h : FnsAt w B a n vs fs) (hc : ∀ f ∈ fs, f.can = 0) {k : Nat} (hk : k < n) {f : Fn.F} (e : fs.getD k .zero = f) : f.can = 0 := by
 have h1 : k < fs.length := by rw [h.lenf]; exact hk
 exact hc f (by rw [← e]; simp [List.getD, h1])
def mgW (w : World) : World := w.alloc (.cells #[.int .u8 73, .int .u8 78, .int .u8 76, .int .u8 49] 5 (4, 5))
theorem conv_magic (w : World) : (convert 27 27 (.slice (some ⟨w.heap.size, 0, none⟩) 4 4)).run Tryz.prog (w.alloc (.cells #[.int .u8 73, .int .u8 78, .int .u8 76, .int .u8 49] 5)) = .ok (.slice (some ⟨w.heap.size, 0, none⟩) 4 4) (mgW w) :=
 Lib.run_convert_bytes_const w 27 5 #[.int .u8 73, .int .u8 78, .int .u8 76, .int .u8 49] 4 4 Tryz.underlying27 Tryz.underlying5
theorem mg_below (w : World) : Below w.heap.size w (mgW w) := (Below.refl _ _).alloc (Nat.le_refl _) _
theorem mg_size (w : World) : (mgW w).heap.size = w.heap.size + 1 := World.size_alloc _ _
theorem mg_heap (w : World) : (mgW w).heap[w.heap.size]? = some (.cells #[.int .u8 73, .int .u8 78, .int .u8 76, .int .u8 49] 5 (4, 5)) := by
 show (w.heap.push _)[w.heap.size]? = _
 simp
theorem mg_cell (w : World) : ∀ j u, (bs Fl.magic)[j]? = some u → (mgW w).cell? ((⟨w.heap.size, 0, none⟩ : Addr).add j) = some u := World.news_of_block (mg_heap w)
theorem mg_grow (n : Nat) (w : World) (hn : n < 18446744073709551616) :
   Calls Tryz.prog 40 #[.slice (some ⟨w.heap.size, 0, none⟩) 4 4, .int .i64 (((Uv.put n).length : Nat) : Int)] (mgW w) (OwnPost w.heap.size (mgW w) (.slice (some ⟨w.heap.size, 0, none⟩) 4 4) 4 (bs Fl.magic)) := by
 obtain ⟨i0, hi, hz0, hz1, hz2⟩ := info_parts info_u8
 have hlen := Uv.put_len_10 hn
 have hpos := Uv.put_len_pos n
 have hcell : ∀ a, (some ⟨w.heap.size, 0, none⟩ : Option Addr) = some a → ∀ (j : Nat) u, (bs Fl.magic)[j]? = some u → (mgW w).cell? (a.add j) = some u := by
   rintro a ha j u hu
   cases ha
   exact mg_cell w j u hu
 refine (Any8.slices_Grow_grow Tryz.growB i0 (.int .u8 0) hi hz0 (by omega) (some ⟨w.heap.size, 0, none⟩) 4 4 (Uv.put n).length (bs Fl.magic) (mgW w) (by omega) (by omega) (by rw [hz2]; omega) (by omega) (by simp [hz1, bs, Fl.magic]) (by simp) hcell).mono ?_
 rintro e w' ⟨rfl, rfl⟩
 have hge := grownCap_ge (mgW w) (4 + (Uv.put n).length) 4 (Tryz.growB_ren.t 25)
 refine ⟨_, rfl, ⟨rfl, .inr ⟨(mgW w).heap.size, _, _, rfl, by rw [mg_size]; omega, heap_alloc_new (mgW w).drew _, by omega, ?_, ?_, ?_⟩⟩, ⟨rfl, rfl, rfl, by simp, fun j hj _ => Below.heap_alloc (mgW w).drew _ j hj⟩, .inr ⟨_, rfl, Nat.le_refl _⟩⟩
 · exact grownCap_le_maxLen (mgW w) (4 + (Uv.put n).length) 4 (Tryz.growB_ren.t 25) (by unfold maxLen; omega)
 · simp only [Array.size_append, size_zeroCells, Value.cells, List.size_toArray, bs, Fl.magic]
   simp at hge ⊢
   omega
 · simp only [Array.toList_append]
   rfl
set_option maxHeartbeats 1000000 in
theorem mgput_any (n : Nat) (w : World) (hn : n < 18446744073709551616) :
   Calls Tryz.prog 20 #[.slice (some ⟨w.heap.size, 0, none⟩) 4 4, .int .u64 (n : Int)] (mgW w) fun e w' => ∃ u, e = .returned u ∧ Lies w (Fl.magic ++ Uv.put n) u w' := by
 suffices h : Calls Tryz.prog 20 #[.slice (some ⟨w.heap.size, 0, none⟩) 4 4, .int .u64 (n : Int)] (mgW w) (OwnPost w.heap.size (mgW w) (.slice (some ⟨w.heap.size, 0, none⟩) 4 4) (4 + (Uv.put n).length) (bs Fl.magic ++ bs (Uv.put n))) by
   refine h.mono ?_
   rintro e w' ⟨u, rfl, h1, h2, _⟩
   refine ⟨u, rfl, ?_, (mg_below w).grown h2 (mg_below w).size (fun k hk => by injection hk with hk; subst hk; exact Nat.le_refl _)⟩
   rw [List.length_append, bs_append]
   exact h1
 obtain ⟨i0, hi, hz0, hz1, hz2⟩ := info_parts info_u8
 have hlen := Uv.put_len_10 hn
 have HG := Lib.hid (mg_grow n w hn)
 have HS0 := Lib.hid (mg_size w)
 go_enter Tryz.func20, Tryz.ntmps20
 go_wp2_with (first
   | (go_at_call 41; refine (size_any n _ hn).mono ?_; rintro e w' ⟨rfl, rfl⟩)
   | (go_at_call 40; refine HG.out.mono ?_; rintro e w1 ⟨v1, rfl, hinv⟩))
 go_loopw [0, 1] (fun u m wr => PutRel w.heap.size (mgW w) (.slice (some ⟨w.heap.size, 0, none⟩) 4 4) 4 (bs Fl.magic) n u m wr) (fun _ m _ => (intOf m).toNat)
 case atStart => exact ⟨[], n, rfl, hn, rfl, by simpa [bs] using hinv⟩
 case round =>
   obtain ⟨pre, q, rfl, hq, hpre, hI⟩ := hrel
   have HP := Lib.hid hpre
   clear hpre hinv
   have hpl : pre.length + (Uv.put q).length = (Uv.put n).length := by rw [← HP.out, List.length_append]
   have hqp := Uv.put_len_pos q
   have HL : pre.length + 1 ≤ 10 := by omega
   have hws := hI.2.1.size
   rw [HS0.out] at hws
   clear hpl hqp
   by_cases h : q < 128
   · go_wp2_with (at_builtin; refine wpList_append_lies _ rfl (.tmp 19) (.tmp 22) 27 rfl w.heap.size 5 i0 (.int .u8 0) 1 1 Tryz.underlying27 hi hz0 hz1 hz2 rfl (by decide) u0 (4 + pre.length) (bs Fl.magic ++ bs pre) rfl (hI.1.alloc _) ⟨wr.heap.size, 0, none⟩ 1 1 (bs [q]) rfl rfl ?c1 (bs_one _) (by decide) ?c3 ?c4 ?c5 (wr.heap.size + 1) ?c6 ?_)
     case c1 => exact news_one wr _ q _ rfl
     case c3 => unfold maxLen; omega
     case c4 => omega
     case c5 => simp; omega
     case c6 => simp
     intro g cap w2 hown2 hgrow2 hat2 _
     have hR := hI.step _ hown2 hgrow2 hat2
     have HR := Lib.hid hR
     clear hown2 hgrow2 hI hR
     go_wp2
     go_ret
     exact ⟨_, rfl, HR.out.cast (by rw [← HP.out, List.length_append, Uv.put_small h]; simp; omega) (by rw [← HP.out, Uv.put_small h]; simp [bs_append])⟩
   · go_wp2_with (at_builtin; refine wpList_append_lies _ rfl (.tmp 11) (.tmp 15) 27 rfl w.heap.size 5 i0 (.int .u8 0) 1 1 Tryz.underlying27 hi hz0 hz1 hz2 rfl (by decide) u0 (4 + pre.length) (bs Fl.magic ++ bs pre) rfl (hI.1.alloc _) ⟨wr.heap.size, 0, none⟩ 1 1 (bs [q % 128 + 128]) rfl rfl ?d1 (bs_one _) (by decide) ?d3 ?d4 ?d5 (wr.heap.size + 1) ?d6 ?_)
     case d1 => exact news_one wr _ _ _ (u8_top q)
     case d3 => unfold maxLen; omega
     case d4 => omega
     case d5 => simp; omega
     case d6 => simp
     intro g cap w2 hown2 hgrow2 hat2 _
     have hR := hI.step _ hown2 hgrow2 hat2
     have HR := Lib.hid hR
     clear hown2 hgrow2 hI hR
     go_wp2
     go_roundw
     case rel =>
       refine ⟨pre ++ [q % 128 + 128], q / 128, by go_num, by omega, ?_, HR.out.cast (by simp; omega) (by simp [bs_append])⟩
       rw [← HP.out, Uv.put_large h]
       simp
     case measure => simp [intOf]; omega
def EncP (l : List Nat) (er : Nat) (w : World) (e : Ending) (w' : World) : Prop := ∃ v, e = .returned (.tuple #[v, .int .i64 (er : Int)]) ∧ w'.ownsRow w.heap.size 5 1 v l.length (bs l) ∧ Below w.heap.size w w'
set_option maxHeartbeats 4000000 in
theorem flencode_any (a : Option Addr) (n c : Nat) (vs : List FnV) (fs : List Fn.F) (w : World) (h : FnsAt w w.heap.size a n vs fs) (hw : ∀ f ∈ fs, f.Wf) (hT : Tab w) (hg : 0 < w.heap.size) :
   Calls Tryz.prog 9 #[.agg #[.slice a n c]] w (EncP (Fl.bytes fs) (Fl.can fs) w) := by
 have b0 := (Below.refl w.heap.size w).alloc (Nat.le_refl _) (.cells #[.slice a n c] 24)
 have H := Lib.hid (h.on b0)
 have B0 := Lib.hid b0
 have hc0 := cell_of_row (w.alloc (.cells #[.slice a n c] 24)) _ 0 _ _ _ (heap_alloc_new w (.cells #[.slice a n c] 24))
 have HC := Lib.hid hc0
 have HZ := Lib.hid (show w.heap.size < (w.alloc (.cells #[.slice a n c] 24)).heap.size by simp)
 have HT := Lib.hid (And.intro (tab_below hT b0 hg) (Nat.lt_of_lt_of_le hg b0.size))
 have HW := Lib.hid hw
 have HLf := Lib.hid h.lenf
 have HCn := flcan_any a n c vs fs _ (h.on b0) hw HT.out.1 HT.out.2
 obtain ⟨cf, hcf⟩ : ∃ cf, Fl.can fs = cf := ⟨_, rfl⟩
 rw [hcf] at HCn ⊢
 unfold ErrP at HCn
 clear h b0 hT hg hw
 by_cases hz : cf = 0
 rotate_left
 · have hd : ((cf : Int) != 0) = true := bne_iff_ne.2 (by omega)
   have HE : Hid (Fl.bytes fs = []) := Lib.hid (if_neg (by rw [hcf]; exact hz))
   clear hcf hz
   go_enter Tryz.func9, Tryz.ntmps9
   go_wp2_with (go_at_call 11; refine HCn.mono ?_; rintro _ w2 ⟨rfl, hb3⟩; have HB3 := Lib.hid (B0.out.trans (hb3.mono B0.out.size)); clear HCn hb3 hc0)
   go_ret2
   rw [HE.out]
   exact ⟨_, rfl, World.ownsRow_nil _ _ _ _, HB3.out⟩
 have hd : ((cf : Int) != 0) = false := by rw [hz]; rfl
 have HCa := Lib.hid (Fl.can_ok.1 (hcf.trans hz))
 have hn40 : n ≤ 40 := by have := HCa.out.2.1; have := HLf.out; omega
 have HE : Hid (Fl.bytes fs = Fl.laid fs) := Lib.hid (if_pos (hcf.trans hz))
 have HLn := Lib.hid (Fl.upto_len HCa.out.2.2.1 HW.out HCa.out.2.1)
 rw [HE.out]
 clear hcf
 have hcs := conv_magic
 go_enter Tryz.func9, Tryz.ntmps9
 go_wp2_with (first
   | (go_at_call 11; refine HCn.mono ?_; rintro _ w2 ⟨rfl, hb3⟩; have HB3 := Lib.hid hb3; clear HCn hb3 hc0; have hc0 := (HB3.out.cell (p := ⟨w.heap.size, 0, none⟩) HZ.out).trans HC.out; have hc1 := ((mg_below w2).cell (p := ⟨w.heap.size, 0, none⟩) (Nat.lt_of_lt_of_le HZ.out HB3.out.size)).trans hc0)
   | (go_at_call 20; refine (mgput_any n w2 (by omega)).mono ?_; rintro _ w3 ⟨u1, rfl, hl⟩; have HL1 := Lib.hid hl; clear hl hc0 hc1; have hc0 := (HL1.out.2.cell (p := ⟨w.heap.size, 0, none⟩) (Nat.lt_of_lt_of_le HZ.out HB3.out.size)).trans ((HB3.out.cell (p := ⟨w.heap.size, 0, none⟩) HZ.out).trans HC.out)))
 go_loopw [5, 7, 23] (fun u _ i wr => ∃ k : Nat, k ≤ n ∧ i = .int .i64 (k : Int) ∧ Lies w2 (Fl.upto fs k) u wr) (fun _ _ i _ => n - (intOf i).toNat)
 case atStart => exact ⟨0, Nat.zero_le _, rfl, by rw [← Fl.upto_zero, HLf.out]; exact HL1.out⟩
 case round =>
   obtain ⟨k, hk, rfl, hL⟩ := hrel
   have HL := Lib.hid hL
   clear hL hc0
   by_cases hlt : k < n
   · have HBr := Lib.hid (HB3.out.trans (HL.out.2.mono HB3.out.size))
     obtain ⟨b, off, v, f, rfl, hltb, hv, hf, hok, hlen, hkl, d0, d1, d2, d3, d4, d5, d6, d7, d8, d9, d10⟩ := fns_cell (H.out.on HBr.out) hlt
     have hb1 := (Below.refl wr.heap.size wr).alloc (Nat.le_refl _) (.cells v.cells 43)
     have hb2 := HBr.out.trans (hb1.mono HBr.out.size)
     have HS := Lib.hid (Fl.upto_step hkl hf)
     have HLl := Lib.hid (HLn.out k (by omega))
     have HPt := Lib.hid (fnput_own w2.heap.size u5 (Fl.upto fs k).length (bs (Fl.upto fs k)) v f (wr.alloc (.cells v.cells 43)) (hok.on hb1) hlen (H.out.wf HW.out hlt hf) (tab_below HT.out.1 hb2 HT.out.2) (Nat.lt_of_lt_of_le HT.out.2 hb2.size) (HL.out.1.alloc _) (Nat.le_trans HL.out.2.size hb1.size) (by have := HLl.out; omega))
     have HBy : Hid (f.bytes = f.laid) := Lib.hid (if_pos (H.out.canF HCa.out.2.2.1 hlt hf))
     have HL2 : Hid (Lies w2 (Fl.upto fs k) u5 (wr.alloc (.cells v.cells 43))) := Lib.hid (HL.out.on hb1)
     rw [HBy.out] at HPt
     clear hok hlen hb1 hb2 hkl hf hv
     go_wp2_with (go_at_call 21; refine HPt.out.mono ?_; rintro _ w4 ⟨u6, rfl, hinv⟩; have HL3 := Lib.hid (HL2.out.put hinv); clear hinv HPt d0 d1 d2 d3 d4 d5 d6 d7 d8 d9 d10)
     go_roundw
     case rel => exact ⟨k + 1, by omega, by go_num, by rw [HS.out]; exact HL3.out⟩
     case measure => simp [intOf]; omega
   · have HA := Lib.hid (Fl.upto_all fs (k := k) (by rw [HLf.out]; omega))
     go_wp2
     go_ret2
     have hl := HL.out
     rw [HA.out] at hl
     have hsz := HB3.out.size
     exact ⟨_, by rw [hz]; rfl, ownsRow_base hl.1 (by have := B0.out.size; omega), B0.out.trans ((HB3.out.trans (hl.2.mono HB3.out.size)).mono B0.out.size)⟩
end Go.Proofs.YtdopheoedpldiaaGreatDoor
namespace Go.Proofs.YtdopheoedpldiaaGreatDoor
open Go.RowKit
theorem nats_str {l : List Nat} (h : ∀ c ∈ l, c < 256) : nats (str l) = l := by
 unfold nats str
 simp only [List.map_map]
 conv => rhs; rw [← List.map_id l]
 refine List.map_congr_left fun c hc => ?_
 have := h c hc
 simp [UInt8.toNat_ofNat']
 omega
theorem str_same {l m : List Nat} (hl : ∀ c ∈ l, c < 256) (hm : ∀ c ∈ m, c < 256) : ((str l).toList == (str m).toList) = decide (l = m) := by
 by_cases h : l = m
 · subst h
   rw [decide_eq_true rfl]
   exact beq_self_eq_true _
 · rw [decide_eq_false h]
   exact (Lib.bytes_beq_false_iff _ _).2 fun e => h (by rw [← nats_str hl, ← nats_str hm, e])
theorem magic_byte : ∀ c ∈ Fl.magic, c < 256 := by decide
theorem BytesAt.head {w : World} {B n : Nat} {a : Option Addr} {l : List Nat} (h : BytesAt w B a n l) {k : Nat} (hk : k ≤ n) : BytesAt w B a k (l.take k) := by
 obtain ⟨h1, h2, h3⟩ := h
 refine ⟨by rw [List.length_take]; omega, fun c hc => h2 c (List.mem_of_mem_take hc), fun hp => ?_⟩
 obtain ⟨b, off, e, hb, hc⟩ := h3 (by omega)
 refine ⟨b, off, e, hb, fun i hi => ?_⟩
 rw [hc i (by omega)]
 simp [List.getD, hi]
theorem BytesAt.rest {w : World} {B n b off : Nat} {l : List Nat} (h : BytesAt w B (some ⟨b, off, none⟩) n l) {k : Nat} (hk : k ≤ n) : BytesAt w B (some ⟨b, off + k, none⟩) (n - k) (l.drop k) := by
 obtain ⟨h1, h2, h3⟩ := h
 refine ⟨by rw [List.length_drop, h1], fun c hc => h2 c (List.mem_of_mem_drop hc), fun hp => ?_⟩
 obtain ⟨b', off', e, hb, hc⟩ := h3 (by omega)
 injection e with e
 injection e with e1 e2
 subst e1 e2
 refine ⟨b, off + k, rfl, hb, fun i hi => ?_⟩
 rw [Nat.add_assoc, hc (k + i) (by omega)]
 simp [List.getD]
theorem mg_bytes (w : World) : BytesAt (mgW w) (mgW w).heap.size (some ⟨w.heap.size, 0, none⟩) 4 Fl.magic := by
 refine ⟨rfl, magic_byte, fun _ => ⟨w.heap.size, 0, rfl, by rw [mg_size]; omega, fun i hi => ?_⟩⟩
 rw [Nat.zero_add, cell_of_row _ _ i _ _ _ (mg_heap w)]
 rcases (show i = 0 ∨ i = 1 ∨ i = 2 ∨ i = 3 by omega) with rfl | rfl | rfl | rfl <;> rfl
set_option maxHeartbeats 2000000 in
theorem flhas_any (a : Option Addr) (n c B B2 p : Nat) (l : List Nat) (w : World) (h : BytesAt w B a n l) (hm : BytesAt w B2 (some ⟨p, 0, none⟩) 4 Fl.magic) (hn : n ≤ c) (hc : c ≤ 9223372036854775807) :
   Calls Tryz.prog 104 #[.slice a n c, .slice (some ⟨p, 0, none⟩) 4 4] w fun e w' => e = .returned (.bool (decide (l.take 4 = Fl.magic))) ∧ w' = w := by
 by_cases h4 : n < 4
 · have hd : decide ((4 : Int) ≤ (n : Int)) = false := decide_eq_false (by omega)
   have HE : Hid (decide (l.take 4 = Fl.magic) = false) := Lib.hid (decide_eq_false fun e => by
     have := congrArg List.length e
     rw [List.length_take, h.1] at this
     unfold Fl.magic at this
     simp at this
     omega)
   go_enter Tryz.func104, Tryz.ntmps104
   go_wp2
   go_ret
   rw [HE.out]
   exact ⟨rfl, rfl⟩
 · have hd : decide ((4 : Int) ≤ (n : Int)) = true := decide_eq_true (by omega)
   obtain ⟨b, off, rfl, _, _⟩ := h.2.2 (by omega)
   have h1 := fun cc => conv_bytes (c := cc) (h.head (k := 4) (by omega))
   have h2 := fun cc => conv_bytes (c := cc) hm
   have HS := Lib.hid (str_same (fun c hc => h.2.1 c (List.mem_of_mem_take hc)) magic_byte (l := l.take 4))
   generalize str (l.take 4) = s1 at *
   generalize str Fl.magic = s2 at *
   rw [← HS.out]
   clear h hm HS
   go_enter Tryz.func104, Tryz.ntmps104
   go_wp2
   go_ret
   exact ⟨rfl, rfl⟩
set_option maxHeartbeats 2000000 in
theorem flcut_any (a : Option Addr) (n c B B2 p : Nat) (l : List Nat) (w : World) (h : BytesAt w B a n l) (hm : BytesAt w B2 (some ⟨p, 0, none⟩) 4 Fl.magic) (hn : n ≤ c) (hc : c ≤ 9223372036854775807) :
   Calls Tryz.prog 66 #[.slice a n c, .slice (some ⟨p, 0, none⟩) 4 4] w fun e w' => w' = w ∧ ∃ a' n' c', e = .returned (.tuple #[.slice a' n' c', .bool (decide (l.take 4 = Fl.magic))]) ∧ (l.take 4 = Fl.magic → BytesAt w B a' n' (l.drop 4) ∧ n' ≤ n) := by
 have HH := Lib.hid (flhas_any a n c B B2 p l w h hm hn hc)
 by_cases hM : l.take 4 = Fl.magic
 · rw [decide_eq_true hM] at HH ⊢
   have h4 : 4 ≤ n := by
     have := congrArg List.length hM
     rw [List.length_take, h.1] at this
     unfold Fl.magic at this
     simp at this
     omega
   obtain ⟨b, off, rfl, _, _⟩ := h.2.2 (by omega)
   have HR := Lib.hid (h.rest h4)
   clear h hm hM
   have hR0 := HR.out.1
   rw [List.length_drop] at hR0
   by_cases hc4 : c = 4
   · subst hc4
     obtain rfl : n = 4 := by omega
     have HZ : Hid (BytesAt w B (some ⟨b, off, none⟩) 0 (l.drop 4)) := Lib.hid ⟨HR.out.1, HR.out.2.1, fun h => absurd h (Nat.lt_irrefl _)⟩
     go_enter Tryz.func66, Tryz.ntmps66
     go_wp2_with (go_at_call 104; refine HH.out.mono ?_; rintro _ w1 ⟨rfl, he⟩; obtain rfl := he.symm)
     go_ret2
     exact ⟨rfl, _, _, _, rfl, fun _ => ⟨HZ.out, by omega⟩⟩
   · go_enter Tryz.func66, Tryz.ntmps66
     go_wp2_with (go_at_call 104; refine HH.out.mono ?_; rintro _ w1 ⟨rfl, he⟩; obtain rfl := he.symm)
     go_ret2
     exact ⟨rfl, _, _, _, rfl, fun _ => ⟨HR.out, by omega⟩⟩
 · rw [decide_eq_false hM] at HH ⊢
   have HN := Lib.hid hM
   clear h hm hM
   go_enter Tryz.func66, Tryz.ntmps66
   go_wp2_with (go_at_call 104; refine HH.out.mono ?_; rintro _ w1 ⟨rfl, he⟩; obtain rfl := he.symm)
   go_ret2
   exact ⟨rfl, a, n, c, rfl, fun h => absurd h HN.out⟩
end Go.Proofs.YtdopheoedpldiaaGreatDoor
