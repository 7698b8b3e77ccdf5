/-
 What maps.At, maps.Inside and the document's At, Inside tell of tables of sets. Conditions: the tables can be read; words of 64 bits.
-/
import Derived.Test.YtmhmlhlplfkpaaaGreatDoorMpMA
import Derived.BigQuiet
import Derived.Deep.QuietTactic
import Derived.Deep.DeepMust
import Derived.WalkSmall
set_option maxRecDepth 100000
namespace Go.Proofs.YtmhmlhlplfkpaaaGreatDoor
open Go.RowKit
theorem mp_ok {l : List Sl.Four} (h : ∀ s ∈ l, s.ok) {k : Nat} (hk : k < l.length) : (l.getD k Sl.no).ok := by
 have e : l.getD k Sl.no = l[k] := by simp [List.getD, hk]
 rw [e]
 exact h _ (List.getElem_mem hk)
set_option maxHeartbeats 1000000 in
theorem mpat_any (a : Option Addr) (n c : Nat) (l : List Sl.Four) (pc : Int) (w : World) (h : SetsAt w w.heap.size a n l) :
   Calls Tryz.prog 60 #[.slice a n c, .int .i64 pc] w (SetP (Mp.at_ l pc) w) := by
 have hl : l.length = n := h.1
 by_cases h0 : pc < 0
 · rw [Mp.at_out (.inl h0)]
   clear h hl
   have d0 : decide (pc < 0) = true := decide_eq_true h0
   go_enter Tryz.func60, Tryz.ntmps60
   go_wp2
   exact bodyPost_ret (v := setV Sl.no) (by simp [results, Tryz.results60, go_sem, setV, Sl.no]) rfl ⟨rfl, (Below.refl _ w).alloc (Nat.le_refl _) _⟩
 have d0 : decide (pc < 0) = false := decide_eq_false h0
 by_cases h1 : (n : Int) ≤ pc
 · rw [Mp.at_out (.inr (by rw [hl]; exact h1))]
   have d1 : decide ((n : Int) ≤ pc) = true := decide_eq_true h1
   clear h hl
   go_enter Tryz.func60, Tryz.ntmps60
   go_wp2
   exact bodyPost_ret (v := setV Sl.no) (by simp [results, Tryz.results60, go_sem, setV, Sl.no]) rfl ⟨rfl, (Below.refl _ w).alloc (Nat.le_refl _) _⟩
 · have d1 : decide ((n : Int) ≤ pc) = false := decide_eq_false h1
   obtain ⟨k, rfl⟩ : ∃ k : Nat, pc = (k : Int) := ⟨pc.toNat, by omega⟩
   obtain ⟨b, off, y, rfl, hlt, hy, hky, c0, c1, c2, c3⟩ := sets_cell (h.below ((Below.refl _ w).alloc (Nat.le_refl _) (.cells #[.int .u64 0, .int .u64 0, .int .u64 0, .int .u64 0] 70))) (show k < n by omega)
   rw [Mp.at_in hky, hy]
   clear h hl hy hky
   have hkn : k < n := by omega
   go_enter Tryz.func60, Tryz.ntmps60
   go_wp2
   exact bodyPost_ret (v := setV y) (by simp [results, Tryz.results60, go_sem, setV]) rfl ⟨rfl, (Below.refl _ w).alloc (Nat.le_refl _) _⟩
set_option maxHeartbeats 1000000 in
theorem rmpat_any (a : Option Addr) (n c : Nat) (l : List Sl.Four) (pc : Int) (w : World) (h : SetsAt w w.heap.size a n l) :
   Calls Tryz.prog 35 #[.slice a n c, .int .i64 pc] w (SetP (Mp.at_ l pc) w) := by
 have hl : l.length = n := h.1
 by_cases h0 : pc < 0
 · rw [Mp.at_out (.inl h0)]
   clear h hl
   have d0 : decide (pc < 0) = true := decide_eq_true h0
   go_enter Tryz.func35, Tryz.ntmps35
   go_wp2
   exact bodyPost_ret (v := setV Sl.no) (by simp [results, Tryz.results35, go_sem, setV, Sl.no]) rfl ⟨rfl, (Below.refl _ w).alloc (Nat.le_refl _) _⟩
 have d0 : decide (pc < 0) = false := decide_eq_false h0
 by_cases h1 : (n : Int) ≤ pc
 · rw [Mp.at_out (.inr (by rw [hl]; exact h1))]
   have d1 : decide ((n : Int) ≤ pc) = true := decide_eq_true h1
   clear h hl
   go_enter Tryz.func35, Tryz.ntmps35
   go_wp2
   exact bodyPost_ret (v := setV Sl.no) (by simp [results, Tryz.results35, go_sem, setV, Sl.no]) rfl ⟨rfl, (Below.refl _ w).alloc (Nat.le_refl _) _⟩
 · have d1 : decide ((n : Int) ≤ pc) = false := decide_eq_false h1
   obtain ⟨k, rfl⟩ : ∃ k : Nat, pc = (k : Int) := ⟨pc.toNat, by omega⟩
   obtain ⟨b, off, y, rfl, hlt, hy, hky, c0, c1, c2, c3⟩ := sets_cell (h.below ((Below.refl _ w).alloc (Nat.le_refl _) (.cells #[.int .u64 0, .int .u64 0, .int .u64 0, .int .u64 0] 70))) (show k < n by omega)
   rw [Mp.at_in hky, hy]
   clear h hl hy hky
   have hkn : k < n := by omega
   go_enter Tryz.func35, Tryz.ntmps35
   go_wp2
   exact bodyPost_ret (v := setV y) (by simp [results, Tryz.results35, go_sem, setV]) rfl ⟨rfl, (Below.refl _ w).alloc (Nat.le_refl _) _⟩
end Go.Proofs.YtmhmlhlplfkpaaaGreatDoor
namespace Go.Proofs.YtmhmlhlplfkpaaaGreatDoor
open Go.RowKit
theorem eq_sets (s t : Sl.Four) (w : World) : (Op.equalIn 10000 70 (.agg #[.int .u64 (s.a : Int), .int .u64 (s.b : Int), .int .u64 (s.c : Int), .int .u64 (s.d : Int)]) (.agg #[.int .u64 (t.a : Int), .int .u64 (t.b : Int), .int .u64 (t.c : Int), .int .u64 (t.d : Int)])).run Tryz.prog w = .ok (Mp.same s t) w := by
 rw [eq_four]
 congr 1
 unfold Mp.same
 rw [Bool.eq_iff_iff]
 simp
 omega
end Go.Proofs.YtmhmlhlplfkpaaaGreatDoor
namespace Go.Proofs.YtmhmlhlplfkpaaaGreatDoor
open Go.RowKit
set_option maxHeartbeats 1000000 in
theorem mpbeyond_any (s : Sl.Four) (hs : s.ok) (m : Int) (w : World) (hT : Tab w) (hw : 0 < w.heap.size) :
   Calls Tryz.prog 184 #[setV s, .int .i64 m] w (BoolP (!s.below m) w) := by
 have hb0 := (Below.refl w.heap.size w).alloc (Nat.le_refl _) (.cells #[.int .u64 (s.a : Int), .int .u64 (s.b : Int), .int .u64 (s.c : Int), .int .u64 (s.d : Int)] 70)
 have HC := Lib.hid (below_any s hs m _ (tab_below hT hb0 hw) (by rw [World.size_alloc]; omega))
 have HB := Lib.hid hb0
 clear hb0 hT hw hs
 generalize s.below m = r at *
 go_enter Tryz.func184, Tryz.ntmps184
 go_wp2_with (go_at_call 199; refine HC.out.mono ?_; rintro _ w1 ⟨rfl, hb1⟩)
 go_ret
 exact ⟨retB (by cases r <;> rfl), HB.out.trans (hb1.mono (by simp))⟩
def MostAt (w : World) (p : Nat) (m : Int) : Prop := w.cell? ⟨p, 0, none⟩ = some (.int .i64 m) ∧ p < w.heap.size
theorem MostAt.below {w w' : World} {p B : Nat} {m : Int} (h : MostAt w p m) (hb : Below B w w') (hp : p < B) : MostAt w' p m := ⟨(hb.cell (p := ⟨p, 0, none⟩) hp).trans h.1, Nat.lt_of_lt_of_le h.2 hb.size⟩
theorem MostAt.on {w w' : World} {p : Nat} {m : Int} (h : MostAt w p m) (hb : Below w.heap.size w w') : MostAt w' p m := h.below hb h.2
set_option maxHeartbeats 1000000 in
theorem mpright1_any (s : Sl.Four) (hs : s.ok) (p : Nat) (m : Int) (w : World) (hp : MostAt w p m) (hT : Tab w) (hw : 0 < w.heap.size) :
   Calls Tryz.prog 183 #[setV s, .pointer (some ⟨p, 0, none⟩)] w (BoolP (!s.below m) w) := by
 have hb0 := (Below.refl w.heap.size w).alloc (Nat.le_refl _) (.cells #[.int .u64 (s.a : Int), .int .u64 (s.b : Int), .int .u64 (s.c : Int), .int .u64 (s.d : Int)] 70)
 have HC := Lib.hid (mpbeyond_any s hs m _ (tab_below hT hb0 hw) (by rw [World.size_alloc]; omega))
 have HB := Lib.hid hb0
 have hc := (hp.on hb0).1
 clear hb0 hT hw hs hp
 generalize (!s.below m) = r at *
 go_enter Tryz.func183, Tryz.ntmps183
 go_wp2_with (go_at_call 184; refine HC.out.mono ?_; rintro _ w1 ⟨rfl, hb1⟩)
 go_ret
 exact ⟨rfl, HB.out.trans (hb1.mono (by simp))⟩
def MrRel (n : Nat) (m : Int) (l : List Sl.Four) (w : World) (i : Value) (wr : World) : Prop :=
 ∃ k : Nat, k ≤ n ∧ i = .int .i64 (k : Int) ∧ Below w.heap.size w wr ∧ (l.take k).all (·.below m) = true
set_option maxHeartbeats 2000000 in
theorem mpindex_any (a : Option Addr) (n c p : Nat) (m : Int) (l : List Sl.Four) (w : World) (h : SetsAt w w.heap.size a n l) (hn : n ≤ 9223372036854775807) (ho : ∀ s ∈ l, s.ok) (hp : MostAt w p m) (hT : Tab w) (hw : 0 < w.heap.size) :
   Calls Tryz.prog 198 #[.slice a n c, .func (.func 183) #[] #[.pointer (some ⟨p, 0, none⟩)]] w fun e w' => (∃ i : Int, e = .returned (.int .i64 i) ∧ decide (0 ≤ i) = !l.all (·.below m)) ∧ Below w.heap.size w w' := by
 have H := Lib.hid h
 have HL := Lib.hid h.1
 have HC := Lib.hid (fun (W : World) (hb : Below w.heap.size w W) (s : Sl.Four) (hs : s.ok) => mpright1_any s hs p m W (hp.on hb) (tab_below hT hb hw) (Nat.lt_of_lt_of_le hw hb.size))
 have HO := Lib.hid ho
 clear h ho hp hT hw
 go_enter Tryz.func198, Tryz.ntmps198
 go_wp2
 go_loopw [5, 8] (fun _ i wr => MrRel n m l w i wr) (fun _ i _ => n - (intOf i).toNat)
 case atStart => exact ⟨0, Nat.zero_le _, rfl, Below.refl _ _, rfl⟩
 case round =>
   obtain ⟨k, hk, rfl, hB, hW⟩ := hrel
   have HB := Lib.hid hB
   by_cases hlt : k < n
   · obtain ⟨b, off, y, rfl, _, hy, hky, c0, c1, c2, c3⟩ := sets_cell (H.out.below hB) hlt
     have HS := Lib.hid (Mp.all_take_succ (·.below m) hky)
     have HBad := Lib.hid (fun hb => Mp.all_bad (p := (·.below m)) hky hb)
     have hoy := mp_ok HO.out hky
     rw [hy, hW] at HS
     rw [hy] at HBad hoy
     have HR := Lib.hid (HC.out wr hB y hoy)
     clear hW hy hky hoy hB
     cases hm : y.below m with
     | false =>
       rw [hm] at HR
       have HE := Lib.hid (HBad.out hm)
       clear HS HBad hm
       go_wp2_with (go_at_call 183; refine HR.out.mono ?_; rintro _ w1 ⟨rfl, hb1⟩)
       go_ret
       exact ⟨⟨_, rfl, by rw [HE.out]; simp⟩, below_self HB.out hb1⟩
     | true =>
       rw [hm] at HR HS
       clear HBad hm
       go_wp2_with (go_at_call 183; refine HR.out.mono ?_; rintro _ w1 ⟨rfl, hb1⟩)
       go_roundw
       case rel => exact ⟨k + 1, hlt, by go_num, below_self HB.out hb1, HS.out⟩
       case measure => simp [intOf]; omega
   · have HE : Hid (l.all (·.below m) = true) := Lib.hid (by rw [← hW, List.take_of_length_le (by rw [HL.out]; omega)])
     clear hW hB
     go_wp2
     go_ret
     exact ⟨⟨_, rfl, by rw [HE.out]; rfl⟩, HB.out⟩
theorem mpcontains_any (a : Option Addr) (n c p : Nat) (m : Int) (l : List Sl.Four) (w : World) (h : SetsAt w w.heap.size a n l) (hn : n ≤ 9223372036854775807) (ho : ∀ s ∈ l, s.ok) (hp : MostAt w p m) (hT : Tab w) (hw : 0 < w.heap.size) :
   Calls Tryz.prog 182 #[.slice a n c, .func (.func 183) #[] #[.pointer (some ⟨p, 0, none⟩)]] w (BoolP (!l.all (·.below m)) w) := by
 have H := mpindex_any a n c p m l w h hn ho hp hT hw
 clear h ho hp hT hw
 generalize (!l.all (·.below m)) = r at *
 go_enter Tryz.func182, Tryz.ntmps182
 go_wp2_with (go_at_call 198; refine H.mono ?_; rintro _ w1 ⟨⟨i, rfl, hi⟩, hb1⟩)
 go_ret
 exact ⟨rfl, hb1⟩
theorem mp_right_eq {l : List Sl.Four} {m : Int} (ho : ∀ s ∈ l, s.ok) : Mp.right l m = (l.all (·.below m) && decide (l.length ≤ 2000)) := by
 unfold Mp.right
 rw [Bool.eq_iff_iff]
 simp only [Bool.and_eq_true, List.all_eq_true, decide_eq_true_eq]
 constructor
 · rintro ⟨h1, h2⟩
   exact ⟨fun s hs => by rw [Sl.below_eq (ho s hs)]; exact h1 s hs, h2⟩
 · rintro ⟨h1, h2⟩
   exact ⟨fun s hs => by rw [← Sl.below_eq (ho s hs)]; exact h1 s hs, h2⟩
set_option maxHeartbeats 1000000 in
theorem mpright_any (a : Option Addr) (n c : Nat) (l : List Sl.Four) (m : Int) (w : World) (h : SetsAt w w.heap.size a n l) (hn : n ≤ 9223372036854775807) (ho : ∀ s ∈ l, s.ok) (hT : Tab w) (hw : 0 < w.heap.size) :
   Calls Tryz.prog 163 #[.slice a n c, .int .i64 m] w (BoolP (Mp.right l m) w) := by
 have hb0 := (Below.refl w.heap.size w).alloc (Nat.le_refl _) (.cells #[.int .i64 m] 3)
 have hM : MostAt (w.alloc (.cells #[.int .i64 m] 3)) w.heap.size m := ⟨(new_cell w (.int .i64 m) 3).1, by simp⟩
 have HC := Lib.hid (mpcontains_any a n c w.heap.size m l _ (h.on hb0) hn ho hM (tab_below hT hb0 hw) (by rw [World.size_alloc]; omega))
 have HB := Lib.hid hb0
 rw [mp_right_eq ho, h.1]
 clear hb0 hM hT hw ho h
 generalize l.all (·.below m) = r at *
 by_cases hd : n ≤ 2000
 · have hi : (n : Int) ≤ 2000 := by omega
   rw [decide_eq_true hd, Bool.and_true]
   clear hd
   go_enter Tryz.func163, Tryz.ntmps163
   go_wp2_with (go_at_call 182; refine HC.out.mono ?_; rintro _ w1 ⟨rfl, hb1⟩)
   go_ret
   exact ⟨retB (by cases r <;> rfl), HB.out.trans (hb1.mono (by simp))⟩
 · have hi : decide ((n : Int) ≤ 2000) = false := decide_eq_false (by omega)
   rw [decide_eq_false hd, Bool.and_false]
   clear hd
   go_enter Tryz.func163, Tryz.ntmps163
   go_wp2
   go_ret
   exact ⟨rfl, HB.out⟩
end Go.Proofs.YtmhmlhlplfkpaaaGreatDoor
namespace Go.Proofs.YtmhmlhlplfkpaaaGreatDoor
open Go.RowKit
theorem region_q {P : Program} {K : Type} (f : K → World) {id : Nat} {Q : Exit → Act → World → Prop} {a : Act} {w : World} {l : List Oper} (hC : ∃ n, w.drew = f n) (hm : P.follows .mixedOrders = true) (hB : Region.lexB .any l.toArray = true)
   (h : wpQuiet P l.toArray (fun w' => ∃ n, w' = f n) (fun a' => ∀ w', (∃ n, w' = f n) → Q .normal a' w') l a) : (Code.region id l.toArray true).wp P Q a w :=
 wp_region_quiet (C := fun w' => ∃ n, w' = f n) hm hB hC (by simpa using h)
theorem worlds_of (w0 : World) : ∃ (K : Type) (_ : Nonempty K) (f : K → World), Hid (∃ n, w0.drew = f n) ∧ Hid (∀ n, Below w0.heap.size w0 (f n)) ∧ Hid (∀ n W, Below (f n).heap.size (f n) W → ∃ m, W = f m) :=
 ⟨{W : World // Below w0.heap.size w0 W}, ⟨⟨w0, Below.refl _ _⟩⟩, Subtype.val, Lib.hid ⟨⟨w0.drew, (Below.refl _ _).drew⟩, rfl⟩, Lib.hid fun n => n.2, Lib.hid fun n W h => ⟨⟨W, below_self n.2 h⟩, rfl⟩⟩
theorem Calls.q {P : Program} {g : FuncId} {args : Array Value} {K : Type} {f : K → World} {v : Value} {n : K} (hU : ∀ n W, Below (f n).heap.size (f n) W → ∃ m, W = f m)
   (h : Calls P g args (f n) fun e w' => e = .returned v ∧ Below (f n).heap.size (f n) w') : Calls P g args (f n) fun e w'' => e = .returned v ∧ ∃ m, w'' = f m :=
 h.mono fun _ W ⟨he, hb⟩ => ⟨he, hU n W hb⟩
theorem Calls.q_same {P : Program} {g : FuncId} {args : Array Value} {K : Type} {f : K → World} {v : Value} {n : K}
   (h : Calls P g args (f n) fun e w' => e = .returned v ∧ w' = f n) : Calls P g args (f n) fun e w'' => e = .returned v ∧ ∃ m, w'' = f m :=
 h.mono fun _ _ ⟨he, hb⟩ => ⟨he, n, hb⟩
theorem cell_q {w0 : World} {K : Type} {f : K → World} (hB : ∀ n, Below w0.heap.size w0 (f n)) {b off : Nat} {v : Value} (hlt : b < w0.heap.size) (h : w0.cell? ⟨b, off, none⟩ = some v) : ∀ n, (f n).cell? ⟨b, off, none⟩ = some v :=
 fun n => ((hB n).cell (p := ⟨b, off, none⟩) hlt).trans h
end Go.Proofs.YtmhmlhlplfkpaaaGreatDoor
