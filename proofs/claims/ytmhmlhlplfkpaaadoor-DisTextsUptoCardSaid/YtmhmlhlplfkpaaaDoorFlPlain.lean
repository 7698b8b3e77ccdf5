/-
 Whether a program has few functions, each of few things; the example of a program. Conditions: none.
-/
import Derived.Test.YtmhmlhlplfkpaaaDoorFlA
import Derived.Test.YtmhmlhlplfkpaaaDoorCanQ
set_option maxRecDepth 100000
namespace Go.Proofs.YtmhmlhlplfkpaaaDoor
open Go.RowKit
def SmallsP (n : Nat) (vs : List FnV) (w : World) (e : Ending) (w' : World) : Prop := ∃ b : Bool, e = .returned (.bool b) ∧ (b = true → n ≤ 50 ∧ ∀ k, k < n → (vs.getD k .zero).Few) ∧ Below w.heap.size w w'
set_option maxHeartbeats 4000000 in
theorem small16_any (a : Option Addr) (n c : Nat) (vs : List FnV) (fs : List Fn.F) (w : World) (h : FnsAt w w.heap.size a n vs fs) (hn : n ≤ 9223372036854775807) :
   Calls Tryd.prog 4 #[.agg #[.slice a n c]] w (SmallsP n vs w) := by
 have b0 := (Below.refl w.heap.size w).alloc (Nat.le_refl _) (.cells #[.slice a n c] 24)
 have H := Lib.hid (h.on b0)
 have B0 := Lib.hid b0
 have hc0 := cell_of_row (w.alloc (.cells #[.slice a n c] 24)) _ 0 _ _ _ (heap_alloc_new w (.cells #[.slice a n c] 24))
 have HC := Lib.hid hc0
 have HZ := Lib.hid (show w.heap.size < (w.alloc (.cells #[.slice a n c] 24)).heap.size by simp)
 clear h b0
 go_enter Tryd.func4, Tryd.ntmps4
 go_wp2
 generalize hw1 : w.alloc (.cells #[.slice a n c] 24) = w1 at *
 clear hw1 hc0
 go_loopw [3] (fun i wr => ∃ k : Nat, k ≤ n ∧ i = .int .i64 (k : Int) ∧ (∀ j, j < k → (vs.getD j .zero).Few) ∧ Below w1.heap.size w1 wr) (fun i _ => n - (intOf i).toNat)
 case atStart => exact ⟨0, Nat.zero_le _, rfl, fun j hj => absurd hj (Nat.not_lt_zero _), Below.refl _ _⟩
 case round =>
   obtain ⟨k, hk, rfl, h0, hB⟩ := hrel
   have HB := Lib.hid hB
   have H0 := Lib.hid h0
   have hcell : wr.cell? ⟨w.heap.size, 0, none⟩ = some (.slice a n c) := (HB.out.cell (p := ⟨w.heap.size, 0, none⟩) HZ.out).trans HC.out
   clear hB h0
   by_cases hlt : k < n
   · have hd1 : decide ((k : Int) < (n : Int)) = true := decide_eq_true (by omega)
     by_cases h50 : k < 50
     · have hd2 : decide ((k : Int) < 50) = true := decide_eq_true (by omega)
       obtain ⟨b, off, v, f, rfl, hltb, hv, hf, hok, hlen, hkl, d0, d1, d2, d3, d4, d5, d6, d7, d8, d9, d10⟩ := fns_cell (H.out.on HB.out) hlt
       have HSm := Lib.hid (small15_any v wr)
       unfold SmallP at HSm
       have HV := Lib.hid hv
       clear hok hlen hkl hf hv
       go_wp2_with (go_at_call 8; refine HSm.out.mono ?_; rintro _ w2 ⟨bs, rfl, hs, hb3⟩; have HB3 := Lib.hid (HB.out.trans (hb3.mono HB.out.size)); have HS := Lib.hid hs; clear HSm hb3 hs d0 d1 d2 d3 d4 d5 d6 d7 d8 d9 d10 hcell; refine Hid.out ?_)
       cases bs with
       | true =>
         have HF := Lib.hid (HS.out rfl)
         clear HS
         refine Lib.hid ?_
         go_wp2
         go_roundw
         case rel =>
           refine ⟨k + 1, by omega, by go_num, fun j hj => ?_, HB3.out⟩
           rcases Nat.lt_or_eq_of_le (Nat.le_of_lt_succ hj) with h | rfl
           · exact H0.out j h
           · rw [HV.out]; exact HF.out
         case measure => simp [intOf]; omega
       | false =>
         refine Lib.hid ?_
         go_wp2
         go_ret
         exact ⟨false, rfl, fun h => (by cases h), B0.out.trans (HB3.out.mono B0.out.size)⟩
     · have hd2 : decide ((k : Int) < 50) = false := decide_eq_false (by omega)
       have hd3 : decide ((n : Int) ≤ 50) = false := decide_eq_false (by omega)
       go_wp2
       go_ret
       exact ⟨false, rfl, fun h => (by cases h), B0.out.trans (HB.out.mono B0.out.size)⟩
   · obtain rfl : k = n := by omega
     have hd1 : decide ((k : Int) < (k : Int)) = false := decide_eq_false (by omega)
     by_cases h50 : k ≤ 50
     · have hd3 : decide ((k : Int) ≤ 50) = true := decide_eq_true (by omega)
       go_wp2
       go_ret
       exact ⟨true, rfl, fun _ => ⟨h50, H0.out⟩, B0.out.trans (HB.out.mono B0.out.size)⟩
     · have hd3 : decide ((k : Int) ≤ 50) = false := decide_eq_false (by omega)
       go_wp2
       go_ret
       exact ⟨false, rfl, fun h => (by cases h), B0.out.trans (HB.out.mono B0.out.size)⟩
def retF : Fn.F := ⟨⟨#[102]⟩, false, [], [], [], [], [(25, 0)], [1], [], [], []⟩
def retV (b : Nat) : FnV := ⟨⟨#[102]⟩, false, .nil, .nil, .nil, .nil, ⟨some ⟨b, 0, none⟩, 1, 1⟩, ⟨some ⟨b + 1, 0, none⟩, 1, 1⟩, .nil, .nil, .nil⟩
theorem ret_wf : retF.Wf := ⟨fun p hp => by obtain rfl := List.mem_singleton.1 (show p ∈ [((25 : Int), (0 : Int))] from hp); exact ⟨⟨by decide, by decide⟩, ⟨by decide, by decide⟩⟩, fun z hz => by obtain rfl := List.mem_singleton.1 (show z ∈ [(1 : Int)] from hz); decide, fun n hn => (by cases hn), fun z hz => (by cases hz), fun s hs => (by cases hs)⟩
theorem ret_len (b : Nat) : (retV b).Len := ⟨show (1 : Nat) ≤ _ by decide, show (0 : Nat) ≤ _ by decide, show (0 : Nat) ≤ _ by decide, show (0 : Nat) ≤ _ by decide, show (0 : Nat) ≤ _ by decide, show (1 : Nat) ≤ _ by decide, show (1 : Nat) ≤ _ by decide, show (0 : Nat) ≤ _ by decide, show (0 : Nat) ≤ _ by decide, show (0 : Nat) ≤ _ by decide⟩
theorem plain_wf : ∀ f ∈ [retF], f.Wf := fun f hf => by obtain rfl := List.mem_singleton.1 hf; exact ret_wf
theorem ret_ok (w : World) (o : Obj) : FnOk (((w.alloc (.cells #[.int .i64 25, .int .i64 0] 52)).alloc (.cells #[.int .i64 1] 3)).alloc o) (((w.alloc (.cells #[.int .i64 25, .int .i64 0] 52)).alloc (.cells #[.int .i64 1] 3)).alloc o).heap.size (retV w.heap.size) retF := by
 have h1 : (((w.alloc (.cells #[.int .i64 25, .int .i64 0] 52)).alloc (.cells #[.int .i64 1] 3)).alloc o).heap[w.heap.size]? = some (.cells #[.int .i64 25, .int .i64 0] 52 (0, 0)) := (Below.heap_alloc _ _ _ (by simp; omega)).trans ((Below.heap_alloc _ _ _ (by simp)).trans (heap_alloc_new w _))
 have h2 : (((w.alloc (.cells #[.int .i64 25, .int .i64 0] 52)).alloc (.cells #[.int .i64 1] 3)).alloc o).heap[w.heap.size + 1]? = some (.cells #[.int .i64 1] 3 (0, 0)) := by
   refine (Below.heap_alloc _ _ _ (by simp)).trans ?_
   have := heap_alloc_new (w.alloc (.cells #[.int .i64 25, .int .i64 0] 52)) (.cells #[.int .i64 1] 3)
   simpa only [World.size_alloc] using this
 refine ⟨rfl, rfl, ⟨intsN _ _, fun _ => rfl⟩, ⟨intsN _ _, fun _ => rfl⟩, ⟨intsN _ _, fun _ => rfl⟩, ⟨intsN _ _, fun _ => rfl⟩, ⟨⟨rfl, fun _ => ⟨w.heap.size, 0, rfl, by simp; omega, fun i hi => ?_⟩⟩, fun e => by cases e⟩, ⟨⟨rfl, fun _ => ⟨w.heap.size + 1, 0, rfl, by simp, fun i hi => ?_⟩⟩, fun e => by cases e⟩, ⟨nodes_nil _ _, fun _ => rfl⟩, ⟨intsN _ _, fun _ => rfl⟩, ⟨sets_nil _ _, fun _ => rfl⟩⟩
 · obtain rfl : i = 0 := by have : i < 1 := hi; omega
   exact ⟨cell_of_row _ _ 0 _ _ _ h1, cell_of_row _ _ 1 _ _ _ h1⟩
 · obtain rfl : i = 0 := by have : i < 1 := hi; omega
   exact cell_of_row _ _ 0 _ _ _ h2
def plW (w : World) : World := (((w.alloc (.cells #[.slice (some ⟨w.heap.size + 3, 0, none⟩) 1 1] 24)).alloc (.cells #[.int .i64 25, .int .i64 0] 52)).alloc (.cells #[.int .i64 1] 3)).alloc (.cells (retV (w.heap.size + 1)).cells 35)
theorem plain_at (w : World) : FnsAt (plW w) (plW w).heap.size (some ⟨w.heap.size + 3, 0, none⟩) 1 [retV (w.heap.size + 1)] [retF] ∧ Below w.heap.size w (plW w) ∧ (plW w).cell? ⟨w.heap.size, 0, none⟩ = some (.slice (some ⟨w.heap.size + 3, 0, none⟩) 1 1) := by
 have hk := ret_ok (w.alloc (.cells #[.slice (some ⟨w.heap.size + 3, 0, none⟩) 1 1] 24)) (.cells (retV (w.heap.size + 1)).cells 35)
 have h0 := heap_alloc_new w (.cells #[.slice (some ⟨w.heap.size + 3, 0, none⟩) 1 1] 24)
 have h3 := FnAt.new (((w.alloc (.cells #[.slice (some ⟨w.heap.size + 3, 0, none⟩) 1 1] 24)).alloc (.cells #[.int .i64 25, .int .i64 0] 52)).alloc (.cells #[.int .i64 1] 3)) (retV (w.heap.size + 1))
 have b1 := (Below.refl w.heap.size w).alloc (Nat.le_refl _) (.cells #[.slice (some ⟨w.heap.size + 3, 0, none⟩) 1 1] 24)
 have b2 := b1.alloc b1.size (.cells #[.int .i64 25, .int .i64 0] 52)
 have b3 := b2.alloc b2.size (.cells #[.int .i64 1] 3)
 have b4 := b3.alloc b3.size (.cells (retV (w.heap.size + 1)).cells 35)
 simp only [World.size_alloc] at hk h3
 refine ⟨⟨rfl, rfl, fun k hk1 => ?_, fun k hk1 => ?_, fun _ => ⟨w.heap.size + 3, 0, rfl, ?_, fun k hk1 j hj => ?_⟩⟩, b4, ?_⟩
 · obtain rfl : k = 0 := by omega
   have hz : (plW w).heap.size = w.heap.size + 1 + 1 + 1 + 1 := by unfold plW; simp only [World.size_alloc]
   rw [hz]
   exact hk
 · obtain rfl : k = 0 := by omega
   exact ret_len _
 · unfold plW
   simp only [World.size_alloc]
   omega
 · obtain rfl : k = 0 := by omega
   rw [show 0 + 0 * 11 + j = j by omega]
   exact FnAt.cell h3 j
 · refine (cell_of_row (plW w) w.heap.size 0 _ _ _ (show (plW w).heap[w.heap.size]? = some (.cells #[.slice (some ⟨w.heap.size + 3, 0, none⟩) 1 1] 24 (0, 0)) from ?_))
   unfold plW
   exact (Below.heap_alloc _ _ _ (by simp; omega)).trans ((Below.heap_alloc _ _ _ (by simp; omega)).trans ((Below.heap_alloc _ _ _ (by simp)).trans h0))
set_option maxHeartbeats 4000000 in
theorem plain_any (w : World) : Calls Tryd.prog 10 #[] w fun e w' => ∃ a c us, e = .returned (.agg #[.slice a 1 c]) ∧ FnsAt w' w'.heap.size a 1 us [retF] ∧ Below w.heap.size w w' := by
 go_enter Tryd.func10, Tryd.ntmps10
 have hp := plain_at w
 go_wp2
 have h0 := hp.2.2
 unfold plW at hp h0
 simp only [FnV.cells, Sl3.val, retV, Sl3.nil] at hp h0
 exact bodyPost_ret (v := .agg #[.slice (some ⟨w.heap.size + 3, 0, none⟩) 1 1]) (by simp [results, Tryd.results10, go_sem, h0]) rfl ⟨_, _, _, rfl, hp.1, hp.2.1⟩
end Go.Proofs.YtmhmlhlplfkpaaaDoor
