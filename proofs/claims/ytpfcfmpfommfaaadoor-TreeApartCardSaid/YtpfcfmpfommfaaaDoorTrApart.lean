/-
  The walk of TreeApart. Conditions: the nodes can be read; numbers of their type; the table of powers of ten is laid.
-/
import Derived.Test.YtpfcfmpfommfaaaDoorTrL
import Derived.Test.YtpfcfmpfommfaaaDoorTrOwn
import Derived.Test.YtpfcfmpfommfaaaDoorSlC
import Derived.Test.YtpfcfmpfommfaaaDoorRegionK
import Derived.Deep.DeepMust
namespace Go.Proofs.YtpfcfmpfommfaaaDoor
open Go.RowKit

def ApG (La : Option Addr) (n c k : Nat) (so sl : Sl.Four) (_ : Unit) : Nat → Value → Prop
  | 0, v => v = setV so
  | 1, v => v = setV sl
  | 2, v => v = setV so
  | 3, v => v = setV so
  | 4, v => v = .bool false
  | 5, v => v = .bool false
  | 6, v => v = .slice La n c
  | 7, v => v = .int .i64 (k : Int)
  | 8, v => v = .bool true
  | 9, v => v = .bool false
  | 10, v => v = .bool false
  | _, _ => True

/-- Between two rounds: the slots of the first k are gathered in block g. -/
def ApRel (n : Nat) (l : List Tr.Nd) (g : Nat) (w : World) (i : Value) (wr : World) : Prop :=
  ∃ k : Nat, k ≤ n ∧ i = .int .i64 (k : Int) ∧ SetAt wr g (Tr.all l k) ∧ Below w.heap.size w wr

set_option maxHeartbeats 8000000 in
set_option maxRecDepth 100000 in
theorem treeApart_walk (La : Option Addr) (n c : Nat) (l : List Tr.Nd) (w : World) (h : NodesAt w w.heap.size La n l) (hn : n ≤ 9223372036854775807) (hp : Pow w) :
    Calls Tryd.prog 6 #[.slice La n c] w (BoolP true w) := by
  by_cases h60 : 60 < n
  · have hi : (60 : Int) < (n : Int) := by omega
    have HLv := Lib.hid (lives13_any w hp)
    clear h hp
    go_enter Tryd.func6, Tryd.ntmps6
    go_wp2_with (go_at_call 7; refine HLv.out.mono ?_; rintro e w1 ⟨rfl, hb1⟩)
    go_ret
    exact ⟨rfl, hb1⟩
  have hi : ¬ (60 : Int) < (n : Int) := by omega
  have HRt := trright_any La n c l w h hn
  have HP := Lib.hid hp
  have H := Lib.hid h
  have hl : l.length = n := h.1
  cases hr : Tr.right l with
  | false =>
    rw [hr] at HRt
    clear h hp hr
    go_enter Tryd.func6, Tryd.ntmps6
    go_wp2_with (first
      | (go_at_call 8; refine HRt.mono ?_; rintro e w1 ⟨rfl, hb1⟩)
      | (go_at_call 7; refine (lives13_any _ (HP.out.below hb1)).mono ?_; rintro e w2 ⟨rfl, hb2⟩))
    go_ret
    exact ⟨rfl, below_self hb1 hb2⟩
  | true =>
    rw [hr] at HRt
    have HR := Lib.hid hr
    have HL := Lib.hid hl
    clear h hp hr hl
    go_enter Tryd.func6, Tryd.ntmps6
    go_wp2_with (go_at_call 8; refine HRt.mono ?_; rintro e w1 ⟨rfl, hb1⟩; have HB1 := Lib.hid hb1; clear hb1)
    have HS0 := Lib.hid (SetAt.new w1 Sl.no)
    have HB0 := Lib.hid (HB1.out.alloc HB1.out.size (.cells #[.int .u64 (Sl.no.a : Int), .int .u64 (Sl.no.b : Int), .int .u64 (Sl.no.c : Int), .int .u64 (Sl.no.d : Int)] 35))
    have hwp3 : w.heap.size ≤ w1.heap.size := HB1.out.size
    clear HRt
    generalize w1.heap.size = p3 at *
    go_loopw [4, 5] (fun i _ wr => ApRel n l p3 w i wr) (fun i _ _ => n - (intOf i).toNat)
    case atStart => exact ⟨0, Nat.zero_le _, rfl, HS0.out, HB0.out⟩
    case round =>
      obtain ⟨k, hk, rfl, hS, hB⟩ := hrel
      have H3r := Lib.hid hS
      have HB := Lib.hid hB
      clear hS hB
      by_cases hlt : k < n
      · have HOw := trown_any La n c l (k : Int) wr (H.out.on HB.out) hn
        have HIx := Lib.hid (fun (W : World) (hb : Below w.heap.size w W) => trinside_any La n c l (k : Int) 0 W (H.out.on hb) HR.out (by omega))
        rw [Tr.inside_zero HR.out (by rw [HL.out]; exact hlt)] at HIx
        have hap := Tr.apart HR.out (k := k) (by rw [HL.out]; exact hlt)
        have hoka := Tr.ok_all l k
        have hoko := Tr.ok_own l (k : Int)
        have HSub := Lib.hid (fun W => rsub_set (Tr.own l (k : Int)) (Tr.all l k) hoko hoka W)
        rw [hap] at HSub
        have HOr := Lib.hid (fun W => ror_set (Tr.all l k) (Tr.own l (k : Int)) hoka hoko W)
        rw [show (Tr.all l k).or (Tr.own l (k : Int)) = Tr.all l (k + 1) from rfl] at HOr
        generalize Tr.own l (k : Int) = so at *
        generalize Tr.all l k = sl at *
        have HNx : Hid (∃ sn, sn = Tr.all l (k + 1)) := Lib.hid ⟨_, rfl⟩
        obtain ⟨sn, hsn⟩ := HNx.out
        rw [← hsn] at HOr
        have HSn := Lib.hid hsn
        clear hap hoka hoko hsn HNx
        go_wp2_with (go_at_call 20; refine HOw.mono ?_; rintro e w2 ⟨rfl, hb2⟩; have HB2 := Lib.hid hb2; clear hb2)
        have H5 := Lib.hid (SetAt.new w2 so)
        have H3 := Lib.hid ((H3r.out.below HB2.out H3r.out.lt).alloc (.cells #[.int .u64 (so.a : Int), .int .u64 (so.b : Int), .int .u64 (so.c : Int), .int .u64 (so.d : Int)] 35))
        have HBW := Lib.hid ((HB.out.trans (HB2.out.mono HB.out.size)).alloc (Nat.le_trans HB.out.size HB2.out.size) (.cells #[.int .u64 (so.a : Int), .int .u64 (so.b : Int), .int .u64 (so.c : Int), .int .u64 (so.d : Int)] 35))
        have HIns := Lib.hid (fun (W : World) (hb : Below (w2.alloc (.cells #[.int .u64 (so.a : Int), .int .u64 (so.b : Int), .int .u64 (so.c : Int), .int .u64 (so.d : Int)] 35)).heap.size (w2.alloc (.cells #[.int .u64 (so.a : Int), .int .u64 (so.b : Int), .int .u64 (so.c : Int), .int .u64 (so.d : Int)] 35)) W) => HIx.out W (HBW.out.trans (hb.mono HBW.out.size)))
        have hp35 : p3 ≠ w2.heap.size := by have := H3r.out.lt; have := HB2.out.size; omega
        generalize w2.alloc (.cells #[.int .u64 (so.a : Int), .int .u64 (so.b : Int), .int .u64 (so.c : Int), .int .u64 (so.d : Int)] 35) = wb at *
        generalize w2.heap.size = p5 at *
        clear HOw
        refine region_k () 39 (fun _ _ W => Below wb.heap.size wb W) (ApG La n c k so sl) (by kernel_rfl) (by kernel_rfl) (by kernel_rfl) rfl rfl (Below.refl _ _).drew ?_ ?_
        · refine ⟨?_, ?_, ?_, ?_, ?_, ?_, ?_, ?_, ?_, ?_, ?_, trivial⟩
          · intro x D a w hI hdep hD0 K hK
            have e5 : a.eval (.tmp 5) = .pointer (some ⟨p5, 0, none⟩) := hI.read 5 rfl
            obtain ⟨⟨c0, c1, c2, c3⟩, _⟩ := (H5.out.below hI.world H5.out.lt).reads
            refine ok_value (wanted_none rfl) (v := setV so) ?_ (hK x _ _ (hI.world) (fun _ _ _ h => h) rfl)
            have ec : ∀ c, a.eval (.const c) = c := fun _ => rfl
            have ef : ∀ f, a.eval (.func f) = .func (.func f) #[] #[] := fun _ => rfl
            clear hI hdep hK
            generalize a.eval = ρ at e5 ec ef ⊢
            go_simp
          · intro x D a w hI hdep hD0 K hK
            have e3 : a.eval (.tmp 3) = .pointer (some ⟨p3, 0, none⟩) := hI.read 3 rfl
            obtain ⟨⟨c0, c1, c2, c3⟩, _⟩ := (H3.out.below hI.world H3.out.lt).reads
            refine ok_value (wanted_none rfl) (v := setV sl) ?_ (hK x _ _ (hI.world) (fun _ _ _ h => h) rfl)
            have ec : ∀ c, a.eval (.const c) = c := fun _ => rfl
            have ef : ∀ f, a.eval (.func f) = .func (.func f) #[] #[] := fun _ => rfl
            clear hI hdep hK
            generalize a.eval = ρ at e3 ec ef ⊢
            go_simp
          · intro x D a w hI hdep hD0 K hK
            have e24 : a.eval (.tmp 24) = setV so := hI.good 0 24 (dep_of hdep 0 rfl) rfl
            have e25 : a.eval (.tmp 25) = setV sl := hI.good 1 25 (dep_of hdep 1 rfl) rfl
            refine ok_call (wanted_none rfl) (f := 31) (args := #[setV so, setV sl]) ?_ (HSub.out w) ?_
            · have ec : ∀ c, a.eval (.const c) = c := fun _ => rfl
              have ef : ∀ f, a.eval (.func f) = .func (.func f) #[] #[] := fun _ => rfl
              clear hI hdep hK
              generalize a.eval = ρ at e24 e25 ec ef ⊢
              go_simp
            · rintro e w2 ⟨rfl, hb2⟩
              exact ⟨_, rfl, hK x _ _ (below_self hI.world hb2) (fun _ _ _ h => h) rfl⟩
          · intro x D a w hI hdep hD0 K hK
            have e5 : a.eval (.tmp 5) = .pointer (some ⟨p5, 0, none⟩) := hI.read 5 rfl
            obtain ⟨⟨c0, c1, c2, c3⟩, _⟩ := (H5.out.below hI.world H5.out.lt).reads
            refine ok_value (wanted_none rfl) (v := setV so) ?_ (hK x _ _ (hI.world) (fun _ _ _ h => h) rfl)
            have ec : ∀ c, a.eval (.const c) = c := fun _ => rfl
            have ef : ∀ f, a.eval (.func f) = .func (.func f) #[] #[] := fun _ => rfl
            clear hI hdep hK
            generalize a.eval = ρ at e5 ec ef ⊢
            go_simp
          · intro x D a w hI hdep hD0 K hK
            have e26 : a.eval (.tmp 26) = setV so := hI.good 2 26 (dep_of hdep 2 rfl) rfl
            have e27 : a.eval (.tmp 27) = setV so := hI.good 3 27 (dep_of hdep 3 rfl) rfl
            have eq := eq_same so
            refine ok_value (wanted_none rfl) (v := .bool false) ?_ (hK x _ _ (hI.world) (fun _ _ _ h => h) rfl)
            have ec : ∀ c, a.eval (.const c) = c := fun _ => rfl
            have ef : ∀ f, a.eval (.func f) = .func (.func f) #[] #[] := fun _ => rfl
            clear hI hdep hK
            generalize a.eval = ρ at e26 e27 ec ef ⊢
            go_simp
          · intro x D a w hI hdep hD0 K hK
            have e28 : a.eval (.tmp 28) = .bool false := hI.good 4 28 (dep_of hdep 4 rfl) rfl
            refine ok_value (wanted_none rfl) (v := .bool false) ?_ (hK x _ _ (hI.world) (fun _ _ _ h => h) rfl)
            have ec : ∀ c, a.eval (.const c) = c := fun _ => rfl
            have ef : ∀ f, a.eval (.func f) = .func (.func f) #[] #[] := fun _ => rfl
            clear hI hdep hK
            generalize a.eval = ρ at e28 ec ef ⊢
            go_simp
          · intro x D a w hI hdep hD0 K hK
            have eg : a.eval (.tmp 29) = .bool false := hI.good 5 29 (dep_of hdep 5 rfl) rfl
            have e0 : a.eval (.tmp 0) = .slice La n c := hI.read 0 rfl
            refine ok_value (wanted_is rfl rfl hI.size (by simp) eg) (v := .slice La n c) ?_ (hK x _ _ (hI.world) (fun _ _ _ h => h) rfl)
            have ec : ∀ c, a.eval (.const c) = c := fun _ => rfl
            have ef : ∀ f, a.eval (.func f) = .func (.func f) #[] #[] := fun _ => rfl
            clear hI hdep hK
            generalize a.eval = ρ at eg e0 ec ef ⊢
            go_simp
          · intro x D a w hI hdep hD0 K hK
            have eg : a.eval (.tmp 29) = .bool false := hI.good 5 29 (dep_of hdep 5 rfl) rfl
            have e4 : a.eval (.tmp 4) = .int .i64 (k : Int) := hI.read 4 rfl
            refine ok_value (wanted_is rfl rfl hI.size (by simp) eg) (v := .int .i64 (k : Int)) ?_ (hK x _ _ (hI.world) (fun _ _ _ h => h) rfl)
            have ec : ∀ c, a.eval (.const c) = c := fun _ => rfl
            have ef : ∀ f, a.eval (.func f) = .func (.func f) #[] #[] := fun _ => rfl
            clear hI hdep hK
            generalize a.eval = ρ at eg e4 ec ef ⊢
            go_simp
          · intro x D a w hI hdep hD0 K hK
            have eg : a.eval (.tmp 29) = .bool false := hI.good 5 29 (dep_of hdep 5 rfl) rfl
            have e30 : a.eval (.tmp 30) = .slice La n c := hI.good 6 30 (dep_of hdep 6 rfl) rfl
            have e31 : a.eval (.tmp 31) = .int .i64 (k : Int) := hI.good 7 31 (dep_of hdep 7 rfl) rfl
            refine ok_call (wanted_is rfl rfl hI.size (by simp) eg) (f := 17) (args := #[.slice La n c, .int .i64 (k : Int), .int .i64 0]) ?_ (HIns.out w hI.world) ?_
            · have ec : ∀ c, a.eval (.const c) = c := fun _ => rfl
              have ef : ∀ f, a.eval (.func f) = .func (.func f) #[] #[] := fun _ => rfl
              clear hI hdep hK
              generalize a.eval = ρ at eg e30 e31 ec ef ⊢
              go_simp
            · rintro e w2 ⟨rfl, hb2⟩
              exact ⟨_, rfl, hK x _ _ (below_self hI.world hb2) (fun _ _ _ h => h) rfl⟩
          · intro x D a w hI hdep hD0 K hK
            have eg : a.eval (.tmp 29) = .bool false := hI.good 5 29 (dep_of hdep 5 rfl) rfl
            have e32 : a.eval (.tmp 32) = .bool true := hI.good 8 32 (dep_of hdep 8 rfl) rfl
            refine ok_value (wanted_is rfl rfl hI.size (by simp) eg) (v := .bool false) ?_ (hK x _ _ (hI.world) (fun _ _ _ h => h) rfl)
            have ec : ∀ c, a.eval (.const c) = c := fun _ => rfl
            have ef : ∀ f, a.eval (.func f) = .func (.func f) #[] #[] := fun _ => rfl
            clear hI hdep hK
            generalize a.eval = ρ at eg e32 ec ef ⊢
            go_simp
          · intro x D a w hI hdep hD0 K hK
            have e29 : a.eval (.tmp 29) = .bool false := hI.good 5 29 (dep_of hdep 5 rfl) rfl
            have e33 : a.eval (.tmp 33) = .bool false := hI.good 9 33 (dep_of hdep 9 rfl) rfl
            refine ok_value (wanted_none rfl) (v := .bool false) ?_ (hK x _ _ (hI.world) (fun _ _ _ h => h) rfl)
            have ec : ∀ c, a.eval (.const c) = c := fun _ => rfl
            have ef : ∀ f, a.eval (.func f) = .func (.func f) #[] #[] := fun _ => rfl
            clear hI hdep hK
            generalize a.eval = ρ at e29 e33 ec ef ⊢
            go_simp
        · intro x D a w4 hI hD
          have hfr := hI.frame [(24, setV so), (25, setV sl), (26, setV so), (27, setV so), (28, .bool false), (29, .bool false), (30, .slice La n c), (31, .int .i64 (k : Int)), (32, .bool true), (33, .bool false), (34, .bool false)] (all_cons (hI.good 0 24 (hD 0 (by decide)) rfl) (all_cons (hI.good 1 25 (hD 1 (by decide)) rfl) (all_cons (hI.good 2 26 (hD 2 (by decide)) rfl) (all_cons (hI.good 3 27 (hD 3 (by decide)) rfl) (all_cons (hI.good 4 28 (hD 4 (by decide)) rfl) (all_cons (hI.good 5 29 (hD 5 (by decide)) rfl) (all_cons (hI.good 6 30 (hD 6 (by decide)) rfl) (all_cons (hI.good 7 31 (hD 7 (by decide)) rfl) (all_cons (hI.good 8 32 (hD 8 (by decide)) rfl) (all_cons (hI.good 9 33 (hD 9 (by decide)) rfl) (all_cons (hI.good 10 34 (hD 10 (by decide)) rfl) all_nil))))))))))) rfl
          have hW := hI.world
          clear hI
          subst hfr
          simp only [List.foldl_cons, List.foldl_nil, List.setIfInBounds_toArray, List.set_cons_succ, List.set_cons_zero]
          have H5b := Lib.hid (H5.out.below hW H5.out.lt)
          have H3b := Lib.hid (H3.out.below hW H3.out.lt)
          have HB4 := Lib.hid (HBW.out.trans (hW.mono HBW.out.size))
          obtain ⟨⟨a0, a1, a2, a3⟩, f0, f1, f2, f3⟩ := H3b.out.reads
          obtain ⟨⟨b0, b1, b2, b3⟩, _⟩ := H5b.out.reads
          clear hW hD
          go_wp2_with (go_at_call 32; refine (HOr.out _).mono ?_; rintro e w5 ⟨rfl, hb5⟩; obtain ⟨⟨a0, a1, a2, a3⟩, f0, f1, f2, f3⟩ := (H3b.out.below hb5 H3b.out.lt).reads)
          have HBf := Lib.hid (below_self HB4.out hb5)
          refine ⟨⟨k + 1, hlt, by go_num, ?_, ?_⟩, by simp [intOf]; omega⟩
          · rw [← HSn.out]
            exact (H3b.out.below hb5 H3b.out.lt).store sn
          · exact (((HBf.out.setCell (p := ⟨p3, 0, none⟩) hwp3 _).setCell (p := ⟨p3, 1, none⟩) hwp3 _).setCell (p := ⟨p3, 2, none⟩) hwp3 _).setCell (p := ⟨p3, 3, none⟩) hwp3 _
      · go_wp2_with (go_at_call 7; refine (lives13_any _ (HP.out.below HB.out)).mono ?_; rintro e w2 ⟨rfl, hb2⟩)
        go_ret
        exact ⟨rfl, below_self HB.out hb2⟩
end Go.Proofs.YtpfcfmpfommfaaaDoor
