/-
  What instr.Text and the document's Text tell. Conditions: an operand of its type; the library's variables are laid.
-/
import Derived.Test.YtipeefmmnfbcoaaDoorInR
import Derived.Test.YtipeefmmnfbcoaaDoorInE
import Derived.Test.YtipeefmmnfbcoaaDoorInB
import Derived.Test.YtipeefmmnfbcoaaDoorOpF
import Derived.Test.YtipeefmmnfbcoaaDoorOpG
namespace Go.Proofs.YtipeefmmnfbcoaaDoor
open Go.RowKit

theorem txt_size (n : Int) (h0 : -9223372036854775808 ≤ n) (h1 : n ≤ 9223372036854775807) : (In.txt n).size ≤ 21 := by
  rw [Lib.size_eq]
  have := Lib.itoa_length_le n h0 h1
  simpa [In.txt] using this
theorem name_size (op : Int) : (Op.name op).size ≤ 21 := by
  unfold Op.name
  split
  · have h : Op.names.all (fun x => decide (x.size ≤ 21)) = true := by kernel_rfl
    rcases Nat.lt_or_ge op.toNat Op.names.length with hl | hl
    · rw [List.getD_eq_getElem?_getD, List.getElem?_eq_getElem hl]
      exact of_decide_eq_true (List.all_eq_true.1 h _ (List.getElem_mem hl))
    · rw [List.getD_eq_getElem?_getD, List.getElem?_eq_none hl]
      exact Nat.zero_le _
  · exact Nat.zero_le _

/-- A struct of two, boxed, behind a call. -/
theorem box_kept {w w1 : World} {x y : Value} {t : TypeId} (b1 : Below (w.alloc (.cells #[x, y] t)).heap.size (w.alloc (.cells #[x, y] t)) w1) :
    w1.cell? ⟨w.heap.size, 0, none⟩ = some x ∧ w1.cell? ⟨w.heap.size, 1, none⟩ = some y ∧ w.heap.size < w1.heap.size ∧ Below w.heap.size w w1 := by
  have hh := heap_alloc_new w (.cells #[x, y] t)
  have hl0 : w.heap.size < (w.alloc (.cells #[x, y] t)).heap.size := by simp
  exact ⟨(b1.cell (p := ⟨w.heap.size, 0, none⟩) hl0).trans (cell_of_row _ _ 0 _ _ _ hh), (b1.cell (p := ⟨w.heap.size, 1, none⟩) hl0).trans (cell_of_row _ _ 1 _ _ _ hh), Nat.lt_of_lt_of_le hl0 b1.size, below_self ((Below.refl _ _).alloc (Nat.le_refl _) _) b1⟩
theorem box_on {w1 w2 : World} {b : Nat} {x y : Value} (q0 : w1.cell? ⟨b, 0, none⟩ = some x) (q1 : w1.cell? ⟨b, 1, none⟩ = some y) (hl : b < w1.heap.size) (b2 : Below w1.heap.size w1 w2) :
    w2.cell? ⟨b, 0, none⟩ = some x ∧ w2.cell? ⟨b, 1, none⟩ = some y ∧ b < w2.heap.size :=
  ⟨(b2.cell (p := ⟨b, 0, none⟩) hl).trans q0, (b2.cell (p := ⟨b, 1, none⟩) hl).trans q1, Nat.lt_of_lt_of_le hl b2.size⟩

/-- A text is told; nothing below has turned. -/
def StrP (s : ByteArray) (w : World) (e : Ending) (w' : World) : Prop := e = .returned (.string s) ∧ Below w.heap.size w w'

def TxG (p : Nat) (op a0 : Int) (nm dg : ByteArray) (_ : Unit) : Nat → Value → Prop
  | 0, v => v = .pointer (some ⟨p, 0, none⟩)
  | 1, v => v = .int .i64 op
  | 2, v => v = .string nm
  | 3, v => v = .string (nm ++ ByteArray.mk #[32])
  | 4, v => v = .pointer (some ⟨p, 1, none⟩)
  | 5, v => v = .int .i64 a0
  | 6, v => v = .string dg
  | 7, v => v = .string (nm ++ ByteArray.mk #[32] ++ dg)
  | 8, v => v = .string (nm ++ ByteArray.mk #[32] ++ dg)
  | _, _ => True

set_option maxHeartbeats 1000000 in
set_option maxRecDepth 100000 in
theorem intext_any (op a0 : Int) (h0 : -9223372036854775808 ≤ a0) (h1 : a0 ≤ 9223372036854775807) (w : World) (hg : Glob w) : Calls Tryd.prog 11 #[.agg #[.int .i64 op, .int .i64 a0]] w (StrP (In.text op a0) w) := by
  have HRt := inright_any op a0
  have HGl := Lib.hid hg
  have HNm := Lib.hid (name_any op)
  have HDg := Lib.hid (fun W hW => indigits_any a0 h0 h1 W hW)
  have HNb := numbered_any op
  have hs1 := name_size op
  have hs2 := txt_size a0 h0 h1
  clear hg h0 h1
  unfold In.text
  cases hr : In.right op a0 with
  | false =>
    rw [hr] at HRt
    rw [if_neg (by decide)]
    clear hr
    go_enter Tryd.func11, Tryd.ntmps11
    go_wp2_with (go_at_call 9; refine (HRt _).mono ?_; rintro _ w1 ⟨rfl, b1⟩)
    go_ret
    exact ⟨rfl, below_self ((Below.refl _ _).alloc (Nat.le_refl _) _) b1⟩
  | true =>
    rw [hr] at HRt
    rw [if_pos rfl]
    clear hr
    cases hn : In.numbered op with
    | false =>
      rw [hn] at HNb
      rw [if_neg (by decide)]
      clear hn
      generalize Op.name op = nm at *
      go_enter Tryd.func11, Tryd.ntmps11
      go_wp2_with (first
        | (go_at_call 9; refine (HRt _).mono ?_; rintro _ w1 ⟨rfl, b1⟩; obtain ⟨q0, q1, hl1, B1⟩ := box_kept b1; clear b1)
        | (go_at_call 29; refine (HNb _).mono ?_; rintro _ w2 ⟨rfl, b2⟩; obtain ⟨r0, r1, hl2⟩ := box_on q0 q1 hl1 b2)
        | (go_at_call 35; refine (HNm.out _).mono ?_; rintro _ w3 ⟨rfl, b3⟩))
      go_ret
      exact ⟨rfl, below_self (below_self B1 b2) b3⟩
    | true =>
      rw [hn] at HNb
      rw [if_pos rfl]
      clear hn
      generalize Op.name op = nm at *
      generalize In.txt a0 = dg at *
      go_enter Tryd.func11, Tryd.ntmps11
      go_wp2_with (first
        | (go_at_call 9; refine (HRt _).mono ?_; rintro _ w1 ⟨rfl, b1⟩; obtain ⟨q0, q1, hl1, B1⟩ := box_kept b1; clear b1)
        | (go_at_call 29; refine (HNb _).mono ?_; rintro _ w3 ⟨rfl, b2⟩; obtain ⟨r0, r1, hl2⟩ := box_on q0 q1 hl1 b2))
      have HB := Lib.hid (below_self B1 b2)
      have HG3 := Lib.hid (HGl.out.below HB.out)
      clear q0 q1 hl1 B1 b2 HRt HNb
      have q0 := r0
      have q1 := r1
      have hlp := hl2
      clear r0 r1 hl2
      generalize hp : w.heap.size = p at *
      refine region_k () 22 (fun _ _ W => Below w3.heap.size w3 W) (TxG p op a0 nm dg) (by kernel_rfl) (by kernel_rfl) (by kernel_rfl) rfl rfl (Below.refl _ _).drew ?_ ?_
      · refine ⟨?_, ?_, ?_, ?_, ?_, ?_, ?_, ?_, ?_, trivial⟩
        · intro x D a w hI hdep hD0 K hK
          have e1 : a.eval (.tmp 1) = .pointer (some ⟨p, 0, none⟩) := hI.read 1 rfl
          refine ok_value (wanted_none rfl) (v := .pointer (some ⟨p, 0, none⟩)) ?_ (hK x _ _ (hI.world) (fun _ _ _ h => h) rfl)
          have ec : ∀ c, a.eval (.const c) = c := fun _ => rfl
          have ef : ∀ f, a.eval (.func f) = .func (.func f) #[] #[] := fun _ => rfl
          clear hI hdep hK
          generalize a.eval = ρ at e1 ec ef ⊢
          go_simp
        · intro x D a w hI hdep hD0 K hK
          have e11 : a.eval (.tmp 11) = .pointer (some ⟨p, 0, none⟩) := hI.good 0 11 (dep_of hdep 0 rfl) rfl
          have x0 := (hI.world.cell (p := ⟨p, 0, none⟩) hlp).trans q0
          refine ok_value (wanted_none rfl) (v := .int .i64 op) ?_ (hK x _ _ (hI.world) (fun _ _ _ h => h) rfl)
          have ec : ∀ c, a.eval (.const c) = c := fun _ => rfl
          have ef : ∀ f, a.eval (.func f) = .func (.func f) #[] #[] := fun _ => rfl
          clear hI hdep hK
          generalize a.eval = ρ at e11 ec ef ⊢
          go_simp
        · intro x D a w hI hdep hD0 K hK
          have e12 : a.eval (.tmp 12) = .int .i64 op := hI.good 1 12 (dep_of hdep 1 rfl) rfl
          refine ok_call (wanted_none rfl) (f := 35) (args := #[.int .i64 op]) ?_ (HNm.out w) ?_
          · have ec : ∀ c, a.eval (.const c) = c := fun _ => rfl
            have ef : ∀ f, a.eval (.func f) = .func (.func f) #[] #[] := fun _ => rfl
            clear hI hdep hK
            generalize a.eval = ρ at e12 ec ef ⊢
            go_simp
          · rintro e w2 ⟨rfl, hb2⟩
            exact ⟨_, rfl, hK x _ _ (hI.world.trans (hb2.mono hI.world.size)) (fun _ _ _ h => h) rfl⟩
        · intro x D a w hI hdep hD0 K hK
          have e13 : a.eval (.tmp 13) = .string nm := hI.good 2 13 (dep_of hdep 2 rfl) rfl
          refine ok_value (wanted_none rfl) (v := .string (nm ++ ByteArray.mk #[32])) ?_ (hK x _ _ (hI.world) (fun _ _ _ h => h) rfl)
          have ec : ∀ c, a.eval (.const c) = c := fun _ => rfl
          have ef : ∀ f, a.eval (.func f) = .func (.func f) #[] #[] := fun _ => rfl
          clear hI hdep hK
          generalize a.eval = ρ at e13 ec ef ⊢
          go_simp
          omega
        · intro x D a w hI hdep hD0 K hK
          have e1 : a.eval (.tmp 1) = .pointer (some ⟨p, 0, none⟩) := hI.read 1 rfl
          refine ok_value (wanted_none rfl) (v := .pointer (some ⟨p, 1, none⟩)) ?_ (hK x _ _ (hI.world) (fun _ _ _ h => h) rfl)
          have ec : ∀ c, a.eval (.const c) = c := fun _ => rfl
          have ef : ∀ f, a.eval (.func f) = .func (.func f) #[] #[] := fun _ => rfl
          clear hI hdep hK
          generalize a.eval = ρ at e1 ec ef ⊢
          go_simp
        · intro x D a w hI hdep hD0 K hK
          have e15 : a.eval (.tmp 15) = .pointer (some ⟨p, 1, none⟩) := hI.good 4 15 (dep_of hdep 4 rfl) rfl
          have x0 := (hI.world.cell (p := ⟨p, 1, none⟩) hlp).trans q1
          refine ok_value (wanted_none rfl) (v := .int .i64 a0) ?_ (hK x _ _ (hI.world) (fun _ _ _ h => h) rfl)
          have ec : ∀ c, a.eval (.const c) = c := fun _ => rfl
          have ef : ∀ f, a.eval (.func f) = .func (.func f) #[] #[] := fun _ => rfl
          clear hI hdep hK
          generalize a.eval = ρ at e15 ec ef ⊢
          go_simp
        · intro x D a w hI hdep hD0 K hK
          have e16 : a.eval (.tmp 16) = .int .i64 a0 := hI.good 5 16 (dep_of hdep 5 rfl) rfl
          refine ok_call (wanted_none rfl) (f := 24) (args := #[.int .i64 a0]) ?_ (HDg.out w (HG3.out.below hI.world)) ?_
          · have ec : ∀ c, a.eval (.const c) = c := fun _ => rfl
            have ef : ∀ f, a.eval (.func f) = .func (.func f) #[] #[] := fun _ => rfl
            clear hI hdep hK
            generalize a.eval = ρ at e16 ec ef ⊢
            go_simp
          · rintro e w2 ⟨rfl, hb2⟩
            exact ⟨_, rfl, hK x _ _ (hI.world.trans (hb2.mono hI.world.size)) (fun _ _ _ h => h) rfl⟩
        · intro x D a w hI hdep hD0 K hK
          have e14 : a.eval (.tmp 14) = .string (nm ++ ByteArray.mk #[32]) := hI.good 3 14 (dep_of hdep 3 rfl) rfl
          have e17 : a.eval (.tmp 17) = .string dg := hI.good 6 17 (dep_of hdep 6 rfl) rfl
          have hz1 : (nm ++ ByteArray.mk #[32]).size ≤ 22 := by rw [ByteArray.size_append]; exact Nat.add_le_add hs1 (Nat.le_refl 1)
          refine ok_value (wanted_none rfl) (v := .string (nm ++ ByteArray.mk #[32] ++ dg)) ?_ (hK x _ _ (hI.world) (fun _ _ _ h => h) rfl)
          generalize nm ++ ByteArray.mk #[32] = nb at e14 hz1 ⊢
          have ec : ∀ c, a.eval (.const c) = c := fun _ => rfl
          have ef : ∀ f, a.eval (.func f) = .func (.func f) #[] #[] := fun _ => rfl
          clear hI hdep hK
          generalize a.eval = ρ at e14 e17 ec ef ⊢
          go_simp
          omega
        · intro x D a w hI hdep hD0 K hK
          have e18 : a.eval (.tmp 18) = .string (nm ++ ByteArray.mk #[32] ++ dg) := hI.good 7 18 (dep_of hdep 7 rfl) rfl
          refine ok_value (wanted_none rfl) (v := .string (nm ++ ByteArray.mk #[32] ++ dg)) ?_ (hK x _ _ (hI.world) (fun _ _ _ h => h) rfl)
          have ec : ∀ c, a.eval (.const c) = c := fun _ => rfl
          have ef : ∀ f, a.eval (.func f) = .func (.func f) #[] #[] := fun _ => rfl
          clear hI hdep hK
          generalize a.eval = ρ at e18 ec ef ⊢
          go_simp
      · intro x D a w hI hD
        have hfr := hI.frame [(11, .pointer (some ⟨p, 0, none⟩)), (12, .int .i64 op), (13, .string nm), (14, .string (nm ++ ByteArray.mk #[32])), (15, .pointer (some ⟨p, 1, none⟩)), (16, .int .i64 a0), (17, .string dg), (18, .string (nm ++ ByteArray.mk #[32] ++ dg)), (2, .string (nm ++ ByteArray.mk #[32] ++ dg))] (all_cons (hI.good 0 11 (hD 0 (by decide)) rfl) (all_cons (hI.good 1 12 (hD 1 (by decide)) rfl) (all_cons (hI.good 2 13 (hD 2 (by decide)) rfl) (all_cons (hI.good 3 14 (hD 3 (by decide)) rfl) (all_cons (hI.good 4 15 (hD 4 (by decide)) rfl) (all_cons (hI.good 5 16 (hD 5 (by decide)) rfl) (all_cons (hI.good 6 17 (hD 6 (by decide)) rfl) (all_cons (hI.good 7 18 (hD 7 (by decide)) rfl) (all_cons (hI.good 8 2 (hD 8 (by decide)) rfl) all_nil))))))))) rfl
        have hW := hI.world
        clear hI
        subst hfr
        simp only [List.foldl_cons, List.foldl_nil, List.setIfInBounds_toArray, List.set_cons_succ, List.set_cons_zero]
        have HB2 := Lib.hid (HB.out.trans (hW.mono (Nat.le_of_lt hlp)))
        clear hW hD q0 q1
        go_wp2
        go_ret
        exact ⟨rfl, by rw [hp]; exact HB2.out⟩

set_option maxHeartbeats 1000000 in
set_option maxRecDepth 100000 in
theorem rintext_any (op a0 : Int) (h0 : -9223372036854775808 ≤ a0) (h1 : a0 ≤ 9223372036854775807) (w : World) : Calls Tryd.prog 12 #[.agg #[.int .i64 op, .int .i64 a0]] w (StrP (In.text op a0) w) := by
  have HRt := rinright_any op a0
  have HNm := rname_any op
  have HDg := fun W => rdigits_any a0 h0 h1 W
  have HOp := roperand_any op
  have hk := In.kind_in op
  have hs1 := name_size op
  have hs2 := txt_size a0 h0 h1
  clear h0 h1
  unfold In.text
  cases hr : In.right op a0 with
  | false =>
    rw [hr] at HRt
    rw [if_neg (by decide)]
    clear hr
    go_enter Tryd.func12, Tryd.ntmps12
    go_wp2_with (go_at_call 10; refine (HRt _).mono ?_; rintro _ w1 ⟨rfl, b1⟩)
    go_ret
    exact ⟨rfl, below_self ((Below.refl _ _).alloc (Nat.le_refl _) _) b1⟩
  | true =>
    rw [hr] at HRt
    rw [if_pos rfl]
    clear hr
    cases hn : In.numbered op with
    | false =>
      have hk0 : (Op.row op).operand = 0 := by unfold In.numbered In.kind at hn; simpa using hn
      rw [hk0] at HOp
      rw [if_neg (by decide)]
      clear hn hk hk0
      generalize Op.name op = nm at *
      go_enter Tryd.func12, Tryd.ntmps12
      go_wp2_with (first
        | (go_at_call 10; refine (HRt _).mono ?_; rintro _ w1 ⟨rfl, b1⟩; obtain ⟨q0, q1, hl1, B1⟩ := box_kept b1; clear b1)
        | (go_at_call 36; refine (HNm _).mono ?_; rintro _ wa ⟨rfl, he⟩; obtain rfl := he.symm)
        | (go_at_call 26; refine (HOp _).mono ?_; rintro _ wa ⟨rfl, he⟩; obtain rfl := he.symm))
      go_ret
      exact ⟨rfl, B1⟩
    | true =>
      have hk0 : 0 < (Op.row op).operand := by
        unfold In.kind at hk
        have : (Op.row op).operand ≠ 0 := by unfold In.numbered In.kind at hn; simpa using hn
        omega
      rw [if_pos rfl]
      clear hn hk
      generalize (Op.row op).operand = k at *
      generalize Op.name op = nm at *
      generalize In.txt a0 = dg at *
      go_enter Tryd.func12, Tryd.ntmps12
      go_wp2_with (first
        | (go_at_call 10; refine (HRt _).mono ?_; rintro _ w1 ⟨rfl, b1⟩; obtain ⟨q0, q1, hl1, B1⟩ := box_kept b1; clear b1)
        | (go_at_call 36; refine (HNm _).mono ?_; rintro _ wa ⟨rfl, he⟩; obtain rfl := he.symm)
        | (go_at_call 26; refine (HOp _).mono ?_; rintro _ wa ⟨rfl, he⟩; obtain rfl := he.symm)
        | (go_at_call 25; refine (HDg _).mono ?_; rintro _ w3 ⟨rfl, b3⟩))
      go_ret
      exact ⟨rfl, below_self B1 b3⟩
end Go.Proofs.YtipeefmmnfbcoaaDoor
