/-
  What instr.Number and the document's Number tell of any text. Conditions: the text is shorter than 2^48; the library's variables are laid.
-/
import Derived.Test.YtipeefmmnfbcoaaDoorInD
import Derived.Lib.SlicesS
import Derived.WalkSmall
namespace Go.Proofs.YtipeefmmnfbcoaaDoor
open Go.RowKit

theorem retNum {s : ByteArray} {a b : Int} {e : Nat} (h : In.num s = (a, e)) (hb : b = (e : Int) := by rfl) : Ending.returned (.tuple #[.int .i64 a, .int .i64 b]) = .returned (.tuple #[.int .i64 (In.num s).1, .int .i64 ((In.num s).2 : Int)]) := by rw [h, hb]

/-- A number, and an error. -/
def NumP (s : ByteArray) (w : World) (e : Ending) (w' : World) : Prop := e = .returned (.tuple #[.int .i64 (In.num s).1, .int .i64 ((In.num s).2 : Int)]) ∧ Below w.heap.size w w'

theorem num_of_ok {s : ByteArray} {v : Int} (h : Lib.atoiAll s.data.toList = .ok v) : In.num s = if In.txt v = s then (v, 0) else (0, 5) := by
  unfold In.num
  rw [h]
theorem num_of_err {s : ByteArray} (h : ∀ v, Lib.atoiAll s.data.toList ≠ .ok v) : In.num s = (0, 5) := by
  unfold In.num
  split
  · rename_i v hv; exact absurd hv (h v)
  · rfl

set_option maxHeartbeats 1000000 in
set_option maxRecDepth 100000 in
theorem innumber_any (s : ByteArray) (hs : s.size ≤ 281474976710656) (w : World) (h : Glob w) : Calls Tryd.prog 22 #[.string s] w (NumP s w) := by
  have HA := atoi_any s hs w h
  have HGl := Lib.hid h
  clear h hs
  go_enter Tryd.func22, Tryd.ntmps22
  go_wp2_with fail
  refine HA.mono ?_
  rintro _ w1 ⟨⟨v, hv, rfl⟩ | ⟨x, t, p, hv, rfl⟩, b1⟩
  · have hb := Lib.atoiAll_bounds hv
    have HD := fun W hW => indigits_any v hb.1 hb.2 W hW
    have HN := Lib.hid (num_of_ok hv)
    have HG1 := Lib.hid (HGl.out.below b1)
    clear hv hb HA
    generalize hdd : In.txt v = d at HD HN
    have HDD := Lib.hid hdd
    clear hdd
    by_cases he : d = s
    · have hc1 : (d.toList == s.toList) = true := by rw [he]; exact beq_self_eq_true _
      have hc2 : (d.toList != s.toList) = false := by rw [he]; exact bne_self_eq_false _
      have HB := Lib.hid (HN.out.trans (if_pos he))
      clear HN he
      go_wp2_with (go_at_call 24; refine (HD _ HG1.out).mono ?_; rintro _ w2 ⟨rfl, b2⟩)
      go_ret2
      exact ⟨retNum HB.out, below_self b1 b2⟩
    · have hc1 : (d.toList == s.toList) = false := (Lib.bytes_beq_false_iff _ _).2 he
      have hc2 : (d.toList != s.toList) = true := by unfold bne; rw [hc1]; rfl
      have HB := Lib.hid (HN.out.trans (if_neg he))
      clear HN he
      go_wp2_with (go_at_call 24; refine (HD _ HG1.out).mono ?_; rintro _ w2 ⟨rfl, b2⟩)
      go_ret2
      exact ⟨retNum HB.out, below_self b1 b2⟩
  · have HB := Lib.hid (num_of_err hv)
    clear hv HA
    go_wp2
    go_ret2
    exact ⟨retNum HB.out, b1⟩

/-- The next digit. -/
theorem dfold_next (b : Bool) (f : Nat) (s : ByteArray) (p : Nat) (hp : p < s.size) (hf : f ≤ p) :
    wrap64 (wrap64 (10 * In.dfold b ((s.data.toList.take p).drop f)) + (if b then -((s[p].toNat : Int) - 48) else (s[p].toNat : Int) - 48)) = In.dfold b ((s.data.toList.take (p + 1)).drop f) := by
  have hp' : p < s.data.toList.length := by rw [← Lib.size_eq]; exact hp
  rw [List.take_succ_eq_append_getElem hp', List.drop_append_of_le_length (by rw [List.length_take]; omega), In.dfold_snoc]
  rfl

theorem dfold_nextT (f : Nat) (s : ByteArray) (p : Nat) (hp : p < s.size) (hf : f ≤ p) :
    wrap64 (wrap64 (10 * In.dfold true ((s.data.toList.take p).drop f)) - ((s[p].toNat : Int) - 48)) = In.dfold true ((s.data.toList.take (p + 1)).drop f) := by
  rw [Int.sub_eq_add_neg]
  exact dfold_next true f s p hp hf
theorem dfold_nextF (f : Nat) (s : ByteArray) (p : Nat) (hp : p < s.size) (hf : f ≤ p) :
    wrap64 (wrap64 (10 * In.dfold false ((s.data.toList.take p).drop f)) + ((s[p].toNat : Int) - 48)) = In.dfold false ((s.data.toList.take (p + 1)).drop f) := dfold_next false f s p hp hf

theorem take_22 {s : ByteArray} {p : Nat} (h1 : p ≤ s.size) (h2 : p ≤ 22) (h3 : s.size ≤ p ∨ 22 ≤ p) : s.data.toList.take p = s.data.toList.take 22 := by
  rcases h3 with h | h
  · rw [List.take_of_length_le (by rw [← Lib.size_eq]; exact h), List.take_of_length_le (by rw [← Lib.size_eq]; omega)]
  · rw [show p = 22 by omega]

theorem neg_at {s : ByteArray} (h : 0 < s.size) : In.neg s.data.toList = decide (s[0].toNat = 45) := by
  have h' : 0 < s.data.toList.length := by rw [← Lib.size_eq]; exact h
  unfold In.neg
  rw [List.head?_eq_getElem?, List.getElem?_eq_getElem h']
  have e : s.data.toList[0] = s[0] := rfl
  rw [e, Bool.eq_iff_iff]
  simp only [beq_iff_eq, Option.some.injEq, decide_eq_true_eq]
  constructor
  · intro h; rw [h]; rfl
  · intro h; exact UInt8.toNat_inj.1 h

set_option maxHeartbeats 4000000 in
set_option maxRecDepth 100000 in
theorem rnumber_any (s : ByteArray) (hs : s.size ≤ 9223372036854775807) (w : World) : Calls Tryd.prog 23 #[.string s] w (NumP s w) := by
  by_cases h0 : s.size = 0
  · have hd0 : decide (0 < (s.size : Int)) = false := decide_eq_false (by omega)
    have hq : ((s.size : Int) == 0) = true := by rw [beq_iff_eq]; omega
    have HB : Hid (In.num s = (0, 5)) := Lib.hid (In.num_short (by
      have : s.data.toList = [] := List.eq_nil_of_length_eq_zero (by rw [← Lib.size_eq]; exact h0)
      rw [this]
      rfl))
    clear h0
    go_enter Tryd.func23, Tryd.ntmps23
    go_wp2
    go_loopw [4, 6] (fun n i wr => n = .int .i64 0 ∧ i = .int .i64 0 ∧ wr = w) (fun _ _ _ => 0)
    case atStart => exact ⟨rfl, rfl, rfl⟩
    case round =>
      obtain ⟨rfl, rfl, rfl⟩ := hrel
      go_wp2
      go_ret2
      exact ⟨retNum HB.out, Below.refl _ _⟩
  have hd0 : 0 < (s.size : Int) := by omega
  have hn := neg_at (s := s) (by omega)
  by_cases h45 : s[0].toNat = 45
  · have hm : ((s[0].toNat : Int) == 45) = true := by rw [h45]; rfl
    have HG : Hid (In.neg s.data.toList = true) := Lib.hid (by rw [hn, h45]; rfl)
    have HF : Hid (In.from_ s.data.toList = 1) := Lib.hid (by unfold In.from_; rw [HG.out]; rfl)
    clear hn h45
    go_enter Tryd.func23, Tryd.ntmps23
    go_wp2
    go_loopw [4, 6] (fun n i wr => ∃ (p : Nat) (z : Int), 1 ≤ p ∧ p ≤ s.size ∧ p ≤ 22 ∧ n = .int .i64 z ∧ i = .int .i64 (p : Int) ∧ Hid (z = In.dfold true ((s.data.toList.take p).drop 1)) ∧ wr = w) (fun _ i _ => 22 - (intOf i).toNat)
    case atStart => exact ⟨1, 0, by omega, by omega, by omega, rfl, rfl, Lib.hid (by cases s.data.toList <;> rfl), rfl⟩
    case round =>
      obtain ⟨p, z, hp1, hp2, hp3, rfl, rfl, HZ, rfl⟩ := hrel
      by_cases hend : p < s.size ∧ p < 22
      · obtain ⟨hl, h22⟩ := hend
        have hl1 : (p : Int) < (s.size : Int) := by omega
        have h221 : (p : Int) < 22 := by omega
        have hby := Op.byte_eq s p hl
        have HY := Lib.hid hby
        clear hby
        by_cases hdig : 48 ≤ s[p].toNat ∧ s[p].toNat ≤ 57
        · have h48 : decide ((s[p].toNat : Int) < 48) = false := decide_eq_false (by omega)
          have h57 : decide (57 < (s[p].toNat : Int)) = false := decide_eq_false (by omega)
          have g1 : 48 ≤ (s[p].toNat : Int) := by omega
          have g2 : (s[p].toNat : Int) ≤ 57 := by omega
          have HS := Lib.hid (dfold_nextT 1 s p hl hp1)
          rw [← HZ.out] at HS
          clear hdig HY
          go_wp2
          go_roundw
          case rel => exact ⟨p + 1, _, by omega, by omega, by omega, rfl, by go_num, HS, trivial⟩
          case measure => simp [intOf]; omega
        · have HB : Hid (In.num s = (0, 5)) := Lib.hid (In.num_bad (i := p) (by rw [HF.out]; omega) (by rw [← Lib.size_eq]; exact hl) (by have := HY.out; unfold Op.byte at this; omega))
          clear HY HZ
          by_cases hlo : s[p].toNat < 48
          · have h48 : (s[p].toNat : Int) < 48 := by omega
            clear hdig
            go_wp2
            go_ret2
            exact ⟨retNum HB.out, Below.refl _ _⟩
          · have h48 : decide ((s[p].toNat : Int) < 48) = false := decide_eq_false (by omega)
            have h57 : 57 < (s[p].toNat : Int) := by omega
            clear hdig
            go_wp2
            go_ret2
            exact ⟨retNum HB.out, Below.refl _ _⟩
      · have HE : Hid (z = In.dfold (In.neg s.data.toList) ((s.data.toList.take 22).drop (In.from_ s.data.toList))) := Lib.hid (by
          rw [HZ.out, HG.out, HF.out, take_22 (p := p) (s := s) (by omega) (by omega) (by omega)])
        have hz := In.dfold_in (In.neg s.data.toList) ((s.data.toList.take 22).drop (In.from_ s.data.toList))
        rw [← HE.out] at hz
        have hd1 : (decide ((p : Int) < (s.size : Int)) && decide ((p : Int) < 22)) = false := by
          rw [Bool.eq_false_iff]
          intro h
          rw [Bool.and_eq_true] at h
          have h1 := of_decide_eq_true h.1
          have h2 := of_decide_eq_true h.2
          exact hend ⟨by omega, by omega⟩
        have HD := fun W => rdigits_any z hz.1 hz.2 W
        have HN := Lib.hid (In.num_fold HE.out)
        have HSh : Hid (s.size = 1 → In.num s = (0, 5)) := Lib.hid (fun h => In.num_short (by rw [← Lib.size_eq, HF.out]; exact h))
        clear HE HZ hz
        by_cases hsz : s.size = 1
        · have hq : ((s.size : Int) == 1) = true := by rw [beq_iff_eq]; omega
          have HB := Lib.hid (HSh.out hsz)
          by_cases hpl : (p : Int) < (s.size : Int)
          · have h22 : decide ((p : Int) < 22) = false := decide_eq_false (by omega)
            have hplN : p < s.size := by omega
            clear hsz hend hd1
            go_wp2
            go_ret2
            exact ⟨retNum HB.out, Below.refl _ _⟩
          · have hpl' : decide ((p : Int) < (s.size : Int)) = false := decide_eq_false hpl
            have hplN : decide (p < s.size) = false := decide_eq_false (by omega)
            clear hsz hend hd1 hpl
            go_wp2
            go_ret2
            exact ⟨retNum HB.out, Below.refl _ _⟩
        · have hq : ((s.size : Int) == 1) = false := by rw [beq_eq_false_iff_ne]; omega
          have hlt : p < s.size ∧ decide ((p : Int) < 22) = false ∨ decide (p < s.size) = false := by
            by_cases h : p < s.size
            · exact .inl ⟨h, decide_eq_false (by omega)⟩
            · exact .inr (decide_eq_false h)
          clear hsz HSh hend hd1
          generalize hdd : In.txt z = d at HD HN
          have HDD := Lib.hid hdd
          clear hdd
          by_cases he : d = s
          · have hc1 : (d.toList == s.toList) = true := by rw [he]; exact beq_self_eq_true _
            have hc2 : (d.toList != s.toList) = false := by rw [he]; exact bne_self_eq_false _
            have HB := Lib.hid (HN.out.trans (if_pos he))
            clear HN he
            rcases hlt with ⟨ha, hb⟩ | ha
            all_goals
              go_wp2_with (go_at_call 25; refine (HD _).mono ?_; rintro _ w1 ⟨rfl, b1⟩)
              go_ret2
              exact ⟨retNum HB.out, b1⟩
          · have hc1 : (d.toList == s.toList) = false := (Lib.bytes_beq_false_iff _ _).2 he
            have hc2 : (d.toList != s.toList) = true := by unfold bne; rw [hc1]; rfl
            have HB := Lib.hid (HN.out.trans (if_neg he))
            clear HN he
            rcases hlt with ⟨ha, hb⟩ | ha
            all_goals
              go_wp2_with (go_at_call 25; refine (HD _).mono ?_; rintro _ w1 ⟨rfl, b1⟩)
              go_ret2
              exact ⟨retNum HB.out, b1⟩
  · have hm : ((s[0].toNat : Int) == 45) = false := by rw [beq_eq_false_iff_ne]; omega
    have HG : Hid (In.neg s.data.toList = false) := Lib.hid (by rw [hn]; exact decide_eq_false h45)
    have HF : Hid (In.from_ s.data.toList = 0) := Lib.hid (by unfold In.from_; rw [HG.out]; rfl)
    clear hn h45
    go_enter Tryd.func23, Tryd.ntmps23
    go_wp2
    go_loopw [4, 6] (fun n i wr => ∃ (p : Nat) (z : Int), 0 ≤ p ∧ p ≤ s.size ∧ p ≤ 22 ∧ n = .int .i64 z ∧ i = .int .i64 (p : Int) ∧ Hid (z = In.dfold false ((s.data.toList.take p).drop 0)) ∧ wr = w) (fun _ i _ => 22 - (intOf i).toNat)
    case atStart => exact ⟨0, 0, by omega, by omega, by omega, rfl, rfl, Lib.hid (by rfl), rfl⟩
    case round =>
      obtain ⟨p, z, hp1, hp2, hp3, rfl, rfl, HZ, rfl⟩ := hrel
      by_cases hend : p < s.size ∧ p < 22
      · obtain ⟨hl, h22⟩ := hend
        have hl1 : (p : Int) < (s.size : Int) := by omega
        have h221 : (p : Int) < 22 := by omega
        have hby := Op.byte_eq s p hl
        have HY := Lib.hid hby
        clear hby
        by_cases hdig : 48 ≤ s[p].toNat ∧ s[p].toNat ≤ 57
        · have h48 : decide ((s[p].toNat : Int) < 48) = false := decide_eq_false (by omega)
          have h57 : decide (57 < (s[p].toNat : Int)) = false := decide_eq_false (by omega)
          have g1 : 48 ≤ (s[p].toNat : Int) := by omega
          have g2 : (s[p].toNat : Int) ≤ 57 := by omega
          have HS := Lib.hid (dfold_nextF 0 s p hl hp1)
          rw [← HZ.out] at HS
          clear hdig HY
          go_wp2
          go_roundw
          case rel => exact ⟨p + 1, _, by omega, by omega, by omega, rfl, by go_num, HS, trivial⟩
          case measure => simp [intOf]; omega
        · have HB : Hid (In.num s = (0, 5)) := Lib.hid (In.num_bad (i := p) (by rw [HF.out]; omega) (by rw [← Lib.size_eq]; exact hl) (by have := HY.out; unfold Op.byte at this; omega))
          clear HY HZ
          by_cases hlo : s[p].toNat < 48
          · have h48 : (s[p].toNat : Int) < 48 := by omega
            clear hdig
            go_wp2
            go_ret2
            exact ⟨retNum HB.out, Below.refl _ _⟩
          · have h48 : decide ((s[p].toNat : Int) < 48) = false := decide_eq_false (by omega)
            have h57 : 57 < (s[p].toNat : Int) := by omega
            clear hdig
            go_wp2
            go_ret2
            exact ⟨retNum HB.out, Below.refl _ _⟩
      · have HE : Hid (z = In.dfold (In.neg s.data.toList) ((s.data.toList.take 22).drop (In.from_ s.data.toList))) := Lib.hid (by
          rw [HZ.out, HG.out, HF.out, take_22 (p := p) (s := s) (by omega) (by omega) (by omega)])
        have hz := In.dfold_in (In.neg s.data.toList) ((s.data.toList.take 22).drop (In.from_ s.data.toList))
        rw [← HE.out] at hz
        have hd1 : (decide ((p : Int) < (s.size : Int)) && decide ((p : Int) < 22)) = false := by
          rw [Bool.eq_false_iff]
          intro h
          rw [Bool.and_eq_true] at h
          have h1 := of_decide_eq_true h.1
          have h2 := of_decide_eq_true h.2
          exact hend ⟨by omega, by omega⟩
        have HD := fun W => rdigits_any z hz.1 hz.2 W
        have HN := Lib.hid (In.num_fold HE.out)
        have HSh : Hid (s.size = 0 → In.num s = (0, 5)) := Lib.hid (fun h => In.num_short (by rw [← Lib.size_eq, HF.out]; exact h))
        clear HE HZ hz
        by_cases hsz : s.size = 0
        · have hq : ((s.size : Int) == 0) = true := by rw [beq_iff_eq]; omega
          have HB := Lib.hid (HSh.out hsz)
          by_cases hpl : (p : Int) < (s.size : Int)
          · have h22 : decide ((p : Int) < 22) = false := decide_eq_false (by omega)
            have hplN : p < s.size := by omega
            clear hsz hend hd1
            go_wp2
            go_ret2
            exact ⟨retNum HB.out, Below.refl _ _⟩
          · have hpl' : decide ((p : Int) < (s.size : Int)) = false := decide_eq_false hpl
            have hplN : decide (p < s.size) = false := decide_eq_false (by omega)
            clear hsz hend hd1 hpl
            go_wp2
            go_ret2
            exact ⟨retNum HB.out, Below.refl _ _⟩
        · have hq : ((s.size : Int) == 0) = false := by rw [beq_eq_false_iff_ne]; omega
          have hlt : p < s.size ∧ decide ((p : Int) < 22) = false ∨ decide (p < s.size) = false := by
            by_cases h : p < s.size
            · exact .inl ⟨h, decide_eq_false (by omega)⟩
            · exact .inr (decide_eq_false h)
          clear hsz HSh hend hd1
          generalize hdd : In.txt z = d at HD HN
          have HDD := Lib.hid hdd
          clear hdd
          by_cases he : d = s
          · have hc1 : (d.toList == s.toList) = true := by rw [he]; exact beq_self_eq_true _
            have hc2 : (d.toList != s.toList) = false := by rw [he]; exact bne_self_eq_false _
            have HB := Lib.hid (HN.out.trans (if_pos he))
            clear HN he
            rcases hlt with ⟨ha, hb⟩ | ha
            all_goals
              go_wp2_with (go_at_call 25; refine (HD _).mono ?_; rintro _ w1 ⟨rfl, b1⟩)
              go_ret2
              exact ⟨retNum HB.out, b1⟩
          · have hc1 : (d.toList == s.toList) = false := (Lib.bytes_beq_false_iff _ _).2 he
            have hc2 : (d.toList != s.toList) = true := by unfold bne; rw [hc1]; rfl
            have HB := Lib.hid (HN.out.trans (if_neg he))
            clear HN he
            rcases hlt with ⟨ha, hb⟩ | ha
            all_goals
              go_wp2_with (go_at_call 25; refine (HD _).mono ?_; rintro _ w1 ⟨rfl, b1⟩)
              go_ret2
              exact ⟨retNum HB.out, b1⟩
end Go.Proofs.YtipeefmmnfbcoaaDoor
