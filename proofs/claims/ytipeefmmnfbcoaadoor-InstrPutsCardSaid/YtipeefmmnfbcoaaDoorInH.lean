/-
  What the document's Read tells of any text. Conditions: the text's length fits.
-/
import Derived.Test.YtipeefmmnfbcoaaDoorInG
namespace Go.Proofs.YtipeefmmnfbcoaaDoor
open Go.RowKit

namespace In
theorem at_lt {s : ByteArray} {p : Nat} (h : p < at_ s) (hp : p < s.size) : ¬ s[p].toNat = 32 := by
  have hp' : p < s.data.toList.length := by rw [← Lib.size_eq]; exact hp
  have := List.not_of_lt_findIdx (xs := s.data.toList) (p := (· == 32)) (i := p) h
  intro e
  have e2 : s.data.toList[p] = s[p] := rfl
  simp only [e2] at this
  rw [beq_eq_false_iff_ne] at this
  exact this (UInt8.toNat_inj.1 e)
theorem at_hit {s : ByteArray} (hp : at_ s < s.size) : (s[at_ s]'hp).toNat = 32 := by
  have hp' : s.data.toList.findIdx (· == 32) < s.data.toList.length := by rw [← Lib.size_eq]; exact hp
  have := List.findIdx_getElem (w := hp')
  simp only [beq_iff_eq] at this
  have e2 : s.data.toList[s.data.toList.findIdx (· == 32)] = s[at_ s]'hp := rfl
  rw [← e2, this]
  rfl
end In

set_option maxHeartbeats 8000000 in
set_option maxRecDepth 100000 in
theorem rinread_any (s : ByteArray) (hs : s.size < 4294967281) (w : World) : Calls Tryd.prog 21 #[.string s] w (ReadP s w) := by
  have R0 := Lib.hid (Ins.new w 0 0)
  have B0 := Lib.hid ((Below.refl w.heap.size w).alloc (Nat.le_refl _) (.cells #[.int .i64 0, .int .i64 0] 24))
  have hal := In.at_le s
  obtain ⟨q, hq⟩ : ∃ q, In.at_ s = q := ⟨_, rfl⟩
  have HQ := Lib.hid hq
  rw [hq] at hal
  clear hq
  go_enter Tryd.func21, Tryd.ntmps21
  go_wp2
  go_loopw [4] (fun i wr => ∃ p : Nat, p ≤ q ∧ i = .int .i64 (p : Int) ∧ wr = w.alloc (.cells #[.int .i64 0, .int .i64 0] 24)) (fun i _ => s.size - (intOf i).toNat)
  case atStart => exact ⟨0, by omega, rfl, rfl⟩
  case round =>
    obtain ⟨p, hp, rfl, rfl⟩ := hrel
    by_cases hlt : p < q
    · have hps : p < s.size := by omega
      have hn := In.at_lt (s := s) (p := p) (by rw [HQ.out]; exact hlt) hps
      have hd : (((s[p]'hps).toNat : Int) != 32) = true := by rw [bne_iff_ne]; omega
      clear hn
      go_wp2
      go_roundw
      case rel => exact ⟨p + 1, by omega, by go_num, by trivial⟩
      case measure => simp [intOf]; omega
    · obtain rfl : p = q := by omega
      clear hlt hp
      obtain ⟨op, ok, hf⟩ : ∃ op ok, Op.find (In.head s) = (op, ok) := ⟨_, _, rfl⟩
      have HF := ropfind_any (In.head s)
      rw [hf] at HF
      dsimp only at HF
      have HFd := Lib.hid hf
      clear hf
      have hhd : In.head s = s.extract 0 p := by unfold In.head; rw [HQ.out]
      rw [hhd] at HF
      have HHd := Lib.hid hhd
      clear hhd
      have HTl : Hid (In.tail s = s.extract (p + 1) s.size) := Lib.hid (by unfold In.tail; rw [HQ.out])
      have HM : Hid (In.more s = decide (p < s.size)) := Lib.hid (by unfold In.more; rw [HQ.out])
      have hHit := fun h : p < s.size => (show (s[p]'h).toNat = 32 from by
        have := In.at_hit (s := s) (by rw [HQ.out]; exact h)
        simpa only [HQ.out] using this)
      have HHit := Lib.hid hHit
      clear hHit HQ
      generalize w.alloc (.cells #[.int .i64 0, .int .i64 0] 24) = w1 at *
      have x0 := R0.out.c0
      have x1 := R0.out.c1
      have f0 := R0.out.f 0
      have f1 := R0.out.f 1
      have HOp := roperand_any op
      have hkn : In.numbered op = decide ((Op.row op).operand ≠ 0) := rfl
      generalize (Op.row op).operand = k at HOp hkn
      have I2 := Lib.hid (Ins.new w1 op 0)
      have Q2 := Lib.hid (R0.out.alloc (.cells #[.int .i64 op, .int .i64 0] 24))
      have B2 := Lib.hid (below_self B0.out ((Below.refl w1.heap.size w1).alloc (Nat.le_refl _) (.cells #[.int .i64 op, .int .i64 0] 24)))
      have p0 := Q2.out.c0
      have p1 := Q2.out.c1
      have g0 := Q2.out.f 0
      have g1 := Q2.out.f 1
      by_cases hps : p < s.size
      · have hd : (((s[p]'hps).toNat : Int) != 32) = false := by rw [HHit.out hps]; rfl
        have hm : In.more s = true := by rw [HM.out]; exact decide_eq_true hps
        have HMt := Lib.hid hm
        clear hm HM HHit
        cases ok with
        | false =>
          have HR := Lib.hid (In.read_op HFd.out)
          clear hkn p0 p1 g0 g1
          go_wp2_with (go_at_call 47; refine (HF _).mono ?_; rintro _ wa ⟨rfl, he⟩; obtain rfl := he.symm)
          exact bodyPost_ret (v := .tuple #[.agg #[.int .i64 0, .int .i64 0], .int .i64 8]) (by simp [results, Tryd.results21, go_sem, x0, x1]) rfl ⟨retRead HR.out, (B0.out.setCell (by simp) _).setCell (by simp) _⟩
        | true =>
          by_cases hk : k = 0
          · have HR := Lib.hid (In.read_form HFd.out (by rw [HMt.out, hkn, hk]; decide))
            subst hk
            clear hkn
            go_wp2_with (first
              | (go_at_call 47; refine (HF _).mono ?_; rintro _ wa ⟨rfl, he⟩; obtain rfl := he.symm)
              | (go_at_call 26; refine (HOp _).mono ?_; rintro _ wa ⟨rfl, he⟩; obtain rfl := he.symm))
            exact bodyPost_ret (v := .tuple #[.agg #[.int .i64 0, .int .i64 0], .int .i64 5]) (by simp [results, Tryd.results21, go_sem, p0, p1]) rfl ⟨retRead HR.out, (B2.out.setCell (by simp) _).setCell (by simp) _⟩
          · have hkb : (k == 0) = false := beq_eq_false_iff_ne.2 hk
            have hqb : ((p : Int) == (s.size : Int)) = false := by rw [beq_eq_false_iff_ne]; omega
            have HNb : Hid (In.numbered op = true) := Lib.hid (by rw [hkn]; exact decide_eq_true hk)
            clear hkn hk
            obtain ⟨tl, htl⟩ : ∃ t, s.extract (p + 1) s.size = t := ⟨_, rfl⟩
            have htz : tl.size ≤ 9223372036854775807 := by rw [← htl, ByteArray.size_extract]; omega
            rw [htl] at HTl
            obtain ⟨n, er, hx⟩ : ∃ n er, In.num tl = (n, er) := ⟨_, _, rfl⟩
            have HNum := rnumber_any tl htz
            unfold NumP at HNum
            rw [hx] at HNum
            dsimp only at HNum
            have HX : Hid (In.num (In.tail s) = (n, er)) := Lib.hid (by rw [HTl.out]; exact hx)
            have hex : ∀ W, (Instr.slice 9 (.string s) (some (.int .i64 ((p : Int) + 1))) none none).run Tryd.prog W = .ok (.string tl) W := by
              intro W
              rw [← htl, run_slice_string_l (P := Tryd.prog) (s := s) (w := W) (t := 9) Tryd.underlying9 .i64 ((p : Int) + 1) (by omega) (by omega)]
              congr 2
            clear hx htz htl
            go_wp2_with (first
              | (go_at_call 47; refine (HF _).mono ?_; rintro _ wa ⟨rfl, he⟩; obtain rfl := he.symm)
              | (go_at_call 26; refine (HOp _).mono ?_; rintro _ wa ⟨rfl, he⟩; obtain rfl := he.symm))
            refine (HNum _).mono ?_
            rintro _ w4 ⟨rfl, b4⟩
            have R4 := Q2.out.on b4
            have I4 := I2.out.on b4
            have B4 := Lib.hid (below_self B2.out b4)
            have HL : Hid (w.heap.size < w1.heap.size) := Lib.hid R0.out.lt
            have HS1 : Hid (w.heap.size ≤ w1.heap.size) := Lib.hid B0.out.size
            clear b4 HNum p0 p1 g0 g1 x0 x1 f0 f1
            by_cases he : er = 0
            · subst he
              have HI5 := Lib.hid (I4.set1 n)
              have HR5 : Hid (Ins (w4.setCell ⟨w1.heap.size, 1, none⟩ (.int .i64 n)) w.heap.size 0 0) := Lib.hid (R4.below (((Below.refl w1.heap.size w4).setCell (p := ⟨w1.heap.size, 1, none⟩) (Nat.le_refl _) (.int .i64 n))) HL.out)
              have B5 := Lib.hid (B4.out.setCell (p := ⟨w1.heap.size, 1, none⟩) HS1.out (.int .i64 n))
              have y1 := I4.c1
              have g1 := I4.f 1
              have HRt := rinright_any op n
              obtain ⟨r, hr⟩ : ∃ r, In.right op n = r := ⟨_, rfl⟩
              rw [hr] at HRt
              have HRr := Lib.hid hr
              clear hr R4
              have J5 := HI5.out.c0
              have J6 := HI5.out.c1
              go_wp2_with fail
              refine (HRt _).mono ?_
              rintro _ w5 ⟨rfl, b5⟩
              have R5 := HR5.out.on b5
              have I5 := HI5.out.on b5
              have x0 := R5.c0
              have x1 := R5.c1
              have f0 := R5.f 0
              have f1 := R5.f 1
              have z0 := I5.c0
              have z1 := I5.c1
              have B6 := Lib.hid (below_self B5.out b5)
              clear b5 R5 I5 y1 g1 J5 J6 I4
              cases r with
              | false =>
                have HR := Lib.hid (In.read_arg HFd.out HMt.out HNb.out HX.out HRr.out)
                go_wp2
                exact bodyPost_ret (v := .tuple #[.agg #[.int .i64 0, .int .i64 0], .int .i64 2]) (by simp [results, Tryd.results21, go_sem, x0, x1]) rfl ⟨retRead HR.out, (B6.out.setCell (by simp) _).setCell (by simp) _⟩
              | true =>
                have HR := Lib.hid (In.read_both HFd.out HMt.out HNb.out HX.out HRr.out)
                go_wp2
                exact bodyPost_ret (v := .tuple #[.agg #[.int .i64 op, .int .i64 n], .int .i64 0]) (by simp [results, Tryd.results21, go_sem, x0, x1]) rfl ⟨retRead HR.out, (B6.out.setCell (by simp) _).setCell (by simp) _⟩
            · have HR := Lib.hid (In.read_num HFd.out HMt.out HNb.out HX.out he)
              have hb : ((er : Int) != 0) = true := by rw [bne_iff_ne]; omega
              have x0 := R4.c0
              have x1 := R4.c1
              have f0 := R4.f 0
              have f1 := R4.f 1
              clear R4 I4 he
              go_wp2
              exact bodyPost_ret (v := .tuple #[.agg #[.int .i64 0, .int .i64 0], .int .i64 (er : Int)]) (by simp [results, Tryd.results21, go_sem, x0, x1]) rfl ⟨retRead HR.out, (B4.out.setCell (by simp) _).setCell (by simp) _⟩
      · have hpn : decide (p < s.size) = false := decide_eq_false hps
        have hqb : ((p : Int) == (s.size : Int)) = true := by rw [beq_iff_eq]; omega
        have hm : In.more s = false := by rw [HM.out]; exact decide_eq_false hps
        have HMt := Lib.hid hm
        clear hm HM HHit hps
        cases ok with
        | false =>
          have HR := Lib.hid (In.read_op HFd.out)
          clear hkn p0 p1 g0 g1
          go_wp2_with (go_at_call 47; refine (HF _).mono ?_; rintro _ wa ⟨rfl, he⟩; obtain rfl := he.symm)
          exact bodyPost_ret (v := .tuple #[.agg #[.int .i64 0, .int .i64 0], .int .i64 8]) (by simp [results, Tryd.results21, go_sem, x0, x1]) rfl ⟨retRead HR.out, (B0.out.setCell (by simp) _).setCell (by simp) _⟩
        | true =>
          by_cases hk : k = 0
          · have HR := Lib.hid (In.read_bare HFd.out HMt.out (by rw [hkn, hk]; decide))
            subst hk
            clear hkn
            go_wp2_with (first
              | (go_at_call 47; refine (HF _).mono ?_; rintro _ wa ⟨rfl, he⟩; obtain rfl := he.symm)
              | (go_at_call 26; refine (HOp _).mono ?_; rintro _ wa ⟨rfl, he⟩; obtain rfl := he.symm))
            exact bodyPost_ret (v := .tuple #[.agg #[.int .i64 op, .int .i64 0], .int .i64 0]) (by simp [results, Tryd.results21, go_sem, p0, p1]) rfl ⟨retRead HR.out, (B2.out.setCell (by simp) _).setCell (by simp) _⟩
          · have HR := Lib.hid (In.read_form HFd.out (by rw [HMt.out, hkn, decide_eq_true hk]; decide))
            have hkb : (k == 0) = false := beq_eq_false_iff_ne.2 hk
            clear hkn hk
            go_wp2_with (first
              | (go_at_call 47; refine (HF _).mono ?_; rintro _ wa ⟨rfl, he⟩; obtain rfl := he.symm)
              | (go_at_call 26; refine (HOp _).mono ?_; rintro _ wa ⟨rfl, he⟩; obtain rfl := he.symm))
            exact bodyPost_ret (v := .tuple #[.agg #[.int .i64 0, .int .i64 0], .int .i64 5]) (by simp [results, Tryd.results21, go_sem, p0, p1]) rfl ⟨retRead HR.out, (B2.out.setCell (by simp) _).setCell (by simp) _⟩
end Go.Proofs.YtipeefmmnfbcoaaDoor
