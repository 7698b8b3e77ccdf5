/-
  What the document's Name and Find tell. Conditions: none.
-/
import Derived.Test.YtipeefmmnfbcoaaDoorOpScan
import Derived.Lib.SlicesS
import Derived.WalkSmall
namespace Go.Proofs.YtipeefmmnfbcoaaDoor
open Go.RowKit

/-- Between two rounds. -/
def WdRel (op : Int) (w : World) (f k i : Value) (wr : World) : Prop :=
  ∃ (p : Nat) (x : Op.Scan), p ≤ 176 ∧ Op.scan Op.words 32 p = x ∧ f = .int .i64 (x.start : Int) ∧ k = .int .i64 (x.k : Int) ∧ i = .int .i64 (p : Int) ∧ (x.k : Int) ≤ op ∧ wr = w

theorem rname_low (op : Int) (h : op < 0) (w : World) : Calls Tryd.prog 36 #[.int .i64 op] w fun e w' => e = .returned (.string ⟨#[]⟩) ∧ w' = w := by
  have d0 : decide (op < 0) = true := decide_eq_true h
  go_enter Tryd.func36, Tryd.ntmps36
  go_wp2
  go_ret
  exact ⟨rfl, rfl⟩
theorem rname_high (op : Int) (h : 35 ≤ op) (w : World) : Calls Tryd.prog 36 #[.int .i64 op] w fun e w' => e = .returned (.string ⟨#[]⟩) ∧ w' = w := by
  have d0 : decide (op < 0) = false := decide_eq_false (by omega)
  have d1 : decide (35 ≤ op) = true := decide_eq_true h
  go_enter Tryd.func36, Tryd.ntmps36
  go_wp2
  go_ret
  exact ⟨rfl, rfl⟩

set_option maxRecDepth 100000 in
set_option maxHeartbeats 4000000 in
theorem rname_in (op : Int) (h0 : 0 ≤ op) (h1 : op < 35) (w : World) : Calls Tryd.prog 36 #[.int .i64 op] w fun e w' => e = .returned (.string (Op.name op)) ∧ w' = w := by
  have d0 : decide (op < 0) = false := decide_eq_false (by omega)
  have d1 : decide (35 ≤ op) = false := decide_eq_false (by omega)
  have hsz : Op.words.size = 176 := Op.words_size
  go_enter Tryd.func36, Tryd.ntmps36
  rw [Op.lit_words]
  go_wp2
  go_loopw [3, 4, 5] (WdRel op w) (fun _ _ i _ => 176 - (intOf i).toNat)
  case atStart => exact ⟨0, _, by omega, rfl, rfl, rfl, rfl, by simpa [Op.scan] using h0, rfl⟩
  case round =>
    obtain ⟨p, x, hp, hx, rfl, rfl, rfl, hk, rfl⟩ := hrel
    obtain ⟨hs1, hs2, hs3, hs4⟩ := Op.scan_le Op.words 32 p
    have HHit := Lib.hid (Op.scan_hit (s := Op.words) (c := 32) (p := p))
    have HMiss := Lib.hid (Op.scan_miss (s := Op.words) (c := 32) (p := p))
    rw [hx] at hs1 hs2 hs3 hs4 HHit HMiss
    have HX := Lib.hid hx
    have HS3 := Lib.hid hs3
    clear hx hs4 hs3
    obtain ⟨k, st, told⟩ := x
    dsimp only at hs1 hs2 HS3 HHit HMiss hk ⊢
    by_cases hlt : p < 176
    · have hpi : (p : Int) < 176 := by omega
      have hby := Op.byte_eq Op.words p (by omega)
      rw [← hby] at HHit HMiss
      clear hby
      by_cases h32 : (Op.words[p]'(by omega)).toNat = 32
      · have HN := Lib.hid (HHit.out h32)
        have hd : (((Op.words[p]'(by omega)).toNat : Int) != 32) = false := by rw [h32]; rfl
        clear HHit HMiss h32
        have HPre : Hid (told ++ [(k, Op.words.extract st p)] <+: Op.all) := Lib.hid (by
          have := Op.scan_prefix Op.words 32 (p + 1) 176 (by omega)
          rw [HN.out, Op.words_all] at this
          exact this)
        have hsi : (st : Int) ≤ (p : Int) := by omega
        by_cases he : (k : Int) = op
        · have hd2 : ((k : Int) == op) = true := by rw [beq_iff_eq]; exact he
          have HE : Hid (Op.name op = Op.words.extract st p) := Lib.hid (by
            have := Op.name_of (HPre.out.subset (List.mem_append.2 (.inr (List.mem_singleton.2 rfl))))
            rw [← he]
            exact this)
          clear he
          go_wp2
          go_ret
          exact ⟨by rw [HE.out]; rfl, rfl⟩
        · have hd2 : ((k : Int) == op) = false := beq_eq_false_iff_ne.2 he
          have hk2 : (k : Int) + 1 ≤ op := by omega
          clear he
          go_wp2
          go_roundw
          case rel => exact ⟨p + 1, _, by omega, HN.out, by go_num, by go_num, by go_num, by simpa using hk2, rfl⟩
          case measure => simp [intOf]; omega
      · have hd : (((Op.words[p]'(by omega)).toNat : Int) != 32) = true := by rw [bne_iff_ne]; omega
        have HN := Lib.hid (HMiss.out h32)
        clear HHit HMiss h32
        go_wp2
        go_roundw
        case rel => exact ⟨p + 1, _, by omega, HN.out, rfl, rfl, by go_num, hk, rfl⟩
        case measure => simp [intOf]; omega
    · obtain rfl : p = 176 := by omega
      have he : told = Op.all := by have := Op.words_all; rw [HX.out] at this; exact this
      have h2 : Op.all.length = 35 := by kernel_rfl
      have := HS3.out
      rw [he, h2] at this
      omega

theorem rname_any (op : Int) (w : World) : Calls Tryd.prog 36 #[.int .i64 op] w fun e w' => e = .returned (.string (Op.name op)) ∧ w' = w := by
  by_cases h0 : op < 0
  · rw [Op.name_out (by omega)]; exact rname_low op h0 w
  by_cases h1 : 35 ≤ op
  · rw [Op.name_out (by omega)]; exact rname_high op h1 w
  exact rname_in op (by omega) (by omega) w

set_option maxHeartbeats 4000000 in
theorem ropfind_any (name : ByteArray) (w : World) : Calls Tryd.prog 47 #[.string name] w fun e w' => e = .returned (.tuple #[.int .i64 (Op.find name).1, .bool (Op.find name).2]) ∧ w' = w := by
  go_enter Tryd.func47, Tryd.ntmps47
  go_wp2
  go_loopw [4] (fun i wr => ∃ k : Nat, k ≤ 35 ∧ i = .int .i64 (k : Int) ∧ (∀ j : Nat, j < k → Op.name (j : Int) ≠ name) ∧ wr = w) (fun i _ => 35 - (intOf i).toNat)
  case atStart => exact ⟨0, by omega, rfl, fun j hj => absurd hj (Nat.not_lt_zero _), rfl⟩
  case round =>
    obtain ⟨k, hk, rfl, hW, rfl⟩ := hrel
    have HW := Lib.hid hW
    clear hW
    by_cases hlt : k < 35
    · have hki : (k : Int) < 35 := by omega
      have HC := rname_any (k : Int) wr
      have HF := Lib.hid (Op.find_of (Op.all_has hlt))
      dsimp only at HF
      obtain ⟨s, hs⟩ : ∃ s, Op.name (k : Int) = s := ⟨_, rfl⟩
      rw [hs] at HC HF
      have HS := Lib.hid hs
      clear hs
      by_cases he : s = name
      · have hd : (s.toList == name.toList) = true := by rw [he]; exact beq_self_eq_true _
        rw [he] at HF
        clear he
        go_wp2_with (go_at_call 36; refine HC.mono ?_; rintro _ w1 ⟨rfl, he⟩; obtain rfl := he.symm)
        go_ret2
        exact ⟨by rw [HF.out]; rfl, rfl⟩
      · have hd : (s.toList == name.toList) = false := (Lib.bytes_beq_false_iff _ _).2 he
        have HE := Lib.hid he
        clear he
        go_wp2_with (go_at_call 36; refine HC.mono ?_; rintro _ w1 ⟨rfl, he⟩; obtain rfl := he.symm)
        go_roundw
        case rel =>
          refine ⟨k + 1, hlt, by go_num, fun j hj => ?_, by trivial⟩
          by_cases hjk : j = k
          · rw [hjk, HS.out]; exact HE.out
          · exact HW.out j (by omega)
        case measure => simp [intOf]; omega
    · obtain rfl : k = 35 := by omega
      have HN : Hid (Op.find name = (0, false)) := Lib.hid (Op.find_none fun x hx => by
        rw [← Op.name_of hx]
        exact HW.out x.1 (Op.num_of hx))
      go_wp2
      go_ret2
      exact ⟨by rw [HN.out]; rfl, rfl⟩
end Go.Proofs.YtipeefmmnfbcoaaDoor
