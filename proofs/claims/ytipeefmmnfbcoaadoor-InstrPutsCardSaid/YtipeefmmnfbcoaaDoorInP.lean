/-
  What instr.Put and the document's Put lay. Conditions: an operand of its type; the slice is the caller's own; lengths within the reach.
-/
import Derived.Test.YtipeefmmnfbcoaaDoorInF
import Derived.Test.YtipeefmmnfbcoaaDoorAppendAt
import Derived.Test.YtipeefmmnfbcoaaDoorRefPut
import Derived.Test.YtipeefmmnfbcoaaDoorRefFold
import Derived.Test.YtipeefmmnfbcoaaDoorRefM
namespace Go.Proofs.YtipeefmmnfbcoaaDoor
open Go.RowKit

namespace In
/-- The bytes of an instruction. -/
def bytes (op a : Int) : List Nat := if right op a then op.toNat :: (if numbered op then Uv.put (Uv.fold a) else []) else []
theorem bytes_len {op a : Int} (h0 : -9223372036854775808 ≤ a) (h1 : a ≤ 9223372036854775807) : (bytes op a).length ≤ 11 := by
  unfold bytes
  split
  · split
    · have := Uv.put_len_10 (Uv.fold_lt h0 h1)
      simp only [List.length_cons]
      omega
    · simp
  · simp
theorem bytes_byte (op a : Int) : ∀ c ∈ bytes op a, c < 256 := by
  intro c hc
  unfold bytes at hc
  split at hc
  · rename_i hr
    have hk := right_known hr
    rcases List.mem_cons.1 hc with rfl | hc
    · omega
    · split at hc
      · exact Uv.put_byte _ c hc
      · cases hc
  · cases hc
end In

/-- What was owned is owned still. -/
theorem own_later {base : Nat} {w w1 : World} {v : Value} {l : Nat} {xs : List Value} (h : w.ownsRow base 5 1 v l xs) (hb : Below w.heap.size w w1) : OwnInv base w v v l xs w1 :=
  ⟨ownsRow_below h hb, ⟨hb.os, hb.tape, hb.output, hb.size, fun k hk _ => hb.block k hk⟩, .inl rfl⟩
theorem own_then {base : Nat} {w w1 w2 : World} {v u : Value} {l : Nat} {xs : List Value} (hb : Below w.heap.size w w1) (h : OwnInv base w1 v u l xs w2) : OwnInv base w v u l xs w2 := by
  obtain ⟨h1, h2, h3⟩ := h
  refine ⟨h1, ⟨h2.os.trans hb.os, h2.tape.trans hb.tape, h2.output.trans hb.output, Nat.le_trans hb.size h2.size, fun k hk hne => ?_⟩, ?_⟩
  · rw [h2.block k (Nat.lt_of_lt_of_le hk hb.size) hne, hb.block k hk]
  · rcases h3 with h3 | ⟨g, h3, hg⟩
    · exact .inl h3
    · exact .inr ⟨g, h3, Nat.le_trans hb.size hg⟩

theorem lit_bs (k : Nat) : (#[.int .u8 (k : Int)] : Array Value).toList = bs [k] := rfl

set_option maxHeartbeats 2000000 in
set_option maxRecDepth 100000 in
theorem input_own (base : Nat) (v : Value) (l : Nat) (xs : List Value) (op a0 : Int) (w : World) (h0 : -9223372036854775808 ≤ a0) (h1 : a0 ≤ 9223372036854775807) (hown : w.ownsRow base 5 1 v l xs) (hbase : base ≤ w.heap.size) (hl : l + 12 ≤ 140737488355328) :
    Calls Tryd.prog 8 #[v, .agg #[.int .i64 op, .int .i64 a0]] w (OwnPost base w v (l + (In.bytes op a0).length) (xs ++ bs (In.bytes op a0))) := by
  have HRt := inright_any op a0
  have HO := Lib.hid hown
  clear hown
  cases hr : In.right op a0 with
  | false =>
    rw [hr] at HRt
    rw [show In.bytes op a0 = [] by unfold In.bytes; rw [hr]; rfl]
    clear hr
    go_enter Tryd.func8, Tryd.ntmps8
    go_wp2_with (go_at_call 9; refine (HRt _).mono ?_; rintro _ w1 ⟨rfl, b1⟩)
    go_ret
    exact ⟨_, rfl, (own_later HO.out (below_self ((Below.refl _ _).alloc (Nat.le_refl _) _) b1)).cast rfl (by simp [bs])⟩
  | true =>
    have hk := In.right_known hr
    rw [hr] at HRt
    obtain ⟨k, rfl⟩ := Int.eq_ofNat_of_zero_le hk.1
    have hk35 : k < 35 := by omega
    have hk35i : (k : Int) < 35 := by omega
    have HNb := numbered_any (k : Int)
    clear hk
    cases hn : In.numbered (k : Int) with
    | false =>
      rw [hn] at HNb
      rw [show In.bytes (k : Int) a0 = [k] by unfold In.bytes; rw [hr, hn]; rfl]
      clear hr hn
      go_enter Tryd.func8, Tryd.ntmps8
      go_wp2_with (first
        | (go_at_call 9; refine (HRt _).mono ?_; rintro _ w1 ⟨rfl, b1⟩; obtain ⟨q0, q1, hl1, B1⟩ := box_kept b1; clear b1)
        | (go_at_call 29; refine (HNb _).mono ?_; rintro _ w3 ⟨rfl, b3⟩; refine Hid.out ?_))
      have hb3 : Below w.heap.size w w3 := below_self (below_self B1 ((Below.refl w1.heap.size w1).alloc (Nat.le_refl _) (.cells #[.int .u8 (k : Int)] 5))) b3
      have hG : Has w3 w1.heap.size #[.int .u8 (k : Int)] := (Has.new w1 _).below b3 (by simp)
      obtain ⟨v', w', hr2, hinv⟩ := append_bytes_at (c := 1) (ownsRow_below HO.out hb3) (bytesAt_own (n := 1) (l := [k]) hG rfl rfl (by intro c hc; obtain rfl := List.mem_singleton.1 hc; omega)) (by intro e; cases e) (Nat.le_trans hbase hb3.size) (by omega)
      have HR := Lib.hid (hr2 25 rfl)
      have HI := Lib.hid (own_then hb3 hinv)
      clear b3 B1 hb3 hG hr2 hinv q0 q1 HRt HNb
      refine Lib.hid ?_
      go_wp2_with (at_builtin; refine Lib.wpList_append_run _ rfl (.tmp 21) (.tmp 22) _ _ rfl _ _ rfl rfl _ _ HR.out ?_)
      go_ret
      exact ⟨_, rfl, HI.out⟩
    | true =>
      rw [hn] at HNb
      rw [show In.bytes (k : Int) a0 = [k] ++ Uv.put (Uv.fold a0) by unfold In.bytes; rw [hr, hn]; rfl]
      clear hr hn
      have hpl := Uv.put_len_10 (Uv.fold_lt h0 h1)
      go_enter Tryd.func8, Tryd.ntmps8
      go_wp2_with (first
        | (go_at_call 9; refine (HRt _).mono ?_; rintro _ w1 ⟨rfl, b1⟩; obtain ⟨q0, q1, hl1, B1⟩ := box_kept b1; clear b1)
        | (go_at_call 29; refine (HNb _).mono ?_; rintro _ w3 ⟨rfl, b3⟩; refine Hid.out ?_))
      have hb3 : Below w.heap.size w w3 := below_self (below_self B1 ((Below.refl w1.heap.size w1).alloc (Nat.le_refl _) (.cells #[.int .u8 (k : Int)] 5))) b3
      have hownL : w3.ownsRow w1.heap.size 5 1 (.slice (some ⟨w1.heap.size, 0, none⟩) 1 1) 1 (bs [k]) := ownsRow_below (World.ownsRow_lit w1 #[.int .u8 (k : Int)] 1 (Nat.le_refl _) (by decide) rfl) b3
      have r1 := (b3.cell (p := ⟨w.heap.size, 1, none⟩) (by simp; omega)).trans ((((Below.refl w1.heap.size w1).alloc (Nat.le_refl _) (.cells #[.int .u8 (k : Int)] 5)).cell (p := ⟨w.heap.size, 1, none⟩) hl1).trans q1)
      have hw13 : w1.heap.size ≤ w3.heap.size := by have := b3.size; simp at this; omega
      have HP := Lib.hid (putInt_own w1.heap.size _ 1 (bs [k]) a0 w3 h0 h1 hownL hw13 (by omega))
      have HB3 := Lib.hid hb3
      have HL := Lib.hid hownL
      have HW := Lib.hid (And.intro hl1 hw13)
      clear b3 B1 hb3 hownL q0 q1 HRt HNb hl1 hw13
      refine Lib.hid ?_
      go_wp2_with fail
      refine HP.out.mono ?_
      rintro _ w4 ⟨v4, rfl, hinv4⟩
      have hb4 : Below w.heap.size w w4 := HB3.out.trans ((hinv4.below HL.out HW.out.2).mono (Nat.le_of_lt HW.out.1))
      have ho4 := hinv4.1
      rw [← bs_append] at ho4
      obtain ⟨g, cap, cur, rfl, _, _, hG, hlen, htake⟩ := own_str ho4 (by omega)
      obtain ⟨v', w', hr2, hinv⟩ := append_bytes_at (c := cap) (ownsRow_below HO.out hb4) (bytesAt_own hG hlen htake (by
        intro c hc
        rcases List.mem_append.1 hc with hc | hc
        · obtain rfl := List.mem_singleton.1 hc; omega
        · exact Uv.put_byte _ c hc)) (by intro e; cases e) (Nat.le_trans hbase hb4.size) (by omega)
      have HR := Lib.hid (hr2 25 rfl)
      have HI := Lib.hid (own_then hb4 hinv)
      clear HP HB3 HL hb4 ho4 hG hlen htake hinv4 hr2 hinv r1
      go_wp2_with (at_builtin; refine Lib.wpList_append_run _ rfl (.tmp 21) (.tmp 22) _ _ rfl _ _ rfl rfl _ _ HR.out ?_)
      go_ret
      exact ⟨_, rfl, HI.out.cast (by simp; omega) rfl⟩

set_option maxHeartbeats 2000000 in
set_option maxRecDepth 100000 in
theorem rinput_any (op a0 : Int) (w : World) (h0 : -9223372036854775808 ≤ a0) (h1 : a0 ≤ 9223372036854775807) : Calls Tryd.prog 7 #[.agg #[.int .i64 op, .int .i64 a0]] w (NewPost (In.bytes op a0) w) := by
  have HRt := rinright_any op a0
  cases hr : In.right op a0 with
  | false =>
    rw [hr] at HRt
    rw [show In.bytes op a0 = [] by unfold In.bytes; rw [hr]; rfl]
    clear hr
    go_enter Tryd.func7, Tryd.ntmps7
    go_wp2_with (go_at_call 10; refine (HRt _).mono ?_; rintro _ w1 ⟨rfl, b1⟩)
    go_ret
    exact ⟨_, rfl, World.ownsRow_nil _ _ _ _, below_self ((Below.refl _ _).alloc (Nat.le_refl _) _) b1⟩
  | true =>
    have hk := In.right_known hr
    have hki := In.kind_in op
    rw [hr] at HRt
    obtain ⟨k, rfl⟩ := Int.eq_ofNat_of_zero_le hk.1
    have hk35 : k < 35 := by omega
    have hk35i : (k : Int) < 35 := by omega
    have HOp := roperand_any (k : Int)
    clear hk
    cases hn : In.numbered (k : Int) with
    | false =>
      have hk0 : (Op.row (k : Int)).operand = 0 := by unfold In.numbered In.kind at hn; simpa using hn
      rw [hk0] at HOp
      rw [show In.bytes (k : Int) a0 = [k] by unfold In.bytes; rw [hr, hn]; rfl]
      clear hr hn hk0 hki
      go_enter Tryd.func7, Tryd.ntmps7
      go_wp2_with (first
        | (go_at_call 10; refine (HRt _).mono ?_; rintro _ w1 ⟨rfl, b1⟩; obtain ⟨q0, q1, hl1, B1⟩ := box_kept b1; clear b1)
        | (go_at_call 26; refine (HOp _).mono ?_; rintro _ wa ⟨rfl, he⟩; obtain rfl := he.symm))
      go_ret
      exact ⟨_, rfl, ownsRow_base (World.ownsRow_lit w1 #[.int .u8 (k : Int)] 1 (Nat.le_refl _) (by decide) rfl) B1.size, below_self B1 ((Below.refl _ _).alloc (Nat.le_refl _) _)⟩
    | true =>
      have hk0 : 0 < (Op.row (k : Int)).operand := by
        unfold In.kind at hki
        have : (Op.row (k : Int)).operand ≠ 0 := by unfold In.numbered In.kind at hn; simpa using hn
        omega
      rw [show In.bytes (k : Int) a0 = [k] ++ Uv.put (Uv.fold a0) by unfold In.bytes; rw [hr, hn]; rfl]
      clear hr hn hki
      generalize (Op.row (k : Int)).operand = kk at *
      have hpl := Uv.put_len_10 (Uv.fold_lt h0 h1)
      have hpp := Uv.put_len_pos (Uv.fold a0)
      have HPt := fun W => rput_any (Uv.fold a0) W (Uv.fold_lt h0 h1)
      have HFo := fun W => rfold_any a0 W h0 h1
      have HBy := Lib.hid (Uv.put_byte (Uv.fold a0))
      generalize Uv.put (Uv.fold a0) = pt at *
      generalize Uv.fold a0 = fo at *
      go_enter Tryd.func7, Tryd.ntmps7
      go_wp2_with (first
        | (go_at_call 10; refine (HRt _).mono ?_; rintro _ w1 ⟨rfl, b1⟩; obtain ⟨q0, q1, hl1, B1⟩ := box_kept b1; clear b1)
        | (go_at_call 26; refine (HOp _).mono ?_; rintro _ wa ⟨rfl, he⟩; obtain rfl := he.symm)
        | (go_at_call 28; refine (HFo _).mono ?_; rintro _ wa ⟨rfl, he⟩; obtain rfl := he)
        | (go_at_call 27; refine (HPt _).mono ?_; rintro _ w4 ⟨v4, rfl, hown4, b4⟩; refine Hid.out ?_))
      have hb4 : Below w.heap.size w w4 := below_self (below_self B1 ((Below.refl w1.heap.size w1).alloc (Nat.le_refl _) (.cells #[.int .u8 (k : Int)] 5))) b4
      have hownL : w4.ownsRow w.heap.size 5 1 (.slice (some ⟨w1.heap.size, 0, none⟩) 1 1) 1 (bs [k]) := ownsRow_below (ownsRow_base (World.ownsRow_lit w1 #[.int .u8 (k : Int)] 1 (Nat.le_refl _) (by decide) rfl) B1.size) b4
      obtain ⟨g, cap, cur, rfl, _, _, hG, hlen, htake⟩ := own_str hown4 hpp
      obtain ⟨v', w', hr2, hown2, hg2⟩ := append_bytes (c := cap) hownL (bytesAt_own hG hlen htake HBy.out) (by intro e; cases e) hb4.size (by omega)
      have HR := Lib.hid (hr2 25 rfl)
      have HO := Lib.hid hown2
      have HBf := Lib.hid (hb4.grown hg2 hb4.size (fun kk hk => (hownL.lt kk hk).1))
      clear hb4 hownL hG hlen htake hr2 hown2 hg2 b4 B1 q0 q1 hown4
      refine Lib.hid ?_
      go_wp2_with (at_builtin; refine Lib.wpList_append_run _ rfl (.tmp 15) (.tmp 19) _ _ rfl _ _ rfl rfl _ _ HR.out ?_)
      go_ret
      refine ⟨_, rfl, ?_, HBf.out⟩
      have := HO.out
      rw [← bs_append] at this
      have hln : 1 + pt.length = (k :: pt).length := by simp; omega
      rw [hln] at this
      exact this
end Go.Proofs.YtipeefmmnfbcoaaDoor
