/-
 What the document's Put of runs answers: their bytes, in new memory. Conditions: lengths within the reach; numbers of their type.
-/
import Derived.Test.YtdopheoedpldiaaGreatDoorRuR
import Derived.Test.YtdopheoedpldiaaGreatDoorInRP
set_option maxRecDepth 100000
namespace Go.Proofs.YtdopheoedpldiaaGreatDoor
open Go.RowKit
theorem append_lies {w0 W : World} {base n : Nat} {v : Value} {xs : List Value} (hown : W.ownsRow base 5 1 v n xs) {l : List Nat} {u : Value} (h : Lies w0 l u W) (hb : ∀ c ∈ l, c < 256) (hp : 0 < l.length) (hbase : base ≤ W.heap.size) (hl : n + l.length ≤ 140737488355328) :
   ∃ v' w', (∀ ty, ty = 27 → (Builtin.append_ #[27, 27] ty #[v, u]).run Tryz.prog W = .ok v' w') ∧ w'.ownsRow base 5 1 v' (n + l.length) (xs ++ bs l) ∧ W.grownBy w' v.ownBlock := by
 obtain ⟨A, c, rfl, hB⟩ := h.bytes hb
 refine append_bytes (c := c) hown hB (fun e => ?_) hbase hl
 obtain ⟨b, off, e', _⟩ := hB.2.2 hp
 rw [e] at e'
 cases e'
def RPtRel (w : World) (n : Nat) (r : Ru.Runs) (u i : Value) (wr : World) : Prop :=
 ∃ k : Nat, k ≤ n ∧ i = .int .i64 (k : Int) ∧ wr.ownsRow w.heap.size 5 1 u (Ru.laid (r.take k)).length (bs (Ru.laid (r.take k))) ∧ Below w.heap.size w wr
set_option maxHeartbeats 2000000 in
theorem rrunsPut_any (a : Option Addr) (n c : Nat) (l : List Int) (w : World) (h : IntsAt w w.heap.size a n l) (hn : n ≤ 1000000) (hz : ∀ z ∈ l, -9223372036854775808 ≤ z ∧ z ≤ 9223372036854775807) :
   Calls Tryz.prog 54 #[.slice a n c] w (NewPost (Ru.laid (Ru.of l)) w) := by
 have HOf := Lib.hid (rof_any a n c l w h (by omega))
 have HF := Lib.hid (of_fits hz (by rw [h.1]; omega))
 have HN : Hid ((Ru.of l).length ≤ n) := Lib.hid (by have := Ru.of_len l; rwa [h.1] at this)
 clear h hz
 generalize Ru.of l = r at *
 go_enter Tryz.func54, Tryz.ntmps54
 go_wp2_with (go_at_call 98; refine HOf.out.mono ?_; rintro e w1 ⟨v, rfl, hown, hb1⟩)
 obtain ⟨A, cc, rfl, hp, _⟩ := runs_slice hown
 have HP := Lib.hid hp
 have HB1 := Lib.hid hb1
 have hrn := HN.out
 clear hown hp hb1 HOf
 go_loopw [3, 5] (RPtRel w1 r.length r) (fun _ i _ => r.length - (intOf i).toNat)
 case atStart => exact ⟨0, Nat.zero_le _, rfl, World.ownsRow_nil _ _ _ _, Below.refl _ _⟩
 case round =>
   obtain ⟨k, hk, rfl, hO, hB⟩ := hrel
   have hs := hB.size
   have HO := Lib.hid hO
   have HB := Lib.hid hB
   by_cases hlt : k < r.length
   · obtain ⟨b, off, rfl, hlb, hc⟩ := (HP.out.below hB).2 (by omega)
     obtain ⟨hc0, hc1⟩ := hc k hlt
     have hpr : r.getD k (0, 0) ∈ r := by
       have e : r.getD k (0, 0) = r[k] := by simp [List.getD, hlt]
       rw [e]
       exact List.getElem_mem hlt
     obtain ⟨f0, f1, f2, f3⟩ := HF.out _ hpr
     have HT : Hid (Ru.laid (r.take (k + 1)) = Ru.laid (r.take k) ++ Uv.put (r.getD k (0, 0)).1.toNat ++ Uv.put (Uv.fold (r.getD k (0, 0)).2)) := Lib.hid (by rw [Ru.taken hlt (0, 0), Ru.laid_append, Ru.laid_one, List.append_assoc])
     have hll := Ru.laid_len (fits_take HF.out k)
     rw [List.length_take] at hll
     clear hc hO hB hpr
     generalize r.getD k (0, 0) = p at *
     obtain ⟨N, V⟩ := p
     simp only at hc0 hc1 f0 f1 f2 f3 HT
     obtain ⟨m, rfl⟩ := Int.eq_ofNat_of_zero_le f0
     simp only [Int.toNat_natCast] at HT
     have hm : m < 18446744073709551616 := by omega
     have hp10 := Uv.put_len_10 hm
     have hpos := Uv.put_len_pos m
     have hfl := Uv.fold_lt f2 f3
     have hq10 := Uv.put_len_10 hfl
     have hqpos := Uv.put_len_pos (Uv.fold V)
     have hwm : IntKind.u64.wrap (m : Int) = (m : Int) := by rw [IntKind.wrap_u64]; omega
     generalize Ru.laid (r.take k) = L at *
     have hkr : L.length ≤ 20000000 := by omega
     have HK := Lib.hid hkr
     clear hll hkr
     have HO0 := HO
     go_wp2_with fail
     refine (rput_any m wr hm).mono ?_
     rintro e w2 ⟨v2, rfl, hown2, hb2⟩
     obtain ⟨v3, w3, hr3, hown3, hg3⟩ := append_lies (ownsRow_below HO.out hb2) (show Lies wr (Uv.put m) v2 w2 from ⟨hown2, hb2⟩) (Uv.put_byte m) hpos (Nat.le_trans hs hb2.size) (by have := HK.out; omega)
     have HR3 := Lib.hid (hr3 27 rfl)
     have HB3 := Lib.hid ((HB.out.trans (hb2.mono hs)).grown hg3 (Nat.le_trans hs hb2.size) (fun j hj => ((ownsRow_below HO.out hb2).lt j hj).1))
     obtain ⟨g2, cap2, rfl, _, _⟩ := hown2.form hpos
     have hs3 := HB3.out.size
     obtain ⟨g3, cap3, rfl, _, _⟩ := hown3.form (by omega)
     rw [← bs_append] at hown3
     have HO3 := Lib.hid hown3
     have hc1' : w3.cell? ⟨b, off + k * 2 + 1, none⟩ = some (.int .i64 V) := by
       have h1 := (HB.out.cell (p := ⟨b, off + k * 2 + 1, none⟩) hlb).symm.trans hc1
       exact (HB3.out.cell (p := ⟨b, off + k * 2 + 1, none⟩) hlb).trans h1
     clear hr3 hg3 hown2 hb2 hown3
     go_wp2_with (first | (at_builtin; refine Lib.wpList_append_run _ rfl (.tmp 14) (.tmp 21) _ _ rfl _ _ rfl rfl _ _ HR3.out ?_; clear HR3) | (go_at_call 97; refine (rfold_any V _ f2 f3).mono ?_; rintro e w' ⟨rfl, rfl⟩))
     refine (rput_any (Uv.fold V) w3 hfl).mono ?_
     rintro e w4 ⟨v4, rfl, hown4, hb4⟩
     obtain ⟨v5, w5, hr5, hown5, hg5⟩ := append_lies (ownsRow_below HO3.out hb4) (show Lies w3 (Uv.put (Uv.fold V)) v4 w4 from ⟨hown4, hb4⟩) (Uv.put_byte _) hqpos (Nat.le_trans hs3 hb4.size) (by have := HK.out; omega)
     have HR5 := Lib.hid (hr5 27 rfl)
     have HB5 := Lib.hid ((HB3.out.trans (hb4.mono hs3)).grown hg5 (Nat.le_trans hs3 hb4.size) (fun j hj => ((ownsRow_below HO3.out hb4).lt j hj).1))
     obtain ⟨g4, cap4, rfl, _, _⟩ := hown4.form hqpos
     obtain ⟨g5, cap5, rfl, _, _⟩ := hown5.form (by omega)
     rw [← bs_append] at hown5
     have HO5 := Lib.hid hown5
     clear hr5 hg5 hown4 hb4 hown5
     go_wp2_with (at_builtin; refine Lib.wpList_append_run _ rfl (.tmp 23) (.tmp 30) _ _ rfl _ _ rfl rfl _ _ HR5.out ?_)
     go_roundw
     case rel =>
       refine ⟨k + 1, by omega, by go_num, ?_, HB5.out⟩
       rw [HT.out, List.length_append, List.length_append]
       exact HO5.out
     case measure => simp [intOf]; omega
   · have HE : Hid (r.take k = r) := Lib.hid (List.take_of_length_le (by omega))
     clear hO hB
     go_wp2
     go_ret
     refine ⟨_, rfl, ?_, HB1.out.trans (HB.out.mono HB1.out.size)⟩
     have h2 := HO.out
     rw [HE.out] at h2
     exact ownsRow_base h2 HB1.out.size
end Go.Proofs.YtdopheoedpldiaaGreatDoor
