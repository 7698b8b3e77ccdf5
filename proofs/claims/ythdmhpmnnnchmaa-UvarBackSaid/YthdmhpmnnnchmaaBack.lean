/-
  The walk of the law UvarBack: what was put is got again, whatever stands behind it. Conditions: the bytes behind are within the form's own reach.
-/
import Derived.Test.YthdmhpmnnnchmaaLives
import Derived.Test.YthdmhpmnnnchmaaAppend
namespace Go.Proofs.Ythdmhpmnnnchmaa
open Go.RowKit

set_option maxHeartbeats 1000000 in
set_option maxRecDepth 100000 in
theorem back_walk (x : Int) (A : Option Addr) (n c : Nat) (l : List Nat) (w : World) (h1 : -9223372036854775808 ≤ x) (h2 : x ≤ 9223372036854775807) (h : BytesAt w w.heap.size A n l) (hnil : A = none → c = 0) (hn : n ≤ 140737488351232) :
    Calls Try.prog 5 #[.int .i64 x, .slice A n c] w fun e w' => e = .returned (.bool true) ∧ Below w.heap.size w w' := by
  obtain ⟨i0, hi, hz0, hz1, hz2⟩ := info_parts info_u8
  have hlt := Uv.fold_lt h1 h2
  have hlen := Uv.put_len_10 hlt
  have hpos := Uv.put_len_pos (Uv.fold x)
  go_enter Try.func5, Try.ntmps5
  go_wp2_with fail
  refine (putInt_own w.heap.size (.slice none 0 0) 0 [] x _ h1 h2 (World.ownsRow_nil _ _ _ _) (Nat.le_refl _) (by omega)).mono ?_
  rintro e w1 ⟨v1, rfl, hinv⟩
  have hb1 : Below w.heap.size w w1 := hinv.below (World.ownsRow_nil _ _ _ _) (Nat.le_refl _)
  have hown := hinv.1
  rw [Nat.zero_add, List.nil_append] at hown
  clear hinv
  obtain ⟨g, cap, cur, rfl, hg, _, hhas, hl, ht⟩ := own_str hown hpos
  have hb1z := hb1.size
  have hbA : BytesAt w1 w.heap.size A n l := ⟨h.1, h.2.1, fun hp => by
    obtain ⟨b, off, e, hlt, hc⟩ := h.2.2 hp
    exact ⟨b, off, e, hlt, fun i hi => (hb1.cell hlt).trans (hc i hi)⟩⟩
  have hlb := h.2.1
  have hget : getInt (Uv.put (Uv.fold x) ++ l) = (x, (Uv.put (Uv.fold x)).length, 0) := by
    unfold getInt
    rw [Uv.get_put hlt, Uv.unfold_fold]
  have hpb := Uv.put_byte (Uv.fold x)
  have hown0 := World.ownsRow_lit (base := w1.heap.size) (e := 5) (size := 1) w1 #[] 0 (Nat.le_refl _) (by decide) rfl
  obtain ⟨v2, w2, hr2, hown2, hg2⟩ := append_bytes (c := cap) hown0 (bytesAt_own (hhas.alloc _) hl ht hpb) (by simp) (by simp) (by omega)
  have hb2 : Below w1.heap.size w1 w2 := ((Below.refl _ _).alloc (Nat.le_refl _) _).grown hg2 (by simp) (fun k hk => (hown0.lt k hk).1)
  have hbA2 : BytesAt w2 w.heap.size A n l := ⟨hbA.1, hbA.2.1, fun hp => by
    obtain ⟨b, off, e, hlt, hc⟩ := hbA.2.2 hp
    exact ⟨b, off, e, hlt, fun i hi => (hb2.cell (Nat.lt_of_lt_of_le hlt hb1z)).trans (hc i hi)⟩⟩
  obtain ⟨v3, w3, hr3, hown3, hg3⟩ := append_bytes (c := c) hown2 hbA2 hnil hb2.size (by simp; omega)
  have hb3 : Below w.heap.size w w3 := (hb1.trans (hb2.mono hb1z)).grown hg3 (by have := hb2.size; omega) (fun k hk => by have := (hown2.lt k hk).1; omega)
  have hl3 : 0 + (Uv.put (Uv.fold x)).length + n = (Uv.put (Uv.fold x)).length + n := by omega
  rw [hl3, show [] ++ bs (Uv.put (Uv.fold x)) ++ bs l = bs (Uv.put (Uv.fold x) ++ l) from by rw [bs_append]; rfl] at hown3
  obtain ⟨g3, cap3, cur3, rfl, _, _, hhas3, hl3, ht3⟩ := own_str hown3 (by omega)
  have HG := Lib.hid (getInt_any (some ⟨g3, 0, none⟩) _ cap3 _ _ w3 (bytesAt_own hhas3 hl3 ht3 (fun c hc => (List.mem_append.1 hc).elim (hpb c) (hlb c))) (by omega))
  rw [hget] at HG
  have HR2 := Lib.hid (hr2 23 rfl)
  have HR3 := Lib.hid (hr3 23 rfl)
  have HB3 := Lib.hid hb3
  have HU := Lib.hid (fun W => unfold_any (Uv.fold x) W hlt)
  rw [Uv.unfold_fold] at HU
  have hlz := hl3
  clear h hown hhas hl ht hown0 hr2 hr3 hown2 hown3 hg2 hg3 hbA hbA2 hget hpb hlb hb1 hb2 hb3 hhas3 hl3 ht3 hlz
  generalize (Uv.put (Uv.fold x)).length = pl at *
  go_wp2_with (first
    | (at_builtin; refine Lib.wpList_append_run _ rfl (.tmp 12) (.tmp 13) _ _ rfl _ _ rfl rfl _ _ HR2.out ?_)
    | (at_builtin; refine Lib.wpList_append_run _ rfl (.tmp 14) (.tmp 15) _ _ rfl _ _ rfl rfl _ _ HR3.out ?_)
    | (go_at_call 13; refine HG.out.mono ?_; unfold Triple; rintro e w' ⟨rfl, rfl⟩)
    | (go_at_call 17; refine (fold_any x _ h1 h2).mono ?_; rintro e w' ⟨rfl, rfl⟩)
    | (go_at_call 18; refine (rfold_any x _ h1 h2).mono ?_; rintro e w' ⟨rfl, rfl⟩)
    | (go_at_call 16; refine (HU.out _).mono ?_; rintro e w' ⟨rfl, rfl⟩)
    | (go_at_call 7; refine (lives_any _).mono ?_; rintro e w4 ⟨rfl, hb4⟩))
  go_ret
  exact ⟨rfl, HB3.out.trans (hb4.mono HB3.out.size)⟩
end Go.Proofs.Ythdmhpmnnnchmaa
