/-
  What the document's Put answers: the number's bytes, in new memory. Conditions: none.
-/
import Derived.Test.YtinmcelgfdjmfaaDoorStr
namespace Go.Proofs.YtinmcelgfdjmfaaDoor
open Go.RowKit

/-- The bytes xs are answered, in new memory; nothing that was there has turned. -/
def NewPost (xs : List Nat) (w : World) (e : Ending) (w' : World) : Prop :=
  ∃ v, e = .returned v ∧ w'.ownsRow w.heap.size 5 1 v xs.length (bs xs) ∧ Below w.heap.size w w'

set_option maxHeartbeats 1000000 in
set_option maxRecDepth 100000 in
theorem rput_any (n : Nat) : ∀ (w : World), n < 18446744073709551616 → Calls Tryd.prog 27 #[.int .u64 (n : Int)] w (NewPost (Uv.put n) w) := by
  induction n using Nat.strongRecOn with
  | ind n ih =>
    intro w hn
    obtain ⟨i0, hi, hz0, hz1, hz2⟩ := info_parts info_u8
    by_cases h : n < 128
    · rw [Uv.put_small h]
      clear ih
      go_enter Tryd.func27, Tryd.ntmps27
      go_wp2
      go_ret
      exact ⟨_, rfl, World.ownsRow_lit w #[.int .u8 (n : Int)] 1 (Nat.le_refl _) (by decide) rfl, (Below.refl _ _).alloc (Nat.le_refl _) _⟩
    · rw [Uv.put_large h]
      have HI := Lib.hid (ih (n / 128) (by omega))
      clear ih
      have hlen := Uv.put_len_10 (n := n / 128) (by omega)
      have hpos := Uv.put_len_pos (n / 128)
      have hc : ((n : Int) / 128) = ((n / 128 : Nat) : Int) := by omega
      have HC := Lib.hid hc
      clear hc
      generalize Uv.put (n / 128) = r at *
      go_enter Tryd.func27, Tryd.ntmps27
      go_wp2_with fail
      rw [HC.out]
      refine (HI.out _ (by omega)).mono ?_
      rintro e w1 ⟨v, rfl, hown, hb⟩
      obtain ⟨g, cap, rfl, hg1, hg2⟩ := hown.form hpos
      have hs := hb.size
      have hb0 : Below w.heap.size w w1 := ((Below.refl _ _).alloc (Nat.le_refl _) _).trans (hb.mono (by simp))
      have hown0 := ownsRow_below (World.ownsRow_lit (base := w.heap.size) (e := 5) (size := 1) w #[.int .u8 ((n : Int) % 128 + 128)] 1 (Nat.le_refl _) (by decide) rfl) hb
      have hcells := hown.cells (g := g) rfl
      simp at hs
      clear hb hown
      go_wp2_with (at_builtin; refine wpList_append_lies _ rfl (.tmp 12) (.tmp 15) 31 rfl w.heap.size 5 i0 (.int .u8 0) 1 1 Tryd.underlying31 hi hz0 hz1 hz2 rfl (by decide) (.slice (some ⟨w.heap.size, 0, none⟩) 1 1) 1 _ rfl hown0 ⟨g, 0, none⟩ r.length cap (bs r) rfl (by simp [bs_length]) hcells (bs_one _) hpos ?c3 ?c4 ?c5 w1.heap.size rfl ?_)
      case c3 => unfold maxLen; omega
      case c4 => omega
      case c5 => omega
      intro g2 cap2 w2 hown2 hgrow2 hat2 _
      have hb2 : Below w.heap.size w w2 := hb0.grown hgrow2 (by omega) (fun k hk => by simp [Value.ownBlock] at hk; omega)
      have HO := Lib.hid hown2
      clear hown2 hgrow2 hown0 hcells hat2
      go_wp2
      go_ret
      have hv : (((n : Int) % 128 + 128)) = ((n % 128 + 128 : Nat) : Int) := by omega
      refine ⟨_, rfl, ?_, hb2⟩
      have h2 := HO.out
      rw [hv] at h2
      show w2.ownsRow w.heap.size 5 1 (.slice (some ⟨g2, 0, none⟩) (1 + r.length) cap2) _ _
      rw [List.length_cons, Nat.add_comm r.length 1]
      exact h2
end Go.Proofs.YtinmcelgfdjmfaaDoor
