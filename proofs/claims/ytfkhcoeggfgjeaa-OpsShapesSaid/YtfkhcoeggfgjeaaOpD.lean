/-
  What the document's of tells: so many of a type. Conditions: 4096 at most.
-/
import Derived.Test.YtfkhcoeggfgjeaaOpT
namespace Go.Proofs.Ytfkhcoeggfgjeaa
open Go.RowKit

def OpOfRel (w : World) (n : Nat) (t : Int) (v i : Value) (wr : World) : Prop :=
  ∃ (k : Nat) (l : List Int), k ≤ n ∧ i = .int .i64 (k : Int) ∧ l = List.replicate k t ∧ wr.ownsRow w.heap.size 37 1 v l.length (vs l) ∧ Below w.heap.size w wr

theorem tys_end {l : List Int} {w wr : World} {v : Value} (h1 : wr.ownsRow w.heap.size 37 1 v l.length (vs l)) (h3 : Below w.heap.size w wr) : TysP l w (.returned v) wr := by
  rcases h1.2 with ⟨rfl, hn⟩ | ⟨g, cap, cur, rfl, _⟩
  · have hi := ints_of_rowE h1
    rw [← hn] at hi
    exact ⟨none, 0, by rw [hn], hi.2.1, h3⟩
  · exact ⟨_, cap, rfl, (ints_of_rowE h1).2.1, h3⟩

set_option maxHeartbeats 1000000 in
theorem opof_any (n : Nat) (t : Int) (w : World) (hn : n ≤ 4096) :
    Calls Try.prog 23 #[.int .i64 (n : Int), .int .i64 t] w (TysP (List.replicate n t) w) := by
  obtain ⟨i0, hi, hz0, hz1, hz2⟩ := info_parts info_type
  go_enter Try.func23, Try.ntmps23
  go_wp2
  go_loopw [5, 6] (OpOfRel w n t) (fun _ i _ => n - (intOf i).toNat)
  case atStart => exact ⟨0, [], Nat.zero_le _, rfl, rfl, ⟨rfl, .inl ⟨rfl, rfl⟩⟩, Below.refl _ _⟩
  case round =>
    obtain ⟨k, l, hk, rfl, hl, hO, hB⟩ := hrel
    have HL := Lib.hid hl
    have HLL : Hid (l.length = k) := Lib.hid (by rw [hl]; simp)
    have HO := Lib.hid hO
    have HB := Lib.hid hB
    clear hl hO hB
    by_cases hlt : k < n
    · have hki : (k : Int) < (n : Int) := by omega
      go_wp2_with (at_builtin; refine wpList_append_lies _ rfl (.tmp 12) (.tmp 14) 28 rfl w.heap.size 37 i0 (.int .i64 0) 1 8 Try.underlying28 hi hz0 hz1 hz2 rfl (by decide) u5 l.length (vs l) rfl (HO.out.alloc _) ⟨wr.heap.size, 0, none⟩ 1 1 (vs [t]) rfl rfl ?c1 (vs_one _) (by decide) ?c3 ?c4 ?c5 (wr.heap.size + 1) ?c6 ?_)
      case c1 => exact new_one wr _ _
      case c3 => have := HLL.out; unfold maxLen; omega
      case c4 => have := HLL.out; omega
      case c5 => have := HB.out.size; simp; omega
      case c6 => simp
      intro g cap w2 hown2 hgrow2 hat2 _
      have HO2 : Hid (w2.ownsRow w.heap.size 37 1 (.slice (some ⟨g, 0, none⟩) (l.length + 1) cap) (l ++ [t]).length (vs (l ++ [t]))) := Lib.hid (by rw [List.length_append, vs_append]; exact hown2)
      have HB2 : Hid (Below w.heap.size w w2) := Lib.hid ((HB.out.alloc HB.out.size _).grown hgrow2 (by have := HB.out.size; simp; omega) (fun k hk => (HO.out.lt k hk).1))
      clear hown2 hgrow2 hat2
      go_wp2
      go_roundw
      case rel => exact ⟨k + 1, l ++ [t], hlt, by go_num, by rw [HL.out, List.replicate_succ'], HO2.out, HB2.out⟩
      case measure => simp [intOf]; omega
    · have hki : decide ((k : Int) < (n : Int)) = false := decide_eq_false (by omega)
      obtain rfl : k = n := by omega
      go_wp2
      go_ret
      rw [← HL.out]
      exact tys_end HO.out HB.out
end Go.Proofs.Ytfkhcoeggfgjeaa
