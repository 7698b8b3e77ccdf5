/-
  What runs.behind and runs.Row answer. Conditions: lengths within the reach.
-/
import Derived.Test.YtnfflddcekffeaaRuAt
namespace Go.Proofs.Ytnfflddcekffeaa
open Go.RowKit

/-- The slice u of numbers owns l in w'; of w's memory the row of v alone may have turned; u lies there or in new memory. -/
def NumInv (base : Nat) (w : World) (v u : Value) (l : List Int) (w' : World) : Prop :=
  w'.ownsRow base 3 1 u l.length (vs l) ∧ w.grownBy w' v.ownBlock ∧ (u.ownBlock = v.ownBlock ∨ ∃ g, u.ownBlock = some g ∧ w.heap.size ≤ g)
set_option maxRecDepth 100000 in
theorem NumInv.refl {base : Nat} {w : World} {v : Value} {l : List Int} (h : w.ownsRow base 3 1 v l.length (vs l)) : NumInv base w v v l w := ⟨h, World.grownBy.refl _ _, .inl rfl⟩
set_option maxRecDepth 100000 in
theorem NumInv.step {base : Nat} {w : World} {v u : Value} {l l' : List Int} {n' : Nat} {xs' : List Value} {wr w1 : World} (h : NumInv base w v u l wr) (o : Obj) {g cap : Nat}
    (hown : w1.ownsRow base 3 1 (.slice (some ⟨g, 0, none⟩) n' cap) n' xs') (hn : n' = l'.length) (hx : xs' = vs l') (hg : (wr.alloc o).grownBy w1 u.ownBlock) (hat : u.ownBlock = some g ∨ g = wr.heap.size + 1) :
    NumInv base w v (.slice (some ⟨g, 0, none⟩) n' cap) l' w1 := by
  subst hn hx
  obtain ⟨h1, h2, h3⟩ := h
  refine ⟨hown, ⟨hg.os.trans h2.os, hg.tape.trans h2.tape, hg.output.trans h2.output, ?_, ?_⟩, ?_⟩
  · have := hg.size
    have := h2.size
    simp at *
    omega
  · intro k hk hne
    have hs := h2.size
    have e1 := hg.block k (by simp; omega) (by
      rcases h3 with h3 | ⟨g', h3, hg'⟩
      · rw [h3]; exact hne
      · rw [h3]; intro e; injection e with e; omega)
    rw [e1, Below.heap_alloc wr o k (by omega), h2.block k hk hne]
  · rcases hat with hat | hat
    · rcases h3 with h3 | ⟨g', h3, hg'⟩
      · left
        show some g = _
        rw [← h3, hat]
      · right
        refine ⟨g, rfl, ?_⟩
        rw [h3] at hat
        injection hat with hat
        omega
    · right
      have := h2.size
      exact ⟨g, rfl, by omega⟩
set_option maxRecDepth 100000 in
theorem NumInv.below {base : Nat} {w w' : World} {v u : Value} {l l' : List Int} (h : NumInv base w v u l w') (h0 : w.ownsRow base 3 1 v l'.length (vs l')) (hb : base ≤ w.heap.size) : Below base w w' :=
  (Below.refl _ _).grown h.2.1 hb (fun k hk => (h0.lt k hk).1)

def BhRel (base : Nat) (w : World) (v : Value) (l : List Int) (x nn : Int) (u i : Value) (wr : World) : Prop :=
  ∃ k : Nat, k ≤ nn.toNat ∧ i = .int .i64 (k : Int) ∧ NumInv base w v u (l ++ List.replicate k x) wr

set_option maxHeartbeats 1000000 in
set_option maxRecDepth 100000 in
theorem behind_own (base : Nat) (v : Value) (l : List Int) (nn x : Int) (w : World) (hown : w.ownsRow base 3 1 v l.length (vs l)) (hbase : base ≤ w.heap.size) (hl : l.length + nn.toNat ≤ 17592186044416) :
    Calls Try.prog 41 #[v, .int .i64 nn, .int .i64 x] w fun e w' => ∃ u, e = .returned u ∧ NumInv base w v u (l ++ List.replicate nn.toNat x) w' := by
  obtain ⟨i0, hi, hz0, hz1, hz2⟩ := info_parts info_int
  have HO := Lib.hid hown
  clear hown
  go_enter Try.func41, Try.ntmps41
  go_wp2
  go_loopw [0, 8] (BhRel base w v l x nn) (fun _ i _ => nn.toNat - (intOf i).toNat)
  case atStart => exact ⟨0, Nat.zero_le _, rfl, by simpa using NumInv.refl HO.out⟩
  case round =>
    obtain ⟨k, hk, rfl, hI⟩ := hrel
    have HI := Lib.hid hI
    have hws := hI.2.1.size
    have HQ : Hid ((l ++ List.replicate k x).length = l.length + k) := Lib.hid (by simp)
    clear hI
    by_cases hlt : (k : Int) < nn
    · have HN : Hid (l ++ List.replicate (k + 1) x = (l ++ List.replicate k x) ++ [x]) := Lib.hid (by rw [List.replicate_succ', List.append_assoc])
      generalize l ++ List.replicate k x = q at *
      go_wp2_with (at_builtin; refine wpList_append_lies _ rfl (.tmp 10) (.tmp 12) 22 rfl base 3 i0 (.int .i64 0) 1 8 Try.underlying22 hi hz0 hz1 hz2 rfl (by decide) u0 q.length (vs q) rfl (HI.out.1.alloc _) ⟨wr.heap.size, 0, none⟩ 1 1 (vs [x]) rfl rfl ?c1 (vs_one _) (by decide) ?c3 ?c4 ?c5 (wr.heap.size + 1) ?c6 ?_)
      case c1 => exact new_one wr _ _
      case c3 => have := HQ.out; unfold maxLen; omega
      case c4 => have := HQ.out; omega
      case c5 => simp; omega
      case c6 => simp
      intro g cap w2 hown2 hgrow2 hat2 _
      have HR := Lib.hid (HI.out.step (l' := q ++ [x]) _ hown2 (by simp) (vs_append _ _).symm hgrow2 hat2)
      clear hown2 hgrow2 hat2 HI
      go_wp2
      go_roundw
      case rel => exact ⟨k + 1, by omega, by go_num, by rw [HN.out]; exact HR.out⟩
      case measure => simp [intOf]; omega
    · obtain rfl : k = nn.toNat := by omega
      go_wp2
      go_ret
      exact ⟨_, rfl, HI.out⟩

def RwRel (w : World) (n : Nat) (r : Ru.Runs) (u i : Value) (wr : World) : Prop :=
  ∃ k : Nat, k ≤ n ∧ i = .int .i64 (k : Int) ∧ wr.ownsRow w.heap.size 3 1 u (Ru.row (r.take k)).length (vs (Ru.row (r.take k))) ∧ Below w.heap.size w wr

end Go.Proofs.Ytnfflddcekffeaa
