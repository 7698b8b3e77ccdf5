/-
  What the document's List answers: the slots one by one, rising, as a row of its own. Conditions: none.
-/
import Derived.Test.YtinmcelgfdjmfaaDoorSlD
import Derived.Laws.OwnMore
import Derived.Deep.AppendLies
import Derived.LoopTactic
namespace Go.Proofs.YtinmcelgfdjmfaaDoor
open Go.RowKit

/-- What a loop that collects holds: l is collected in out; s lies in its box; nothing below has turned. -/
def Coll (w : World) (g : Nat) (s : Sl.Four) (out : Value) (l : List Int) (wr : World) : Prop :=
  wr.ownsRow (g + 1) 3 1 out l.length (vs l) ∧ SetAt wr g s ∧ Below w.heap.size w wr
theorem Coll.kept {w wr w1 : World} {g : Nat} {s : Sl.Four} {out : Value} {l : List Int} (h : Coll w g s out l wr) (hb : Below wr.heap.size wr w1) : Coll w g s out l w1 := by
  obtain ⟨h1, h2, h3⟩ := h
  exact ⟨ownsRow_below h1 hb, h2.below hb h2.lt, h3.trans (hb.mono h3.size)⟩
set_option maxRecDepth 100000 in
theorem Coll.step {w wr w2 : World} {g : Nat} {s : Sl.Four} {out : Value} {l : List Int} (h : Coll w g s out l wr) (hg : w.heap.size ≤ g) {x : Int} {o : Obj} {ga cap : Nat}
    (hown : w2.ownsRow (g + 1) 3 1 (.slice (some ⟨ga, 0, none⟩) (l.length + 1) cap) (l.length + 1) (vs l ++ vs [x])) (hgr : (wr.alloc o).grownBy w2 out.ownBlock) :
    Coll w g s (.slice (some ⟨ga, 0, none⟩) (l.length + 1) cap) (l ++ [x]) w2 := by
  obtain ⟨h1, h2, h3⟩ := h
  have hlt := h1.lt
  have hs := h2.lt
  have hne : some g ≠ out.ownBlock := fun e => by have := (hlt g e.symm).1; omega
  refine ⟨by rw [List.length_append, vs_append]; exact hown, ?_, ?_⟩
  · have := hgr.block g (by simp; omega) hne
    exact this.trans ((Below.heap_alloc wr o g hs).trans h2)
  · exact (h3.alloc h3.size o).grown hgr (by have := h3.size; simp; omega) (fun k hk => by have := (hlt k hk).1; omega)

def LsRel (w : World) (s : Sl.Four) (out i : Value) (wr : World) : Prop :=
  ∃ (k : Nat) (z : Int), k ≤ 256 ∧ i = .int .i64 z ∧ z = (k : Int) ∧ Coll w w.heap.size s out (((List.range k).filter s.has).map (fun n : Nat => (n : Int))) wr

theorem range_true (s : Sl.Four) (k : Nat) (h : s.has k = true) : ((List.range (k + 1)).filter s.has).map (fun n : Nat => (n : Int)) = ((List.range k).filter s.has).map (fun n : Nat => (n : Int)) ++ [(k : Int)] := by
  rw [List.range_succ, List.filter_append, List.map_append, List.filter_cons_of_pos h]
  rfl
theorem range_false (s : Sl.Four) (k : Nat) (h : s.has k = false) : ((List.range (k + 1)).filter s.has).map (fun n : Nat => (n : Int)) = ((List.range k).filter s.has).map (fun n : Nat => (n : Int)) := by
  rw [List.range_succ, List.filter_append, List.map_append, List.filter_cons_of_neg (by rw [h]; simp)]
  simp
theorem range_le (s : Sl.Four) (k : Nat) : (((List.range k).filter s.has).map (fun n : Nat => (n : Int))).length ≤ k := by
  rw [List.length_map]
  exact Nat.le_trans (List.length_filter_le _ _) (by simp)

/-- A row of the slots is answered. -/
def ListP (s : Sl.Four) (w : World) (e : Ending) (w' : World) : Prop :=
  ∃ A c, e = .returned (.slice A s.list.length c) ∧ IntsAt w' w'.heap.size A s.list.length s.list ∧ Below w.heap.size w w'

theorem list_end {s : Sl.Four} {w wr : World} {v : Value} (h : Coll w w.heap.size s v s.list wr) : ListP s w (.returned v) wr := by
  obtain ⟨h1, _, h3⟩ := h
  rcases h1.2 with ⟨rfl, hn⟩ | ⟨g, cap, cur, rfl, _⟩
  · have hi := ints_of_own h1
    rw [← hn] at hi
    exact ⟨none, 0, by rw [hn], hi.2.1, h3⟩
  · exact ⟨_, cap, rfl, (ints_of_own h1).2.1, h3⟩

set_option maxRecDepth 100000 in
set_option maxHeartbeats 1000000 in
theorem list_any (s : Sl.Four) (w : World) :
    Calls Tryd.prog 18 #[setV s] w (ListP s w) := by
  obtain ⟨i0, hi, hz0, hz1, hz2⟩ := info_parts info_int
  go_enter Tryd.func18, Tryd.ntmps18
  go_wp2
  go_loopw [3, 4] (LsRel w s) (fun _ i _ => (256 - intOf i).toNat)
  case atStart => exact ⟨0, 0, by omega, rfl, rfl, ⟨rfl, .inl ⟨rfl, rfl⟩⟩, SetAt.new w s, (Below.refl _ _).alloc (Nat.le_refl _) _⟩
  case round =>
    obtain ⟨k, z, hk, rfl, hz, hC⟩ := hrel
    have HK := Lib.hid hk
    by_cases hlt : k < 256
    · have hy1 : z < 256 := by omega
      have hy0 : 0 ≤ z := by omega
      have HZ := Lib.hid hz
      have HL := Lib.hid hlt
      have HH : Hid (s.hasI z = s.has k) := Lib.hid (by rw [hz]; unfold Sl.Four.hasI; rw [Int.toNat_natCast, decide_eq_true (by omega), Bool.true_and])
      have HR := Lib.hid (fun w => rhas_any s z w)
      rw [HH.out] at HR
      clear HH
      have HT := Lib.hid (range_true s k)
      have HF := Lib.hid (range_false s k)
      have HE := Lib.hid (range_le s k)
      obtain ⟨⟨c0, c1, c2, c3⟩, _⟩ := hC.2.1.reads
      have HC := Lib.hid hC
      clear hC hz hlt hk
      generalize ((List.range k).filter s.has).map (fun n : Nat => (n : Int)) = l at *
      cases hv : s.has k
      · rw [hv] at HR
        have HN := Lib.hid (HF.out hv)
        clear hv HT HF
        go_wp2_with (go_at_call 32; refine (HR.out _).mono ?_; rintro e w1 ⟨rfl, hbl⟩; have HBL := Lib.hid hbl; clear hbl)
        go_roundw
        case rel => exact ⟨k + 1, _, by have := HL.out; omega, rfl, by rw [HZ.out]; omega, by rw [HN.out]; exact HC.out.kept HBL.out⟩
        case measure => simp [intOf]; omega
      · rw [hv] at HR
        have HN := Lib.hid (HT.out hv)
        rw [← HZ.out] at HN
        clear hv HT HF
        go_wp2_with (first
          | (go_at_call 32; refine (HR.out _).mono ?_; rintro e w1 ⟨rfl, hbl⟩; have HBL := Lib.hid hbl; clear hbl; have HKp := Lib.hid (HC.out.kept HBL.out); clear HC HBL c0 c1 c2 c3)
          | (at_builtin; refine wpList_append_lies _ rfl (.tmp 12) (.tmp 14) 37 rfl (w.heap.size + 1) 3 i0 (.int .i64 0) 1 8 Tryd.underlying37 hi hz0 hz1 hz2 rfl (by decide) u3 l.length (vs l) rfl (HKp.out.1.alloc _) ⟨w1.heap.size, 0, none⟩ 1 1 (vs [z]) rfl rfl ?c1 (vs_one _) (by decide) ?c3 ?c4 ?c5 (w1.heap.size + 1) ?c6 ?_))
        case c1 => exact new_one w1 _ _
        case c3 => have := HE.out; have := HL.out; unfold maxLen; omega
        case c4 => have := HE.out; have := HL.out; omega
        case c5 => have := HKp.out.2.1.lt; simp; omega
        case c6 => simp
        intro g cap w2 hown2 hgrow2 hat2 _
        have HS := Lib.hid (HKp.out.step (Nat.le_refl _) hown2 hgrow2)
        clear hown2 hgrow2 hat2 HKp
        go_wp2
        go_roundw
        case rel => exact ⟨k + 1, _, by have := HL.out; omega, rfl, by rw [HZ.out]; omega, by rw [HN.out]; exact HS.out⟩
        case measure => simp [intOf]; omega
    · have hy1 : 256 ≤ z := by omega
      obtain rfl : k = 256 := by omega
      have HC := Lib.hid hC
      rw [← Sl.list_eq] at HC
      clear hC hz hk hlt HK
      go_wp2
      go_ret
      exact list_end HC.out
end Go.Proofs.YtinmcelgfdjmfaaDoor
