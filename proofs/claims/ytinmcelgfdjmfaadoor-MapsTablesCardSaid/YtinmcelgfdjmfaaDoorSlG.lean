/-
  What the document's Move answers: each slot by as much greater. Conditions: none.
-/
import Derived.Test.YtinmcelgfdjmfaaDoorSlF
namespace Go.Proofs.YtinmcelgfdjmfaaDoor
open Go.RowKit

/-- What Move's loop holds: row is collected in out, in memory from B on; nothing below B has turned since w1. -/
def Mv (B : Nat) (w1 : World) (out : Value) (row : List Int) (wr : World) : Prop := wr.ownsRow B 3 1 out row.length (vs row) ∧ Below B w1 wr
set_option maxRecDepth 100000 in
theorem Mv.step {B : Nat} {w1 wr w2 : World} {out : Value} {row : List Int} (h : Mv B w1 out row wr) (hB : B ≤ wr.heap.size) {x : Int} {o : Obj} {ga cap : Nat}
    (hown : w2.ownsRow B 3 1 (.slice (some ⟨ga, 0, none⟩) (row.length + 1) cap) (row.length + 1) (vs row ++ vs [x])) (hgr : (wr.alloc o).grownBy w2 out.ownBlock) :
    Mv B w1 (.slice (some ⟨ga, 0, none⟩) (row.length + 1) cap) (row ++ [x]) w2 := by
  obtain ⟨h1, h3⟩ := h
  have hlt := h1.lt
  exact ⟨by rw [List.length_append, vs_append]; exact hown, (h3.alloc hB o).grown hgr (by simp; omega) (fun k hk => (hlt k hk).1)⟩

def MvRel (B n : Nat) (w1 : World) (row : Nat → List Int) (out i : Value) (wr : World) : Prop :=
  ∃ k : Nat, k ≤ n ∧ i = .int .i64 k ∧ Mv B w1 out (row k) wr

theorem list_bd (s : Sl.Four) (k : Nat) (h : k < s.list.length) : 0 ≤ s.list.getD k 0 ∧ s.list.getD k 0 ≤ 255 := by
  have hm : s.list.getD k 0 ∈ s.list := by
    simp only [List.getD, List.getElem?_eq_getElem h, Option.getD_some]
    exact List.getElem_mem h
  obtain ⟨m, hm, _, e⟩ := (Sl.mem_list s _).1 hm
  omega
theorem map_snoc (l : List Int) (d : Int) (k : Nat) (h : k < l.length) : (l.take (k + 1)).map (· + d) = (l.take k).map (· + d) ++ [l.getD k 0 + d] := by
  rw [take_snoc l k h, List.map_append]
  rfl

set_option maxRecDepth 100000 in
theorem mv_open {B : Nat} {wr : World} {v : Value} {row : List Int} (h : wr.ownsRow B 3 1 v row.length (vs row)) : ∃ A k c, v = .slice A k c ∧ IntsAt wr wr.heap.size A k row ∧ k = row.length := by
  rcases h.2 with ⟨rfl, hn⟩ | ⟨g, cap, cur, rfl, _⟩
  · obtain ⟨h1, h2, h3⟩ := ints_of_own h
    exact ⟨_, _, _, rfl, h2, h1⟩
  · obtain ⟨h1, h2, h3⟩ := ints_of_own h
    exact ⟨_, _, _, rfl, h2, h1⟩
set_option maxRecDepth 100000 in
theorem mv_box {w w1 wr : World} {o : Obj} (h : Below ((w.alloc o).alloc (.cells #[.int .u64 0, .int .u64 0, .int .u64 0, .int .u64 0] 27)).heap.size ((w.alloc o).alloc (.cells #[.int .u64 0, .int .u64 0, .int .u64 0, .int .u64 0] 27)) w1) (h2 : Below w1.heap.size w1 wr) :
    SetAt wr (w.heap.size + 1) Sl.no := by
  have e := SetAt.new (w.alloc o) Sl.no
  rw [World.size_alloc] at e
  have e1 := SetAt.below e h (by simp)
  exact e1.below h2 e1.lt
theorem mv_below {w w1 wr : World} {o o' : Obj} (h : Below ((w.alloc o).alloc o').heap.size ((w.alloc o).alloc o') w1) (h2 : Below w1.heap.size w1 wr) : Below w.heap.size w wr := by
  have e := (((Below.refl _ w).alloc (Nat.le_refl _) o).alloc (by simp) o').trans (h.mono (by simp; omega))
  exact e.trans (h2.mono e.size)

set_option maxRecDepth 100000 in
set_option maxHeartbeats 2000000 in
theorem rmove_any (s : Sl.Four) (d : Int) (w : World) :
    Calls Tryd.prog 7 #[setV s, .int .i64 d] w (SetP (s.move d) w) := by
  obtain ⟨i0, hi, hz0, hz1, hz2⟩ := info_parts info_int
  unfold Sl.Four.move
  by_cases hc : -255 ≤ d ∧ d ≤ 255
  · rw [if_pos hc]
    obtain ⟨hd1, hd2⟩ := hc
    go_enter Tryd.func7, Tryd.ntmps7
    go_wp2_with (go_at_call 18; refine (list_any _ _).mono ?_; rintro e w1 ⟨A, c, rfl, hI, hb⟩; have HI := Lib.hid hI; have HB := Lib.hid hb; have HLen := Lib.hid (Sl.list_le s); have HBd := Lib.hid (list_bd s); clear hI hb; obtain ⟨n, hn⟩ : ∃ n, s.list.length = n := ⟨_, rfl⟩; rw [hn] at HI HLen HBd; simp only [hn]; have HN := Lib.hid hn; clear hn)
    have hn : n ≤ 9223372036854775807 := by have := HLen.out; omega
    go_loopw [5, 7] (MvRel w1.heap.size n w1 (fun k => (s.list.take k).map (· + d))) (fun _ i _ => n - (intOf i).toNat)
    case atStart => exact ⟨0, by omega, rfl, ⟨rfl, .inl ⟨rfl, rfl⟩⟩, Below.refl _ _⟩
    case round =>
      obtain ⟨k, hk, rfl, hM⟩ := hrel
      have hM : Mv w1.heap.size w1 u5 ((s.list.take k).map (· + d)) wr := hM
      by_cases hlt : k < n
      · obtain ⟨b, off, rfl, hlb, hcs⟩ := (HI.out.below hM.2).2 (by omega)
        have hck := hcs k hlt
        have HS := Lib.hid (map_snoc s.list d k (by rw [HN.out]; exact hlt))
        obtain ⟨hx0, hx1⟩ := HBd.out k hlt
        have HRl : Hid (((s.list.take k).map (· + d)).length ≤ 256) := Lib.hid (by rw [List.length_map]; exact Nat.le_trans (List.length_take_le _ _) (by have := HLen.out; omega))
        have HM := Lib.hid hM
        have HZ := Lib.hid hM.2.size
        clear hcs hM
        generalize s.list.getD k 0 = x at *
        generalize hrow : (s.list.take k).map (· + d) = row at *
        have HRow := Lib.hid hrow
        clear hrow
        go_wp2_with (at_builtin; refine wpList_append_lies _ rfl (.tmp 22) (.tmp 29) 37 rfl w1.heap.size 3 i0 (.int .i64 0) 1 8 Tryd.underlying37 hi hz0 hz1 hz2 rfl (by decide) u5 row.length (vs row) rfl (HM.out.1.alloc _) ⟨wr.heap.size, 0, none⟩ 1 1 (vs [x + d]) rfl rfl ?c1 (vs_one _) (by decide) ?c3 ?c4 ?c5 (wr.heap.size + 1) ?c6 ?_)
        case c1 => exact fun _ _ h => h
        case c3 => have := HRl.out; unfold maxLen; omega
        case c4 => have := HRl.out; omega
        case c5 => have := HZ.out; simp; omega
        intro g cap w2 hown2 hgrow2 hat2 _
        have HSt := Lib.hid (HM.out.step HZ.out hown2 hgrow2)
        clear hown2 hgrow2 hat2 HM
        go_wp2
        go_roundw
        case rel => exact ⟨k + 1, by omega, by go_num, by simp only [HS.out]; exact HSt.out⟩
        case measure => simp [intOf]; omega
      · have HE : Hid (s.list.take k = s.list) := Lib.hid (List.take_of_length_le (by rw [HN.out]; omega))
        rw [HE.out] at hM
        have hlen : (s.list.map (· + d)).length ≤ 256 := by rw [List.length_map]; exact Sl.list_le s
        obtain ⟨A', k', c', rfl, hI', hl'⟩ := mv_open hM.1
        have HR := Lib.hid (rslof_any A' k' c' (s.list.map (· + d)) wr hI' (by omega))
        have HT := Lib.hid (mv_box HB.out hM.2)
        have HBB := Lib.hid (mv_below HB.out hM.2)
        clear hM hI' hl'
        go_wp2_with (go_at_call 19; refine HR.out.mono ?_; rintro e w3 ⟨rfl, hb3⟩; obtain ⟨⟨c0, c1, c2, c3⟩, f0, f1, f2, f3⟩ := (HT.out.below hb3 HT.out.lt).reads; have H3 := Lib.hid hb3; clear hb3)
        exact bodyPost_ret (v := setV (Sl.of (s.list.map (· + d)))) (by simp [results, Tryd.results7, go_sem, *]) rfl ⟨rfl, below_store (HBB.out.trans (H3.out.mono HBB.out.size)) (by omega) _ _ _ _⟩
  · rw [if_neg hc]
    have hd : ¬ -255 ≤ d ∨ (-255 ≤ d ∧ ¬ d ≤ 255) := by omega
    clear hc
    rcases hd with hd | ⟨hd, hd'⟩
    all_goals
      go_enter Tryd.func7, Tryd.ntmps7
      go_wp2_with (go_at_call 18; refine (list_any _ _).mono ?_; rintro e w1 ⟨A, c, rfl, hI, hb⟩; have HB := Lib.hid hb; have HLen := Lib.hid (Sl.list_le s); clear hI hb; obtain ⟨n, hn⟩ : ∃ n, s.list.length = n := ⟨_, rfl⟩; rw [hn] at HLen; simp only [hn]; clear hn)
      have hn : n ≤ 9223372036854775807 := by have := HLen.out; omega
      go_loopw [5, 7] (MvRel w1.heap.size n w1 (fun _ => [])) (fun _ i _ => n - (intOf i).toNat)
      case atStart => exact ⟨0, by omega, rfl, ⟨rfl, .inl ⟨rfl, rfl⟩⟩, Below.refl _ _⟩
      case round =>
        obtain ⟨k, hk, rfl, hM⟩ := hrel
        have hM : Mv w1.heap.size w1 u5 [] wr := hM
        by_cases hlt : k < n
        · have HM := Lib.hid hM
          clear hM
          go_wp2
          go_roundw
          case rel => exact ⟨k + 1, by omega, by go_num, HM.out⟩
          case measure => simp [intOf]; omega
        · have hlen : ([] : List Int).length ≤ 256 := by simp
          generalize ([] : List Int) = row at *
          obtain ⟨A', k', c', rfl, hI', hl'⟩ := mv_open hM.1
          have HR := Lib.hid (rslof_any A' k' c' row wr hI' (by omega))
          have HT := Lib.hid (mv_box HB.out hM.2)
          have HBB := Lib.hid (mv_below HB.out hM.2)
          clear hM hI' hl'
          go_wp2_with (go_at_call 19; refine HR.out.mono ?_; rintro e w3 ⟨rfl, hb3⟩; obtain ⟨⟨c0, c1, c2, c3⟩, f0, f1, f2, f3⟩ := (HT.out.below hb3 HT.out.lt).reads; have H3 := Lib.hid hb3; clear hb3)
          exact bodyPost_ret (v := setV (Sl.of row)) (by simp [results, Tryd.results7, go_sem, *]) rfl ⟨rfl, below_store (HBB.out.trans (H3.out.mono HBB.out.size)) (by omega) _ _ _ _⟩
end Go.Proofs.YtinmcelgfdjmfaaDoor
