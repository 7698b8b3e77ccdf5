/-
  What uvar.Put answers: the bytes of the slice that it is handed, and the number's bytes behind them. Conditions: the slice is the caller's own; lengths within the reach.
-/
import Derived.Test.YtinmcelgfdjmfaaDoorOwn
import Derived.Deep.AppendLies
import Derived.LoopTactic
namespace Go.Proofs.YtinmcelgfdjmfaaDoor
open Go.RowKit

/-- Bytes as cells. -/
def bs (l : List Nat) : List Value := l.map fun c : Nat => Value.int .u8 (c : Int)
theorem bs_append (a b : List Nat) : bs (a ++ b) = bs a ++ bs b := List.map_append
theorem bs_length (a : List Nat) : (bs a).length = a.length := List.length_map _
theorem bs_one (l : List Nat) : ∀ u ∈ bs l, u.oneCell' = true := by
  intro u hu
  obtain ⟨c, _, rfl⟩ := List.mem_map.1 hu
  rfl

theorem news_one (w : World) (t : TypeId) (c : Nat) (x : Int) (h : x = (c : Int)) : ∀ j u, (bs [c])[j]? = some u → (w.alloc (.cells #[.int .u8 x] t)).cell? ((⟨w.heap.size, 0, none⟩ : Addr).add j) = some u := by
  subst h
  exact World.news_of_block (heap_alloc_new w (.cells #[.int .u8 (c : Int)] t))

theorem OwnInv.cast {base : Nat} {w w' : World} {v u : Value} {l l' : Nat} {xs xs' : List Value} (h : OwnInv base w v u l xs w') (e1 : l = l') (e2 : xs = xs') : OwnInv base w v u l' xs' w' := by
  subst e1 e2
  exact h

/-- A round of Put's loop: pre is laid, q is left. -/
def PutRel (base : Nat) (w : World) (v : Value) (l : Nat) (xs : List Value) (n : Nat) (u m : Value) (wr : World) : Prop :=
  ∃ (pre : List Nat) (q : Nat), m = .int .u64 (q : Int) ∧ q < 18446744073709551616 ∧ pre ++ Uv.put q = Uv.put n ∧ OwnInv base w v u (l + pre.length) (xs ++ bs pre) wr

set_option maxHeartbeats 1000000 in
set_option maxRecDepth 100000 in
theorem put_own (base : Nat) (v : Value) (l : Nat) (xs : List Value) (n : Nat) (w : World) (hn : n < 18446744073709551616) (hown : w.ownsRow base 5 1 v l xs) (hbase : base ≤ w.heap.size) (hl : l + 10 ≤ 140737488355328) :
    Calls Tryd.prog 26 #[v, .int .u64 (n : Int)] w (OwnPost base w v (l + (Uv.put n).length) (xs ++ bs (Uv.put n))) := by
  obtain ⟨i0, hi, hz0, hz1, hz2⟩ := info_parts info_u8
  have hlen := Uv.put_len_10 hn
  have hpos := Uv.put_len_pos n
  go_enter Tryd.func26, Tryd.ntmps26
  go_wp2_with (first
    | (go_at_call 37; refine (size_any n _ hn).mono ?_; rintro e w' ⟨rfl, rfl⟩)
    | (go_at_call 36; refine (grow_own base v l xs _ _ hown hbase hpos (by omega)).mono ?_; rintro e w1 ⟨v1, rfl, hinv⟩))
  go_loopw [0, 1] (fun u m wr => PutRel base w v l xs n u m wr) (fun _ m _ => (intOf m).toNat)
  case atStart => exact ⟨[], n, rfl, hn, rfl, by simpa [bs] using hinv⟩
  case round =>
    obtain ⟨pre, q, rfl, hq, hpre, hI⟩ := hrel
    have HP := Lib.hid hpre
    clear hpre hinv hown
    have hpl : pre.length + (Uv.put q).length = (Uv.put n).length := by rw [← HP.out, List.length_append]
    have hqp := Uv.put_len_pos q
    have HL : pre.length + 1 ≤ 10 := by omega
    have hws := hI.2.1.size
    clear hpl hqp
    by_cases h : q < 128
    · go_wp2_with (at_builtin; refine wpList_append_lies _ rfl (.tmp 19) (.tmp 22) 31 rfl base 5 i0 (.int .u8 0) 1 1 Tryd.underlying31 hi hz0 hz1 hz2 rfl (by decide) u0 (l + pre.length) (xs ++ bs pre) rfl (hI.1.alloc _) ⟨wr.heap.size, 0, none⟩ 1 1 (bs [q]) rfl rfl ?c1 (bs_one _) (by decide) ?c3 ?c4 ?c5 (wr.heap.size + 1) ?c6 ?_)
      case c1 => exact news_one wr _ q _ rfl
      case c3 => unfold maxLen; omega
      case c4 => omega
      case c5 => simp; omega
      case c6 => simp
      intro g cap w2 hown2 hgrow2 hat2 _
      have hR := hI.step _ hown2 hgrow2 hat2
      have HR := Lib.hid hR
      clear hown2 hgrow2 hI hR
      go_wp2
      go_ret
      exact ⟨_, rfl, HR.out.cast (by rw [← HP.out, List.length_append, Uv.put_small h]; simp; omega) (by rw [← HP.out, Uv.put_small h]; simp [bs_append])⟩
    · go_wp2_with (at_builtin; refine wpList_append_lies _ rfl (.tmp 11) (.tmp 15) 31 rfl base 5 i0 (.int .u8 0) 1 1 Tryd.underlying31 hi hz0 hz1 hz2 rfl (by decide) u0 (l + pre.length) (xs ++ bs pre) rfl (hI.1.alloc _) ⟨wr.heap.size, 0, none⟩ 1 1 (bs [q % 128 + 128]) rfl rfl ?d1 (bs_one _) (by decide) ?d3 ?d4 ?d5 (wr.heap.size + 1) ?d6 ?_)
      case d1 => exact news_one wr _ _ _ (u8_top q)
      case d3 => unfold maxLen; omega
      case d4 => omega
      case d5 => simp; omega
      case d6 => simp
      intro g cap w2 hown2 hgrow2 hat2 _
      have hR := hI.step _ hown2 hgrow2 hat2
      have HR := Lib.hid hR
      clear hown2 hgrow2 hI hR
      go_wp2
      go_roundw
      case rel =>
        refine ⟨pre ++ [q % 128 + 128], q / 128, by go_num, by omega, ?_, HR.out.cast (by simp; omega) (by simp [bs_append])⟩
        rw [← HP.out, Uv.put_large h]
        simp
      case measure => simp [intOf]; omega
end Go.Proofs.YtinmcelgfdjmfaaDoor
