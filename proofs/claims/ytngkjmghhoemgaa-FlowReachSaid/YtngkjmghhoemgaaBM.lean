/-
  What every layer's texts share: rows that a call owns; a slice of whole numbers in memory. Conditions: none.
  Numbers as bytes, seven bits in each: the plain functions, and that they take each other back. Conditions: numbers below 2^64.
-/
import Derived.Test.YtngkjmghhoemgaaProg
import Derived.WalkKit
import Derived.WalkSpells
import Derived.WalkLawsBesides
import Derived.Lib.Hide
import Derived.Below
import Derived.Laws.OwnMore
import Derived.Deep.AppendLies
import Derived.LoopTactic
import Derived.Lib.BitFns
namespace Go.Proofs.Ytngkjmghhoemgaa
open Go.RowKit

theorem ret_int {k : IntKind} {a b : Int} (h : a = b) : Ending.returned (.int k a) = .returned (.int k b) := by rw [h]

theorem ret_bool {a b : Bool} (h : a = b) : Ending.returned (.bool a) = .returned (.bool b) := by rw [h]
theorem retB {a b : Bool} (h : a = b) : Ending.returned (.bool a) = .returned (.bool b) := ret_bool h
theorem below_drewN {B : Nat} {a w : World} (h : Below B a w) (n : Nat) : Below B a (w.drewN n) := ⟨h.os, h.tape, h.output, h.size, h.block⟩
theorem own_grown {w wr w2 : World} {e : TypeId} {size k : Nat} {u : Value} {xs : List Value} {o : Obj} (hB : Below w.heap.size w wr) (hO : wr.ownsRow w.heap.size e size u k xs) (hg : (wr.alloc o).grownBy w2 u.ownBlock) : Below w.heap.size w w2 :=
  (hB.alloc hB.size o).grown hg (by have := hB.size; simp; omega) (fun k hk => (hO.lt k hk).1)

theorem ownsRow_base {w : World} {b b' : Nat} {e : TypeId} {size n : Nat} {v : Value} {xs : List Value} (h : w.ownsRow b e size v n xs) (hb : b' ≤ b) : w.ownsRow b' e size v n xs := by
  obtain ⟨h1, h2⟩ := h
  refine ⟨h1, ?_⟩
  rcases h2 with h2 | ⟨g, cap, cur, hv, hg, hh⟩
  · exact .inl h2
  · exact .inr ⟨g, cap, cur, hv, by omega, hh⟩

/-- What is owned stays owned where nothing below the world's own size turns. -/
theorem ownsRow_below {w w' : World} {b : Nat} {e : TypeId} {size n : Nat} {v : Value} {xs : List Value} (h : w.ownsRow b e size v n xs) (hb : Below w.heap.size w w') : w'.ownsRow b e size v n xs := by
  have hlt := h.lt
  obtain ⟨h1, h2⟩ := h
  refine ⟨h1, ?_⟩
  rcases h2 with h2 | ⟨g, cap, cur, hv, hg, hh, hr⟩
  · exact .inl h2
  · refine .inr ⟨g, cap, cur, hv, hg, ?_, hr⟩
    rw [hb.block g (hlt g (by rw [hv]; rfl)).2]
    exact hh

theorem row_kept {w w' : World} {b : Nat} {e : TypeId} {size n : Nat} {v : Value} {xs : List Value} (h : w.ownsRow b e size v n xs) (hk : ∀ g, v.ownBlock = some g → w'.heap[g]? = w.heap[g]?) : w'.ownsRow b e size v n xs := by
  obtain ⟨h1, h2⟩ := h
  refine ⟨h1, ?_⟩
  rcases h2 with h2 | ⟨g, cap, cur, hv, hg, hh, hr⟩
  · exact .inl h2
  · refine .inr ⟨g, cap, cur, hv, hg, ?_, hr⟩
    rw [hk g (by rw [hv]; rfl)]
    exact hh

/-- Below, from call to call. -/
theorem below_self {w w1 w' : World} (h : Below w.heap.size w w1) (h1 : Below w1.heap.size w1 w') : Below w.heap.size w w' := h.trans (h1.mono h.size)

/-- A bool is answered; nothing below has turned. -/
def BoolP (b : Bool) (w : World) (e : Ending) (w' : World) : Prop := e = .returned (.bool b) ∧ Below w.heap.size w w'

/-- A text is told; nothing below has turned. -/
def StrP (s : ByteArray) (w : World) (e : Ending) (w' : World) : Prop := e = .returned (.string s) ∧ Below w.heap.size w w'

/-- A value is answered; the world is as it was. -/
def SameP (v : Value) (w : World) (e : Ending) (w' : World) : Prop := e = .returned v ∧ w' = w

/-- A slice of n whole numbers, below block B. -/
def IntsAt (w : World) (B : Nat) (a : Option Addr) (n : Nat) (l : List Int) : Prop :=
  l.length = n ∧ (0 < n → ∃ b off, a = some ⟨b, off, none⟩ ∧ b < B ∧ ∀ i, i < n → w.cell? ⟨b, off + i, none⟩ = some (.int .i64 (l.getD i 0)))

theorem IntsAt.below {w w' : World} {B : Nat} {a : Option Addr} {n : Nat} {l : List Int} (h : IntsAt w B a n l) (hb : Below B w w') : IntsAt w' B a n l := by
  refine ⟨h.1, fun hn => ?_⟩
  obtain ⟨b, off, e, hlt, hc⟩ := h.2 hn
  exact ⟨b, off, e, hlt, fun i hi => (hb.cell (p := ⟨b, off + i, none⟩) hlt).trans (hc i hi)⟩

theorem IntsAt.more {w : World} {B B' : Nat} {a : Option Addr} {n : Nat} {l : List Int} (h : IntsAt w B a n l) (hb : B ≤ B') : IntsAt w B' a n l := by
  refine ⟨h.1, fun hn => ?_⟩
  obtain ⟨b, off, e, hlt, hc⟩ := h.2 hn
  exact ⟨b, off, e, by omega, hc⟩

/-- The cell at place k, and what it is. -/
theorem ints_cell {w : World} {B n : Nat} {a : Option Addr} {l : List Int} (h : IntsAt w B a n l) {k : Nat} (hk : k < n) : ∃ b off x, a = some ⟨b, off, none⟩ ∧ b < B ∧ w.cell? ⟨b, off + k, none⟩ = some (.int .i64 x) ∧ l.getD k 0 = x ∧ k < l.length := by
  obtain ⟨b, off, e, hlt, hc⟩ := h.2 (by omega)
  exact ⟨b, off, _, e, hlt, hc k hk, rfl, by rw [h.1]; exact hk⟩

theorem take_snoc (l : List Int) (k : Nat) (h : k < l.length) : l.take (k + 1) = l.take k ++ [l.getD k 0] := by
  rw [List.take_succ_eq_append_getElem h]
  simp [List.getD, h]

set_option maxRecDepth 100000 in
theorem info_int : (Try.prog.info? 3).map (fun i => (i.zero, i.size, i.bytes)) = some (some (.int .i64 0), 1, 8) := by kernel_rfl

/-- Whole numbers as cells. -/
def vs (l : List Int) : List Value := l.map fun c : Int => Value.int .i64 c

theorem vs_append (a b : List Int) : vs (a ++ b) = vs a ++ vs b := List.map_append

theorem vs_one (l : List Int) : ∀ u ∈ vs l, u.oneCell' = true := by
  intro u hu
  obtain ⟨c, _, rfl⟩ := List.mem_map.1 hu
  rfl

theorem new_one (w : World) (t : TypeId) (x : Int) : ∀ j u, (vs [x])[j]? = some u → (w.alloc (.cells #[.int .i64 x] t)).cell? ((⟨w.heap.size, 0, none⟩ : Addr).add j) = some u :=
  World.news_of_block (heap_alloc_new w (.cells #[.int .i64 x] t))

set_option maxRecDepth 100000 in
/-- A row of whole numbers that the call itself has made, read. -/
theorem ints_of_own {w : World} {b n : Nat} {A : Option Addr} {k c : Nat} {l : List Int} (h : w.ownsRow b 3 1 (.slice A k c) n (vs l)) : k = n ∧ IntsAt w w.heap.size A k l ∧ l.length = n := by
  have hl : l.length = n := by have := h.1; unfold vs at this; simpa using this
  have hlt := h.lt
  rcases h.2 with ⟨hv, hn⟩ | ⟨g, cap, cur, hv, hg, hh, hnc, hcm, hcs, ht⟩
  · injection hv with h1 h2 h3
    subst h1 h2 hn
    exact ⟨rfl, ⟨hl, fun h => absurd h (by omega)⟩, hl⟩
  · injection hv with h1 h2 h3
    subst h1 h2
    refine ⟨rfl, ⟨hl, fun hn => ⟨g, 0, rfl, (hlt g rfl).2, fun i hi => ?_⟩⟩, hl⟩
    rw [Nat.zero_add, cell_of_row w g i cur _ _ hh]
    have e := congrArg (fun z => z[i]?) ht
    simp only [Nat.mul_one, List.getElem?_take, hi, if_true, vs] at e
    rw [← Array.getElem?_toList, e]
    simp [List.getD, hl, hi]

theorem ints_new1 (w : World) (x : Int) (t : TypeId) : IntsAt (w.alloc (.cells #[.int .i64 x] t)) (w.alloc (.cells #[.int .i64 x] t)).heap.size (some ⟨w.heap.size, 0, none⟩) 1 [x] := by
  have h : (w.alloc (.cells #[.int .i64 x] t)).heap[w.heap.size]? = some (.cells #[.int .i64 x] t (0, 0)) := heap_alloc_new w _
  refine ⟨rfl, fun _ => ⟨w.heap.size, 0, rfl, by simp, fun i hi => ?_⟩⟩
  obtain rfl : i = 0 := by omega
  exact cell_of_row _ _ 0 _ _ _ h

theorem ints_new2 (w : World) (x y : Int) (t : TypeId) : IntsAt (w.alloc (.cells #[.int .i64 x, .int .i64 y] t)) (w.alloc (.cells #[.int .i64 x, .int .i64 y] t)).heap.size (some ⟨w.heap.size, 0, none⟩) 2 [x, y] := by
  have h : (w.alloc (.cells #[.int .i64 x, .int .i64 y] t)).heap[w.heap.size]? = some (.cells #[.int .i64 x, .int .i64 y] t (0, 0)) := heap_alloc_new w _
  refine ⟨rfl, fun _ => ⟨w.heap.size, 0, rfl, by simp, fun i hi => ?_⟩⟩
  obtain rfl | rfl : i = 0 ∨ i = 1 := by omega
  · exact cell_of_row _ _ 0 _ _ _ h
  · exact cell_of_row _ _ 1 _ _ _ h

end Go.Proofs.Ytngkjmghhoemgaa

namespace Go.Proofs.Ytngkjmghhoemgaa.Uv

/-- A number's bytes. -/
def put (n : Nat) : List Nat := if n < 128 then [n] else (n % 128 + 128) :: put (n / 128)
termination_by n
decreasing_by omega

theorem put_small {n : Nat} (h : n < 128) : put n = [n] := by rw [put, if_pos h]
theorem put_large {n : Nat} (h : ¬ n < 128) : put n = (n % 128 + 128) :: put (n / 128) := by rw [put, if_neg h]

theorem put_byte (n : Nat) : ∀ c ∈ put n, c < 256 := by
  induction n using Nat.strongRecOn with
  | ind n ih =>
    intro c hc
    by_cases h : n < 128
    · rw [put_small h] at hc; simp at hc; omega
    · rw [put_large h] at hc
      rcases List.mem_cons.1 hc with rfl | hc
      · omega
      · exact ih (n / 128) (by omega) c hc

theorem put_len_pos (n : Nat) : 0 < (put n).length := by
  by_cases h : n < 128
  · rw [put_small h]; simp
  · rw [put_large h]; simp

theorem put_len_le : ∀ (k n : Nat), n < 128 ^ (k + 1) → (put n).length ≤ k + 1
  | 0, n, h => by rw [put_small (by simpa using h)]; simp
  | k + 1, n, h => by
    by_cases hn : n < 128
    · rw [put_small hn]; simp
    · rw [put_large hn, List.length_cons]
      have := put_len_le k (n / 128) (by rw [Nat.pow_succ] at h; omega)
      omega

theorem put_len_10 {n : Nat} (h : n < 18446744073709551616) : (put n).length ≤ 10 :=
  put_len_le 9 n (by rw [show (128 : Nat) ^ (9 + 1) = 1180591620717411303424 from rfl]; omega)

/-- How many bytes: by how many bits there are. -/
theorem put_len_bits (n : Nat) : n < 18446744073709551616 → (max (Lib.bitLen n) 1 + 7 - 1) / 7 = (put n).length := by
  induction n using Nat.strongRecOn with
  | ind n ih =>
    intro hn
    by_cases h : n < 128
    · rw [put_small h]
      have := Lib.bitLen_le n 7 (by omega) (by simpa using h)
      simp only [List.length_cons, List.length_nil]
      omega
    · rw [put_large h, List.length_cons, ← ih (n / 128) (by omega) (by omega)]
      have e := Lib.bitLen_shift 7 n (by omega) (by omega)
      rw [show (2 : Nat) ^ 7 = 128 from rfl] at e
      have e1 := Lib.bitLen_half (n / 128) (by omega) (by omega)
      omega

/-- The number that bytes begin with, how many bytes it has, and which error. -/
def getF : List Nat → Nat → Nat → Nat × Nat × Nat
  | [], _, _ => (0, 0, 3)
  | c :: r, i, n =>
    if i = 9 ∧ 1 < c then (0, 0, 5)
    else if 128 ≤ c then getF r (i + 1) (n + (c - 128) * 128 ^ i)
    else if c = 0 ∧ 0 < i then (0, 0, 4)
    else (n + c * 128 ^ i, i + 1, 0)
def get (l : List Nat) : Nat × Nat × Nat := getF l 0 0

theorem pow_nine : (128 : Nat) ^ 9 = 9223372036854775808 := rfl

theorem get_put_from (n : Nat) : ∀ (i a : Nat) (r : List Nat), i ≤ 9 → n * 128 ^ i < 18446744073709551616 → (0 < n ∨ i = 0) →
    getF (put n ++ r) i a = (a + n * 128 ^ i, i + (put n).length, 0) := by
  induction n using Nat.strongRecOn with
  | ind n ih =>
    intro i a r hi hs h0
    have h9 : i = 9 → n < 2 := by rintro rfl; rw [pow_nine] at hs; omega
    by_cases h : n < 128
    · rw [put_small h]
      simp only [List.cons_append, List.nil_append, getF, List.length_cons, List.length_nil]
      rw [if_neg (by omega), if_neg (by omega), if_neg (by omega)]
    · rw [put_large h]
      simp only [List.cons_append, getF, List.length_cons]
      rw [if_neg (by omega), if_pos (by omega)]
      have hi9 : i ≠ 9 := by intro e; have := h9 e; omega
      have hm : n / 128 * 128 ^ (i + 1) + n % 128 * 128 ^ i = n * 128 ^ i := by
        rw [Nat.pow_succ, Nat.mul_comm (128 ^ i) 128, ← Nat.mul_assoc, ← Nat.add_mul]
        congr 1
        omega
      rw [ih (n / 128) (by omega) (i + 1) _ r (by omega) (by omega) (by omega)]
      have e : n % 128 + 128 - 128 = n % 128 := by omega
      rw [e]
      refine Prod.ext ?_ (Prod.ext ?_ rfl)
      · show a + n % 128 * 128 ^ i + n / 128 * 128 ^ (i + 1) = a + n * 128 ^ i
        omega
      · show i + 1 + (put (n / 128)).length = i + ((put (n / 128)).length + 1)
        omega

/-- What was put is got again, whatever stands behind. -/
theorem get_put {n : Nat} (h : n < 18446744073709551616) (r : List Nat) : get (put n ++ r) = (n, (put n).length, 0) := by
  unfold get
  rw [get_put_from n 0 0 r (by omega) (by simpa using h) (.inr rfl)]
  simp

/-- What was got is what was put; the bounds. -/
theorem get_just_from : ∀ (l : List Nat) (i a : Nat), (∀ c ∈ l, c < 256) → i ≤ 9 → a < 128 ^ i →
    (∃ m, getF l i a = (a + m * 128 ^ i, i + (put m).length, 0) ∧ put m = l.take (put m).length ∧ (put m).length ≤ l.length ∧ (0 < i → 0 < m) ∧ a + m * 128 ^ i < 18446744073709551616) ∨
    (∃ e, getF l i a = (0, 0, e) ∧ (e = 3 ∨ e = 4 ∨ e = 5))
  | [], i, a, _, _, _ => .inr ⟨3, rfl, .inl rfl⟩
  | c :: r, i, a, hb, hi, ha => by
    have hc := hb c (by simp)
    simp only [getF]
    by_cases h1 : i = 9 ∧ 1 < c
    · rw [if_pos h1]; exact .inr ⟨5, rfl, .inr (.inr rfl)⟩
    rw [if_neg h1]
    by_cases h2 : 128 ≤ c
    · rw [if_pos h2]
      have hi9 : i < 9 := by omega
      have hp : a + (c - 128) * 128 ^ i < 128 ^ (i + 1) := by
        have : (c - 128 + 1) * 128 ^ i ≤ 128 * 128 ^ i := Nat.mul_le_mul_right _ (by omega)
        rw [Nat.pow_succ, Nat.mul_comm (128 ^ i)]
        rw [Nat.add_mul, Nat.one_mul] at this
        omega
      rcases get_just_from r (i + 1) _ (fun x hx => hb x (by simp [hx])) (by omega) hp with ⟨m, he, ht, hl, hm, hs⟩ | ⟨e, he, h⟩
      · have hm0 := hm (by omega)
        have hpm : put (m * 128 + (c - 128)) = c :: put m := by
          rw [put_large (by omega)]
          congr 1
          · omega
          · congr 1; omega
        have hmul : a + (m * 128 + (c - 128)) * 128 ^ i = a + (c - 128) * 128 ^ i + m * 128 ^ (i + 1) := by
          rw [Nat.pow_succ, Nat.mul_comm (128 ^ i) 128, ← Nat.mul_assoc, Nat.add_mul]
          omega
        refine .inl ⟨m * 128 + (c - 128), ?_, ?_, ?_, ?_, ?_⟩
        · rw [he, hpm, hmul]
          refine Prod.ext rfl (Prod.ext ?_ rfl)
          show i + 1 + (put m).length = i + ((put m).length + 1)
          omega
        · rw [hpm, List.length_cons, List.take_succ_cons, ← ht]
        · rw [hpm, List.length_cons, List.length_cons]; omega
        · intro _; omega
        · rw [hmul]; exact hs
      · exact .inr ⟨e, he, h⟩
    rw [if_neg h2]
    by_cases h3 : c = 0 ∧ 0 < i
    · rw [if_pos h3]; exact .inr ⟨4, rfl, .inr (.inl rfl)⟩
    rw [if_neg h3]
    have hpc : put c = [c] := put_small (by omega)
    refine .inl ⟨c, ?_, ?_, ?_, ?_, ?_⟩
    · rw [hpc]; rfl
    · rw [hpc]; simp
    · rw [hpc]; simp
    · omega
    · by_cases h9 : i = 9
      · subst h9
        rw [pow_nine] at ha ⊢
        omega
      · have : (c + 1) * 128 ^ i ≤ 128 ^ (i + 1) := by rw [Nat.pow_succ, Nat.mul_comm (128 ^ i)]; exact Nat.mul_le_mul_right _ (by omega)
        have h3 : (128 : Nat) ^ (i + 1) ≤ 128 ^ 9 := Nat.pow_le_pow_right (by omega) (by omega)
        rw [pow_nine] at h3
        rw [Nat.add_mul, Nat.one_mul] at this
        omega

/-- Bytes that are got are just those that are put; else nothing is told but the error. -/
theorem get_just {l : List Nat} (hb : ∀ c ∈ l, c < 256) :
    (∃ n, get l = (n, (put n).length, 0) ∧ put n = l.take (put n).length ∧ (put n).length ≤ l.length ∧ n < 18446744073709551616) ∨
    (∃ e, get l = (0, 0, e) ∧ (e = 3 ∨ e = 4 ∨ e = 5)) := by
  rcases get_just_from l 0 0 hb (by omega) (by simp) with ⟨m, he, ht, hl, _, hs⟩ | h
  · refine .inl ⟨m, ?_, ht, hl, by simpa using hs⟩
    unfold get
    rw [he]
    simp
  · exact .inr h

/-- The sign at the lowest bit, and back. -/
def fold (n : Int) : Nat := if n < 0 then (-2 * n - 1).toNat else (2 * n).toNat
def unfold_ (u : Nat) : Int := if u % 2 = 1 then -((u / 2 : Nat) : Int) - 1 else ((u / 2 : Nat) : Int)

theorem unfold_fold (n : Int) : unfold_ (fold n) = n := by
  unfold unfold_ fold
  by_cases h : n < 0
  · rw [if_pos h, if_pos (by omega)]; omega
  · rw [if_neg h, if_neg (by omega)]; omega
theorem fold_lt {n : Int} (h1 : -9223372036854775808 ≤ n) (h2 : n ≤ 9223372036854775807) : fold n < 18446744073709551616 := by
  unfold fold; split <;> omega
theorem unfold_bounds {u : Nat} (h : u < 18446744073709551616) : -9223372036854775808 ≤ unfold_ u ∧ unfold_ u ≤ 9223372036854775807 := by
  unfold unfold_; split <;> omega

end Go.Proofs.Ytngkjmghhoemgaa.Uv
