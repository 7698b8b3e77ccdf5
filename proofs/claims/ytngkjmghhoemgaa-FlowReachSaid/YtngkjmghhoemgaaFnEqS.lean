/-
  Whether two slices of instructions, of numbers, of nodes, of sets are the same; the document's answer of each. Conditions: the slices can be read.
-/
import Derived.BigRegion
import Derived.BigQuiet
import Derived.Deep.QuietTactic
import Derived.Laws.StructEq
import Derived.Test.YtngkjmghhoemgaaAtA
import Derived.Test.YtngkjmghhoemgaaMpX
namespace Go.Proofs.Ytngkjmghhoemgaa
open Go.RowKit

/-- A bool is answered that tells whether p; nothing below has turned. -/
def EqP (p : Prop) (w : World) (e : Ending) (w' : World) : Prop := ∃ b : Bool, e = .returned (.bool b) ∧ (b = true ↔ p) ∧ Below w.heap.size w w'
theorem EqP.yes {p : Prop} {w w' : World} (h : p) (hb : Below w.heap.size w w') : EqP p w (.returned (.bool true)) w' := ⟨true, rfl, ⟨fun _ => h, fun _ => rfl⟩, hb⟩
theorem EqP.no {p : Prop} {w w' : World} (h : ¬ p) (hb : Below w.heap.size w w') : EqP p w (.returned (.bool false)) w' := ⟨false, rfl, ⟨fun e => (by cases e), fun e => absurd e h⟩, hb⟩
theorem take_same_succ {α : Type} (d : α) {l m : List α} {k : Nat} (h : l.take k = m.take k) (h1 : k < l.length) (h2 : k < m.length) (e : l.getD k d = m.getD k d) : l.take (k + 1) = m.take (k + 1) := by
  rw [Ru.taken h1 d, Ru.taken h2 d, h, e]
set_option maxRecDepth 100000 in
theorem eq_pair (a b c d : Int) (w : World) : (Op.equalIn 10000 39 (.agg #[.int .i64 a, .int .i64 b]) (.agg #[.int .i64 c, .int .i64 d])).run Try.prog w = .ok (a == c && b == d) w := by
  rw [run_equalIn_struct w 9999 39 _ _ (by kernel_rfl) (by kernel_rfl)]
  cases h1 : a == c <;> cases h2 : b == d <;> simp [go_sem, Program.fieldsOf, Try.underlying39, Op.eqFields, part, h1, h2]
set_option maxRecDepth 100000 in
theorem eq_pair_same (x : Int × Int) (w : World) : (Op.equalIn 10000 39 (.agg #[.int .i64 x.1, .int .i64 x.2]) (.agg #[.int .i64 x.1, .int .i64 x.2])).run Try.prog w = .ok true w := by
  rw [eq_pair]
  simp
set_option maxRecDepth 100000 in
theorem eq_pair_not {x y : Int × Int} (h : ¬ x = y) (w : World) : (Op.equalIn 10000 39 (.agg #[.int .i64 x.1, .int .i64 x.2]) (.agg #[.int .i64 y.1, .int .i64 y.2])).run Try.prog w = .ok false w := by
  rw [eq_pair]
  congr 1
  rw [Bool.and_eq_false_iff]
  obtain ⟨a, b⟩ := x
  obtain ⟨c, d⟩ := y
  by_cases h1 : a = c
  · subst h1
    right
    exact beq_eq_false_iff_ne.2 fun e => h (by simp only at e; rw [e])
  · left
    exact beq_eq_false_iff_ne.2 h1
set_option maxRecDepth 100000 in
theorem eq_nodes (a b c d e f g a' b' c' d' e' f' g' : Int) (w : World) : (Op.equalIn 10000 52 (.agg #[.int .i64 a, .int .i64 b, .int .i64 c, .int .i64 d, .int .i64 e, .int .i64 f, .int .i64 g]) (.agg #[.int .i64 a', .int .i64 b', .int .i64 c', .int .i64 d', .int .i64 e', .int .i64 f', .int .i64 g'])).run Try.prog w
    = .ok (a == a' && (b == b' && (c == c' && (d == d' && (e == e' && (f == f' && g == g')))))) w := by
  rw [run_equalIn_struct w 9999 52 _ _ (by kernel_rfl) (by kernel_rfl)]
  have step : ∀ p q : Bool, ∀ w : World, (if (!p) = true then (pure false : Sem Bool).run Try.prog w else .ok q w) = .ok (p && q) w := fun p q w => by cases p <;> rfl
  cases h1 : a == a'
  · simp [go_sem, Program.fieldsOf, Try.underlying52, Op.eqFields, part, h1]
  cases h2 : b == b'
  · simp [go_sem, Program.fieldsOf, Try.underlying52, Op.eqFields, part, h1, h2]
  cases h3 : c == c'
  · simp [go_sem, Program.fieldsOf, Try.underlying52, Op.eqFields, part, h1, h2, h3]
  cases h4 : d == d'
  · simp [go_sem, Program.fieldsOf, Try.underlying52, Op.eqFields, part, h1, h2, h3, h4]
  cases h5 : e == e'
  · simp [go_sem, Program.fieldsOf, Try.underlying52, Op.eqFields, part, h1, h2, h3, h4, h5]
  cases h6 : f == f'
  · simp [go_sem, Program.fieldsOf, Try.underlying52, Op.eqFields, part, h1, h2, h3, h4, h5, h6]
  cases h7 : g == g' <;> simp [go_sem, Program.fieldsOf, Try.underlying52, Op.eqFields, part, h1, h2, h3, h4, h5, h6, h7]
set_option maxRecDepth 100000 in
theorem eq_node_same (x : Tr.Nd) (w : World) : (Op.equalIn 10000 52 (.agg #[.int .i64 x.p, .int .i64 x.f, .int .i64 x.l, .int .i64 x.a, .int .i64 x.g, .int .i64 x.t, .int .i64 x.r]) (.agg #[.int .i64 x.p, .int .i64 x.f, .int .i64 x.l, .int .i64 x.a, .int .i64 x.g, .int .i64 x.t, .int .i64 x.r])).run Try.prog w = .ok true w := by
  rw [eq_nodes]
  simp
set_option maxRecDepth 100000 in
theorem eq_node_not {x y : Tr.Nd} (h : ¬ x = y) (w : World) : (Op.equalIn 10000 52 (.agg #[.int .i64 x.p, .int .i64 x.f, .int .i64 x.l, .int .i64 x.a, .int .i64 x.g, .int .i64 x.t, .int .i64 x.r]) (.agg #[.int .i64 y.p, .int .i64 y.f, .int .i64 y.l, .int .i64 y.a, .int .i64 y.g, .int .i64 y.t, .int .i64 y.r])).run Try.prog w = .ok false w := by
  rw [eq_nodes]
  congr 1
  rw [← Bool.not_eq_true]
  intro e
  simp only [Bool.and_eq_true, beq_iff_eq] at e
  obtain ⟨e1, e2, e3, e4, e5, e6, e7⟩ := e
  obtain ⟨a, b, c, d, e, f, g⟩ := x
  obtain ⟨a', b', c', d', e', f', g'⟩ := y
  simp only at e1 e2 e3 e4 e5 e6 e7
  exact h (by rw [e1, e2, e3, e4, e5, e6, e7])
set_option maxRecDepth 100000 in
theorem eq_set_same (x : Sl.Four) (w : World) : (Op.equalIn 10000 75 (.agg #[.int .u64 (x.a : Int), .int .u64 (x.b : Int), .int .u64 (x.c : Int), .int .u64 (x.d : Int)]) (.agg #[.int .u64 (x.a : Int), .int .u64 (x.b : Int), .int .u64 (x.c : Int), .int .u64 (x.d : Int)])).run Try.prog w = .ok true w := by
  rw [eq_sets, Mp.same_self]
set_option maxRecDepth 100000 in
theorem eq_set_not {x y : Sl.Four} (h : ¬ x = y) (w : World) : (Op.equalIn 10000 75 (.agg #[.int .u64 (x.a : Int), .int .u64 (x.b : Int), .int .u64 (x.c : Int), .int .u64 (x.d : Int)]) (.agg #[.int .u64 (y.a : Int), .int .u64 (y.b : Int), .int .u64 (y.c : Int), .int .u64 (y.d : Int)])).run Try.prog w = .ok false w := by
  rw [eq_sets, Mp.same_not h]

set_option maxHeartbeats 4000000 in
set_option maxRecDepth 100000 in
theorem rintsequal_any (a a2 : Option Addr) (n n2 c c2 : Nat) (l m : List Int) (w : World) (h : IntsAt w w.heap.size a n l) (h2 : IntsAt w w.heap.size a2 n2 m) (hn : n ≤ 9223372036854775807) :
    Calls Try.prog 8 #[.slice a n c, .slice a2 n2 c2] w (EqP (l = m) w) := by
  have H := Lib.hid h
  have H2 := Lib.hid h2
  clear h h2
  by_cases hnm : n = n2
  · subst hnm
    go_enter Try.func8, Try.ntmps8
    go_wp2
    go_loopw [5] (fun  i wr => ∃ k : Nat, k ≤ n ∧ i = .int .i64 (k : Int) ∧ Below w.heap.size w wr ∧ l.take k = m.take k) (fun  i _ => n - (intOf i).toNat)
    case atStart => exact ⟨0, Nat.zero_le _, rfl, Below.refl _ _, by simp⟩
    case round =>
      obtain ⟨k, hk, rfl, hB, hW⟩ := hrel
      have HB := Lib.hid hB
      have HW := Lib.hid hW
      clear hB hW
      by_cases hlt : k < n
      · obtain ⟨b1, off1, x, rfl, _, q10, e1, hk1⟩ := ints_cell (H.out.below HB.out) hlt
        obtain ⟨b2, off2, y, rfl, _, q20, e2, hk2⟩ := ints_cell (H2.out.below HB.out) hlt
        have hki : (k : Int) < (n : Int) := by omega
        by_cases hxy : x = y
        · have HS := Lib.hid (take_same_succ 0 HW.out hk1 hk2 (by rw [e1, e2, hxy]))
          subst hxy
          clear e1 e2 hk1 hk2
          
          go_wp2
          go_quiet (fail)
          go_wp2
          go_roundw
          case rel => exact ⟨k + 1, hlt, by go_num, below_drewN HB.out _, HS.out⟩
          case measure => simp [intOf]; omega
        · have HN : Hid (¬ l = m) := Lib.hid (fun e => hxy (by rw [← e1, ← e2, e]))
          have hd : (x != y) = true := bne_iff_ne.2 hxy
          have hd2 : (x == y) = false := beq_eq_false_iff_ne.2 hxy
          clear e1 e2 hk1 hk2 hxy
          go_wp2
          go_quiet (fail)
          go_wp2
          go_ret
          exact EqP.no HN.out (below_drewN HB.out _)
      · have HN : Hid (l = m) := Lib.hid (by
          have h1 := HW.out
          rwa [List.take_of_length_le (by rw [H.out.1]; omega), List.take_of_length_le (by rw [H2.out.1]; omega)] at h1)
        have hki : decide ((k : Int) < (n : Int)) = false := decide_eq_false (by omega)
        go_wp2
        go_ret
        exact EqP.yes HN.out HB.out
  · have HN : Hid (¬ l = m) := Lib.hid (fun e => hnm (by rw [← H.out.1, ← H2.out.1, e]))
    have hd : ((n : Int) != (n2 : Int)) = true := bne_iff_ne.2 (by omega)
    clear hnm
    go_enter Try.func8, Try.ntmps8
    go_wp2
    go_ret
    exact EqP.no HN.out (Below.refl _ _)

end Go.Proofs.Ytngkjmghhoemgaa
