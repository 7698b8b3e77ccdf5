/-
  The way up from a node, where the nodes are a tree or none, told by tree.Up and the document's Up. Conditions: the nodes can be read.
-/
import Derived.Test.YtngkjmghhoemgaaTrUp
import Derived.Test.YtngkjmghhoemgaaFwMath
namespace Go.Proofs.Ytngkjmghhoemgaa
open Go.RowKit

theorem ups_none (x : Int) : Tr.ups [] x = [] := Tr.ups_out (by simp)

set_option maxHeartbeats 4000000 in
set_option maxRecDepth 100000 in
theorem trup_none (a : Option Addr) (c : Nat) (x : Int) (w : World) : Calls Try.prog 38 #[.slice a 0 c, .int .i64 x] w (NewInts [] w) := by
  have hmm := @run_makeMap Try.prog
  have HHas := Lib.hid (fun W => trhas_any a 0 c x W (by omega))
  rw [decide_eq_false (show ¬ (0 ≤ x ∧ x < ((0 : Nat) : Int)) by omega)] at HHas
  go_enter Try.func38, Try.ntmps38
  go_wp2
  go_step3
  go_wp2
  go_step3
  go_wp2
  go_loopw [1, 5] (fun i way wr => i = .int .i64 x ∧ way = .slice none 0 0 ∧ Below w.heap.size w wr) (fun _ _ _ => 0)
  case atStart => exact ⟨rfl, rfl, (Below.refl _ _).alloc (Nat.le_refl _) _⟩
  case round =>
    obtain ⟨rfl, rfl, hB⟩ := hrel
    have HB := Lib.hid hB
    clear hB
    go_wp2_with (go_at_call 49; refine (HHas.out _).mono ?_; rintro _ w1 ⟨rfl, he⟩; obtain rfl := he.symm)
    go_ret
    exact ⟨none, 0, rfl, ⟨rfl, fun h => absurd h (Nat.lt_irrefl _)⟩, HB.out⟩

set_option maxHeartbeats 4000000 in
set_option maxRecDepth 100000 in
theorem rtrup_none (a : Option Addr) (c : Nat) (x : Int) (w : World) : Calls Try.prog 35 #[.slice a 0 c, .int .i64 x] w (NewInts [] w) := by
  by_cases h1 : 0 ≤ x
  · have d1 : decide (0 ≤ x) = true := decide_eq_true h1
    have d2 : decide (x < 0) = false := decide_eq_false (by omega)
    have h2 : ¬ x < 0 := by omega
    go_enter Try.func35, Try.ntmps35
    go_wp2
    refine wp_loop_rounds 2 ?_
    rw [rounds_succ]
    go_wp2
    go_ret
    exact ⟨none, 0, rfl, ⟨rfl, fun h => absurd h (Nat.lt_irrefl _)⟩, Below.refl _ _⟩
  · have d1 : decide (0 ≤ x) = false := decide_eq_false h1
    go_enter Try.func35, Try.ntmps35
    go_wp2
    refine wp_loop_rounds 2 ?_
    rw [rounds_succ]
    go_wp2
    go_ret
    exact ⟨none, 0, rfl, ⟨rfl, fun h => absurd h (Nat.lt_irrefl _)⟩, Below.refl _ _⟩

/-- The nodes of a function that can be laid: none, or a tree. -/
theorem can_nodes {f : Fn.F} (h : f.can = 0) : f.nodes = [] ∨ Tr.right f.nodes = true := by
  obtain ⟨_, _, _, _, _, hb⟩ := Fn.can_ok.1 h
  rcases hb with hb | hb
  · unfold Fn.F.bare at hb
    simp only [Bool.and_eq_true, decide_eq_true_eq] at hb
    exact .inl (List.eq_nil_of_length_eq_zero hb.1)
  · unfold Fn.F.mapped at hb
    rw [Bool.and_eq_true] at hb
    exact .inr hb.1
set_option maxRecDepth 100000 in
theorem trup_all (a : Option Addr) (n c : Nat) (f : Fn.F) (x : Int) (w : World) (h : NodesAt w w.heap.size a n f.nodes) (hc : f.can = 0) (hx : -9223372036854775808 ≤ x ∧ x ≤ 9223372036854775807) :
    Calls Try.prog 38 #[.slice a n c, .int .i64 x] w (NewInts (Tr.ups f.nodes x) w) := by
  rcases can_nodes hc with h0 | h0
  · have hn : n = 0 := by rw [← h.1, h0]; rfl
    subst hn
    rw [h0, ups_none]
    exact trup_none a c x w
  · exact trup_any a n c f.nodes x w h h0 hx
set_option maxRecDepth 100000 in
theorem rtrup_all (a : Option Addr) (n c : Nat) (f : Fn.F) (x : Int) (w : World) (h : NodesAt w w.heap.size a n f.nodes) (hc : f.can = 0) :
    Calls Try.prog 35 #[.slice a n c, .int .i64 x] w (NewInts (Tr.ups f.nodes x) w) := by
  rcases can_nodes hc with h0 | h0
  · have hn : n = 0 := by rw [← h.1, h0]; rfl
    subst hn
    rw [h0, ups_none]
    exact rtrup_none a c x w
  · exact rtrup_any a n c f.nodes x w h h0
/-- A node's number is one of 64 bits. -/
theorem node_i64 {f : Fn.F} (hw : f.Wf) (k : Nat) : -9223372036854775808 ≤ Fw.node f k ∧ Fw.node f k ≤ 9223372036854775807 := by
  unfold Fw.node
  rcases Nat.lt_or_ge k f.at_.length with h | h
  · rw [List.getD_eq_getElem?_getD, List.getElem?_eq_getElem h]
    exact hw.at_ _ (List.getElem_mem h)
  · rw [List.getD_eq_getElem?_getD, List.getElem?_eq_none h]
    exact ⟨by decide, by decide⟩
end Go.Proofs.Ytngkjmghhoemgaa
