/-
  What cell.Do answers of any values. Conditions: the values can be read.
-/
import Derived.Test.YtdenboakcbipdaaDoorCeC
import Derived.WideLaws
namespace Go.Proofs.YtdenboakcbipdaaDoor
open Go.RowKit
attribute [local go_sem] Ce.run_store_complex

namespace Ce
/-- Are values as many, and of the types, as an operation takes? -/
def fits (op : Int) (l : List Cv) : Prop := cn op ≠ 0 ∧ (l.length : Int) = cn op ∧ each l (ct op) = true
/-- What an operation makes of values. -/
def DoR (op : Int) (l : List Cv) (r : Option Cv) : Prop := (¬ fits op l ∧ r = none) ∨ (fits op l ∧ MadeR op (l.getD 0 c0) (l.getD 1 c0) r)
end Ce

theorem Ce.made_kinds {op : Int} {a b : Ce.Cv} {r : Option Ce.Cv} (h : Ce.MadeR op a b r) : r = none ∨ (∃ x, r = some ⟨1, x, 0, 0⟩) ∨ ∃ re im, r = some ⟨2, 0, re, im⟩ := by
  rcases h with ⟨_, h⟩ | ⟨_, re, im, h, _⟩ | ⟨_, h⟩ | ⟨_, h⟩ | ⟨_, h⟩
  · exact .inr (.inr ⟨_, _, h⟩)
  · exact .inr (.inr ⟨_, _, h⟩)
  · exact .inr (.inl ⟨_, h⟩)
  · exact .inr (.inl ⟨_, h⟩)
  · split at h
    · exact .inr (.inl ⟨_, h⟩)
    · exact .inl h

theorem thing_is (u : TypeId) (v : Value) (w : World) : (binOp .eql 51 (.iface u v) .nilIface).run Tryd.prog w = .ok (.bool false) w := run_eql_held_nil w _ u v (by kernel_rfl)
theorem thing_not (w : World) : (binOp .eql 51 .nilIface .nilIface).run Tryd.prog w = .ok (.bool true) w := run_eql_nil_nil w _ (by kernel_rfl)
theorem guard_is (t u : TypeId) (x y : Operand) (v : Value) : eqGuard .eql t x y (.iface u v) .nilIface = pure () := rfl
theorem guard_not (t : TypeId) (x : Operand) (v : Value) : eqGuard .eql t x (.const v) .nilIface .nilIface = pure () := by cases x <;> rfl

theorem meth_num (k : Nat) (x : Value) (w : World) : (method (k + 1) 61 x "inlay/cell.value").run Tryd.prog w = .ok (29, x) w := by kernel_rfl
theorem meth_point (k : Nat) (x : Value) (w : World) : (method (k + 1) 64 x "inlay/cell.value").run Tryd.prog w = .ok (32, x) w := by kernel_rfl

/-- One value and true, or nothing and false. -/
def OutP : Option Ce.Cv → Ending → World → Prop
  | none, e, _ => e = .returned (.tuple #[.slice none 0 0, .bool false])
  | some v, e, w' => ∃ A, e = .returned (.tuple #[.slice A 1 1, .bool true]) ∧ ValsAt w' w'.heap.size A 1 [v]

def DoP (op : Int) (l : List Ce.Cv) (w : World) (e : Ending) (w' : World) : Prop := ∃ r, Ce.DoR op l r ∧ Below w.heap.size w w' ∧ OutP r e w'

theorem vals_new {w : World} {b : Nat} (hb : b = w.heap.size) (v : Ce.Cv) : ValsAt (w.alloc v.obj) (w.alloc v.obj).heap.size (some ⟨b, 0, none⟩) 1 [v] := by
  subst hb
  have h : (w.alloc v.obj).heap[w.heap.size]? = some (.cells #[.int .i64 v.k, .int .i64 v.n, .complex .f64 v.re v.im] 29 (0, 0)) := heap_alloc_new w _
  refine ⟨rfl, fun _ => ⟨w.heap.size, 0, rfl, by simp, fun i hi => ?_⟩⟩
  obtain rfl : i = 0 := by omega
  exact ⟨cell_of_row _ _ 0 _ _ _ h, cell_of_row _ _ 1 _ _ _ h, cell_of_row _ _ 2 _ _ _ h⟩

theorem one_of_len {l : List Ce.Cv} (h : l.length = 1) : ∃ a, l = [a] := by
  match l, h with
  | [a], _ => exact ⟨a, rfl⟩
theorem two_of_len {l : List Ce.Cv} (h : l.length = 2) : ∃ a b, l = [a, b] := by
  match l, h with
  | [a, b], _ => exact ⟨a, b, rfl⟩

theorem made_any (op : Int) (a : Option Addr) (n c : Nat) (l : List Ce.Cv) (w : World) (h : ValsAt w w.heap.size a n l) (hf : Ce.fits op l) : Calls Tryd.prog 20 #[.int .i64 op, .slice a n c] w (MadeP op (l.getD 0 Ce.c0) (l.getD 1 Ce.c0) w) := by
  obtain ⟨h0, hl, _⟩ := hf
  have hln := h.1
  rcases Ce.ops op with rfl | rfl | rfl | rfl | rfl | rfl | ⟨h1, h2, h3, h4, h5, h6⟩
  · have e2 : l.length = 2 := by have : Ce.cn 15 = 2 := rfl; omega
    obtain ⟨u, v, rfl⟩ := two_of_len e2
    obtain rfl : n = 2 := by omega
    obtain ⟨b, off, rfl, _⟩ := h.2 (by omega)
    exact made_pair b off c u v w h
  · have e2 : l.length = 2 := by have : Ce.cn 16 = 2 := rfl; omega
    obtain ⟨u, v, rfl⟩ := two_of_len e2
    obtain rfl : n = 2 := by omega
    obtain ⟨b, off, rfl, _⟩ := h.2 (by omega)
    exact made_cx 16 b off c u v w h (.inl rfl)
  · have e2 : l.length = 2 := by have : Ce.cn 17 = 2 := rfl; omega
    obtain ⟨u, v, rfl⟩ := two_of_len e2
    obtain rfl : n = 2 := by omega
    obtain ⟨b, off, rfl, _⟩ := h.2 (by omega)
    exact made_cx 17 b off c u v w h (.inr (.inl rfl))
  · have e2 : l.length = 2 := by have : Ce.cn 18 = 2 := rfl; omega
    obtain ⟨u, v, rfl⟩ := two_of_len e2
    obtain rfl : n = 2 := by omega
    obtain ⟨b, off, rfl, _⟩ := h.2 (by omega)
    exact made_cx 18 b off c u v w h (.inr (.inr rfl))
  · have e1 : l.length = 1 := by have : Ce.cn 19 = 1 := rfl; omega
    obtain ⟨u, rfl⟩ := one_of_len e1
    obtain rfl : n = 1 := by omega
    obtain ⟨b, off, rfl, _⟩ := h.2 (by omega)
    exact made_one 19 b off c u _ w h (.inl rfl)
  · have e1 : l.length = 1 := by have : Ce.cn 20 = 1 := rfl; omega
    obtain ⟨u, rfl⟩ := one_of_len e1
    obtain rfl : n = 1 := by omega
    obtain ⟨b, off, rfl, _⟩ := h.2 (by omega)
    exact made_one 20 b off c u _ w h (.inr (.inl rfl))
  · have hcn : Ce.cn op = Wh.takes op := by simp [Ce.cn, h1, h2, h3, h4, h5, h6]
    rw [hcn] at h0 hl
    by_cases ht : Wh.takes op = 2
    · have e2 : l.length = 2 := by omega
      obtain ⟨u, v, rfl⟩ := two_of_len e2
      obtain rfl : n = 2 := by omega
      obtain ⟨b, off, rfl, _⟩ := h.2 (by omega)
      exact made_whole op b off c u v w h ht
    · have ho : (op = 11 ∨ op = 14) ∧ Wh.takes op = 1 := by
        unfold Wh.takes at h0 ht ⊢
        split at h0
        · rename_i h'; simp [h'] at ht
        · split at h0
          · rename_i h' h''
            simp [h', h'']
          · exact absurd rfl h0
      have e1 : l.length = 1 := by omega
      obtain ⟨u, rfl⟩ := one_of_len e1
      obtain rfl : n = 1 := by omega
      obtain ⟨b, off, rfl, _⟩ := h.2 (by omega)
      exact made_one op b off c u _ w h (by omega)

theorem do_some (op : Int) (a : Option Addr) (n c : Nat) (l : List Ce.Cv) (w : World) (h : ValsAt w w.heap.size a n l) (hn : n ≤ 9223372036854775807) (hf : Ce.fits op l) : Calls Tryd.prog 7 #[.int .i64 op, .slice a n c] w (DoP op l w) := by
  have H1 := fun w => ctakes_any op w
  have H2 := each_any a n c l (Ce.ct op) w h hn
  have H3 := Lib.hid (fun w h => made_any op a n c l w h hf)
  have HF := Lib.hid hf
  obtain ⟨h0, hl, he⟩ := hf
  have hln := h.1
  rw [he] at H2
  have HS := Lib.hid h
  have hnn : (n : Int) = Ce.cn op := by rw [← hln]; exact hl
  rw [← hnn] at H1
  have hn0 : ((n : Int) == 0) = false := by rw [hnn]; simpa using h0
  clear h hl h0 he hln hnn
  generalize Ce.ct op = t at *
  have n1 := thing_is
  have n2 := thing_not
  have n3 := guard_is
  have n4 := guard_not
  have n5 := meth_num
  have n6 := meth_point
  go_enter Tryd.func7, Tryd.ntmps7
  go_wp2_with (first
    | (go_at_call 18; with_reducible refine (H1 _).mono ?_; rintro _ w1 ⟨rfl, he⟩; obtain rfl := he.symm)
    | (go_at_call 19; refine H2.mono ?_; rintro _ w1 ⟨rfl, b1⟩)
    | (go_at_call 20; refine (H3.out w1 ((HS.out.below b1).more b1.size)).mono ?_; rintro _ w2 ⟨r, hr, rfl, b2⟩))
  have HR := Lib.hid hr
  have HB := Lib.hid (b1.trans (b2.mono b1.size))
  rcases Ce.made_kinds hr with rfl | ⟨x, rfl⟩ | ⟨re, im, rfl⟩
  · clear hr b1 b2
    rw [show Ce.thing none = .nilIface from rfl]
    simp only [n2, n4, Sem.run_pure, Result.andThen_ok, Oper.upon_value]
    go_wp2
    go_ret2
    exact ⟨none, .inr ⟨HF.out, HR.out⟩, HB.out, rfl⟩
  · clear hr b1 b2
    rw [show Ce.thing (some ⟨1, x, 0, 0⟩) = .iface 61 (.int .i64 x) from rfl]
    simp only [n1, n3, Sem.run_pure, Result.andThen_ok, Oper.upon_value]
    go_wp2_with (go_at_call 29; refine (nvalue_ex _ _).mono ?_; rintro _ w3 ⟨rfl, rfl⟩)
    go_ret2
    exact ⟨some ⟨1, x, 0, 0⟩, .inr ⟨HF.out, HR.out⟩, HB.out.trans ((below_alloc2 _ _ _).mono HB.out.size), _, rfl, vals_new (by simp) ⟨1, x, 0, 0⟩⟩
  · clear hr b1 b2
    rw [show Ce.thing (some ⟨2, 0, re, im⟩) = .iface 64 (.complex .f64 re im) from rfl]
    simp only [n1, n3, Sem.run_pure, Result.andThen_ok, Oper.upon_value]
    go_wp2_with (go_at_call 32; refine (pvalue_ex _ _ _).mono ?_; rintro _ w3 ⟨rfl, rfl⟩)
    go_ret2
    exact ⟨some ⟨2, 0, re, im⟩, .inr ⟨HF.out, HR.out⟩, HB.out.trans ((below_alloc2 _ _ _).mono HB.out.size), _, rfl, vals_new (by simp) ⟨2, 0, re, im⟩⟩

theorem do_none (op : Int) (a : Option Addr) (n c : Nat) (l : List Ce.Cv) (w : World) (h : ValsAt w w.heap.size a n l) (hn : n ≤ 9223372036854775807) (hf : ¬ Ce.fits op l) : Calls Tryd.prog 7 #[.int .i64 op, .slice a n c] w (DoP op l w) := by
  have HF := Lib.hid hf
  have H1 := fun w => ctakes_any op w
  have H2 := each_any a n c l (Ce.ct op) w h hn
  have hln := h.1
  have hd : Ce.cn op = 0 ∨ (Ce.cn op ≠ 0 ∧ (n : Int) ≠ Ce.cn op) ∨ (Ce.cn op ≠ 0 ∧ (n : Int) = Ce.cn op ∧ Ce.each l (Ce.ct op) = false) := by
    rw [← hln]
    by_cases h1 : Ce.cn op = 0
    · exact .inl h1
    · by_cases h2 : (l.length : Int) = Ce.cn op
      · refine .inr (.inr ⟨h1, h2, ?_⟩)
        cases h3 : Ce.each l (Ce.ct op)
        · rfl
        · exact absurd ⟨h1, h2, h3⟩ hf
      · exact .inr (.inl ⟨h1, h2⟩)
  clear h hf hln
  generalize Ce.ct op = t at *
  generalize Ce.cn op = z at *
  rcases hd with rfl | ⟨hz, hne⟩ | ⟨hz, hnn, he⟩
  · clear H2
    go_enter Tryd.func7, Tryd.ntmps7
    go_wp2_with (go_at_call 18; with_reducible refine (H1 _).mono ?_; rintro _ w1 ⟨rfl, he⟩; obtain rfl := he.symm)
    go_ret2
    exact ⟨none, .inl ⟨HF.out, rfl⟩, Below.refl _ _, rfl⟩
  · clear H2
    have g1 : (z == 0) = false := by simpa using hz
    have g2 : ((n : Int) != z) = true := by simpa using hne
    clear hz hne
    go_enter Tryd.func7, Tryd.ntmps7
    go_wp2_with (go_at_call 18; with_reducible refine (H1 _).mono ?_; rintro _ w1 ⟨rfl, he⟩; obtain rfl := he.symm)
    go_ret2
    exact ⟨none, .inl ⟨HF.out, rfl⟩, Below.refl _ _, rfl⟩
  · rw [he] at H2
    clear he
    subst hnn
    have g1 : ((n : Int) == 0) = false := by simpa using hz
    clear hz
    go_enter Tryd.func7, Tryd.ntmps7
    go_wp2_with (first
      | (go_at_call 18; with_reducible refine (H1 _).mono ?_; rintro _ w1 ⟨rfl, he⟩; obtain rfl := he.symm)
      | (go_at_call 19; refine H2.mono ?_; rintro _ w1 ⟨rfl, b1⟩))
    go_ret2
    exact ⟨none, .inl ⟨HF.out, rfl⟩, b1, rfl⟩

/-- What an operation makes of any values. -/
theorem do_any (op : Int) (a : Option Addr) (n c : Nat) (l : List Ce.Cv) (w : World) (h : ValsAt w w.heap.size a n l) (hn : n ≤ 9223372036854775807) : Calls Tryd.prog 7 #[.int .i64 op, .slice a n c] w (DoP op l w) := by
  by_cases hf : Ce.fits op l
  · exact do_some op a n c l w h hn hf
  · exact do_none op a n c l w h hn hf
end Go.Proofs.YtdenboakcbipdaaDoor
