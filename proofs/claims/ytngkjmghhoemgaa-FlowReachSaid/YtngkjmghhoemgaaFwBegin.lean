/-
  Flow's closure that marks where pieces begin. Conditions: the function can be read; the marks lie in a block of their own; the numbers lie behind it.
-/
import Derived.Test.YtngkjmghhoemgaaFwA
import Derived.Test.YtngkjmghhoemgaaFwQ
namespace Go.Proofs.Ytngkjmghhoemgaa
open Go.RowKit

theorem grown_of_below {w w' : World} {row : Option Nat} (h : Below w.heap.size w w') : w.grownBy w' row := ⟨h.os, h.tape, h.output, h.size, fun k hk _ => h.block k hk⟩
theorem grown_setCell (w : World) (g k : Nat) (u : Value) : w.grownBy (w.setCell ⟨g, k, none⟩ u) (some g) :=
  ⟨rfl, rfl, rfl, by simp [World.setCell], fun i _ hne => Below.heap_setCell w ⟨g, k, none⟩ u i (fun e => hne (by rw [e]))⟩
theorem mk_mark {n : Nat} {M : List Int} {x : Int} {k : Nat} (hx : x = (k : Int)) : (Fw.mk n M).set k true = Fw.mk n (M ++ [x]) := by rw [hx]; exact Fw.mk_set M

set_option maxHeartbeats 8000000 in
set_option maxRecDepth 100000 in
theorem fwbegin_any (q p g : Nat) (v : FnV) (f : Fn.F) (u : Value) (l M : List Int) (w : World) (hA : FnAt w q v) (hn : f.code.length = v.code.n) (hp : w.cell? ⟨p, 0, none⟩ = some (.slice (some ⟨g, 0, none⟩) v.code.n v.code.n))
    (hg : Bq w g (Fw.mk v.code.n M)) (hl : Rq w (g + 1) u l) (hql : q ≠ g) (hpl : p ≠ g) (hll : l.length ≤ 1000000) :
    Calls Try.prog 21 #[u, .pointer (some ⟨q, 0, none⟩), .pointer (some ⟨p, 0, none⟩)] w fun e w' => e = .returned (.tuple #[]) ∧ Bq w' g (Fw.mk v.code.n (M ++ l)) ∧ w.grownBy w' (some g) := by
  have HHas := Lib.hid (fun (x : Int) (W : World) => show Calls Try.prog 16 #[.agg v.cells, .int .i64 x] W (BoolP (Fw.has f x) W) by have hh := fwhas_any v x W; rw [← hn] at hh; exact hh)
  obtain ⟨A, cA, rfl, hi, _⟩ := hl.ints
  have HL := Lib.hid hl
  have HI := Lib.hid hi
  have c0 := hA.c0; have c1 := hA.c1; have c2 := hA.c2; have c3 := hA.c3; have c4 := hA.c4; have c5 := hA.c5; have c6 := hA.c6; have c7 := hA.c7; have c8 := hA.c8; have c9 := hA.c9; have c10 := hA.c10
  have hqlt := hA.lt
  have hplt : p < w.heap.size := World.block_lt_of_cell? w ⟨p, 0, none⟩ hp
  have HN := Lib.hid hn
  have HLl := Lib.hid hll
  have HQl := Lib.hid (And.intro hql (And.intro hpl (And.intro hqlt hplt)))
  have HBq := Lib.hid hg
  clear hA hn hl hi hg hql hpl hqlt hplt hll
  obtain ⟨nm, inn, ⟨oa, on, oc⟩, ⟨pa, pn, pc⟩, ⟨ra, rn, rc⟩, ⟨la, ln, lc⟩, ⟨ca, cn, cc⟩, ⟨ia, i_n, ic⟩, ⟨na, nn, nc⟩, ⟨ta, tn, tc⟩, ⟨va, vn, vc⟩⟩ := v
  have HC := Lib.hid (And.intro c0 (And.intro c1 (And.intro c2 (And.intro c3 (And.intro c4 (And.intro c5 (And.intro c6 (And.intro c7 (And.intro c8 (And.intro c9 c10))))))))))
  have HP := Lib.hid hp
  clear c0 c1 c2 c3 c4 c5 c6 c7 c8 c9 c10 hp
  simp only at HN HBq HP
  go_enter Try.func21, Try.ntmps21
  go_wp2
  go_loopw [8] (fun i wr => ∃ j : Nat, i = .int .i64 (j : Int) ∧ j ≤ l.length ∧ Bq wr g (Fw.mk cn (M ++ l.take j)) ∧ w.grownBy wr (some g)) (fun i _ => l.length - (intOf i).toNat)
  case atStart => exact ⟨0, rfl, Nat.zero_le _, by rw [List.take_zero, List.append_nil]; exact HBq.out, World.grownBy.refl _ _⟩
  case round =>
    obtain ⟨j, rfl, hj, hb, hgr⟩ := hrel
    have HB := Lib.hid hb
    have HG := Lib.hid hgr
    clear hb hgr
    by_cases hjl : j < l.length
    · have hcell : ∀ (b i : Nat) (z : Value), b ≠ g → w.cell? ⟨b, i, none⟩ = some z → wr.cell? ⟨b, i, none⟩ = some z := fun b i z hne hz => HG.out.cell (a := ⟨b, i, none⟩) hz (fun e => by injection e with e; exact hne e)
      obtain ⟨b2, off2, x, rfl, hlt2, x0, hx, _⟩ := ints_cell HI.out hjl
      have hb2 := (HL.out.lt b2 rfl).1
      have x0' := hcell b2 (off2 + j) _ (by omega) x0
      obtain ⟨c0, c1, c2, c3, c4, c5, c6, c7, c8, c9, c10⟩ := HC.out
      have k0 := hcell q 0 _ HQl.out.1 c0; have k1 := hcell q 1 _ HQl.out.1 c1; have k2 := hcell q 2 _ HQl.out.1 c2; have k3 := hcell q 3 _ HQl.out.1 c3; have k4 := hcell q 4 _ HQl.out.1 c4; have k5 := hcell q 5 _ HQl.out.1 c5; have k6 := hcell q 6 _ HQl.out.1 c6; have k7 := hcell q 7 _ HQl.out.1 c7; have k8 := hcell q 8 _ HQl.out.1 c8; have k9 := hcell q 9 _ HQl.out.1 c9; have k10 := hcell q 10 _ HQl.out.1 c10
      have kp := hcell p 0 _ HQl.out.2.1 HP.out
      have HJ := Lib.hid hjl
      have hjb : j ≤ 1000000 := by have := HLl.out; omega
      have hji : (j : Int) < (l.length : Int) := by omega
      have HS : Hid (l.take (j + 1) = l.take j ++ [x]) := Lib.hid (by rw [take_snoc l j hjl, hx])
      have HH := HHas.out x wr
      clear hcell c0 c1 c2 c3 c4 c5 c6 c7 c8 c9 c10 hx hlt2 x0 hj hjl hb2
      cases hhx : Fw.has f x with
      | false =>
        rw [hhx] at HH
        have HO : Hid (Fw.mk cn (M ++ l.take (j + 1)) = Fw.mk cn (M ++ l.take j)) := Lib.hid (by
          rw [HS.out, ← List.append_assoc]
          exact Fw.mk_out _ (by rw [← HN.out]; exact of_decide_eq_false hhx))
        clear hhx
        go_wp2_with (go_at_call 16; refine HH.mono ?_; rintro _ w5 ⟨rfl, hb5⟩; have HB5 := Lib.hid hb5; clear hb5)
        go_roundw
        case rel => exact ⟨j + 1, by go_num, HJ.out, by rw [HO.out]; exact HB.out.below HB5.out, HG.out.trans (grown_of_below HB5.out)⟩
        case measure => have := HJ.out; simp [intOf]; omega
      | true =>
        rw [hhx] at HH
        obtain ⟨k, rfl, hkf⟩ := Fw.has_nat hhx
        have hkc : k < cn := by have := HN.out; omega
        have hkci : (k : Int) < (cn : Int) := by omega
        have HO : Hid ((Fw.mk cn (M ++ l.take j)).set k true = Fw.mk cn (M ++ l.take (j + 1))) := Lib.hid (by
          rw [HS.out, ← List.append_assoc]
          exact Fw.mk_set _)
        have HCe := Lib.hid (fun (W : World) (hb : Below wr.heap.size wr W) => (HB.out.below hb).cell (k := k) (by rw [Fw.mk_len]; exact hkc))
        have HFz := Lib.hid (fun (W : World) (hb : Below wr.heap.size wr W) => (HB.out.below hb).frozen k)
        clear hhx hkf
        go_wp2_with (go_at_call 16; refine HH.mono ?_; rintro _ w5 ⟨rfl, hb5⟩; have HB5 := Lib.hid hb5; have z1 := HCe.out _ hb5; have z2 := HFz.out _ hb5; have zp := (hb5.cell (p := ⟨p, 0, none⟩) (Nat.lt_of_lt_of_le HQl.out.2.2.2 HG.out.size)).trans kp; clear hb5)
        go_roundw
        case rel => exact ⟨j + 1, by go_num, HJ.out, by rw [← HO.out]; exact (HB.out.below HB5.out).set k true, (HG.out.trans (grown_of_below HB5.out)).trans (grown_setCell w5 g k _)⟩
        case measure => have := HJ.out; simp [intOf]; omega
    · obtain rfl : j = l.length := by omega
      clear hj hjl
      go_wp2
      go_end0
      have hb := HB.out
      rw [List.take_length] at hb
      exact ⟨rfl, hb, HG.out⟩
end Go.Proofs.Ytngkjmghhoemgaa
