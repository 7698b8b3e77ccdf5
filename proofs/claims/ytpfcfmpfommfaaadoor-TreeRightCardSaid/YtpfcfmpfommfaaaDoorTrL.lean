/-
  The example of the chapter, which ends every law of the layer. Conditions: the table of powers of ten is laid.
-/
import Derived.Test.YtpfcfmpfommfaaaDoorTrR
import Derived.Test.YtpfcfmpfommfaaaDoorTrIn
import Derived.Test.YtpfcfmpfommfaaaDoorTrTx
namespace Go.Proofs.YtpfcfmpfommfaaaDoor
open Go.RowKit

namespace Tr
def n0 : Nd := ⟨-1, 0, 0, 0, 0, 2, 0⟩
def n1 : Nd := ⟨0, 1, 0, 2, 0, 3, 5⟩
def n2 : Nd := ⟨1, 2, 0, 3, 0, 3, 4⟩
theorem wf_n0 : n0.wf := by intro x hx; simp [n0, Nd.list] at hx; omega
end Tr
theorem txt_zero : In.txt 0 = ⟨#[48]⟩ := by
  rw [txt_pos (by decide)]
  apply In.list_ext
  rw [decB_list]
  exact Lib.decDigits_one (by decide)
theorem text_n0 : Tr.text [Tr.n0] = ⟨#[48, 32, 48, 32, 48, 10]⟩ := by
  have e : Tr.text [Tr.n0] = ByteArray.empty ++ Tr.ind 0 ++ Tr.row ((0 : Nat) : Int) Tr.n0 := rfl
  rw [e]
  unfold Tr.row Tr.n0
  simp only [Int.natCast_zero, txt_zero]
  rfl

/-- The three nodes of the example, laid by the call. -/
def row13 : Array Value := #[.int .i64 (-1), .int .i64 0, .int .i64 0, .int .i64 0, .int .i64 0, .int .i64 2, .int .i64 0, .int .i64 0, .int .i64 1, .int .i64 0, .int .i64 2, .int .i64 0, .int .i64 3, .int .i64 5, .int .i64 1, .int .i64 2, .int .i64 0, .int .i64 3, .int .i64 0, .int .i64 3, .int .i64 4]
theorem nodes13 (w : World) (t : TypeId) : NodesAt (w.alloc (.cells row13 t)) (w.alloc (.cells row13 t)).heap.size (some ⟨w.heap.size, 0, none⟩) 3 [Tr.n0, Tr.n1, Tr.n2] := by
  have h : (w.alloc (.cells row13 t)).heap[w.heap.size]? = some (.cells row13 t (0, 0)) := heap_alloc_new w _
  refine ⟨rfl, fun _ => ⟨w.heap.size, 0, rfl, by simp, fun i hi j hj => ?_⟩⟩
  refine (cell_of_row _ _ (0 + i * 7 + j) _ _ _ h).trans ?_
  rcases (show i = 0 ∨ i = 1 ∨ i = 2 by omega) with rfl | rfl | rfl <;> rcases (show j = 0 ∨ j = 1 ∨ j = 2 ∨ j = 3 ∨ j = 4 ∨ j = 5 ∨ j = 6 by omega) with rfl | rfl | rfl | rfl | rfl | rfl | rfl <;> rfl
theorem nodes_first {w : World} {B : Nat} {a : Option Addr} (h : NodesAt w B a 3 [Tr.n0, Tr.n1, Tr.n2]) : NodesAt w B a 1 [Tr.n0] := by
  refine ⟨rfl, fun _ => ?_⟩
  obtain ⟨b, off, e, hlt, hc⟩ := h.2 (by decide)
  refine ⟨b, off, e, hlt, fun i hi j hj => ?_⟩
  obtain rfl : i = 0 := by omega
  exact hc 0 (by decide) j hj

set_option maxHeartbeats 4000000 in
set_option maxRecDepth 100000 in
theorem lives13_any (w : World) (hp : Pow w) : Calls Tryd.prog 7 #[] w (BoolP true w) := by
  have b0 := (Below.refl w.heap.size w).alloc (Nat.le_refl _) (.cells row13 53)
  have HN := Lib.hid (nodes13 w 53)
  have HB0 := Lib.hid b0
  have HP := Lib.hid hp
  have HRt : Hid (Tr.right [Tr.n0, Tr.n1, Tr.n2] = true) := Lib.hid (by kernel_rfl)
  have HU := Lib.hid (trup_any _ 3 3 _ 2 _ HN.out HRt.out (by omega))
  rw [show Tr.ups [Tr.n0, Tr.n1, Tr.n2] 2 = [2, 1, 0] by kernel_rfl] at HU
  unfold row13 at HU
  clear b0 hp
  go_enter Tryd.func7, Tryd.ntmps7
  go_wp2_with (go_at_call 13; refine HU.out.mono ?_; rintro _ w1 ⟨A, c, rfl, hi1, hb1⟩; refine Hid.out ?_)
  change IntsAt w1 w1.heap.size A 3 [2, 1, 0] at hi1
  have HN1 := Lib.hid (HN.out.on hb1)
  have HB1 := Lib.hid (below_self HB0.out (hb1.mono (by simp)))
  have HRg := trright_any _ 3 3 _ w1 HN1.out (by decide)
  rw [HRt.out] at HRg
  have HP1 := Lib.hid (HP.out.below HB1.out)
  have HNs := Lib.hid (fun (W : World) (hb : Below w1.heap.size w1 W) => HN1.out.on hb)
  have HIn := Lib.hid (fun (W : World) (hb : Below w1.heap.size w1 W) => trinside_any _ 3 3 _ 2 0 W (HNs.out W hb) HRt.out (by omega))
  rw [show Tr.inside [Tr.n0, Tr.n1, Tr.n2] 2 0 = true by kernel_rfl] at HIn
  have HDp := Lib.hid (fun (W : World) (hb : Below w1.heap.size w1 W) => trdepth_any _ 3 3 _ 1 W (HNs.out W hb) HRt.out (by omega))
  rw [show ((Tr.ups [Tr.n0, Tr.n1, Tr.n2] 1).length : Int) = 2 by kernel_rfl] at HDp
  have HTx := Lib.hid (fun (W : World) (hb : Below w1.heap.size w1 W) => trtext_any _ 1 3 _ W (nodes_first (HNs.out W hb)) (by kernel_rfl) (fun nd h => by rw [List.mem_singleton] at h; subst h; exact Tr.wf_n0) (HP1.out.below hb))
  rw [text_n0] at HTx
  have HI1 := Lib.hid hi1
  clear hi1 hb1
  refine Lib.hid ?_
  go_wp2_with (first
    | (go_at_call 8; refine HRg.mono ?_; rintro _ w2 ⟨rfl, hb2⟩; obtain ⟨ub, uo, ux, rfl, _, huc, hux, _⟩ := ints_cell (HI1.out.below hb2) (show 1 < 3 by decide); obtain rfl : ux = 1 := hux.symm; have HB2 := Lib.hid hb2; clear hb2 hux)
    | (go_at_call 17; refine (HIn.out _ HB2.out).mono ?_; rintro _ w3 ⟨rfl, hb3⟩; have HB3 := Lib.hid (below_self HB2.out hb3); clear hb3)
    | (go_at_call 19; refine (HDp.out _ HB3.out).mono ?_; rintro _ w4 ⟨rfl, hb4⟩; have HB4 := Lib.hid (below_self HB3.out hb4); clear hb4)
    | (go_at_call 22; refine (HTx.out _ HB4.out).mono ?_; rintro _ w5 ⟨rfl, hb5⟩; have HB5 := Lib.hid (below_self HB4.out hb5); clear hb5))
  go_ret
  exact ⟨rfl, below_self HB1.out HB5.out⟩
end Go.Proofs.YtpfcfmpfommfaaaDoor
