/-
  The walk of TreeTells. Conditions: the nodes can be read; numbers of their type; the table of powers of ten is laid.
-/
import Derived.Test.YtpfcfmpfommfaaaDoorTrL
import Derived.Test.YtpfcfmpfommfaaaDoorTrRr
import Derived.Test.YtpfcfmpfommfaaaDoorTrKid
import Derived.Test.YtpfcfmpfommfaaaDoorTrOwn
import Derived.Test.YtpfcfmpfommfaaaDoorTrTy
import Derived.Test.YtpfcfmpfommfaaaDoorRuInts
import Derived.Test.YtpfcfmpfommfaaaDoorSlC
import Derived.Deep.DeepMust
namespace Go.Proofs.YtpfcfmpfommfaaaDoor
open Go.RowKit

set_option maxHeartbeats 8000000 in
set_option maxRecDepth 100000 in
theorem treeTells_walk (La : Option Addr) (n c : Nat) (l : List Tr.Nd) (x y : Int) (w : World) (h : NodesAt w w.heap.size La n l) (hn : n ≤ 9223372036854775807) (hwf : ∀ nd ∈ l, nd.wf) (hx : -9223372036854775808 ≤ x ∧ x ≤ 9223372036854775807) (hp : Pow w) :
    Calls Tryd.prog 4 #[.slice La n c, .int .i64 x, .int .i64 y] w (BoolP true w) := by
  by_cases h60 : 60 < n
  · have hi : (60 : Int) < (n : Int) := by omega
    have HLv := Lib.hid (lives13_any w hp)
    clear h hp hwf hx
    go_enter Tryd.func4, Tryd.ntmps4
    go_wp2_with (go_at_call 7; refine HLv.out.mono ?_; rintro e w1 ⟨rfl, hb1⟩)
    go_ret
    exact ⟨rfl, hb1⟩
  have hi : ¬ (60 : Int) < (n : Int) := by omega
  have HRt := rtrright_any La n c l w h hn
  have HP := Lib.hid hp
  have H := Lib.hid h
  cases hr : Tr.right l with
  | false =>
    rw [hr] at HRt
    clear h hp hr hwf hx
    go_enter Tryd.func4, Tryd.ntmps4
    go_wp2_with (first
      | (go_at_call 9; refine HRt.mono ?_; rintro e w1 ⟨rfl, hb1⟩)
      | (go_at_call 7; refine (lives13_any _ (HP.out.below hb1)).mono ?_; rintro e w2 ⟨rfl, hb2⟩))
    go_ret
    exact ⟨rfl, below_self hb1 hb2⟩
  | true =>
    rw [hr] at HRt
    have ex : ∀ (W : World), Below w.heap.size w W → NodesAt W W.heap.size La n l := fun W hb => h.on hb
    have HUp := Lib.hid (fun (W : World) (hb : Below w.heap.size w W) => trup_any La n c l x W (ex W hb) hr hx)
    have HRUp := Lib.hid (fun (W : World) (hb : Below w.heap.size w W) => rtrup_any La n c l x W (ex W hb) hr)
    have HKd := Lib.hid (fun (W : World) (hb : Below w.heap.size w W) => trkids_any La n c l x W (ex W hb) hr)
    have HRKd := Lib.hid (fun (W : World) (hb : Below w.heap.size w W) => rtrkids_any La n c l x W (ex W hb) (by omega))
    have HIs := Lib.hid (fun (W : World) (hb : Below w.heap.size w W) => trinside_any La n c l x y W (ex W hb) hr hx)
    have HRIs := Lib.hid (fun (W : World) (hb : Below w.heap.size w W) => rtrinside_any La n c l x y W (ex W hb) hr)
    have HDp := Lib.hid (fun (W : World) (hb : Below w.heap.size w W) => trdepth_any La n c l x W (ex W hb) hr hx)
    have HOw := Lib.hid (fun (W : World) (hb : Below w.heap.size w W) => trown_any La n c l x W (ex W hb) hn)
    have HROw := Lib.hid (fun (W : World) (hb : Below w.heap.size w W) => rtrown_any La n c l x W (ex W hb) hn)
    have HTx := Lib.hid (fun (W : World) (hb : Below w.heap.size w W) => trtext_any La n c l W (ex W hb) hr hwf (hp.below hb))
    have HRTx := Lib.hid (fun (W : World) (hb : Below w.heap.size w W) => rtrtext_any La n c l W (ex W hb) hr hwf)
    have hul : (Tr.ups l x).length ≤ 120 := Nat.le_trans (Tr.ups_len hr x) (Tr.right_run hr).2.1
    have hkl : (Tr.kids l x).length ≤ 120 := Nat.le_trans (Tr.kidsTo_len l x _) (Tr.right_run hr).2.1
    clear h hr hwf hx hp ex H
    generalize Tr.ups l x = us at *
    generalize Tr.kids l x = ks at *
    generalize Tr.inside l x y = ib at *
    generalize Tr.own l x = so at *
    generalize Tr.text l = tx at *
    have HIx := Lib.hid (fun (A B : Option Addr) (c c' : Nat) (l : List Int) (W : World) (h : IntsAt W W.heap.size A l.length l) (h' : IntsAt W W.heap.size B l.length l) (hl : l.length ≤ 120) => show Calls Tryd.prog 12 #[.slice A l.length c, .slice B l.length c'] W (BoolP true W) from by have := ints_any A l.length c l B l.length c' l W h h' (by omega); rwa [decide_eq_true rfl] at this)
    have HRUp2 := HRUp
    have eqs := eq_same so
    go_enter Tryd.func4, Tryd.ntmps4
    go_wp2_with (first
      | (go_at_call 9; go_must (refine (HRt).mono ?_; rintro e w1 ⟨rfl, hb1⟩; have HB1 := Lib.hid hb1; clear hb1 HRt))
      | (go_at_call 13; go_must (refine (HUp.out _ HB1.out).mono ?_; rintro e w2 ⟨A2, c2, rfl, hi2, hb2⟩; have HB2 := Lib.hid (HB1.out.trans (hb2.mono HB1.out.size)); clear hb2; have HA2 := Lib.hid hi2; clear hi2 HUp))
      | (go_at_call 14; refine (HRUp.out _ HB2.out).mono ?_; rintro e w3 ⟨A3, c3, rfl, hi3, hb3⟩; have HA2b := Lib.hid ((HA2.out.below hb3).more hb3.size); have HB3 := Lib.hid (HB2.out.trans (hb3.mono HB2.out.size)); clear hb3; have HA3 := Lib.hid hi3; clear hi3 HRUp HA2)
      | (go_at_call 12; refine (HIx.out A2 A3 c2 c3 us _ HA2b.out HA3.out hul).mono ?_; rintro e w4 ⟨rfl, hb4⟩; have HB4 := Lib.hid (HB3.out.trans (hb4.mono HB3.out.size)); clear hb4; clear HA2b)
      | (go_at_call 15; go_must (refine (HKd.out _ HB4.out).mono ?_; rintro e w5 ⟨A5, c5, rfl, hi5, hb5⟩; have HB5 := Lib.hid (HB4.out.trans (hb5.mono HB4.out.size)); clear hb5; have HA5 := Lib.hid hi5; clear hi5 HKd))
      | (go_at_call 16; go_must (refine (HRKd.out _ HB5.out).mono ?_; rintro e w6 ⟨A6, c6, rfl, hi6, hb6⟩; have HA5b := Lib.hid ((HA5.out.below hb6).more hb6.size); have HB6 := Lib.hid (HB5.out.trans (hb6.mono HB5.out.size)); clear hb6; have HA6 := Lib.hid hi6; clear hi6 HRKd))
      | (go_at_call 12; refine (HIx.out A5 A6 c5 c6 ks _ HA5b.out HA6.out hkl).mono ?_; rintro e w7 ⟨rfl, hb7⟩; have HB7 := Lib.hid (HB6.out.trans (hb7.mono HB6.out.size)); clear hb7)
      | (go_at_call 17; go_must (refine (HIs.out _ HB7.out).mono ?_; rintro e w8 ⟨rfl, hb8⟩; have HB8 := Lib.hid (HB7.out.trans (hb8.mono HB7.out.size)); clear hb8))
      | (go_at_call 18; go_must (refine (HRIs.out _ HB8.out).mono ?_; rintro e w9 ⟨rfl, hb9⟩; have HB9 := Lib.hid (HB8.out.trans (hb9.mono HB8.out.size)); clear hb9))
      | (go_at_call 19; go_must (refine (HDp.out _ HB9.out).mono ?_; rintro e w10 ⟨rfl, hb10⟩; have HB10 := Lib.hid (HB9.out.trans (hb10.mono HB9.out.size)); clear hb10))
      | (go_at_call 14; refine (HRUp2.out _ HB10.out).mono ?_; rintro e w11 ⟨A11, c11, rfl, _, hb11⟩; have HB11 := Lib.hid (HB10.out.trans (hb11.mono HB10.out.size)); clear hb11)
      | (go_at_call 20; go_must (refine (HOw.out _ HB11.out).mono ?_; rintro e w12 ⟨rfl, hb12⟩; have HB12 := Lib.hid (HB11.out.trans (hb12.mono HB11.out.size)); clear hb12))
      | (go_at_call 21; go_must (refine (HROw.out _ HB12.out).mono ?_; rintro e w13 ⟨rfl, hb13⟩; have HB13 := Lib.hid (HB12.out.trans (hb13.mono HB12.out.size)); clear hb13))
      | (go_at_call 22; go_must (refine (HTx.out _ HB13.out).mono ?_; rintro e w14 ⟨rfl, hb14⟩; have HB14 := Lib.hid (HB13.out.trans (hb14.mono HB13.out.size)); clear hb14))
      | (go_at_call 23; go_must (refine (HRTx.out _ HB14.out).mono ?_; rintro e w15 ⟨rfl, hb15⟩; have HB15 := Lib.hid (HB14.out.trans (hb15.mono HB14.out.size)); clear hb15))
      | (go_at_call 7; go_must (refine (lives13_any _ (HP.out.below HB15.out)).mono ?_; rintro e w16 ⟨rfl, hb16⟩; have HB16 := Lib.hid (HB15.out.trans (hb16.mono HB15.out.size)); clear hb16)))
    go_ret
    exact ⟨rfl, HB16.out⟩
end Go.Proofs.YtpfcfmpfommfaaaDoor
