/-
 What dis.Tables tells. Conditions: the function can be laid; its lists can be read; numbers of their type; the tables of powers of ten and of math/bits are laid; lengths within the reach.
-/
import Derived.Test.YtmhmlhlplfkpaaaGreatDoorDiRows
import Derived.Test.YtmhmlhlplfkpaaaGreatDoorDiTx
import Derived.Test.YtmhmlhlplfkpaaaGreatDoorTrX
set_option maxRecDepth 100000
namespace Go.Proofs.YtmhmlhlplfkpaaaGreatDoor
open Go.RowKit
set_option maxHeartbeats 4000000 in
theorem dtables_any (v : FnV) (f : Fn.F) (w : World) (h : FnOk w w.heap.size v f) (hl : v.Len) (hw : f.Wf) (hc : f.bare = false → Tr.right f.nodes = true) (hp : Pow w) (hT : Tab w) (hgt : 0 < w.heap.size) (hs : (Di.tabs f f.code.length).size ≤ 140737488355328) :
   Calls Tryz.prog 8 #[.agg v.cells] w (StrP (Di.tables f) w) := by
 have b0 := (Below.refl w.heap.size w).alloc (Nat.le_refl _) (.cells v.cells 28)
 have hA := FnAt.new w v
 have hbe := h.bare
 have HBa := Lib.hid (fnbare_any v (w.alloc (.cells v.cells 28)))
 obtain ⟨c0, c1, c2, c3, c4, c5, c6, c7, c8, c9, c10⟩ := hA.all
 have B0 := Lib.hid b0
 cases hb : f.bare with
 | true =>
   have HE : Hid (Di.tables f = ByteArray.empty) := Lib.hid (by unfold Di.tables; rw [hb]; rfl)
   rw [hbe, hb] at HBa
   clear h hl hw hc hp hT hgt hs hA hbe b0
   go_enter Tryz.func8, Tryz.ntmps8
   go_wp2_with (go_at_call 26; refine HBa.out.mono ?_; rintro _ w1 ⟨rfl, hb1⟩; have HB1 := Lib.hid hb1; clear hb1)
   go_ret
   exact ⟨retD (by rw [HE.out]; rfl), B0.out.trans (HB1.out.mono B0.out.size)⟩
 | false =>
   have HE : Hid (Di.tables f = Di.tabs f f.code.length) := Lib.hid (by unfold Di.tables; rw [hb]; rfl)
   rw [hbe, hb] at HBa
   have hts : (Di.tabs f f.code.length).size = (Tr.text f.nodes).size + (Di.rowsTo f f.code.length).size := by unfold Di.tabs; rw [ByteArray.size_append]
   have HA := Lib.hid hA
   have HO := Lib.hid h
   have HL := Lib.hid hl
   have HW := Lib.hid hw
   have HR := Lib.hid (hc hb)
   have HP := Lib.hid hp
   have HT := Lib.hid (And.intro hT hgt)
   have HS : Hid ((Tr.text f.nodes).size + (Di.rowsTo f f.code.length).size ≤ 140737488355328) := Lib.hid (by rw [← hts]; exact hs)
   clear h hl hw hc hp hT hgt hs hA hbe b0 hts hb
   go_enter Tryz.func8, Tryz.ntmps8
   go_wp2_with (go_at_call 26; refine HBa.out.mono ?_; rintro _ w1 ⟨rfl, hb1⟩; refine Hid.out ?_)
   have b1 := B0.out.trans (hb1.mono B0.out.size)
   have hbp := (Below.refl w1.heap.size w1).alloc (Nat.le_refl _) (.cells #[.pointer none, .slice none 0 0] 57)
   have b2 := b1.trans (hbp.mono b1.size)
   have hq : w.heap.size < w1.heap.size := Nat.lt_of_lt_of_le HA.out.lt hb1.size
   have hPg := Pg.new (B := w.heap.size) w1 b1.size
   have hA2 := (HA.out.on hb1).on hbp
   have hTx := trtext_any v.nodes.a v.nodes.n v.nodes.c f.nodes _ (HO.out.on b2).nodes.1 HR.out HW.out.nodes (HP.out.below b2)
   have c8 := hA2.c8
   have B2 := Lib.hid b2
   have HTx := Lib.hid hTx
   have HPg := Lib.hid hPg
   have HA2 := Lib.hid hA2
   have HQ := Lib.hid hq
   clear c0 c1 c2 c3 c4 c5 c6 c7 c9 c10 HBa b1 b2 hb1 hbp hq hPg hA2 hTx
   refine Lib.hid ?_
   go_wp2_with (go_at_call 28; refine HTx.out.mono ?_; rintro _ w2 ⟨rfl, hb2⟩; refine Hid.out ?_)
   have hW := pg_text w.heap.size w1.heap.size [] (Tr.text f.nodes) w2 (HPg.out.below hb2) (by have := HS.out; simp only [List.length_nil]; omega) (Nat.le_trans B2.out.size hb2.size)
   rw [List.nil_append] at hW
   have HWr := Lib.hid hW
   have B3 := Lib.hid (B2.out.trans (hb2.mono B2.out.size))
   have HA3 := Lib.hid (HA2.out.on hb2)
   clear hW hb2 c8 HTx
   refine Lib.hid ?_
   go_wp2_with (go_at_call 27; refine HWr.out.mono ?_; rintro _ w3 ⟨rfl, hp3, hb3, ho3⟩; refine Hid.out ?_)
   have hA4 : FnAt w3 w.heap.size v := ho3.cells HA3.out (fun e => by have := HQ.out; omega) (by decide)
   have b4 := B3.out.trans hb3
   have hRw := drows_any w.heap.size w1.heap.size (Tr.text f.nodes).data.toList v f w3 hp3 (HO.out.below b4) HL.out HW.out (HP.out.below b4) (pow_lt HP.out) (tab_below HT.out.1 b4 HT.out.2) HT.out.2 (by rw [← Lib.size_eq]; exact HS.out)
   obtain ⟨c0, c1, c2, c3, c4, c5, c6, c7, c8, c9, c10⟩ := hA4.all
   have HRw := Lib.hid hRw
   have B4 := Lib.hid b4
   clear hA4 b4 hRw hp3 hb3 ho3 HWr
   refine Lib.hid ?_
   go_wp2_with (go_at_call 29; refine HRw.out.mono ?_; rintro _ w4 ⟨rfl, hp4, hb4, _⟩; refine Hid.out ?_)
   have HSt := Lib.hid (pg_string _ _ _ w4 hp4)
   have B5 := Lib.hid (B4.out.trans hb4)
   clear c0 c1 c2 c3 c4 c5 c6 c7 c8 c9 c10 hp4 hb4 HRw
   refine Lib.hid ?_
   go_wp2_with (go_at_call 31; refine HSt.out.mono ?_; rintro _ w5 ⟨rfl, hb5⟩)
   go_ret
   refine ⟨retD ?_, B5.out.trans hb5⟩
   rw [HE.out]
   apply In.list_ext
   simp [Di.tabs]
end Go.Proofs.YtmhmlhlplfkpaaaGreatDoor
