/-
 The walk of FileCuts. Conditions: the program can be read; the library's table is laid.
-/
import Derived.Test.YtdopheoedpldiaaGreatDoorFlX
set_option maxRecDepth 100000
namespace Go.Proofs.YtdopheoedpldiaaGreatDoor
open Go.RowKit
set_option maxHeartbeats 16000000 in
theorem fileCuts_walk (s : Sl3) (vs : List FnV) (fs : List Fn.F) (z : Int) (x : Nat) (w : World) (h : FnsAt w w.heap.size s.a s.n vs fs) (hw : ∀ f ∈ fs, f.Wf) (hn : s.n ≤ 9223372036854775807) (hx : x < 256) (hT : Tab w) (hgT : 0 < w.heap.size) :
   Calls Tryz.prog 6 #[.agg #[s.val], .int .i64 z, .int .u8 (x : Int)] w (BoolP true w) := by
 obtain ⟨a, n, c⟩ := s
 simp only [Sl3.val] at h hn ⊢
 have b0 := (Below.refl w.heap.size w).alloc (Nat.le_refl _) (.cells #[.slice a n c] 24)
 have H := Lib.hid (h.on b0)
 have B0 := Lib.hid b0
 have HT := Lib.hid (And.intro (tab_below hT b0 hgT) (Nat.lt_of_lt_of_le hgT b0.size))
 have hc0 := (prog_cell (heap_alloc_new w (.cells #[.slice a n c] 24))).1
 have HC := Lib.hid hc0
 have HZ := Lib.hid (show w.heap.size < (w.alloc (.cells #[.slice a n c] 24)).heap.size by simp)
 have HSm := Lib.hid (small16_any a n c vs fs _ H.out hn)
 unfold SmallsP at HSm
 have HW := Lib.hid hw
 clear h b0 hT hgT hw
 go_enter Tryz.func6, Tryz.ntmps6
 go_wp2_with (go_at_call 7; refine HSm.out.mono ?_; rintro _ w2 ⟨bs, rfl, hbs, hb2⟩; clear HSm hc0; refine Hid.out ?_)
 generalize w.alloc (.cells #[.slice a n c] 24) = w1 at *
 have HLv := Lib.hid (fun (W : World) (hb : Below w1.heap.size w1 W) => lives16_any W (tab_below HT.out.1 hb HT.out.2) (Nat.lt_of_lt_of_le HT.out.2 hb.size))
 unfold BoolP at HLv
 have HB2 := Lib.hid hb2
 have hc2 := (hb2.cell (p := ⟨w.heap.size, 0, none⟩) HZ.out).trans HC.out
 cases bs with
 | false =>
   clear hb2 hbs
   refine Lib.hid ?_
   go_wp2_with (go_at_call 8; refine (HLv.out w2 HB2.out).mono ?_; rintro _ w3 ⟨rfl, hb3⟩; have HB3 := Lib.hid (HB2.out.trans (hb3.mono HB2.out.size)); clear hb3 HLv)
   go_ret
   exact ⟨rfl, B0.out.trans (HB3.out.mono B0.out.size)⟩
 | true =>
 obtain ⟨hn50, hfew⟩ := hbs rfl
 have HRC := Lib.hid (rflcan_any a n c vs fs w2 (H.out.on hb2) HW.out hfew)
 unfold ErrP at HRC
 obtain ⟨cf, hcf⟩ : ∃ cf, Fl.can fs = cf := ⟨_, rfl⟩
 rw [hcf] at HRC
 clear hb2 hbs hfew
 by_cases hz : cf = 0
 rotate_left
 · have hd : ((cf : Int) != 0) = true := bne_iff_ne.2 (by omega)
   clear hcf hz
   refine Lib.hid ?_
   go_wp2_with (first
     | (go_at_call 12; refine HRC.out.mono ?_; rintro _ w3 ⟨rfl, hb3⟩; have HB3 := Lib.hid (HB2.out.trans (hb3.mono HB2.out.size)); clear hb3 HRC)
     | (go_at_call 8; refine (HLv.out w3 HB3.out).mono ?_; rintro _ w4 ⟨rfl, hb4⟩; have HB4 := Lib.hid (HB3.out.trans (hb4.mono HB3.out.size)); clear hb4 HLv))
   go_ret
   exact ⟨rfl, B0.out.trans (HB4.out.mono B0.out.size)⟩
 have hd : ((cf : Int) != 0) = false := by rw [hz]; rfl
 have hcan : Fl.can fs = 0 := hcf.trans hz
 have HEn := Lib.hid (fun (W : World) (hb : Below w1.heap.size w1 W) => flencode_any a n c vs fs W (H.out.on hb) HW.out (tab_below HT.out.1 hb HT.out.2) (Nat.lt_of_lt_of_le HT.out.2 hb.size))
 rw [hcan, show Fl.bytes fs = Fl.laid fs from if_pos hcan] at HEn
 unfold EncP at HEn
 have HCan := Lib.hid hcan
 have HPos := Lib.hid (laid_pos fs)
 have HLl := Lib.hid (Fl.laid_lens hcan HW.out)
 clear hcf hcan
 refine Lib.hid ?_
 go_wp2_with (first
   | (go_at_call 12; refine HRC.out.mono ?_; rintro _ w3 ⟨rfl, hb3⟩; have HB3 := Lib.hid (HB2.out.trans (hb3.mono HB2.out.size)); clear hb3 HRC hc2; have hc3 := (HB3.out.cell (p := ⟨w.heap.size, 0, none⟩) HZ.out).trans HC.out)
   | (go_at_call 9; refine (HEn.out w3 HB3.out).mono ?_; rintro _ w4 ⟨v4, rfl, ho4, hb4⟩; clear HEn hc3; refine Hid.out ?_))
 have HB4 := Lib.hid (HB3.out.trans (hb4.mono HB3.out.size))
 obtain ⟨A, k, rfl, hB4, hk1, hk2⟩ := own_at ho4 (Fl.laid_bytes _)
 obtain ⟨gb, go, rfl, _, _⟩ := hB4.2.2 HPos.out
 obtain ⟨nl, hnl⟩ : ∃ nl, (Fl.laid fs).length = nl := ⟨_, rfl⟩
 rw [hnl] at hB4 hk1 HPos HLl
 rw [hnl]
 have HNl := Lib.hid hnl
 have HBy := Lib.hid hB4
 clear ho4 hb4 hB4 hnl
 by_cases hz0 : z < 0
 · have hdz : decide (z < 0) = true := decide_eq_true hz0
   refine Lib.hid ?_
   go_wp2_with (go_at_call 8; refine (HLv.out w4 HB4.out).mono ?_; rintro _ w5 ⟨rfl, hb5⟩; have HB5 := Lib.hid (HB4.out.trans (hb5.mono HB4.out.size)); clear hb5 HLv)
   go_ret
   exact ⟨rfl, B0.out.trans (HB5.out.mono B0.out.size)⟩
 have hdz : decide (z < 0) = false := decide_eq_false hz0
 obtain ⟨j, rfl⟩ : ∃ j : Nat, z = (j : Int) := ⟨z.toNat, by omega⟩
 by_cases hj : j < nl
 rotate_left
 · have hdj : decide ((nl : Int) ≤ (j : Int)) = true := decide_eq_true (by omega)
   refine Lib.hid ?_
   go_wp2_with (go_at_call 8; refine (HLv.out w4 HB4.out).mono ?_; rintro _ w5 ⟨rfl, hb5⟩; have HB5 := Lib.hid (HB4.out.trans (hb5.mono HB4.out.size)); clear hb5 HLv)
   go_ret
   exact ⟨rfl, B0.out.trans (HB5.out.mono B0.out.size)⟩
 have hdj : decide ((nl : Int) ≤ (j : Int)) = false := decide_eq_false (by omega)
 have hD1 := fldecode_any (some ⟨gb, go, none⟩) j k ((Fl.laid fs).take j) w4 (HBy.out.head (by omega)) (by have := HLl.out; omega) (by omega) hk2 (tab_below HT.out.1 HB4.out HT.out.2) (Nat.lt_of_lt_of_le HT.out.2 HB4.out.size) (fun h1 h2 => absurd (Fl.cut_stops HCan.out HW.out (by rw [HNl.out]; exact hj) h1 h2) (fun h => h))
 have hcut := Fl.dec_cut HCan.out HW.out (k := j) (by rw [HNl.out]; exact hj)
 obtain ⟨oc, hoc⟩ : ∃ oc, Fl.dec ((Fl.laid fs).take j) = oc := ⟨_, rfl⟩
 rw [hoc] at hD1 hcut
 obtain ⟨o1, er⟩ := oc
 simp only at hcut
 obtain ⟨rfl, her⟩ := hcut
 unfold DecP at hD1
 have HD1 := Lib.hid hD1
 have her2 : ((er : Int) != 0) = true := bne_iff_ne.2 (by omega)
 clear hoc hD1 her
 refine Lib.hid ?_
 go_wp2_with (go_at_call 13; refine HD1.out.mono ?_; rintro _ w5 ⟨⟨sa, sn, sc⟩, us, rfl, hsn, _, _, hb5⟩; replace hsn : sn = 0 := hsn; subst hsn; simp only [Sl3.val]; clear HD1; refine Hid.out ?_)
 have HB5 := Lib.hid (HB4.out.trans (hb5.mono HB4.out.size))
 have b6 := (Below.refl w5.heap.size w5).alloc (Nat.le_refl _) (.cells #[.slice sa 0 sc] 24)
 have b6' := b6.alloc b6.size (.cells #[] 5)
 have hz6 : (w5.alloc (.cells #[.slice sa 0 sc] 24)).heap.size = w5.heap.size + 1 := World.size_alloc _ _
 have hown0 := World.ownsRow_lit (base := w5.heap.size + 1) (e := 5) (size := 1) (w5.alloc (.cells #[.slice sa 0 sc] 24)) #[] 0 (by rw [hz6]; omega) (by decide) rfl
 rw [hz6] at hown0
 have hBy6 := (HBy.out.below (hb5.trans (b6'.mono hb5.size))).more (show w4.heap.size ≤ w5.heap.size + 1 by have := hb5.size; omega)
 obtain ⟨u7, w7, hr7, ho7, hg7⟩ := append_bytes (c := k) hown0 hBy6 (fun e => by cases e) (by simp) (by have := HLl.out; omega)
 have b7 : Below w5.heap.size w5 w7 := b6'.grown hg7 b6'.size (fun k e => by simp [Value.ownBlock] at e; omega)
 rw [Nat.zero_add, show (#[] : Array Value).toList ++ bs (Fl.laid fs) = bs (Fl.laid fs) from List.nil_append _] at ho7
 have b8 := (Below.refl w7.heap.size w7).alloc (Nat.le_refl _) (.cells #[.int .u8 (x : Int)] 5)
 have hx8 : BytesAt (w7.alloc (.cells #[.int .u8 (x : Int)] 5)) (w7.alloc (.cells #[.int .u8 (x : Int)] 5)).heap.size (some ⟨w7.heap.size, 0, none⟩) 1 [x] := by
   refine ⟨rfl, fun c hc => by obtain rfl := List.mem_singleton.1 hc; exact hx, fun _ => ⟨w7.heap.size, 0, rfl, by simp, fun i hi => ?_⟩⟩
   obtain rfl : i = 0 := by omega
   exact cell_of_row _ _ 0 _ _ _ (heap_alloc_new w7 _)
 obtain ⟨u8, w8, hr8, ho8, hg8⟩ := append_bytes (c := 1) (ownsRow_below ho7 b8) hx8 (fun e => by cases e) (by have := b7.size; have := b8.size; have := b6'.size; simp at *; omega) (by have := HLl.out; omega)
 have b9 : Below w5.heap.size w5 w8 := (b7.trans (b8.mono b7.size)).grown hg8 (by have := b7.size; have := b8.size; omega) (fun k e => by have := (ho7.lt k e).1; omega)
 rw [← bs_append] at ho8
 have hlb : ∀ c ∈ Fl.laid fs ++ [x], c < 256 := fun c hc => (List.mem_append.1 hc).elim (Fl.laid_bytes fs c) (fun h => by obtain rfl := List.mem_singleton.1 h; exact hx)
 obtain ⟨A9, k9, rfl, hB9, hk9, hk9'⟩ := own_at ho8 hlb
 have HB9 := Lib.hid (HB5.out.trans (b9.mono HB5.out.size))
 have hD2 := fldecode_any A9 (nl + 1) k9 (Fl.laid fs ++ [x]) w8 hB9 (by have := HLl.out; omega) hk9 hk9' (tab_below HT.out.1 HB9.out HT.out.2) (Nat.lt_of_lt_of_le HT.out.2 HB9.out.size) (fun _ _ => back_names HCan.out HW.out [x])
 rw [Fl.dec_more HCan.out HW.out (by simp)] at hD2
 unfold DecP at hD2
 have HD2 := Lib.hid hD2
 have HR7 := Lib.hid (hr7 27 rfl)
 have HR8 := Lib.hid (hr8 27 rfl)
 have HP6 := Lib.hid (show w8.cell? ⟨w5.heap.size, 0, none⟩ = some (.slice sa 0 sc) ∧ w5.heap.size < w8.heap.size from by
   have h1 := (prog_cell (heap_alloc_new w5 (.cells #[.slice sa 0 sc] 24))).1
   have hlt : w5.heap.size < (w5.alloc (.cells #[.slice sa 0 sc] 24)).heap.size := by rw [hz6]; omega
   have c1 := (Below.heap_alloc (w5.alloc (.cells #[.slice sa 0 sc] 24)) (.cells #[] 5) w5.heap.size hlt)
   have c2 := hg7.block w5.heap.size (by simp; omega) (fun e => by simp [Value.ownBlock] at e)
   have hl7 : w5.heap.size < w7.heap.size := by have := hg7.size; simp at this; omega
   have c3 := b8.block w5.heap.size hl7
   have c4 := hg8.block w5.heap.size (Nat.lt_of_lt_of_le hl7 b8.size) (fun e => by have := (ho7.lt _ e.symm).1; omega)
   refine ⟨(World.cell?_of_block (a := ⟨w5.heap.size, 0, none⟩) (c4.trans (c3.trans (c2.trans c1)))).trans h1, ?_⟩
   have := hg8.size
   have := b8.size
   omega)
 clear hb5 b6 b6' hz6 hown0 hBy6 hr7 ho7 hg7 b7 b8 hx8 hr8 ho8 hg8 b9 hlb hB9 hk9 hk9' hD2
 refine Lib.hid ?_
 go_wp2_with (first
   | (at_builtin; refine Lib.wpList_append_run _ rfl (.tmp 52) (.tmp 53) _ _ rfl _ _ rfl rfl _ _ HR7.out ?_)
   | (at_builtin; refine Lib.wpList_append_run _ rfl (.tmp 54) (.tmp 56) _ _ rfl _ _ rfl rfl _ _ HR8.out ?_)
   | (go_at_call 13; refine HD2.out.mono ?_; rintro _ w10 ⟨⟨sa2, sn2, sc2⟩, us2, rfl, hsn2, _, _, hb10⟩; replace hsn2 : sn2 = 0 := hsn2; subst hsn2; simp only [Sl3.val]; clear HD2; have hb11 := hb10.alloc hb10.size (.cells #[.slice sa2 0 sc2] 24); have hq := (hb11.cell (p := ⟨w5.heap.size, 0, none⟩) HP6.out.2).trans HP6.out.1; have HB11 := Lib.hid (HB9.out.trans (hb11.mono HB9.out.size)); clear hb10 hb11)
   | (go_at_call 8; refine (HLv.out _ HB11.out).mono ?_; rintro _ w12 ⟨rfl, hb12⟩; have HB12 := Lib.hid (HB11.out.trans (hb12.mono HB11.out.size)); clear hb12 HLv))
 go_ret
 exact ⟨rfl, B0.out.trans (HB12.out.mono B0.out.size)⟩
end Go.Proofs.YtdopheoedpldiaaGreatDoor
