/-
 The example that ends the law of the layer: a program of one function; a text whose second line is no instruction's. Conditions: the library's variables and table are laid.
-/
import Derived.Test.YtfopelegobhegaaGreatDoorAsRead
import Derived.Test.YtfopelegobhegaaGreatDoorAsRLine
import Derived.Test.YtfopelegobhegaaGreatDoorAsRHead
set_option maxRecDepth 100000
namespace Go.Proofs.YtfopelegobhegaaGreatDoor
open Go.RowKit
namespace As
def one : Fn.F := ⟨⟨#[102]⟩, false, [], [], [], [], [(25, 0)], [1], [], [], []⟩
def text1 : ByteArray := ⟨#[102, 117, 110, 99, 32, 102, 32, 45, 32, 45, 32, 45, 10, 49, 32, 114, 101, 116, 10, 101, 110, 100, 10]⟩
def text2 : ByteArray := ⟨#[102, 117, 110, 99, 32, 102, 32, 45, 32, 45, 32, 45, 10, 49, 32, 114, 111, 116]⟩
theorem read_text1 : read text1 = (([one], 0), 0) := by kernel_rfl
theorem read_text2 : read text2 = (([], 2), 8) := by kernel_rfl
end As
set_option maxHeartbeats 4000000 in
theorem lives17_any (w : World) (hg : Glob w) (hT : Tab w) (hgt : 5 < w.heap.size) : Calls Tryz.prog 4 #[] w (BoolP true w) := by
 have H1 := asread_any As.text1 (by decide) w hg hT hgt
 have H2 := Lib.hid (fun (W : World) (hb : Below w.heap.size w W) => asread_any As.text2 (by decide) W (hg.below hb) (tab_below hT hb hgt) (Nat.lt_of_lt_of_le hgt hb.size))
 unfold AsReadP at H1 H2
 rw [As.read_text1] at H1
 simp only [As.read_text2] at H2
 unfold As.text1 at H1
 unfold As.text2 at H2
 clear hg hT hgt
 go_enter Tryz.func4, Tryz.ntmps4
 go_wp2_with fail
 refine H1.mono ?_
 rintro _ w1 ⟨⟨a, n, c⟩, us, rfl, hn, _, _, hb1⟩
 replace hn : n = 1 := hn
 subst hn
 simp only [Sl3.val]
 have hb2 := hb1.trans (((Below.refl w1.heap.size w1).alloc (Nat.le_refl _) (.cells #[.slice a 1 c] 42)).mono hb1.size)
 have hc := (prog_cell (heap_alloc_new w1 (.cells #[.slice a 1 c] 42))).1
 have hl : w1.heap.size < (w1.alloc (.cells #[.slice a 1 c] 42)).heap.size := by simp
 have HC := Lib.hid (And.intro hc hl)
 have HR := H2.out _ hb2
 have HB2 := Lib.hid hb2
 clear H1 H2 hb1 hb2 hc hl
 go_wp2_with fail
 refine HR.mono ?_
 rintro _ w3 ⟨⟨a2, n2, c2⟩, us2, rfl, hn2, _, _, hb3⟩
 simp only [Sl3.val]
 have hb4 := hb3.trans (((Below.refl w3.heap.size w3).alloc (Nat.le_refl _) (.cells #[.slice a2 n2 c2] 42)).mono hb3.size)
 have k1 := (hb4.cell (p := ⟨w1.heap.size, 0, none⟩) HC.out.2).trans HC.out.1
 have HB4 := Lib.hid (HB2.out.trans (hb4.mono HB2.out.size))
 clear HR hn2 hb3 hb4 HC
 go_wp2
 go_ret
 exact ⟨rfl, HB4.out⟩
end Go.Proofs.YtfopelegobhegaaGreatDoor
namespace Go.Proofs.YtfopelegobhegaaGreatDoor
open Go.RowKit
set_option maxHeartbeats 8000000 in
theorem asmLines_walk (s : ByteArray) (hs : s.size ≤ 9223372036854775807) (w : World) (hg : Glob w) (hT : Tab w) (hgt : 5 < w.heap.size) : Calls Tryz.prog 3 #[.string s] w (BoolP true w) := by
 have HLv := Lib.hid (fun (W : World) (hb : Below w.heap.size w W) => lives17_any W (hg.below hb) (tab_below hT hb hgt) (Nat.lt_of_lt_of_le hgt hb.size))
 by_cases hlen : 300 < s.size
 · have hd : (300 : Int) < (s.size : Int) := by omega
   have HL := HLv.out w (Below.refl _ _)
   unfold BoolP at HL
   clear hg hT hgt
   go_enter Tryz.func3, Tryz.ntmps3
   go_wp2_with (go_at_call 4; refine HL.mono ?_; rintro _ w1 ⟨rfl, hb⟩)
   go_ret
   exact ⟨rfl, hb⟩
 have hd : decide ((300 : Int) < (s.size : Int)) = false := decide_eq_false (by omega)
 have H1 := asline_any s (by omega) w hg
 have H2 := Lib.hid (fun W => rasline_any s (by omega) W)
 have H3 := Lib.hid (fun W => ashead_any s (by omega) W)
 have H4 := Lib.hid (fun W => rashead_any s (by omega) W)
 unfold LineP at H1 H2
 unfold HeadP FnV.cells Sl3.val at H3 H4
 obtain ⟨⟨⟨⟨op, a⟩, n⟩, er⟩, ho⟩ : ∃ o, As.line s = o := ⟨_, rfl⟩
 rw [ho] at H1
 simp only [ho] at H1 H2
 obtain ⟨⟨f, eh⟩, hh⟩ : ∃ o, As.head s = o := ⟨_, rfl⟩
 simp only [hh] at H3 H4
 have HFt : Hid (f.name.size ≤ 9223372036854775807) := Lib.hid (by
   have := (As.fit_head (s := s) (by omega)).name
   rw [hh] at this
   simp only at this
   omega)
 clear hg hT hgt ho hh hlen
 go_enter Tryz.func3, Tryz.ntmps3
 go_wp2_with fail
 refine H1.mono ?_
 rintro _ w1 ⟨rfl, hb1⟩
 have I1 := Ins.new w1 op a
 have B1 := hb1.trans (((Below.refl w1.heap.size w1).alloc (Nat.le_refl _) (.cells #[.int .i64 op, .int .i64 a] 25)).mono hb1.size)
 have HI1 := Lib.hid I1
 have HB1 := Lib.hid B1
 clear H1 hb1 I1 B1
 go_wp2_with fail
 refine (H2.out _).mono ?_
 rintro _ w2 ⟨rfl, hb2⟩
 have B2 := hb2.trans (((Below.refl w2.heap.size w2).alloc (Nat.le_refl _) (.cells #[.int .i64 op, .int .i64 a] 25)).mono hb2.size)
 have HI1 := Lib.hid (HI1.out.on B2)
 have HI2 := Lib.hid (Ins.new w2 op a)
 have HB2 := Lib.hid (HB1.out.trans (B2.mono HB1.out.size))
 clear H2 hb2 B2 HB1
 go_wp2_with fail
 refine (H3.out _).mono ?_
 rintro _ w3 ⟨u, rfl, hu, hu4, hb3⟩
 have HBr : Hid (∃ x b, u = FnV.four x b u) := Lib.hid hu4
 have ba := (Below.refl w3.heap.size w3).alloc (Nat.le_refl _) (.cells u.cells 35)
 have B3 := hb3.trans (ba.mono hb3.size)
 have HI1 := Lib.hid (HI1.out.on B3)
 have HI2 := Lib.hid (HI2.out.on B3)
 have HB3 := Lib.hid (HB2.out.trans (B3.mono HB2.out.size))
 have HU := Lib.hid (hu.ok.on ba)
 have HUl := Lib.hid (hu.lens HFt.out)
 have HA3 := Lib.hid (FnAt.new w3 u)
 unfold FnV.cells Sl3.val at HI1 HI2 HB3 HU HA3
 clear H3 hu hu4 hb3 ba B3 HB2
 go_wp2_with fail
 refine (H4.out _).mono ?_
 rintro _ w4 ⟨v, rfl, hv, hv4, hb4⟩
 have bb := (Below.refl w4.heap.size w4).alloc (Nat.le_refl _) (.cells v.cells 35)
 have B4 := hb4.trans (bb.mono hb4.size)
 unfold FnV.cells Sl3.val at bb B4
 have HA4 := FnAt.new w4 v
 have hv5 := hv.ok.on bb
 have hU5 := HU.out.on B4
 have hA3 := HA3.out
 have hA5 : FnAt (w4.alloc (.cells #[.string v.name, .bool v.inner, .slice v.outer.a v.outer.n v.outer.c, .slice v.params.a v.params.n v.params.c, .slice v.results.a v.results.n v.results.c, .slice v.locals.a v.locals.n v.locals.c, .slice v.code.a v.code.n v.code.c, .slice v.lines.a v.lines.n v.lines.c, .slice v.nodes.a v.nodes.n v.nodes.c, .slice v.at_.a v.at_.n v.at_.c, .slice v.live.a v.live.n v.live.c] 35)) w3.heap.size u := (B4.block _ (heap_lt hA3)).trans hA3
 have HSm := rfnsame_any u v f f _ hU5 hv5 HUl.out
 have i1 := HI1.out.on B4
 have i2 := HI2.out.on B4
 have x0 := i1.c0; have x1 := i1.c1; have y0 := i2.c0; have y1 := i2.c1
 obtain ⟨c0, c1, c2, c3, c4, c5, c6, c7, c8, c9, c10⟩ := hA5.all
 obtain ⟨d0, d1, d2, d3, d4, d5, d6, d7, d8, d9, d10⟩ := FnAt.all (w := w4.alloc (.cells #[.string v.name, .bool v.inner, .slice v.outer.a v.outer.n v.outer.c, .slice v.params.a v.params.n v.params.c, .slice v.results.a v.results.n v.results.c, .slice v.locals.a v.locals.n v.locals.c, .slice v.code.a v.code.n v.code.c, .slice v.lines.a v.lines.n v.lines.c, .slice v.nodes.a v.nodes.n v.nodes.c, .slice v.at_.a v.at_.n v.at_.c, .slice v.live.a v.live.n v.live.c] 35)) HA4
 have HB4 := Lib.hid (HB3.out.trans (B4.mono HB3.out.size))
 unfold EqP FnV.cells Sl3.val at HSm
 have heq := fun W => eq_pair_same (op, a) W
 clear hv hv4 hb4 bb B4 HA4 hv5 hU5 hA3 hA5 i1 i2 HI1 HI2 HU HA3 HB3 H4 HBr
 go_wp2_with (first
   | (go_at_call 9; refine HSm.mono ?_; clear HSm; rintro _ w5 ⟨b, rfl, hb, hb5⟩; obtain rfl : b = true := hb.2 trivial; have HB5 := Lib.hid (HB4.out.trans (hb5.mono HB4.out.size)); clear hb hb5 x0 x1 y0 y1 c0 c1 c2 c3 c4 c5 c6 c7 c8 c9 c10 d0 d1 d2 d3 d4 d5 d6 d7 d8 d9 d10)
   | (go_at_call 4; refine (HLv.out _ HB5.out).mono ?_; rintro _ w6 ⟨rfl, hb6⟩; have HB6 := Lib.hid (HB5.out.trans (hb6.mono HB5.out.size)); clear hb6))
 go_ret
 exact ⟨rfl, HB6.out⟩
end Go.Proofs.YtfopelegobhegaaGreatDoor
