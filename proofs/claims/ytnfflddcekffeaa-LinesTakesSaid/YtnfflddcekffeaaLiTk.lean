/-
  What lines.Take and the document's Take answer. Conditions: at most 2^31 - 1 numbers are asked for; the bytes can be read.
-/
import Derived.Test.YtnfflddcekffeaaRuTake
import Derived.Test.YtnfflddcekffeaaRuRefTake
namespace Go.Proofs.Ytnfflddcekffeaa
open Go.RowKit

set_option maxRecDepth 100000 in
theorem litake_cur (g : Nat) (s0 : List Nat × Nat) (n : Int) (w : World) (h : Cur w g s0) (hn : n ≤ 2147483647) :
    Calls Try.prog 17 #[.pointer (some ⟨g, 0, none⟩), .int .i64 n] w (TakeP (takeA s0 n 0 65535) g w) := by
  have H := Lib.hid (take_cur g s0 n 0 65535 w h hn)
  clear h
  generalize takeA s0 n 0 65535 = o at *
  go_enter Try.func17, Try.ntmps17
  go_wp2_with (go_at_call 28; refine H.out.mono ?_; rintro _ w1 ⟨v, rfl, h1, h2, h3⟩; have HV := Lib.hid (And.intro h1 (And.intro h2 h3)); clear h1 h2 h3)
  go_ret
  exact ⟨v, rfl, HV.out⟩

set_option maxHeartbeats 1000000 in
set_option maxRecDepth 100000 in
theorem rlitake_any (A : Option Addr) (n c B : Nat) (s0 : List Nat × Nat) (nn : Int) (w : World) (h : Dat w B A n c s0) (hs : Clean s0) (hB : B ≤ w.heap.size) (hn : nn ≤ 2147483647) :
    Calls Try.prog 15 #[.agg #[.slice A n c, .int .i64 (s0.2 : Int)], .int .i64 nn] w (RTakeP (takeA s0 nn 0 65535) B w) := by
  have hba : Below w.heap.size w ((w.alloc (.cells #[.slice A n c, .int .i64 (s0.2 : Int)] 41)).alloc (.cells #[.slice none 0 0, .int .i64 0] 41)) := ((Below.refl _ w).alloc (Nat.le_refl _) _).alloc (by simp) _
  have hK : RtK w B s0 A n c [] (.slice none 0 0) ((w.alloc (.cells #[.slice A n c, .int .i64 (s0.2 : Int)] 41)).alloc (.cells #[.slice none 0 0, .int .i64 0] 41)) := by
    refine ⟨World.ownsRow_nil _ _ _ _, (Two.new w _ _).alloc _, ⟨.slice none 0 0, .int .i64 0, ?_⟩, h.below (hba.mono hB), hba, hB⟩
    have := Two.new (w.alloc (.cells #[.slice A n c, .int .i64 (s0.2 : Int)] 41)) (.slice none 0 0) (.int .i64 0)
    simpa only [World.size_alloc] using this
  have HT := Lib.hid (rtake_any A n c B s0 nn 0 65535 _ hK.dat hs (by simp; omega) hn)
  have HK := Lib.hid hK
  have z0 := hK.pc.c0
  have z1 := hK.pc.c1
  clear h hs hba hK
  generalize takeA s0 nn 0 65535 = o at *
  go_enter Try.func15, Try.ntmps15
  go_wp2_with fail
  refine HT.out.mono ?_
  rintro _ w1 ⟨v, A1, n1, c1, rfl, hown, hd, hb⟩
  obtain ⟨Av, cv, rfl, _⟩ := nums_slice hown
  simp only [World.size_alloc] at hown
  have HK1 := Lib.hid (HK.out.kept hb)
  obtain ⟨x9, y9, hp9⟩ := HK1.out.pr
  have q0 := hp9.c0
  have q1 := hp9.c1
  have f0 := hp9.f 0
  have f1 := hp9.f 1
  have HR := Lib.hid (HK1.out.ret (E := (o.2.2 : Int)) hd hown)
  clear hown hd hb hp9
  go_wp2
  obtain ⟨r1, r2, r3, q0, q1⟩ := HR.out
  exact bodyPost_ret (v := .tuple #[.slice Av o.1.length cv, .agg #[.slice A1 n1 c1, .int .i64 (o.2.2 : Int)]]) (by simp [results, Try.results15, go_sem, q0, q1]) rfl ⟨_, A1, n1, c1, rfl, r1, r2, r3⟩

end Go.Proofs.Ytnfflddcekffeaa
