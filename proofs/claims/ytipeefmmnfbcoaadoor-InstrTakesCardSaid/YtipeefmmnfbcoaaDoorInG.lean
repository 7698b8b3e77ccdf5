/-
  What instr.Read tells of any text. Conditions: the text is shorter than 2^32 - 15; the library's variables are laid.
-/
import Derived.Test.YtipeefmmnfbcoaaDoorInF
namespace Go.Proofs.YtipeefmmnfbcoaaDoor
open Go.RowKit

/-- Block p is an instruction. -/
def Ins (w : World) (p : Nat) (x y : Int) : Prop := w.heap[p]? = some (.cells #[.int .i64 x, .int .i64 y] 24 (0, 0))
theorem Ins.new (w : World) (x y : Int) : Ins (w.alloc (.cells #[.int .i64 x, .int .i64 y] 24)) w.heap.size x y := heap_alloc_new _ _
theorem ins_lt {w : World} {p : Nat} {o : Obj} (h : w.heap[p]? = some o) : p < w.heap.size := by
  rcases Nat.lt_or_ge p w.heap.size with h1 | h1
  · exact h1
  · rw [Array.getElem?_eq_none h1] at h; cases h
theorem ins_set {w : World} {g i : Nat} {cur : Array Value} {t : TypeId} {f : Nat × Nat} (h : w.heap[g]? = some (.cells cur t f)) (v : Value) : (w.setCell ⟨g, i, none⟩ v).heap[g]? = some (.cells (cur.setIfInBounds i v) t f) := by
  have hlt := ins_lt h
  rw [Array.getElem?_eq_getElem hlt] at h
  injection h with h
  unfold World.setCell
  simp only
  rw [Array.getElem?_eq_getElem (by simpa using hlt), Array.getElem_modify_self, h]
  simp
section
variable {w : World} {p : Nat} {x y : Int} (h : Ins w p x y)
include h
theorem Ins.lt : p < w.heap.size := ins_lt h
theorem Ins.c0 : w.cell? ⟨p, 0, none⟩ = some (.int .i64 x) := by unfold Ins at h; simp [World.cell?, h]
theorem Ins.c1 : w.cell? ⟨p, 1, none⟩ = some (.int .i64 y) := by unfold Ins at h; simp [World.cell?, h]
theorem Ins.f (i : Nat) : w.frozen? ⟨p, i, none⟩ = false := by unfold Ins at h; simp [World.frozen?, h]
theorem Ins.alloc (o : Obj) : Ins (w.alloc o) p x y := (Below.heap_alloc w o p (ins_lt h)).trans h
theorem Ins.below {w' : World} {B : Nat} (hb : Below B w w') (hp : p < B) : Ins w' p x y := (hb.block p hp).trans h
theorem Ins.on {w' : World} (hb : Below w.heap.size w w') : Ins w' p x y := (hb.block p (ins_lt h)).trans h
theorem Ins.set1 (z : Int) : Ins (w.setCell ⟨p, 1, none⟩ (.int .i64 z)) p x z := (ins_set h _).trans rfl
end

/-- What is read, and the error. -/
def ReadP (s : ByteArray) (w : World) (e : Ending) (w' : World) : Prop :=
  e = .returned (.tuple #[.agg #[.int .i64 (In.read s).1.1, .int .i64 (In.read s).1.2], .int .i64 ((In.read s).2 : Int)]) ∧ Below w.heap.size w w'
theorem retRead {s : ByteArray} {a b c : Int} {e : Nat} (h : In.read s = ((a, b), e)) (hc : c = (e : Int) := by rfl) :
    Ending.returned (.tuple #[.agg #[.int .i64 a, .int .i64 b], .int .i64 c]) = .returned (.tuple #[.agg #[.int .i64 (In.read s).1.1, .int .i64 (In.read s).1.2], .int .i64 ((In.read s).2 : Int)]) := by rw [h, hc]

namespace In
theorem read_op {s : ByteArray} {op : Int} (h : Op.find (head s) = (op, false)) : read s = ((0, 0), 8) := by
  unfold read
  rw [h]
  rfl
theorem read_form {s : ByteArray} {op : Int} (h : Op.find (head s) = (op, true)) (hm : more s ≠ numbered op) : read s = ((0, 0), 5) := by
  unfold read
  rw [h]
  simp [hm]
theorem read_num {s : ByteArray} {op n : Int} {e : Nat} (h : Op.find (head s) = (op, true)) (hm : more s = true) (hn : numbered op = true) (hx : num (tail s) = (n, e)) (he : e ≠ 0) : read s = ((0, 0), e) := by
  unfold read
  rw [h, hx]
  simp [hm, hn, he]
theorem read_arg {s : ByteArray} {op n : Int} (h : Op.find (head s) = (op, true)) (hm : more s = true) (hn : numbered op = true) (hx : num (tail s) = (n, 0)) (hr : right op n = false) : read s = ((0, 0), 2) := by
  unfold read
  rw [h, hx]
  simp [hm, hn, hr]
theorem read_both {s : ByteArray} {op n : Int} (h : Op.find (head s) = (op, true)) (hm : more s = true) (hn : numbered op = true) (hx : num (tail s) = (n, 0)) (hr : right op n = true) : read s = ((op, n), 0) := by
  unfold read
  rw [h, hx]
  simp [hm, hn, hr]
theorem read_bare {s : ByteArray} {op : Int} (h : Op.find (head s) = (op, true)) (hm : more s = false) (hn : numbered op = false) : read s = ((op, 0), 0) := by
  unfold read
  rw [h]
  simp [hm, hn]
end In

set_option maxHeartbeats 2000000 in
set_option maxRecDepth 100000 in
theorem inread_any (s : ByteArray) (hs : s.size < 4294967281) (w : World) (hg : Glob w) : Calls Tryd.prog 14 #[.string s] w (ReadP s w) := by
  have HG0 := Lib.hid (hg.below ((Below.refl _ w).alloc (Nat.le_refl _) (.cells #[.int .i64 0, .int .i64 0] 24)))
  have R0 := Lib.hid (Ins.new w 0 0)
  have B0 := Lib.hid ((Below.refl w.heap.size w).alloc (Nat.le_refl _) (.cells #[.int .i64 0, .int .i64 0] 24))
  have HT : Hid ((In.tail s).size ≤ 281474976710656) := Lib.hid (by
    have : (In.tail s).size ≤ s.size := by
      unfold In.tail
      rw [ByteArray.size_extract]
      omega
    omega)
  clear hg
  go_enter Tryd.func14, Tryd.ntmps14
  go_wp2_with fail
  refine (cut_any s hs _ HG0.out).mono ?_
  rintro _ w1 ⟨rfl, b1⟩
  have R1 := Lib.hid (R0.out.on b1)
  have B1 := Lib.hid (below_self B0.out b1)
  have HG1 := Lib.hid (HG0.out.below b1)
  clear b1 HG0 R0 B0
  obtain ⟨op, ok, hf⟩ : ∃ op ok, Op.find (In.head s) = (op, ok) := ⟨_, _, rfl⟩
  have HF := opfind_any (In.head s)
  rw [hf] at HF
  dsimp only at HF
  have HFd := Lib.hid hf
  clear hf
  generalize In.head s = hd at HF ⊢
  obtain ⟨m, hm⟩ : ∃ m, In.more s = m := ⟨_, rfl⟩
  rw [hm]
  have HM := Lib.hid hm
  clear hm
  obtain ⟨tl, htl⟩ : ∃ t, In.tail s = t := ⟨_, rfl⟩
  rw [htl]
  have HTl := Lib.hid htl
  clear htl
  go_wp2_with fail
  refine (HF _).mono ?_
  rintro _ w2 ⟨rfl, b2⟩
  have R2 := Lib.hid (R1.out.on b2)
  have B2 := Lib.hid (below_self B1.out b2)
  have HG2 := Lib.hid (HG1.out.below b2)
  clear b2 HG1 R1 B1 HF
  cases ok with
  | false =>
    have HR := Lib.hid (In.read_op HFd.out)
    have x0 := R2.out.c0
    have x1 := R2.out.c1
    have f0 := R2.out.f 0
    have f1 := R2.out.f 1
    go_wp2
    exact bodyPost_ret (v := .tuple #[.agg #[.int .i64 0, .int .i64 0], .int .i64 8]) (by simp [results, Tryd.results14, go_sem, x0, x1]) rfl ⟨retRead HR.out, (B2.out.setCell (by simp) _).setCell (by simp) _⟩
  | true =>
    go_wp2_with fail
    refine (numbered_any op _).mono ?_
    rintro _ w3 ⟨rfl, b3⟩
    have R3 := Lib.hid (R2.out.on b3)
    have B3 := Lib.hid (below_self B2.out b3)
    have HG3 := Lib.hid (HG2.out.below b3)
    clear b3 HG2 R2 B2
    by_cases hmn : m = In.numbered op
    · obtain ⟨nb, hnb⟩ : ∃ nb, In.numbered op = nb := ⟨_, rfl⟩
      rw [hnb] at hmn ⊢
      have HNb := Lib.hid hnb
      clear hnb
      subst hmn
      have HB3 := Lib.hid ((Below.refl w3.heap.size w3).alloc (Nat.le_refl _) (.cells #[.int .i64 op, .int .i64 0] 24))
      have I3 := Lib.hid (Ins.new w3 op 0)
      have Q3 := Lib.hid (R3.out.alloc (.cells #[.int .i64 op, .int .i64 0] 24))
      cases m with
      | false =>
        have HR := Lib.hid (In.read_bare HFd.out HM.out HNb.out)
        have HRt := inright_any op 0
        rw [In.bare_right (In.find_in (by rw [HFd.out])  |> fun h => by rw [HFd.out] at h; exact h) HNb.out] at HRt
        go_wp2_with fail
        refine (HRt _).mono ?_
        rintro _ w4 ⟨rfl, b4⟩
        have R4 := Q3.out.on b4
        have I4 := I3.out.on b4
        have x0 := R4.c0
        have x1 := R4.c1
        have f0 := R4.f 0
        have f1 := R4.f 1
        have y0 := I4.c0
        have y1 := I4.c1
        have B4 := Lib.hid (below_self (below_self B3.out HB3.out) b4)
        clear b4 R4 I4
        go_wp2
        exact bodyPost_ret (v := .tuple #[.agg #[.int .i64 op, .int .i64 0], .int .i64 0]) (by simp [results, Tryd.results14, go_sem, x0, x1]) rfl ⟨retRead HR.out, (B4.out.setCell (by simp) _).setCell (by simp) _⟩
      | true =>
        obtain ⟨n, er, hx⟩ : ∃ n er, In.num tl = (n, er) := ⟨_, _, rfl⟩
        have HNum := innumber_any tl (by rw [← HTl.out]; exact HT.out)
        unfold NumP at HNum
        rw [hx] at HNum
        dsimp only at HNum
        rw [← HTl.out] at hx
        have HX := Lib.hid hx
        clear hx
        go_wp2_with fail
        refine (HNum _ (HG3.out.below HB3.out)).mono ?_
        rintro _ w4 ⟨rfl, b4⟩
        have R4 := Q3.out.on b4
        have I4 := I3.out.on b4
        have B4 := Lib.hid (below_self (below_self B3.out HB3.out) b4)
        clear b4 HNum
        by_cases he : er = 0
        · subst he
          have HI5 := Lib.hid (I4.set1 n)
          have HR5 : Hid (Ins (w4.setCell ⟨w3.heap.size, 1, none⟩ (.int .i64 n)) w.heap.size 0 0) := Lib.hid (R4.below (((Below.refl w3.heap.size w4).setCell (p := ⟨w3.heap.size, 1, none⟩) (Nat.le_refl _) (.int .i64 n))) R3.out.lt)
          have B5 := Lib.hid (B4.out.setCell (p := ⟨w3.heap.size, 1, none⟩) B3.out.size (.int .i64 n))
          have y1 := I4.c1
          have g1 := I4.f 1
          have HRt := inright_any op n
          obtain ⟨r, hr⟩ : ∃ r, In.right op n = r := ⟨_, rfl⟩
          rw [hr] at HRt
          have HRr := Lib.hid hr
          clear hr R4
          have J5 := HI5.out.c0
          have J6 := HI5.out.c1
          go_wp2_with fail
          refine (HRt _).mono ?_
          rintro _ w5 ⟨rfl, b5⟩
          have R5 := HR5.out.on b5
          have I5 := HI5.out.on b5
          have x0 := R5.c0
          have x1 := R5.c1
          have f0 := R5.f 0
          have f1 := R5.f 1
          have z0 := I5.c0
          have z1 := I5.c1
          have B6 := Lib.hid (below_self B5.out b5)
          clear b5 R5 I5 y1 g1 J5 J6 I4
          cases r with
          | false =>
            have HR := Lib.hid (In.read_arg HFd.out HM.out HNb.out HX.out HRr.out)
            go_wp2
            exact bodyPost_ret (v := .tuple #[.agg #[.int .i64 0, .int .i64 0], .int .i64 2]) (by simp [results, Tryd.results14, go_sem, x0, x1]) rfl ⟨retRead HR.out, (B6.out.setCell (by simp) _).setCell (by simp) _⟩
          | true =>
            have HR := Lib.hid (In.read_both HFd.out HM.out HNb.out HX.out HRr.out)
            go_wp2
            exact bodyPost_ret (v := .tuple #[.agg #[.int .i64 op, .int .i64 n], .int .i64 0]) (by simp [results, Tryd.results14, go_sem, x0, x1]) rfl ⟨retRead HR.out, (B6.out.setCell (by simp) _).setCell (by simp) _⟩
        · have HR := Lib.hid (In.read_num HFd.out HM.out HNb.out HX.out he)
          have hb : ((er : Int) != 0) = true := by rw [bne_iff_ne]; omega
          have x0 := R4.c0
          have x1 := R4.c1
          have f0 := R4.f 0
          have f1 := R4.f 1
          clear R4 I4 he
          go_wp2
          exact bodyPost_ret (v := .tuple #[.agg #[.int .i64 0, .int .i64 0], .int .i64 (er : Int)]) (by simp [results, Tryd.results14, go_sem, x0, x1]) rfl ⟨retRead HR.out, (B4.out.setCell (by simp) _).setCell (by simp) _⟩
    · have HR := Lib.hid (In.read_form HFd.out (by rw [HM.out]; exact hmn))
      have hb : In.numbered op = !m := by cases m <;> cases h : In.numbered op <;> first | rfl | exact absurd h.symm hmn
      rw [hb]
      have x0 := R3.out.c0
      have x1 := R3.out.c1
      have f0 := R3.out.f 0
      have f1 := R3.out.f 1
      clear hmn hb HM
      cases m
      all_goals
        go_wp2
        exact bodyPost_ret (v := .tuple #[.agg #[.int .i64 0, .int .i64 0], .int .i64 5]) (by simp [results, Tryd.results14, go_sem, x0, x1]) rfl ⟨retRead HR.out, (B3.out.setCell (by simp) _).setCell (by simp) _⟩
end Go.Proofs.YtipeefmmnfbcoaaDoor
