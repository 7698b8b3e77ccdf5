/-
  What the document's Take answers. Conditions: at most 2^31 - 1 numbers are asked for; where there is no error, the bytes can be read.
-/
import Derived.RegionTactic
import Derived.ChangeAlike
import Derived.Test.YtnfflddcekffeaaRuTkMath
import Derived.Test.YtnfflddcekffeaaRuRow
import Derived.Test.YtnfflddcekffeaaRuRef
namespace Go.Proofs.Ytnfflddcekffeaa
open Go.RowKit

/-- A row and a cursor are told. -/
def RTakeP (o : List Int × (List Nat × Nat)) (B : Nat) (w : World) (e : Ending) (w' : World) : Prop :=
  ∃ v A n c, e = .returned (.tuple #[v, .agg #[.slice A n c, .int .i64 (o.2.2 : Int)]]) ∧ w'.ownsRow w.heap.size 3 1 v o.1.length (vs o.1) ∧ Dat w' B A n c o.2 ∧ Below w.heap.size w w'

def sliceLen : Value → Nat
  | .slice _ n _ => n
  | _ => 0
open Classical in
noncomputable def errBit (p : Nat) (w : World) : Nat := if w.cell? ⟨p, 1, none⟩ = some (.int .i64 0) then 1 else 0
theorem errBit_ok {p : Nat} {w : World} (h : w.cell? ⟨p, 1, none⟩ = some (.int .i64 0)) : errBit p w = 1 := if_pos h
theorem errBit_err {p : Nat} {w : World} {e : Nat} (h : w.cell? ⟨p, 1, none⟩ = some (.int .i64 (e : Int))) (he : e ≠ 0) : errBit p w = 0 := if_neg (by
  rw [h]
  intro e'
  injection e' with e'
  injection e' with _ e'
  omega)

set_option maxRecDepth 100000 in
theorem two_not_own {w : World} {p base k size : Nat} {x y u : Value} {xs : List Value} (h : Two w p x y) (hO : w.ownsRow base 3 size u k xs) : u.ownBlock ≠ some p := by
  rcases hO.2 with ⟨rfl, _⟩ | ⟨g, cap, cur, rfl, _, hh, _⟩
  · simp [Value.ownBlock]
  · intro e
    obtain rfl : g = p := by simpa [Value.ownBlock] using e
    have := (show w.heap[g]? = _ from h).symm.trans hh
    simp at this

/-- What stands between two rounds. -/
structure RtK (w : World) (B : Nat) (s : List Nat × Nat) (A : Option Addr) (n c : Nat) (out : List Int) (u : Value) (wr : World) : Prop where
  own : wr.ownsRow (w.heap.size + 1 + 1) 3 1 u out.length (vs out)
  pc : Two wr w.heap.size (.slice A n c) (.int .i64 (s.2 : Int))
  pr : ∃ x y, Two wr (w.heap.size + 1) x y
  dat : Dat wr B A n c s
  row : Below w.heap.size w wr
  bw : B ≤ w.heap.size
theorem RtK.big {w : World} {B : Nat} {s : List Nat × Nat} {A : Option Addr} {n c : Nat} {out : List Int} {u : Value} {wr : World} (h : RtK w B s A n c out u wr) : w.heap.size + 1 + 1 ≤ wr.heap.size := by
  obtain ⟨x, y, hp⟩ := h.pr
  have := hp.lt
  omega
theorem RtK.kept {w : World} {B : Nat} {s : List Nat × Nat} {A : Option Addr} {n c : Nat} {out : List Int} {u : Value} {wr w' : World} (h : RtK w B s A n c out u wr) (hb : Below wr.heap.size wr w') : RtK w B s A n c out u w' := by
  have hbig := h.big
  obtain ⟨x, y, hp⟩ := h.pr
  have hbw := h.bw
  exact ⟨ownsRow_below h.own hb, h.pc.below hb (by omega), ⟨x, y, hp.below hb (by omega)⟩, h.dat.below (hb.mono (by omega)), h.row.trans (hb.mono (by omega)), h.bw⟩
/-- The cursor is another one. -/
theorem RtK.store {w : World} {B : Nat} {s s' : List Nat × Nat} {A A' : Option Addr} {n c n' c' : Nat} {out : List Int} {u : Value} {wr : World} (h : RtK w B s A n c out u wr) (hd : Dat wr B A' n' c' s') :
    RtK w B s' A' n' c' out u ((wr.setCell ⟨w.heap.size, 0, none⟩ (.slice A' n' c')).setCell ⟨w.heap.size, 1, none⟩ (.int .i64 (s'.2 : Int))) := by
  have hbw := h.bw
  have hg : wr.grownBy ((wr.setCell ⟨w.heap.size, 0, none⟩ (.slice A' n' c')).setCell ⟨w.heap.size, 1, none⟩ (.int .i64 (s'.2 : Int))) (some w.heap.size) := Lib.grownBy_setB (Lib.grownBy_setB (World.grownBy.refl _ _) _ _) _ _
  obtain ⟨x, y, hp⟩ := h.pr
  refine ⟨h.own.kept hg ?_, h.pc.set _ _, ⟨x, y, hp.kept hg (by intro e; injection e with e; omega)⟩, hd.kept hg (fun k hk => by injection hk with hk; omega), ?_, h.bw⟩
  · cases hu : u.ownBlock with
    | none => exact .inl rfl
    | some k =>
      refine .inr (fun e' => ?_)
      injection e' with e'
      have := (h.own.lt k hu).1
      omega
  · exact (h.row.setCell (p := ⟨w.heap.size, 0, none⟩) (Nat.le_refl _) _).setCell (p := ⟨w.heap.size, 1, none⟩) (Nat.le_refl _) _

def RtRel (w : World) (B N : Nat) (low high : Int) (s0 : List Nat × Nat) (u : Value) (wr : World) : Prop :=
  ∃ (out : List Int) (s : List Nat × Nat) (A : Option Addr) (n c : Nat), RtK w B s A n c out u wr ∧ out.length ≤ N ∧ Clean s ∧
    ((s.2 = 0 ∧ ∃ f, takeL N low high f s out = takeL N low high (N + 1) s0 [] ∧ N - out.length < f) ∨ (s.2 ≠ 0 ∧ takeL N low high (N + 1) s0 [] = ([], s)))
def RtIn (w : World) (B : Nat) (s : List Nat × Nat) (A : Option Addr) (n c : Nat) (out : List Int) (b : Nat) (v : Int) (p : Nat) (u k : Value) (wr : World) : Prop :=
  ∃ j : Nat, j ≤ b ∧ k = .int .u64 (j : Int) ∧ RtK w B s A n c (out ++ List.replicate j v) u wr ∧ Two wr p (.slice A n c) (.int .i64 (s.2 : Int))

set_option maxRecDepth 100000 in
theorem RtK.step {w : World} {B : Nat} {s : List Nat × Nat} {A : Option Addr} {n c : Nat} {out : List Int} {u : Value} {wr w2 : World} (h : RtK w B s A n c out u wr) {x : Int} {o : Obj} {g cap : Nat}
    (hown : w2.ownsRow (w.heap.size + 1 + 1) 3 1 (.slice (some ⟨g, 0, none⟩) (out.length + 1) cap) (out.length + 1) (vs out ++ vs [x])) (hg : (wr.alloc o).grownBy w2 u.ownBlock) :
    RtK w B s A n c (out ++ [x]) (.slice (some ⟨g, 0, none⟩) (out.length + 1) cap) w2 := by
  have hk := h.kept ((Below.refl _ wr).alloc (Nat.le_refl _) o)
  have hbw := h.bw
  obtain ⟨y, z, hp⟩ := hk.pr
  have hlt : ∀ k, u.ownBlock = some k → w.heap.size + 1 + 1 ≤ k := fun k hk' => (h.own.lt k hk').1
  refine ⟨by rw [List.length_append, vs_append]; exact hown, hk.pc.kept hg (fun e => by have := hlt _ e; omega), ⟨y, z, hp.kept hg (fun e => by have := hlt _ e; omega)⟩, hk.dat.kept hg (fun k hk' => by have := hlt k hk'; omega), ?_, h.bw⟩
  exact hk.row.grown hg hk.row.size (fun k hk' => by have := hlt k hk'; omega)

set_option maxRecDepth 100000 in
/-- At a return: the row v, and a cursor laid into the result's box. -/
theorem RtK.ret {w : World} {B : Nat} {s s' : List Nat × Nat} {A A' : Option Addr} {n c n' c' : Nat} {out o : List Int} {u v : Value} {wr : World} {E : Int} (h : RtK w B s A n c out u wr) (hd : Dat wr B A' n' c' s') (hv : wr.ownsRow (w.heap.size + 1 + 1) 3 1 v o.length (vs o)) :
    ((wr.setCell ⟨w.heap.size + 1, 0, none⟩ (.slice A' n' c')).setCell ⟨w.heap.size + 1, 1, none⟩ (.int .i64 E)).ownsRow w.heap.size 3 1 v o.length (vs o) ∧
    Dat ((wr.setCell ⟨w.heap.size + 1, 0, none⟩ (.slice A' n' c')).setCell ⟨w.heap.size + 1, 1, none⟩ (.int .i64 E)) B A' n' c' s' ∧
    Below w.heap.size w ((wr.setCell ⟨w.heap.size + 1, 0, none⟩ (.slice A' n' c')).setCell ⟨w.heap.size + 1, 1, none⟩ (.int .i64 E)) ∧
    ((wr.setCell ⟨w.heap.size + 1, 0, none⟩ (.slice A' n' c')).setCell ⟨w.heap.size + 1, 1, none⟩ (.int .i64 E)).cell? ⟨w.heap.size + 1, 0, none⟩ = some (.slice A' n' c') ∧
    ((wr.setCell ⟨w.heap.size + 1, 0, none⟩ (.slice A' n' c')).setCell ⟨w.heap.size + 1, 1, none⟩ (.int .i64 E)).cell? ⟨w.heap.size + 1, 1, none⟩ = some (.int .i64 E) := by
  have hbw := h.bw
  have hg : wr.grownBy ((wr.setCell ⟨w.heap.size + 1, 0, none⟩ (.slice A' n' c')).setCell ⟨w.heap.size + 1, 1, none⟩ (.int .i64 E)) (some (w.heap.size + 1)) := Lib.grownBy_setB (Lib.grownBy_setB (World.grownBy.refl _ _) _ _) _ _
  obtain ⟨x, y, hp⟩ := h.pr
  refine ⟨ownsRow_base (hv.kept hg ?_) (by omega), hd.kept hg (fun k hk => by injection hk with hk; omega), ?_, (hp.set _ _).c0, (hp.set _ _).c1⟩
  · cases hu : v.ownBlock with
    | none => exact .inl rfl
    | some k =>
      refine .inr (fun e' => ?_)
      injection e' with e'
      have := (hv.lt k hu).1
      omega
  · exact (h.row.setCell (p := ⟨w.heap.size + 1, 0, none⟩) (by simp) _).setCell (p := ⟨w.heap.size + 1, 1, none⟩) (by simp) _
set_option maxRecDepth 100000 in
theorem ownsRow_none (w : World) (b : Nat) : w.ownsRow b 3 1 (.slice none 0 0) ([] : List Int).length (vs []) := World.ownsRow_nil _ _ _ _
theorem getLast_getD {l : List Int} (h : 0 < l.length) : l.getLast? = some (l.getD (l.length - 1) 0) := by
  rw [List.getLast?_eq_getElem?]
  have : l.length - 1 < l.length := by omega
  simp [List.getD, this]

set_option maxRecDepth 100000 in
set_option maxHeartbeats 16000000 in
theorem rtake_any (A : Option Addr) (n c B : Nat) (s0 : List Nat × Nat) (nn low high : Int) (w : World) (h : Dat w B A n c s0) (hs : Clean s0) (hB : B ≤ w.heap.size) (hn : nn ≤ 2147483647) :
    Calls Try.prog 27 #[.agg #[.slice A n c, .int .i64 (s0.2 : Int)], .int .i64 nn, .int .i64 low, .int .i64 high] w (RTakeP (takeA s0 nn low high) B w) := by
  obtain ⟨j0, hj0, hy0, hy1, hy2⟩ := info_parts info_int
  obtain ⟨N, hN⟩ : ∃ N, N = nn.toNat := ⟨_, rfl⟩
  have HT : Hid (takeA s0 nn low high = takeL N low high (N + 1) s0 []) := Lib.hid (by unfold takeA; rw [hN])
  rw [HT.out]
  have HNN := Lib.hid hN
  have H := Lib.hid h
  have HS := Lib.hid hs
  clear h hs hN
  go_enter Try.func27, Try.ntmps27
  go_wp2
  go_loopw [10] (RtRel w B N low high s0) (fun u wr => (N - sliceLen u) + errBit w.heap.size wr)
  case atStart =>
    refine ⟨[], s0, A, n, c, ⟨World.ownsRow_nil _ _ _ _, (Two.new w _ _).alloc _, ⟨.slice none 0 0, .int .i64 0, ?_⟩, H.out.below (((Below.refl _ w).alloc hB _).alloc (by simp; omega) _), ((Below.refl _ w).alloc (Nat.le_refl _) _).alloc (by simp) _, hB⟩, by simp, HS.out, ?_⟩
    · have := Two.new (w.alloc (.cells #[.slice A n c, .int .i64 (s0.2 : Int)] 41)) (.slice none 0 0) (.int .i64 0)
      simpa only [World.size_alloc] using this
    · by_cases h0 : s0.2 = 0
      · exact .inl ⟨h0, N + 1, rfl, by simp⟩
      · refine .inr ⟨h0, ?_⟩
        by_cases hN0 : N = 0
        · exact takeL_end (by simp [hN0])
        · have hr := run_bits (s := s0) (last := ([] : List Int).getLast?) (left := ((N - ([] : List Int).length : Nat) : Int)) (low := low) (high := high) HS.out (by rw [bits_err HS.out h0]; exact h0)
          rw [bits_err HS.out h0] at hr
          rw [takeL_err (by simp; omega) (by simp) (by rw [hr]; exact h0), hr]
  case round =>
    obtain ⟨out, s, A, n, c, hK, hoN, hcl, hcase⟩ := hrel
    obtain ⟨wr0, rfl⟩ : ∃ w9 : World, w9 = wr := ⟨_, rfl⟩
    obtain ⟨A0, c0, rfl, hia⟩ := nums_slice hK.own
    have HIA := Lib.hid hia
    have hbig := hK.big
    have z0 := hK.pc.c0
    have z1 := hK.pc.c1
    have HK := Lib.hid hK
    have HCL := Lib.hid hcl
    have HON := Lib.hid hoN
    clear hK hia hcl hoN
    rcases hcase with ⟨h0, f, hT, hf⟩ | ⟨h0, hE⟩
    · by_cases hlt : (out.length : Int) < nn
      · -- a run is taken
        have hoN := HON.out
        have hNN := HNN.out
        have hzz : ((N - out.length : Nat) : Int) = nn - (out.length : Int) := by omega
        have HTT := Lib.hid hT
        have HBITS := Lib.hid (rBits_any A n c B s wr0 HK.out.dat HCL.out (by have := HK.out.bw; omega))
        rw [h0] at HBITS z1
        have HER := Lib.hid (takeL_err (n := N) (f := f) (low := low) (high := high) (s := s) (out := out) (by omega) hf)
        have HGO := Lib.hid (takeL_go (n := N) (f := f) (low := low) (high := high) (s := s) (out := out) (by omega) hf)
        rw [hT] at HER HGO
        have HCB := Lib.hid (bits_clean HCL.out)
        have HCI := Lib.hid (int_clean (bits_clean HCL.out))
        have HINT := Lib.hid (fun A1 n1 c1 W (hd : Dat W B A1 n1 c1 (bitsA s).2) (hW : B ≤ W.heap.size) => rInt_any A1 n1 c1 B (bitsA s).2 W hd (bits_clean HCL.out) hW)
        have HZ := Lib.hid (bitsA_zero HK.out.dat HCL.out)
        have HOK := Lib.hid (bitsA_ok HK.out.dat HCL.out)
        have HIE := Lib.hid (int_err (bits_clean HCL.out))
        rw [hzz] at HER HGO
        have R1 := Lib.hid (run_bits (s := s) (last := out.getLast?) (left := nn - (out.length : Int)) (low := low) (high := high) HCL.out)
        have R2 := Lib.hid (run_form (s := s) (last := out.getLast?) (left := nn - (out.length : Int)) (low := low) (high := high) HCL.out)
        have R3 := Lib.hid (run_int (s := s) (last := out.getLast?) (left := nn - (out.length : Int)) (low := low) (high := high))
        have R4 := Lib.hid (run_same (s := s) (last := out.getLast?) (left := nn - (out.length : Int)) (low := low) (high := high))
        have R5 := Lib.hid (run_range (s := s) (last := out.getLast?) (left := nn - (out.length : Int)) (low := low) (high := high))
        have R6 := Lib.hid (run_fine (s := s) (last := out.getLast?) (left := nn - (out.length : Int)) (low := low) (high := high))
        have HLE := Lib.hid hf
        have HZZ := Lib.hid hzz
        have hwl : IntKind.u64.wrap (nn - (out.length : Int)) = nn - (out.length : Int) := by rw [IntKind.wrap_u64]; omega
        clear hT hf h0 hzz hNN
        generalize runS s out.getLast? (nn - (out.length : Int)) low high = s1 at *
        generalize hbb : (bitsA s).1 = b at *
        generalize hsb : (bitsA s).2 = sb at *
        generalize hvv : (intA sb).1 = v at *
        generalize hsg : (intA sb).2 = sg at *
        have HPR : Hid (intA sb = (v, sg)) := Lib.hid (by rw [← hvv, ← hsg])
        rw [HPR.out] at HIE
        clear hbb hsb hvv hsg
        go_wp2_with fail
        refine HBITS.out.mono ?_
        rintro e w1 ⟨A1, n1, c1, rfl, hd1, hb1⟩
        have HK1 := Lib.hid ((HK.out.kept hb1).kept ((Below.refl _ w1).alloc (Nat.le_refl _) (.cells #[.slice A1 n1 c1, .int .i64 (sb.2 : Int)] 41)))
        have HT1 := Lib.hid (Two.new w1 (.slice A1 n1 c1) (.int .i64 (sb.2 : Int)))
        have hs1 := hb1.size
        have HD1 := Lib.hid (hd1.below (((Below.refl _ w1).alloc (by have := HK.out.bw; omega) (.cells #[.slice A1 n1 c1, .int .i64 (sb.2 : Int)] 41))))
        have HIA1 := Lib.hid (((HIA.out.below hb1).more hb1.size))
        have k0 := HT1.out.c0
        have k1 := HT1.out.c1
        have hBw := HK.out.bw
        clear hb1 hd1 HBITS
        by_cases he1 : sb.2 = 0
        · rw [he1] at k1 HT1 HD1 HK1 HINT ⊢
          by_cases hb1 : b < 1
          · have hbi : (b : Int) = 0 := by omega
            rw [hbi]
            clear hbi
            have HFL := Lib.hid (fun W => rFail_any A1 n1 c1 0 5 W)
            rw [if_pos rfl] at HFL
            have HEE : Hid (takeL N low high (N + 1) s0 [] = ([], ([], 5))) := Lib.hid (by rw [HER.out (by rw [R2.out he1 (.inl hb1)]; simp), R2.out he1 (.inl hb1)])
            clear HGO HER R1 R2 R3 R4 R5 R6
            go_wp2_with fail
            refine (HFL.out _).mono ?_
            rintro e wf ⟨rfl, hbf⟩
            have HKF := Lib.hid (HK1.out.kept hbf)
            obtain ⟨x9, y9, hp9⟩ := HKF.out.pr
            have i0 := hp9.c0
            have i1 := hp9.c1
            have g0 := hp9.f 0
            have g1 := hp9.f 1
            clear hbf hp9
            go_wp2
            obtain ⟨r1, r2, r3, q0, q1⟩ := HKF.out.ret (s' := ([], 5)) (A' := A1) (n' := n1) (c' := c1) (o := []) (E := 5) (fun h => by cases h) (ownsRow_none _ _)
            rw [HEE.out]
            exact bodyPost_ret (v := .tuple #[.slice none 0 0, .agg #[.slice A1 n1 c1, .int .i64 5]]) (by simp [results, Try.results27, go_sem, q0, q1]) rfl ⟨_, A1, n1, c1, rfl, r1, r2, r3⟩
          have hbe : ((b : Int) == 0) = false := by rw [beq_eq_false_iff_ne]; omega
          by_cases hb2 : nn - (out.length : Int) < (b : Int)
          · have HFL := Lib.hid (fun W => rFail_any A1 n1 c1 0 5 W)
            rw [if_pos rfl] at HFL
            have HEE : Hid (takeL N low high (N + 1) s0 [] = ([], ([], 5))) := Lib.hid (by rw [HER.out (by rw [R2.out he1 (.inr hb2)]; simp), R2.out he1 (.inr hb2)])
            clear HGO HER R1 R2 R3 R4 R5 R6
            go_wp2_with fail
            refine (HFL.out _).mono ?_
            rintro e wf ⟨rfl, hbf⟩
            have HKF := Lib.hid (HK1.out.kept hbf)
            obtain ⟨x9, y9, hp9⟩ := HKF.out.pr
            have i0 := hp9.c0
            have i1 := hp9.c1
            have g0 := hp9.f 0
            have g1 := hp9.f 1
            clear hbf hp9
            go_wp2
            obtain ⟨r1, r2, r3, q0, q1⟩ := HKF.out.ret (s' := ([], 5)) (A' := A1) (n' := n1) (c' := c1) (o := []) (E := 5) (fun h => by cases h) (ownsRow_none _ _)
            rw [HEE.out]
            exact bodyPost_ret (v := .tuple #[.slice none 0 0, .agg #[.slice A1 n1 c1, .int .i64 5]]) (by simp [results, Try.results27, go_sem, q0, q1]) rfl ⟨_, A1, n1, c1, rfl, r1, r2, r3⟩
          have hnc : ¬ (b < 1 ∨ nn - (out.length : Int) < (b : Int)) := by omega
          have HNC := Lib.hid hnc
          have hb64 := (HOK.out he1).2
          clear hnc
          go_wp2_with fail
          refine (HINT.out A1 n1 c1 _ HD1.out (by simp; omega)).mono ?_
          rintro e w2 ⟨A2, n2, c2, rfl, hd2, hb2w⟩
          by_cases he2 : sg.2 = 0
          · rw [he2]
            have HK2 := Lib.hid ((HK1.out.kept hb2w).kept ((Below.refl _ w2).alloc (Nat.le_refl _) (.cells #[.slice A2 n2 c2, .int .i64 ((0 : Nat) : Int)] 41)))
            have HT2 := Lib.hid (Two.new w2 (.slice A2 n2 c2) (.int .i64 ((0 : Nat) : Int)))
            have hs2 := hb2w.size
            simp only [World.size_alloc] at hs2
            have HD2 := Lib.hid (hd2.below (((Below.refl _ w2).alloc (by omega) (.cells #[.slice A2 n2 c2, .int .i64 ((0 : Nat) : Int)] 41))))
            have HIA2 := Lib.hid ((((HIA1.out.below ((Below.refl _ w1).alloc (Nat.le_refl _) (.cells #[.slice A1 n1 c1, .int .i64 ((0 : Nat) : Int)] 41))).more (by simp)).below hb2w).more hb2w.size)
            have m0 := HT2.out.c0
            have m1 := HT2.out.c1
            clear hd2 hb2w HIA1
            by_cases ho : out.length = 0
            · have hol : ¬ (0 : Int) < (out.length : Int) := by omega
              have HLAST : Hid (¬ out.getLast? = some v) := Lib.hid (by rw [List.eq_nil_of_length_eq_zero ho]; simp)
              have HO0 := Lib.hid ho
              clear ho
              by_cases hlo : v < low
              · have HFL := Lib.hid (fun W => rFail_any A2 n2 c2 0 2 W)
                rw [if_pos rfl] at HFL
                have HEE : Hid (takeL N low high (N + 1) s0 [] = ([], ([], 2))) := Lib.hid (by rw [HER.out (by rw [R5.out HNC.out he2 HLAST.out (.inl hlo)]; simp), R5.out HNC.out he2 HLAST.out (.inl hlo)])
                clear HGO HER R1 R2 R3 R4 R5 R6
                go_wp2_with fail
                refine (HFL.out _).mono ?_
                rintro e wf ⟨rfl, hbf⟩
                have HKF := Lib.hid (HK2.out.kept hbf)
                obtain ⟨x9, y9, hp9⟩ := HKF.out.pr
                have i0 := hp9.c0
                have i1 := hp9.c1
                have g0 := hp9.f 0
                have g1 := hp9.f 1
                clear hbf hp9
                go_wp2
                obtain ⟨r1, r2, r3, q0, q1⟩ := HKF.out.ret (s' := ([], 2)) (A' := A2) (n' := n2) (c' := c2) (o := []) (E := 2) (fun h => by cases h) (ownsRow_none _ _)
                rw [HEE.out]
                exact bodyPost_ret (v := .tuple #[.slice none 0 0, .agg #[.slice A2 n2 c2, .int .i64 2]]) (by simp [results, Try.results27, go_sem, q0, q1]) rfl ⟨_, A2, n2, c2, rfl, r1, r2, r3⟩
              by_cases hhi : high < v
              · have HFL := Lib.hid (fun W => rFail_any A2 n2 c2 0 2 W)
                rw [if_pos rfl] at HFL
                have HEE : Hid (takeL N low high (N + 1) s0 [] = ([], ([], 2))) := Lib.hid (by rw [HER.out (by rw [R5.out HNC.out he2 HLAST.out (.inr hhi)]; simp), R5.out HNC.out he2 HLAST.out (.inr hhi)])
                clear HGO HER R1 R2 R3 R4 R5 R6
                go_wp2_with fail
                refine (HFL.out _).mono ?_
                rintro e wf ⟨rfl, hbf⟩
                have HKF := Lib.hid (HK2.out.kept hbf)
                obtain ⟨x9, y9, hp9⟩ := HKF.out.pr
                have i0 := hp9.c0
                have i1 := hp9.c1
                have g0 := hp9.f 0
                have g1 := hp9.f 1
                clear hbf hp9
                go_wp2
                obtain ⟨r1, r2, r3, q0, q1⟩ := HKF.out.ret (s' := ([], 2)) (A' := A2) (n' := n2) (c' := c2) (o := []) (E := 2) (fun h => by cases h) (ownsRow_none _ _)
                rw [HEE.out]
                exact bodyPost_ret (v := .tuple #[.slice none 0 0, .agg #[.slice A2 n2 c2, .int .i64 2]]) (by simp [results, Try.results27, go_sem, q0, q1]) rfl ⟨_, A2, n2, c2, rfl, r1, r2, r3⟩
              have HS1 := Lib.hid (R6.out HNC.out HLAST.out (by omega))
              obtain ⟨f', hf', hgo⟩ := HGO.out (by rw [HS1.out]; exact he2)
              rw [HS1.out] at hgo
              have HGO2 := Lib.hid hgo
              have HF' := Lib.hid hf'
              have HK3 := Lib.hid (HK2.out.store (s' := sg) HD2.out)
              rw [he2] at HK3
              have HT3 := Lib.hid (HT2.out.kept (Lib.grownBy_setB (Lib.grownBy_setB (World.grownBy.refl _ (some w.heap.size)) 0 (.slice A2 n2 c2)) 1 (.int .i64 ((0 : Nat) : Int))) (by intro e; injection e with e; omega))
              have m4 : (w2.alloc (.cells #[.slice A2 n2 c2, .int .i64 0] 41)).cell? ⟨w.heap.size, 0, none⟩ = some (.slice A n c) := HK2.out.pc.c0
              have m5 : (w2.alloc (.cells #[.slice A2 n2 c2, .int .i64 0] 41)).cell? ⟨w.heap.size, 1, none⟩ = some (.int .i64 (s.2 : Int)) := HK2.out.pc.c1
              have m6 : (w2.alloc (.cells #[.slice A2 n2 c2, .int .i64 0] 41)).frozen? ⟨w.heap.size, 0, none⟩ = false := HK2.out.pc.f 0
              have m7 : (w2.alloc (.cells #[.slice A2 n2 c2, .int .i64 0] 41)).frozen? ⟨w.heap.size, 1, none⟩ = false := HK2.out.pc.f 1
              have HE2 := Lib.hid he2
              clear hgo hf' HGO HER R1 R2 R3 R4 R5 R6
              go_wp2
              go_loopw [10, 15] (RtIn w B sg A2 n2 c2 out b v w2.heap.size) (fun _ k _ => b - (intOf k).toNat)
              case atStart => exact ⟨0, Nat.zero_le _, rfl, by simpa using HK3.out, by rw [HE2.out]; exact HT3.out⟩
              case round =>
                obtain ⟨j, hjb, rfl, hK4, h14⟩ := hrel
                obtain ⟨A4, c4, rfl, _⟩ := nums_slice hK4.own
                have y1 := h14.c1
                rw [HE2.out] at y1
                have HJB := Lib.hid hjb
                have HK4 := Lib.hid hK4
                have H14 := Lib.hid h14
                have hb4 := hK4.big
                have HQ : Hid ((out ++ List.replicate j v).length = out.length + j) := Lib.hid (by simp)
                have HN : Hid (out ++ List.replicate (j + 1) v = (out ++ List.replicate j v) ++ [v]) := Lib.hid (by rw [List.replicate_succ', List.append_assoc])
                clear hK4 h14 hjb
                by_cases hj : (j : Int) < (b : Int)
                · generalize out ++ List.replicate j v = q at *
                  have hjw : IntKind.u64.wrap ((j : Int) + 1) = (j : Int) + 1 := by rw [IntKind.wrap_u64]; omega
                  go_wp2_with (at_builtin; refine wpList_append_lies _ rfl (.tmp 99) (.tmp 101) 22 rfl (w.heap.size + 1 + 1) 3 j0 (.int .i64 0) 1 8 Try.underlying22 hj0 hy0 hy1 hy2 rfl (by decide) (.slice A4 q.length c4) q.length (vs q) rfl (HK4.out.own.alloc _) ⟨wr.heap.size, 0, none⟩ 1 1 (vs [v]) rfl rfl ?c1 (vs_one _) (by decide) ?c3 ?c4 ?c5 (wr.heap.size + 1) ?c6 ?_)
                  case c1 => exact new_one wr _ _
                  case c3 => have := HQ.out; unfold maxLen; omega
                  case c4 => have := HQ.out; omega
                  case c5 => simp; omega
                  case c6 => simp
                  intro g5 cap5 w5 hown5 hgrow5 hat5 _
                  have HK5 := Lib.hid (HK4.out.step (x := v) hown5 hgrow5)
                  have H145 := Lib.hid ((H14.out.alloc (.cells #[.int .i64 v] 3)).kept hgrow5 (two_not_own H14.out HK4.out.own))
                  clear hown5 hgrow5 hat5
                  go_wp2
                  go_roundw
                  case rel => exact ⟨j + 1, by omega, by go_num, by rw [HN.out]; exact HK5.out, H145.out⟩
                  case measure => simp [intOf]; omega
                · obtain rfl : j = b := by have := HJB.out; omega
                  go_wp2
                  go_roundw
                  case rel => exact ⟨out ++ List.replicate j v, sg, A2, n2, c2, HK4.out, by have := HQ.out; have := HNN.out; omega, HCI.out, .inl ⟨HE2.out, f', HGO2.out.symm, by have := HQ.out; have := HF'.out; have := HLE.out; have := HNN.out; omega⟩⟩
                  case measure =>
                    rw [errBit_ok (show wr0.cell? ⟨w.heap.size, 1, none⟩ = some (.int .i64 0) from z1), errBit_ok (by have := HK4.out.pc.c1; rw [HE2.out] at this; exact this)]
                    have := HQ.out
                    have := HNN.out
                    simp only [sliceLen]
                    simp
                    omega
            · have hol : (0 : Int) < (out.length : Int) := by omega
              obtain ⟨ob, oo, rfl, hob, hcx⟩ := HIA2.out.2 (by omega)
              have hx := hcx (out.length - 1) (by omega)
              have HGL := Lib.hid (getLast_getD (l := out) (by omega))
              clear hcx ho
              generalize out.getD (out.length - 1) 0 = x at *
              by_cases hxv : x = v
              · subst hxv
                have HFL := Lib.hid (fun W => rFail_any A2 n2 c2 0 5 W)
                rw [if_pos rfl] at HFL
                have HEE : Hid (takeL N low high (N + 1) s0 [] = ([], ([], 5))) := Lib.hid (by rw [HER.out (by rw [R4.out HNC.out he2 HGL.out]; simp), R4.out HNC.out he2 HGL.out])
                clear HGO HER R1 R2 R3 R4 R5 R6
                go_wp2_with fail
                refine (HFL.out _).mono ?_
                rintro e wf ⟨rfl, hbf⟩
                have HKF := Lib.hid (HK2.out.kept hbf)
                obtain ⟨x9, y9, hp9⟩ := HKF.out.pr
                have i0 := hp9.c0
                have i1 := hp9.c1
                have g0 := hp9.f 0
                have g1 := hp9.f 1
                clear hbf hp9
                go_wp2
                obtain ⟨r1, r2, r3, q0, q1⟩ := HKF.out.ret (s' := ([], 5)) (A' := A2) (n' := n2) (c' := c2) (o := []) (E := 5) (fun h => by cases h) (ownsRow_none _ _)
                rw [HEE.out]
                exact bodyPost_ret (v := .tuple #[.slice none 0 0, .agg #[.slice A2 n2 c2, .int .i64 5]]) (by simp [results, Try.results27, go_sem, q0, q1]) rfl ⟨_, A2, n2, c2, rfl, r1, r2, r3⟩
              have hdx : (x == v) = false := by rw [beq_eq_false_iff_ne]; exact hxv
              have HLAST : Hid (¬ out.getLast? = some v) := Lib.hid (by rw [HGL.out]; intro e; injection e with e; exact hxv e)
              clear hxv
              by_cases hlo : v < low
              · have HFL := Lib.hid (fun W => rFail_any A2 n2 c2 0 2 W)
                rw [if_pos rfl] at HFL
                have HEE : Hid (takeL N low high (N + 1) s0 [] = ([], ([], 2))) := Lib.hid (by rw [HER.out (by rw [R5.out HNC.out he2 HLAST.out (.inl hlo)]; simp), R5.out HNC.out he2 HLAST.out (.inl hlo)])
                clear HGO HER R1 R2 R3 R4 R5 R6
                go_wp2_with fail
                refine (HFL.out _).mono ?_
                rintro e wf ⟨rfl, hbf⟩
                have HKF := Lib.hid (HK2.out.kept hbf)
                obtain ⟨x9, y9, hp9⟩ := HKF.out.pr
                have i0 := hp9.c0
                have i1 := hp9.c1
                have g0 := hp9.f 0
                have g1 := hp9.f 1
                clear hbf hp9
                go_wp2
                obtain ⟨r1, r2, r3, q0, q1⟩ := HKF.out.ret (s' := ([], 2)) (A' := A2) (n' := n2) (c' := c2) (o := []) (E := 2) (fun h => by cases h) (ownsRow_none _ _)
                rw [HEE.out]
                exact bodyPost_ret (v := .tuple #[.slice none 0 0, .agg #[.slice A2 n2 c2, .int .i64 2]]) (by simp [results, Try.results27, go_sem, q0, q1]) rfl ⟨_, A2, n2, c2, rfl, r1, r2, r3⟩
              by_cases hhi : high < v
              · have HFL := Lib.hid (fun W => rFail_any A2 n2 c2 0 2 W)
                rw [if_pos rfl] at HFL
                have HEE : Hid (takeL N low high (N + 1) s0 [] = ([], ([], 2))) := Lib.hid (by rw [HER.out (by rw [R5.out HNC.out he2 HLAST.out (.inr hhi)]; simp), R5.out HNC.out he2 HLAST.out (.inr hhi)])
                clear HGO HER R1 R2 R3 R4 R5 R6
                go_wp2_with fail
                refine (HFL.out _).mono ?_
                rintro e wf ⟨rfl, hbf⟩
                have HKF := Lib.hid (HK2.out.kept hbf)
                obtain ⟨x9, y9, hp9⟩ := HKF.out.pr
                have i0 := hp9.c0
                have i1 := hp9.c1
                have g0 := hp9.f 0
                have g1 := hp9.f 1
                clear hbf hp9
                go_wp2
                obtain ⟨r1, r2, r3, q0, q1⟩ := HKF.out.ret (s' := ([], 2)) (A' := A2) (n' := n2) (c' := c2) (o := []) (E := 2) (fun h => by cases h) (ownsRow_none _ _)
                rw [HEE.out]
                exact bodyPost_ret (v := .tuple #[.slice none 0 0, .agg #[.slice A2 n2 c2, .int .i64 2]]) (by simp [results, Try.results27, go_sem, q0, q1]) rfl ⟨_, A2, n2, c2, rfl, r1, r2, r3⟩
              have HS1 := Lib.hid (R6.out HNC.out HLAST.out (by omega))
              obtain ⟨f', hf', hgo⟩ := HGO.out (by rw [HS1.out]; exact he2)
              rw [HS1.out] at hgo
              have HGO2 := Lib.hid hgo
              have HF' := Lib.hid hf'
              have HK3 := Lib.hid (HK2.out.store (s' := sg) HD2.out)
              rw [he2] at HK3
              have HT3 := Lib.hid (HT2.out.kept (Lib.grownBy_setB (Lib.grownBy_setB (World.grownBy.refl _ (some w.heap.size)) 0 (.slice A2 n2 c2)) 1 (.int .i64 ((0 : Nat) : Int))) (by intro e; injection e with e; omega))
              have m4 : (w2.alloc (.cells #[.slice A2 n2 c2, .int .i64 0] 41)).cell? ⟨w.heap.size, 0, none⟩ = some (.slice A n c) := HK2.out.pc.c0
              have m5 : (w2.alloc (.cells #[.slice A2 n2 c2, .int .i64 0] 41)).cell? ⟨w.heap.size, 1, none⟩ = some (.int .i64 (s.2 : Int)) := HK2.out.pc.c1
              have m6 : (w2.alloc (.cells #[.slice A2 n2 c2, .int .i64 0] 41)).frozen? ⟨w.heap.size, 0, none⟩ = false := HK2.out.pc.f 0
              have m7 : (w2.alloc (.cells #[.slice A2 n2 c2, .int .i64 0] 41)).frozen? ⟨w.heap.size, 1, none⟩ = false := HK2.out.pc.f 1
              have HE2 := Lib.hid he2
              clear hgo hf' HGO HER R1 R2 R3 R4 R5 R6
              go_wp2
              go_loopw [10, 15] (RtIn w B sg A2 n2 c2 out b v w2.heap.size) (fun _ k _ => b - (intOf k).toNat)
              case atStart => exact ⟨0, Nat.zero_le _, rfl, by simpa using HK3.out, by rw [HE2.out]; exact HT3.out⟩
              case round =>
                obtain ⟨j, hjb, rfl, hK4, h14⟩ := hrel
                obtain ⟨A4, c4, rfl, _⟩ := nums_slice hK4.own
                have y1 := h14.c1
                rw [HE2.out] at y1
                have HJB := Lib.hid hjb
                have HK4 := Lib.hid hK4
                have H14 := Lib.hid h14
                have hb4 := hK4.big
                have HQ : Hid ((out ++ List.replicate j v).length = out.length + j) := Lib.hid (by simp)
                have HN : Hid (out ++ List.replicate (j + 1) v = (out ++ List.replicate j v) ++ [v]) := Lib.hid (by rw [List.replicate_succ', List.append_assoc])
                clear hK4 h14 hjb
                by_cases hj : (j : Int) < (b : Int)
                · generalize out ++ List.replicate j v = q at *
                  have hjw : IntKind.u64.wrap ((j : Int) + 1) = (j : Int) + 1 := by rw [IntKind.wrap_u64]; omega
                  go_wp2_with (at_builtin; refine wpList_append_lies _ rfl (.tmp 99) (.tmp 101) 22 rfl (w.heap.size + 1 + 1) 3 j0 (.int .i64 0) 1 8 Try.underlying22 hj0 hy0 hy1 hy2 rfl (by decide) (.slice A4 q.length c4) q.length (vs q) rfl (HK4.out.own.alloc _) ⟨wr.heap.size, 0, none⟩ 1 1 (vs [v]) rfl rfl ?c1 (vs_one _) (by decide) ?c3 ?c4 ?c5 (wr.heap.size + 1) ?c6 ?_)
                  case c1 => exact new_one wr _ _
                  case c3 => have := HQ.out; unfold maxLen; omega
                  case c4 => have := HQ.out; omega
                  case c5 => simp; omega
                  case c6 => simp
                  intro g5 cap5 w5 hown5 hgrow5 hat5 _
                  have HK5 := Lib.hid (HK4.out.step (x := v) hown5 hgrow5)
                  have H145 := Lib.hid ((H14.out.alloc (.cells #[.int .i64 v] 3)).kept hgrow5 (two_not_own H14.out HK4.out.own))
                  clear hown5 hgrow5 hat5
                  go_wp2
                  go_roundw
                  case rel => exact ⟨j + 1, by omega, by go_num, by rw [HN.out]; exact HK5.out, H145.out⟩
                  case measure => simp [intOf]; omega
                · obtain rfl : j = b := by have := HJB.out; omega
                  go_wp2
                  go_roundw
                  case rel => exact ⟨out ++ List.replicate j v, sg, A2, n2, c2, HK4.out, by have := HQ.out; have := HNN.out; omega, HCI.out, .inl ⟨HE2.out, f', HGO2.out.symm, by have := HQ.out; have := HF'.out; have := HLE.out; have := HNN.out; omega⟩⟩
                  case measure =>
                    rw [errBit_ok (show wr0.cell? ⟨w.heap.size, 1, none⟩ = some (.int .i64 0) from z1), errBit_ok (by have := HK4.out.pc.c1; rw [HE2.out] at this; exact this)]
                    have := HQ.out
                    have := HNN.out
                    simp only [sliceLen]
                    simp
                    omega
          · have HS1 := Lib.hid (R3.out HNC.out he2)
            have HEE : Hid (takeL N low high (N + 1) s0 [] = ([], sg)) := Lib.hid (by rw [HER.out (by rw [HS1.out]; exact he2), HS1.out])
            have hbe2 : ((sg.2 : Int) == 0) = false := by rw [beq_eq_false_iff_ne]; omega
            have HNE := Lib.hid he2
            have HCL2 := HCI
            have hb00 : (0 : Int) < (b : Int) := by omega
            clear HGO HER R1 R2 R3 R4 R5 R6
            have hb2 := hb2w
            clear hb2w
            have HK2 := Lib.hid ((HK1.out.kept hb2).kept ((Below.refl _ w2).alloc (Nat.le_refl _) (.cells #[.slice A2 n2 c2, .int .i64 (sg.2 : Int)] 41)))
            have HT2 := Lib.hid (Two.new w2 (.slice A2 n2 c2) (.int .i64 (sg.2 : Int)))
            have hs2 := hb2.size
            simp only [World.size_alloc] at hs2
            have HD2 := Lib.hid (hd2.below (((Below.refl _ w2).alloc (by omega) (.cells #[.slice A2 n2 c2, .int .i64 (sg.2 : Int)] 41))))
            have HK3 := Lib.hid (HK2.out.store HD2.out)
            have HT3 := Lib.hid (HT2.out.kept (Lib.grownBy_setB (Lib.grownBy_setB (World.grownBy.refl _ (some w.heap.size)) 0 (.slice A2 n2 c2)) 1 (.int .i64 (sg.2 : Int))) (by intro e; injection e with e; omega))
            have m0 := HT2.out.c0
            have m1 := HT2.out.c1
            have m4 := HK2.out.pc.c0
            have m5 := HK2.out.pc.c1
            have m6 := HK2.out.pc.f 0
            have m7 := HK2.out.pc.f 1
            clear hd2 hb2
            go_wp2
            go_loopw [10, 15] (fun u k wr => k = .int .u64 0 ∧ u = .slice A0 out.length c0 ∧ RtK w B sg A2 n2 c2 out u wr ∧ Two wr w2.heap.size (.slice A2 n2 c2) (.int .i64 (sg.2 : Int))) (fun _ _ _ => 0)
            case atStart => exact ⟨rfl, rfl, HK3.out, HT3.out⟩
            case round =>
              obtain ⟨rfl, rfl, hK4, h14⟩ := hrel
              have y1 := h14.c1
              have HK4 := Lib.hid hK4
              clear hK4 h14
              go_wp2
              go_roundw
              case rel => exact ⟨out, sg, A2, n2, c2, HK4.out, HON.out, HCL2.out, .inr ⟨HNE.out, HEE.out⟩⟩
              case measure => rw [errBit_err HK4.out.pc.c1 HNE.out, errBit_ok (show wr0.cell? ⟨w.heap.size, 1, none⟩ = some (.int .i64 0) from z1)]; simp [sliceLen]
        · have hbi : (b : Int) = 0 := by have := HZ.out he1; omega
          rw [hbi]
          clear hbi
          have hIE := HIE.out he1
          injection hIE with hv0 hsg0
          subst hv0 hsg0
          have hbe1 : ((sg.2 : Int) == 0) = false := by rw [beq_eq_false_iff_ne]; omega
          have HS1 := Lib.hid (R1.out he1)
          have HEE : Hid (takeL N low high (N + 1) s0 [] = ([], sg)) := Lib.hid (by rw [HER.out (by rw [HS1.out]; exact he1), HS1.out])
          clear HGO HER R1 R2 R3 R4 R5 R6
          go_wp2_with fail
          refine (HINT.out A1 n1 c1 _ HD1.out (by simp; omega)).mono ?_
          rintro e w2 ⟨A2, n2, c2, rfl, hd2, hb2⟩
          have HNE := Lib.hid he1
          have HCL2 := HCB
          have HK2 := Lib.hid ((HK1.out.kept hb2).kept ((Below.refl _ w2).alloc (Nat.le_refl _) (.cells #[.slice A2 n2 c2, .int .i64 (sg.2 : Int)] 41)))
          have HT2 := Lib.hid (Two.new w2 (.slice A2 n2 c2) (.int .i64 (sg.2 : Int)))
          have hs2 := hb2.size
          simp only [World.size_alloc] at hs2
          have HD2 := Lib.hid (hd2.below (((Below.refl _ w2).alloc (by omega) (.cells #[.slice A2 n2 c2, .int .i64 (sg.2 : Int)] 41))))
          have HK3 := Lib.hid (HK2.out.store HD2.out)
          have HT3 := Lib.hid (HT2.out.kept (Lib.grownBy_setB (Lib.grownBy_setB (World.grownBy.refl _ (some w.heap.size)) 0 (.slice A2 n2 c2)) 1 (.int .i64 (sg.2 : Int))) (by intro e; injection e with e; omega))
          have m0 := HT2.out.c0
          have m1 := HT2.out.c1
          have m4 := HK2.out.pc.c0
          have m5 := HK2.out.pc.c1
          have m6 := HK2.out.pc.f 0
          have m7 := HK2.out.pc.f 1
          clear hd2 hb2
          go_wp2
          go_loopw [10, 15] (fun u k wr => k = .int .u64 0 ∧ u = .slice A0 out.length c0 ∧ RtK w B sg A2 n2 c2 out u wr ∧ Two wr w2.heap.size (.slice A2 n2 c2) (.int .i64 (sg.2 : Int))) (fun _ _ _ => 0)
          case atStart => exact ⟨rfl, rfl, HK3.out, HT3.out⟩
          case round =>
            obtain ⟨rfl, rfl, hK4, h14⟩ := hrel
            have y1 := h14.c1
            have HK4 := Lib.hid hK4
            clear hK4 h14
            go_wp2
            go_roundw
            case rel => exact ⟨out, sg, A2, n2, c2, HK4.out, HON.out, HCL2.out, .inr ⟨HNE.out, HEE.out⟩⟩
            case measure => rw [errBit_err HK4.out.pc.c1 HNE.out, errBit_ok (show wr0.cell? ⟨w.heap.size, 1, none⟩ = some (.int .i64 0) from z1)]; simp [sliceLen]
      · -- all numbers are there
        have HE : Hid (takeL N low high (N + 1) s0 [] = (out, s)) := Lib.hid (by rw [← hT]; exact takeL_end (by rw [HNN.out]; omega))
        have H0 := Lib.hid h0
        rw [h0] at z1
        obtain ⟨x9, y9, hp9⟩ := HK.out.pr
        have q0 := hp9.c0
        have q1 := hp9.c1
        have f0 := hp9.f 0
        have f1 := hp9.f 1
        have HP9 := Lib.hid hp9
        clear hT hf h0 hp9
        go_wp2
        go_region
        all_goals
          go_wp2
          obtain ⟨r1, r2, r3, q0, q1⟩ := HK.out.ret (E := 0) HK.out.dat HK.out.own
          rw [HE.out]
          exact bodyPost_ret (v := .tuple #[.slice A0 out.length c0, .agg #[.slice A n c, .int .i64 0]]) (by simp [results, Try.results27, go_sem, q0, q1]) rfl ⟨_, A, n, c, by rw [show (((out, s) : List Int × (List Nat × Nat)).2.2) = 0 from H0.out]; rfl, r1, r2, r3.drew⟩
    · -- an error
      have hbe : ((s.2 : Int) == 0) = false := by rw [beq_eq_false_iff_ne]; omega
      have hbn : ((s.2 : Int) != 0) = true := by rw [bne_iff_ne]; omega
      have HE := Lib.hid hE
      obtain ⟨x9, y9, hp9⟩ := HK.out.pr
      have q0 := hp9.c0
      have q1 := hp9.c1
      have f0 := hp9.f 0
      have f1 := hp9.f 1
      clear hE hp9
      by_cases hlt : (out.length : Int) < nn
      · go_wp2
        go_region
        all_goals
          go_wp2
          obtain ⟨r1, r2, r3, q0, q1⟩ := HK.out.ret (E := (s.2 : Int)) (o := []) HK.out.dat (ownsRow_none _ _)
          rw [HE.out]
          exact bodyPost_ret (v := .tuple #[.slice none 0 0, .agg #[.slice A n c, .int .i64 (s.2 : Int)]]) (by simp [results, Try.results27, go_sem, q0, q1]) rfl ⟨_, A, n, c, rfl, r1, r2, r3.drew⟩
      · go_wp2
        go_region
        all_goals
          go_wp2
          obtain ⟨r1, r2, r3, q0, q1⟩ := HK.out.ret (E := (s.2 : Int)) (o := []) HK.out.dat (ownsRow_none _ _)
          rw [HE.out]
          exact bodyPost_ret (v := .tuple #[.slice none 0 0, .agg #[.slice A n c, .int .i64 (s.2 : Int)]]) (by simp [results, Try.results27, go_sem, q0, q1]) rfl ⟨_, A, n, c, rfl, r1, r2, r3.drew⟩
end Go.Proofs.Ytnfflddcekffeaa
