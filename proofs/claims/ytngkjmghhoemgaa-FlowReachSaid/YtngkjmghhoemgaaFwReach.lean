/-
  Which instructions are reached: the program's answer. Conditions: the function can be read, and laid; words of 64 bits; not more than a thousand instructions and nodes.
-/
import Derived.Test.YtngkjmghhoemgaaFwLeads
import Derived.Test.YtngkjmghhoemgaaFwQ
import Derived.WalkMore
namespace Go.Proofs.Ytngkjmghhoemgaa
open Go.RowKit

/-- What holds at the label: what was reached, what is to do. -/
def RcS (f : Fn.F) (n g1 base M : Nat) (w1 : World) (R : List Bool) (tv : Value) (out : List Bool) (todo : List Int) (wr : World) : Prop :=
  Rq wr base tv todo ∧ Bq wr g1 out ∧ out.length = n ∧ Below w1.heap.size w1 wr ∧ Fw.Runs f out todo R ∧ Fw.falses out * (f.nodes.length + 5) + todo.length ≤ M
def RcJ (f : Fn.F) (n q g1 base M : Nat) (w1 : World) (R : List Bool) (a' : Act) (wr : World) : Prop :=
  ∃ (tv : Value) (out : List Bool) (todo : List Int) (u0 u2 u5 u6 u7 u8 u9 u10 u11 u12 u13 u14 u15 u16 u17 u18 u19 u20 u21 u22 u23 u24 u25 u26 u27 u28 u29 u30 u31 u32 u33 u34 u35 u36 u37 u38 u39 u40 u41 : Value), a' = { tmps := #[u0, .pointer (some ⟨q, 0, none⟩), u2, .slice (some ⟨g1, 0, none⟩) n n, tv, u5, u6, u7, u8, u9, u10, u11, u12, u13, u14, u15, u16, u17, u18, u19, u20, u21, u22, u23, u24, u25, u26, u27, u28, u29, u30, u31, u32, u33, u34, u35, u36, u37, u38, u39, u40, u41], defers := [] } ∧ RcS f n g1 base M w1 R tv out todo wr

/-- While what is left is put together with where an instruction leads: what is left, where it leads, both. -/
structure RgX where
  d : Value
  s : Value
  r : Value
structure RgC (f : Fn.F) (w1 : World) (g1 : Nat) (out : List Bool) (tv : Value) (todo tl L : List Int) (x : RgX) (D : Nat → Bool) (W : World) : Prop where
  below : Below w1.heap.size w1 W
  bools : Bq W g1 out
  rt : D 7 = false → Rq W (g1 + 1) tv todo
  rd : D 3 = true → D 7 = false → Rq W (g1 + 1) x.d tl
  rs : D 6 = true → D 7 = false → Rq W (g1 + 1) x.s L
  rr : D 7 = true → Rq W (g1 + 1) x.r (tl ++ L)
section
variable {f : Fn.F} {w1 : World} {g1 : Nat} {out : List Bool} {tv : Value} {todo tl L : List Int} {x : RgX} {D : Nat → Bool} {W : World}
theorem RgC.up (h : RgC f w1 g1 out tv todo tl L x D W) {i : Nat} (h3 : (3 == i) = false) (h6 : (6 == i) = false) (h7 : (7 == i) = false) : RgC f w1 g1 out tv todo tl L x (add D i) W :=
  ⟨h.below, h.bools, by rw [up_other h7]; exact h.rt, by rw [up_other h3, up_other h7]; exact h.rd, by rw [up_other h6, up_other h7]; exact h.rs, by rw [up_other h7]; exact h.rr⟩
theorem RgC.kept (h : RgC f w1 g1 out tv todo tl L x D W) {W' : World} (hb : Below W.heap.size W W') : RgC f w1 g1 out tv todo tl L x D W' :=
  ⟨h.below.trans (hb.mono h.below.size), h.bools.below hb, fun e => (h.rt e).below hb, fun e e' => (h.rd e e').below hb, fun e e' => (h.rs e e').below hb, fun e => (h.rr e).below hb⟩
theorem RgC.new_d (h : RgC f w1 g1 out tv todo tl L x D W) {u : Value} (hu : Rq W (g1 + 1) u tl) : RgC f w1 g1 out tv todo tl L {x with d := u} (add D 3) W :=
  ⟨h.below, h.bools, by rw [up_other rfl]; exact h.rt, fun _ _ => hu, by rw [up_other (j := 6) rfl, up_other (j := 7) rfl]; exact h.rs, by rw [up_other rfl]; exact h.rr⟩
theorem RgC.new_s (h : RgC f w1 g1 out tv todo tl L x D W) {u : Value} {W' : World} (hu : Rq W' W.heap.size u L) (hb : Below W.heap.size W W') : RgC f w1 g1 out tv todo tl L {x with s := u} (add D 6) W' := by
  have k := h.kept hb
  exact ⟨k.below, k.bools, by rw [up_other rfl]; exact k.rt, by rw [up_other (j := 3) rfl, up_other (j := 7) rfl]; exact k.rd, fun _ _ => hu.more h.bools.lt, by rw [up_other rfl]; exact k.rr⟩
set_option maxRecDepth 100000 in
theorem RgC.app (h : RgC f w1 g1 out tv todo tl L x D W) (hg : w1.heap.size ≤ g1 + 1) (h3 : D 3 = true) (h6 : D 6 = true) (h7 : D 7 = false) (hl : tl.length + L.length ≤ 1099511627776) :
    ∃ v' W', (∀ ty, (Builtin.append_ #[24, 24] ty #[x.d, x.s]).run Try.prog W = .ok v' W') ∧ RgC f w1 g1 out tv todo tl L {x with r := v'} (add D 7) W' := by
  obtain ⟨A, c, e, hi, _⟩ := (h.rs h6 h7).ints
  obtain ⟨v', W', hr, h1, h2, _⟩ := append_q (c := c) (h.rd h3 h7) hi h.bools.lt hl
  refine ⟨v', W', fun ty => by rw [e]; exact hr ty, ?_⟩
  have hlt := (h.rd h3 h7).lt
  refine ⟨h.below.grown h2 h.below.size (fun k hk => by have := (hlt k hk).1; omega), h.bools.kept (h2.block g1 h.bools.lt (fun e => by have := (hlt g1 e.symm).1; omega)), ?_, ?_, ?_, fun _ => h1⟩
  · rw [up_self]; intro e; cases e
  · rw [up_self]; intro _ e; cases e
  · rw [up_self]; intro _ e; cases e
end
theorem ok_slice {P : Program} {ops : Array Oper} {Q : Exit → Act → World → Prop} {o : Oper} {a : Act} {w : World} {v : Value} {K : Act → World → Prop} (hw : Region.wanted o (yielded ops a.tmps) = true) (s lo : Operand) (t : TypeId) (ho : o.op = .slice t s (some lo) none none)
    (hr : (Instr.sliceAt t (a.eval s) (some (a.eval lo)) none none).run P w = .ok v w) (hK : K (a.put o.dst v) w) : if Region.wanted o (yielded ops a.tmps) = true then Oper.wp P o a w K Q else K (a.put o.dst undef) w := by
  rw [if_pos hw]
  unfold Oper.wp execOp
  simp only [ho, Option.map_some, Option.map_none, Sem.run_bind, hr, Sem.run_pure, Result.andThen_ok]
  exact hK

def RgG (v : FnV) (A : Option Addr) (n cA j k : Nat) (_q : Nat) (x : RgX) : Nat → Value → Prop
  | 0, vv => vv = .slice A n cA
  | 1, vv => vv = .int .i64 (j : Int)
  | 2, vv => vv = .int .i64 ((j + 1 : Nat) : Int)
  | 3, vv => vv = x.d
  | 4, vv => vv = .agg #[.string v.name, .bool v.inner, .slice v.outer.a v.outer.n v.outer.c, .slice v.params.a v.params.n v.params.c, .slice v.results.a v.results.n v.results.c, .slice v.locals.a v.locals.n v.locals.c, .slice v.code.a v.code.n v.code.c, .slice v.lines.a v.lines.n v.lines.c, .slice v.nodes.a v.nodes.n v.nodes.c, .slice v.at_.a v.at_.n v.at_.c, .slice v.live.a v.live.n v.live.c]
  | 5, vv => vv = .int .i64 (k : Int)
  | 6, vv => vv = x.s
  | 7, vv => vv = x.r
  | 8, vv => vv = x.r
  | _, _ => True

theorem rg_d {v : FnV} {A : Option Addr} {n cA j k q : Nat} {x : RgX} {z : Value} {D : Nat → Bool} (h3 : D 3 = false) : ∀ (i : Nat) (u : Value), D i = true → RgG v A n cA j k q x i u → RgG v A n cA j k q {x with d := z} i u := by
  intro i u hj h
  have e3 : i ≠ 3 := fun e => by rw [e, h3] at hj; cases hj
  unfold RgG at h ⊢
  split at h <;> first | exact h | exact absurd rfl e3
theorem rg_s {v : FnV} {A : Option Addr} {n cA j k q : Nat} {x : RgX} {z : Value} {D : Nat → Bool} (h6 : D 6 = false) : ∀ (i : Nat) (u : Value), D i = true → RgG v A n cA j k q x i u → RgG v A n cA j k q {x with s := z} i u := by
  intro i u hj h
  have e6 : i ≠ 6 := fun e => by rw [e, h6] at hj; cases hj
  unfold RgG at h ⊢
  split at h <;> first | exact h | exact absurd rfl e6
theorem rg_r {v : FnV} {A : Option Addr} {n cA j k q : Nat} {x : RgX} {z : Value} {D : Nat → Bool} (h7 : D 7 = false) (h8 : D 8 = false) : ∀ (i : Nat) (u : Value), D i = true → RgG v A n cA j k q x i u → RgG v A n cA j k q {x with r := z} i u := by
  intro i u hj h
  have e7 : i ≠ 7 := fun e => by rw [e, h7] at hj; cases hj
  have e8 : i ≠ 8 := fun e => by rw [e, h8] at hj; cases hj
  unfold RgG at h ⊢
  split at h <;> first | exact h | exact absurd rfl e7 | exact absurd rfl e8

set_option maxHeartbeats 8000000 in
set_option maxRecDepth 100000 in
theorem fwreach_any (v : FnV) (f : Fn.F) (w0 : World) (R : List Bool) (h : FnOk w0 w0.heap.size v f) (hw : f.Wf) (hcan : f.can = 0) (hk2 : v.code.n ≤ 1000) (hnn : v.nodes.n ≤ 1000) (hR : Fw.Runs f (List.replicate v.code.n false) [0] R) :
    Calls Try.prog 6 #[.agg v.cells] w0 (NewBools R w0) := by
  obtain ⟨ib, hib, hbz0, hbz1, hbz2⟩ := info_parts info_bool
  have hb := (Below.refl w0.heap.size w0).alloc (Nat.le_refl _) (.cells v.cells 28)
  have HB := Lib.hid hb
  have HA := Lib.hid (FnAt.new w0 v)
  have hA := FnAt.new w0 v
  have c0 := hA.c0; have c1 := hA.c1; have c2 := hA.c2; have c3 := hA.c3; have c4 := hA.c4; have c5 := hA.c5; have c6 := hA.c6; have c7 := hA.c7; have c8 := hA.c8; have c9 := hA.c9; have c10 := hA.c10
  have HLe := Lib.hid (fun (k : Nat) (hk : k < v.code.n) (W : World) (hx : Below w0.heap.size w0 W) => fwleads_any v f k W (h.on hx) hw hcan hk (by omega) (by omega))
  have HHas := Lib.hid (fun (x : Int) (W : World) => show Calls Try.prog 16 #[.agg v.cells, .int .i64 x] W (BoolP (Fw.has f x) W) by have hh := fwhas_any v x W; rw [← h.n_code] at hh; exact hh)
  have HN : Hid (f.code.length = v.code.n ∧ v.code.n ≤ 1000 ∧ f.nodes.length ≤ 1000) := Lib.hid ⟨h.n_code, hk2, by have := h.n_nodes; omega⟩
  have HRun := Lib.hid hR
  clear h hw hcan hnn hb hA hR hk2
  obtain ⟨nm, inn, ⟨oa, on, oc⟩, ⟨pa, pn, pc⟩, ⟨ra, rn, rc⟩, ⟨la, ln, lc⟩, ⟨ca, cn, cc⟩, ⟨ia, i_n, ic⟩, ⟨na, nn, nc⟩, ⟨ta, tn, tc⟩, ⟨va, vn, vc⟩⟩ := v
  have HC := Lib.hid (And.intro c0 (And.intro c1 (And.intro c2 (And.intro c3 (And.intro c4 (And.intro c5 (And.intro c6 (And.intro c7 (And.intro c8 (And.intro c9 c10))))))))))
  go_enter Try.func6, Try.ntmps6
  go_wp2
  refine wp_scope_again 0 (RcJ f cn w0.heap.size (w0.heap.size + 1) (w0.heap.size + 2) 100000000 (w0.alloc (.cells (FnV.cells ⟨nm, inn, ⟨oa, on, oc⟩, ⟨pa, pn, pc⟩, ⟨ra, rn, rc⟩, ⟨la, ln, lc⟩, ⟨ca, cn, cc⟩, ⟨ia, i_n, ic⟩, ⟨na, nn, nc⟩, ⟨ta, tn, tc⟩, ⟨va, vn, vc⟩⟩) 28)) R) (fun a' w0' => fal w0' (w0.heap.size + 1) * (f.nodes.length + 5) + lenS (a'.tmps.getD 4 undef)) rfl ?_ ?_
  · intro hfirst
    have HF := Lib.hid hfirst
    clear hfirst
    go_wp2_with (at_make; refine wpList_make_full _ rfl _ _ 31 rfl (w0.heap.size + 1) 4 ib (.bool false) 1 Try.underlying31 hib hbz0 hbz1 .i64 .i64 _ _ cn rfl rfl rfl rfl (by have := HN.out; rw [hbz2]; omega) (by have := HN.out; unfold maxLen; omega) (by simp) ?_; intro w2 hown2 hgrow2; have HO2 := Lib.hid hown2; have HG2 := Lib.hid hgrow2; clear hown2 hgrow2)
    go_step3
    go_step
    go_step
    refine HF.out _ _ ⟨_, List.replicate cn false, [0], _, _, _, _, _, _, _, _, _, _, _, _, _, _, _, _, _, _, _, _, _, _, _, _, _, _, _, _, _, _, _, _, _, _, _, _, _, _, _, rfl, ?_, ?_, by simp, ?_, HRun.out, ?_⟩
    · exact (Rq.lit w2 _ [0] (by have := (Bq.made HO2.out).lt; rw [World.size_alloc] at this; omega))
    · have h2 := (Bq.made HO2.out).below ((Below.refl _ _).alloc (Nat.le_refl _) (.cells #[.int .i64 0] 3))
      rwa [World.size_alloc] at h2
    · exact ((((Below.refl _ _).grown HG2.out (Nat.le_refl _) (fun k hk => by cases hk)))).alloc (by have := HG2.out.size; simpa using this) _
    · have := HN.out
      have e : Fw.falses (List.replicate cn false) = cn := by simp [Fw.falses, List.countP_replicate]
      rw [e]
      have : cn * (f.nodes.length + 5) ≤ 1000 * 1005 := Nat.mul_le_mul (by omega) (by omega)
      simp
      omega
  · rintro a' wo ⟨tv, out, todo, u0, u2, u5, u6, u7, u8, u9, u10, u11, u12, u13, u14, u15, u16, u17, u18, u19, u20, u21, u22, u23, u24, u25, u26, u27, u28, u29, u30, u31, u32, u33, u34, u35, u36, u37, u38, u39, u40, u41, rfl, hq, hbq, hol, hBw, hRn, hM⟩
    obtain ⟨A, cA, rfl, hi, hcap⟩ := hq.ints
    have HQ := Lib.hid hq
    have HBq := Lib.hid hbq
    have HOl := Lib.hid hol
    have HBw := Lib.hid hBw
    have HM := Lib.hid hM
    have HI := Lib.hid hi
    have HRn := Lib.hid hRn
    have HTl : Hid (todo.length ≤ 100000000) := Lib.hid (by omega)
    clear hq hbq hol hBw hM hi hRn hcap c0 c1 c2 c3 c4 c5 c6 c7 c8 c9 c10 HRun
    go_wp2
    go_loopw [4, 14] (fun t4 i wr => ∃ j : Nat, i = .int .i64 (j : Int) ∧ t4 = .slice A todo.length cA ∧ j ≤ todo.length ∧ Below wo.heap.size wo wr ∧ Fw.Runs f out (todo.drop j) R) (fun _ i _ => todo.length - (intOf i).toNat)
    case atStart => exact ⟨0, rfl, rfl, Nat.zero_le _, Below.refl _ _, HRn.out⟩
    case round =>
      obtain ⟨j, rfl, rfl, hj, hBi, hRj⟩ := hrel
      have HBi := Lib.hid hBi
      have HRj := Lib.hid hRj
      clear hBi hRj
      by_cases hjl : j < todo.length
      · obtain ⟨b2, off2, x, rfl, hlt2, x0, hx, _⟩ := ints_cell HI.out hjl
        have x0' := (HBi.out.cell (p := ⟨b2, off2 + j, none⟩) hlt2).trans x0
        have hDr : todo.drop j = x :: todo.drop (j + 1) := by
          rw [List.drop_eq_getElem_cons hjl]
          congr 1
          rw [← hx]
          simp [List.getD, hjl]
        have HRx := Lib.hid HRj.out
        rw [hDr] at HRx
        have hb6 := HBw.out.trans (HBi.out.mono HBw.out.size)
        obtain ⟨c0, c1, c2, c3, c4, c5, c6, c7, c8, c9, c10⟩ := HC.out
        have k0 := (hb6.cell (p := ⟨w0.heap.size, 0, none⟩) (by simp)).trans c0; have k1 := (hb6.cell (p := ⟨w0.heap.size, 1, none⟩) (by simp)).trans c1; have k2 := (hb6.cell (p := ⟨w0.heap.size, 2, none⟩) (by simp)).trans c2; have k3 := (hb6.cell (p := ⟨w0.heap.size, 3, none⟩) (by simp)).trans c3; have k4 := (hb6.cell (p := ⟨w0.heap.size, 4, none⟩) (by simp)).trans c4; have k5 := (hb6.cell (p := ⟨w0.heap.size, 5, none⟩) (by simp)).trans c5; have k6 := (hb6.cell (p := ⟨w0.heap.size, 6, none⟩) (by simp)).trans c6; have k7 := (hb6.cell (p := ⟨w0.heap.size, 7, none⟩) (by simp)).trans c7; have k8 := (hb6.cell (p := ⟨w0.heap.size, 8, none⟩) (by simp)).trans c8; have k9 := (hb6.cell (p := ⟨w0.heap.size, 9, none⟩) (by simp)).trans c9; have k10 := (hb6.cell (p := ⟨w0.heap.size, 10, none⟩) (by simp)).trans c10
        have hji : (j : Int) < (todo.length : Int) := by omega
        have HJ := Lib.hid hjl
        have hjb : j ≤ 100000000 := by have := HTl.out; omega
        have HH := HHas.out x wr
        clear hb6 c0 c1 c2 c3 c4 c5 c6 c7 c8 c9 c10 hx hlt2 x0 hj hDr hjl
        cases hhx : Fw.has f x with
        | false =>
          rw [hhx] at HH
          have HR2 := Lib.hid (Fw.runs_skip HRx.out (.inl hhx))
          clear hhx
          go_wp2_with (go_at_call 16; refine HH.mono ?_; rintro _ w5 ⟨rfl, hb5⟩; have HB5 := Lib.hid (below_self HBi.out hb5); clear hb5)
          go_roundw
          case rel => exact ⟨j + 1, by go_num, rfl, HJ.out, HB5.out, HR2.out⟩
          case measure => have := HJ.out; simp [intOf]; omega
        | true =>
          rw [hhx] at HH
          obtain ⟨k, rfl, hkf⟩ := Fw.has_nat hhx
          have hkc : k < cn := by have := HN.out; omega
          have hkci : (k : Int) < (cn : Int) := by omega
          have hko : k < out.length := by have := HOl.out; omega
          have hbqi := HBq.out.below HBi.out
          cases ho : out.getD k false with
          | true =>
            have HR2 := Lib.hid (Fw.runs_skip HRx.out (.inr (by rw [Int.toNat_natCast]; exact ho)))
            have HCe := Lib.hid (fun (W : World) (hb : Below wr.heap.size wr W) => by have hh := (hbqi.below hb).cell hko; rw [ho] at hh; exact hh)
            clear hhx ho hbqi hkf hko
            go_wp2_with (go_at_call 16; refine HH.mono ?_; rintro _ w5 ⟨rfl, hb5⟩; have HB5 := Lib.hid (below_self HBi.out hb5); have z1 := HCe.out _ hb5; clear hb5)
            go_roundw
            case rel => exact ⟨j + 1, by go_num, rfl, HJ.out, HB5.out, HR2.out⟩
            case measure => have := HJ.out; simp [intOf]; omega
          | false =>
            have HR2 := Lib.hid (Fw.runs_go HRx.out hkf ho)
            have HCe := Lib.hid (fun (W : World) (hb : Below wr.heap.size wr W) => by have hh := (hbqi.below hb).cell hko; rw [ho] at hh; exact hh)
            have HFz := Lib.hid (fun (W : World) (hb : Below wr.heap.size wr W) => (hbqi.below hb).frozen k)
            have HFl := Lib.hid (Fw.falses_set hko ho)
            clear hhx ho hbqi hkf hko
            go_wp2_with (go_at_call 16; refine HH.mono ?_; rintro _ w5 ⟨rfl, hb5⟩; have HB5 := Lib.hid (below_self HBi.out hb5); have HB6 := Lib.hid hb5; have z1 := HCe.out _ hb5; have z2 := HFz.out _ hb5; clear hb5)
            have hBq5 := (HBq.out.below (HBi.out.trans (HB6.out.mono HBi.out.size))).set k true
            have hQ5 := HQ.out.below (HBi.out.trans (HB6.out.mono HBi.out.size))
            have hB5 := (HBw.out.trans (HBi.out.mono HBw.out.size)).trans (HB6.out.mono (HBw.out.trans (HBi.out.mono HBw.out.size)).size)
            have hlb := HQ.out.lt b2 rfl
            have hQ6 : Rq (w5.setCell ⟨w0.heap.size + 1, k, none⟩ (.bool true)) (w0.heap.size + 1 + 1) (.slice (some ⟨b2, off2, none⟩) todo.length cA) todo := hQ5.kept (fun g hg => Below.heap_setCell w5 ⟨w0.heap.size + 1, k, none⟩ _ g (fun e => by injection hg with hg; simp only at hg e; omega))
            have hB6 := hB5.setCell (p := ⟨w0.heap.size + 1, k, none⟩) (by simp) (.bool true)
            have HJ1 : Hid (j + 1 ≤ todo.length) := Lib.hid (by have := HJ.out; omega)
            have HJw : Hid (IntKind.i64.wrap ((j : Int) + 1) = (j : Int) + 1) := Lib.hid (by show _ = _; unfold IntKind.wrap; simp [IntKind.signed, IntKind.bits]; omega)
            have HG1 : Hid ((w0.alloc (.cells (FnV.cells ⟨nm, inn, ⟨oa, on, oc⟩, ⟨pa, pn, pc⟩, ⟨ra, rn, rc⟩, ⟨la, ln, lc⟩, ⟨ca, cn, cc⟩, ⟨ia, i_n, ic⟩, ⟨na, nn, nc⟩, ⟨ta, tn, tc⟩, ⟨va, vn, vc⟩⟩) 28)).heap.size ≤ w0.heap.size + 1 + 1) := Lib.hid (by simp)
            have HLl : Hid ((todo.drop (j + 1)).length + (Fw.leads f k).length ≤ 1099511627776) := Lib.hid (by
              have h1 := Fw.leads_len (f := f) k
              have h2 := HN.out
              have h3 := HTl.out
              rw [List.length_drop]
              omega)
            have HLd := Lib.hid (fun (W : World) (hx : Below (w0.alloc (.cells (FnV.cells ⟨nm, inn, ⟨oa, on, oc⟩, ⟨pa, pn, pc⟩, ⟨ra, rn, rc⟩, ⟨la, ln, lc⟩, ⟨ca, cn, cc⟩, ⟨ia, i_n, ic⟩, ⟨na, nn, nc⟩, ⟨ta, tn, tc⟩, ⟨va, vn, vc⟩⟩) 28)).heap.size (w0.alloc (.cells (FnV.cells ⟨nm, inn, ⟨oa, on, oc⟩, ⟨pa, pn, pc⟩, ⟨ra, rn, rc⟩, ⟨la, ln, lc⟩, ⟨ca, cn, cc⟩, ⟨ia, i_n, ic⟩, ⟨na, nn, nc⟩, ⟨ta, tn, tc⟩, ⟨va, vn, vc⟩⟩) 28)) W) => HLe.out k hkc W (HB.out.trans (hx.mono (by simp))))
            clear hQ5 hB5 z1 z2 k0 k1 k2 k3 k4 k5 k6 k7 k8 k9 k10 x0' hlb
            obtain ⟨w6, hw6⟩ : ∃ W, W = w5.setCell ⟨w0.heap.size + 1, k, none⟩ (.bool true) := ⟨_, rfl⟩
            obtain ⟨w1, hw1⟩ : ∃ W, W = w0.alloc (.cells (FnV.cells ⟨nm, inn, ⟨oa, on, oc⟩, ⟨pa, pn, pc⟩, ⟨ra, rn, rc⟩, ⟨la, ln, lc⟩, ⟨ca, cn, cc⟩, ⟨ia, i_n, ic⟩, ⟨na, nn, nc⟩, ⟨ta, tn, tc⟩, ⟨va, vn, vc⟩⟩) 28) := ⟨_, rfl⟩
            rw [← hw6] at hBq5 hQ6 hB6 ⊢
            rw [← hw1] at hB6 HLd HA HG1
            have HW1 := Lib.hid hw1
            clear hw6 hw1
            have hC : RgC f w1 (w0.heap.size + 1) (out.set k true) (.slice (some ⟨b2, off2, none⟩) todo.length cA) todo (todo.drop (j + 1)) (Fw.leads f k) ⟨undef, undef, undef⟩ (fun _ => false) w6.drew := ⟨hB6.drew, hBq5, fun _ => hQ6, fun e => (by cases e), fun e => (by cases e), fun e => (by cases e)⟩
            clear hB6 hBq5 hQ6
            refine region_k ⟨undef, undef, undef⟩ 42 (fun x D W => RgC f w1 (w0.heap.size + 1) (out.set k true) (.slice (some ⟨b2, off2, none⟩) todo.length cA) todo (todo.drop (j + 1)) (Fw.leads f k) x D W) (fun x => RgG ⟨nm, inn, ⟨oa, on, oc⟩, ⟨pa, pn, pc⟩, ⟨ra, rn, rc⟩, ⟨la, ln, lc⟩, ⟨ca, cn, cc⟩, ⟨ia, i_n, ic⟩, ⟨na, nn, nc⟩, ⟨ta, tn, tc⟩, ⟨va, vn, vc⟩⟩ (some ⟨b2, off2, none⟩) todo.length cA j k w0.heap.size x) (by kernel_rfl) (by kernel_rfl) (by kernel_rfl) rfl rfl hC ?_ ?_
            · refine ⟨?_, ?_, ?_, ?_, ?_, ?_, ?_, ?_, ?_, trivial⟩
              · intro x D a w hI hdep hD0 K hK
                have e4 : a.eval (.tmp 4) = .slice (some ⟨b2, off2, none⟩) todo.length cA := hI.ahead 4 8 (hI.not_up hD0 8 rfl) rfl
                refine ok_value (wanted_none rfl) (v := .slice (some ⟨b2, off2, none⟩) todo.length cA) ?_ (hK x _ _ (hI.world.up rfl rfl rfl) (fun _ _ _ h => h) rfl)
                have ec : ∀ c, a.eval (.const c) = c := fun _ => rfl
                clear hI hdep hK
                generalize a.eval = ρ at e4 ec ⊢
                go_simp
              · intro x D a w hI hdep hD0 K hK
                have e5 : a.eval (.tmp 5) = .int .i64 (j : Int) := hI.read 5 rfl
                refine ok_value (wanted_none rfl) (v := .int .i64 (j : Int)) ?_ (hK x _ _ (hI.world.up rfl rfl rfl) (fun _ _ _ h => h) rfl)
                have ec : ∀ c, a.eval (.const c) = c := fun _ => rfl
                have ef : ∀ f, a.eval (.func f) = .func (.func f) #[] #[] := fun _ => rfl
                clear hI hdep hK
                generalize a.eval = ρ at e5 ec ef ⊢
                go_simp
              · intro x D a w hI hdep hD0 K hK
                have e33 : a.eval (.tmp 33) = .int .i64 (j : Int) := hI.good 1 33 (dep_of hdep 1 rfl) rfl
                refine ok_value (wanted_none rfl) (v := .int .i64 ((j + 1 : Nat) : Int)) ?_ (hK x _ _ (hI.world.up rfl rfl rfl) (fun _ _ _ h => h) rfl)
                have hjw := HJw.out
                have ec : ∀ c, a.eval (.const c) = c := fun _ => rfl
                have ef : ∀ f, a.eval (.func f) = .func (.func f) #[] #[] := fun _ => rfl
                clear hI hdep hK
                generalize a.eval = ρ at e33 ec ef ⊢
                go_simp
              · intro x D a w hI hdep hD0 K hK
                have e32 : a.eval (.tmp 32) = .slice (some ⟨b2, off2, none⟩) todo.length cA := hI.good 0 32 (dep_of hdep 0 rfl) rfl
                have e34 : a.eval (.tmp 34) = .int .i64 ((j + 1 : Nat) : Int) := hI.good 2 34 (dep_of hdep 2 rfl) rfl
                obtain ⟨d, hr, hd⟩ := run_slice_q (hI.world.rt (hI.not_up hD0 7 rfl)) HJ1.out
                exact ok_slice (wanted_none rfl) (.tmp 32) (.tmp 34) 24 rfl (by rw [e32, e34]; exact hr) (hK {x with d := d} _ _ (hI.world.new_d hd) (rg_d hD0) rfl)
              · intro x D a w hI hdep hD0 K hK
                have e1 : a.eval (.tmp 1) = .pointer (some ⟨w0.heap.size, 0, none⟩) := hI.read 1 rfl
                have hA := HA.out.on hI.world.below
                have k0 := hA.c0
                have k1 := hA.c1
                have k2 := hA.c2
                have k3 := hA.c3
                have k4 := hA.c4
                have k5 := hA.c5
                have k6 := hA.c6
                have k7 := hA.c7
                have k8 := hA.c8
                have k9 := hA.c9
                have k10 := hA.c10
                clear hA
                refine ok_value (wanted_none rfl) (v := .agg #[.string nm, .bool inn, .slice oa on oc, .slice pa pn pc, .slice ra rn rc, .slice la ln lc, .slice ca cn cc, .slice ia i_n ic, .slice na nn nc, .slice ta tn tc, .slice va vn vc]) ?_ (hK x _ _ (hI.world.up rfl rfl rfl) (fun _ _ _ h => h) rfl)
                have ec : ∀ c, a.eval (.const c) = c := fun _ => rfl
                have ef : ∀ f, a.eval (.func f) = .func (.func f) #[] #[] := fun _ => rfl
                clear hI hdep hK
                generalize a.eval = ρ at e1 ec ef ⊢
                go_simp
              · intro x D a w hI hdep hD0 K hK
                have e6 : a.eval (.tmp 6) = .int .i64 (k : Int) := hI.read 6 rfl
                refine ok_value (wanted_none rfl) (v := .int .i64 (k : Int)) ?_ (hK x _ _ (hI.world.up rfl rfl rfl) (fun _ _ _ h => h) rfl)
                have ec : ∀ c, a.eval (.const c) = c := fun _ => rfl
                have ef : ∀ f, a.eval (.func f) = .func (.func f) #[] #[] := fun _ => rfl
                clear hI hdep hK
                generalize a.eval = ρ at e6 ec ef ⊢
                go_simp
              · intro x D a w hI hdep hD0 K hK
                have e36 : a.eval (.tmp 36) = .agg #[.string nm, .bool inn, .slice oa on oc, .slice pa pn pc, .slice ra rn rc, .slice la ln lc, .slice ca cn cc, .slice ia i_n ic, .slice na nn nc, .slice ta tn tc, .slice va vn vc] := hI.good 4 36 (dep_of hdep 4 rfl) rfl
                have e37 : a.eval (.tmp 37) = .int .i64 (k : Int) := hI.good 5 37 (dep_of hdep 5 rfl) rfl
                refine ok_call (wanted_none rfl) (f := 17) (args := #[.agg #[.string nm, .bool inn, .slice oa on oc, .slice pa pn pc, .slice ra rn rc, .slice la ln lc, .slice ca cn cc, .slice ia i_n ic, .slice na nn nc, .slice ta tn tc, .slice va vn vc], .int .i64 (k : Int)]) ?_ (show Calls _ _ #[.agg #[.string nm, .bool inn, .slice oa on oc, .slice pa pn pc, .slice ra rn rc, .slice la ln lc, .slice ca cn cc, .slice ia i_n ic, .slice na nn nc, .slice ta tn tc, .slice va vn vc], _] _ _ from HLd.out w hI.world.below) ?_
                · have ec : ∀ c, a.eval (.const c) = c := fun _ => rfl
                  have ef : ∀ f, a.eval (.func f) = .func (.func f) #[] #[] := fun _ => rfl
                  clear hI hdep hK
                  generalize a.eval = ρ at e36 e37 ec ef ⊢
                  go_simp
                · rintro e w2 ⟨u, rfl, hu, hb2⟩
                  exact ⟨_, rfl, hK {x with s := u} _ _ (hI.world.new_s hu hb2) (rg_s hD0) rfl⟩
              · intro x D a w hI hdep hD0 K hK
                have e35 : a.eval (.tmp 35) = x.d := hI.good 3 35 (dep_of hdep 3 rfl) rfl
                have e38 : a.eval (.tmp 38) = x.s := hI.good 6 38 (dep_of hdep 6 rfl) rfl
                obtain ⟨r, W', hr, hC⟩ := hI.world.app HG1.out (dep_of hdep 3 rfl) (dep_of hdep 6 rfl) hD0 HLl.out
                exact ok_append (wanted_none rfl) (.tmp 35) (.tmp 38) 24 24 rfl (by rw [e35, e38]; exact hr _) (hK {x with r := r} _ _ hC (rg_r hD0 (hI.not_up hD0 8 rfl)) rfl)
              · intro x D a w hI hdep hD0 K hK
                have e39 : a.eval (.tmp 39) = x.r := hI.good 7 39 (dep_of hdep 7 rfl) rfl
                refine ok_value (wanted_none rfl) (v := x.r) ?_ (hK x _ _ (hI.world.up rfl rfl rfl) (fun _ _ _ h => h) rfl)
                have ec : ∀ c, a.eval (.const c) = c := fun _ => rfl
                have ef : ∀ f, a.eval (.func f) = .func (.func f) #[] #[] := fun _ => rfl
                clear hI hdep hK
                generalize a.eval = ρ at e39 ec ef ⊢
                go_simp
            · intro x D a w2 hI hD
              have hfr := hI.frame [(32, .slice (some ⟨b2, off2, none⟩) todo.length cA), (33, .int .i64 (j : Int)), (34, .int .i64 ((j + 1 : Nat) : Int)), (35, x.d), (36, .agg #[.string nm, .bool inn, .slice oa on oc, .slice pa pn pc, .slice ra rn rc, .slice la ln lc, .slice ca cn cc, .slice ia i_n ic, .slice na nn nc, .slice ta tn tc, .slice va vn vc]), (37, .int .i64 (k : Int)), (38, x.s), (39, x.r), (4, x.r)] (all_cons (hI.good 0 32 (hD 0 (by decide)) rfl) (all_cons (hI.good 1 33 (hD 1 (by decide)) rfl) (all_cons (hI.good 2 34 (hD 2 (by decide)) rfl) (all_cons (hI.good 3 35 (hD 3 (by decide)) rfl) (all_cons (hI.good 4 36 (hD 4 (by decide)) rfl) (all_cons (hI.good 5 37 (hD 5 (by decide)) rfl) (all_cons (hI.good 6 38 (hD 6 (by decide)) rfl) (all_cons (hI.good 7 39 (hD 7 (by decide)) rfl) (all_cons (hI.good 8 4 (hD 8 (by decide)) rfl) all_nil))))))))) rfl
              have hW := hI.world
              clear hI
              subst hfr
              simp only [List.foldl_cons, List.foldl_nil, List.setIfInBounds_toArray, List.set_cons_succ, List.set_cons_zero]
              have hr := hW.rr (hD 7 (by decide))
              have hbl := hW.below
              have hbo := hW.bools
              clear hW hD
              go_wp2
              have hmu : Fw.falses (out.set k true) * (f.nodes.length + 5) + ((todo.drop (j + 1)).length + (Fw.leads f k).length) < Fw.falses out * (f.nodes.length + 5) + todo.length := by
                have h1 := Fw.leads_len (f := f) k
                have h2 := HFl.out
                have h3 := HJ1.out
                have e : (Fw.falses (out.set k true) + 1) * (f.nodes.length + 5) = Fw.falses (out.set k true) * (f.nodes.length + 5) + (f.nodes.length + 5) := by rw [Nat.add_mul, Nat.one_mul]
                rw [h2] at e
                rw [List.length_drop]
                omega
              have HMu := Lib.hid hmu
              clear hmu
              obtain ⟨A9, c9, e9, _, _⟩ := hr.ints
              refine wp_goto ?_
              show (0 = 0 ∧ _)
              refine ⟨rfl, ⟨x.r, out.set k true, todo.drop (j + 1) ++ Fw.leads f k, _, _, _, _, _, _, _, _, _, _, _, _, _, _, _, _, _, _, _, _, _, _, _, _, _, _, _, _, _, _, _, _, _, _, _, _, _, _, _, rfl, hr, hbo, by rw [List.length_set]; exact HOl.out, by rw [HW1.out] at hbl; exact hbl, HR2.out, ?_⟩, ?_⟩
              · rw [List.length_append]
                have := HMu.out
                have := HM.out
                omega
              · show fal w2 (w0.heap.size + 1) * (f.nodes.length + 5) + lenS x.r < fal wo (w0.heap.size + 1) * (f.nodes.length + 5) + todo.length
                rw [fal_of hbo, fal_of HBq.out, e9]
                show _ + (todo.drop (j + 1) ++ Fw.leads f k).length < _
                rw [List.length_append]
                exact HMu.out
      · obtain rfl : j = todo.length := by omega
        have HR2 := Lib.hid HRj.out
        rw [List.drop_length] at HR2
        have HE := Lib.hid (Fw.runs_end HR2.out)
        have HLo := Lib.hid HOl.out
        clear hj hjl
        go_wp2
        simp only [Exit.jump]
        go_ret
        rw [HE.out]
        exact ⟨w0.heap.size + 1, by rw [HLo.out]; rfl, Nat.le_succ _, HBq.out.below HBi.out, HB.out.trans ((HBw.out.trans (HBi.out.mono HBw.out.size)).mono (by simp))⟩
end Go.Proofs.Ytngkjmghhoemgaa
