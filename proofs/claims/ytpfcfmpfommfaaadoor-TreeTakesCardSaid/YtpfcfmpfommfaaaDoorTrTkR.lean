/-
  What the document's Take of nodes takes. Conditions: where there is no error, the bytes can be read.
-/
import Derived.RegionTactic
import Derived.ChangeAlike
import Derived.Test.YtpfcfmpfommfaaaDoorTrTk
import Derived.Test.YtpfcfmpfommfaaaDoorTrRr
import Derived.Test.YtpfcfmpfommfaaaDoorRefNum
import Derived.Test.YtpfcfmpfommfaaaDoorRefInt
namespace Go.Proofs.YtpfcfmpfommfaaaDoor
open Go.RowKit

/-- What stands between two rounds: the cursor's box, the result's box, the nodes so far. -/
structure NtK (w : World) (B : Nat) (s : List Nat × Nat) (A : Option Addr) (n c : Nat) (u : Value) (k : Nat) (xs : List Value) (wr : World) : Prop where
  own : wr.ownsRow (w.heap.size + 1 + 1) 53 7 u k xs
  pc : Two wr w.heap.size (.slice A n c) (.int .i64 (s.2 : Int))
  pr : ∃ x y, Two wr (w.heap.size + 1) x y
  dat : Dat wr B A n c s
  row : Below w.heap.size w wr
  bw : B ≤ w.heap.size
section
variable {w wr : World} {B n c k : Nat} {s : List Nat × Nat} {A : Option Addr} {u : Value} {xs : List Value}
theorem NtK.big (h : NtK w B s A n c u k xs wr) : w.heap.size + 1 + 1 ≤ wr.heap.size := by
  obtain ⟨x, y, hp⟩ := h.pr
  have := hp.lt
  omega
theorem NtK.kept (h : NtK w B s A n c u k xs wr) {w' : World} (hb : Below wr.heap.size wr w') : NtK w B s A n c u k xs w' := by
  have hbig := h.big
  obtain ⟨x, y, hp⟩ := h.pr
  have hbw := h.bw
  exact ⟨ownsRow_below h.own hb, h.pc.below hb (by omega), ⟨x, y, hp.below hb (by omega)⟩, h.dat.below (hb.mono (by omega)), h.row.trans (hb.mono (by omega)), h.bw⟩
/-- The cursor is another one. -/
theorem NtK.store (h : NtK w B s A n c u k xs wr) {s' : List Nat × Nat} {A' : Option Addr} {n' c' : Nat} (hd : Dat wr B A' n' c' s') :
    NtK w B s' A' n' c' u k xs ((wr.setCell ⟨w.heap.size, 0, none⟩ (.slice A' n' c')).setCell ⟨w.heap.size, 1, none⟩ (.int .i64 (s'.2 : Int))) := by
  have hbw := h.bw
  have hg : wr.grownBy ((wr.setCell ⟨w.heap.size, 0, none⟩ (.slice A' n' c')).setCell ⟨w.heap.size, 1, none⟩ (.int .i64 (s'.2 : Int))) (some w.heap.size) := Lib.grownBy_setB (Lib.grownBy_setB (World.grownBy.refl _ _) _ _) _ _
  obtain ⟨x, y, hp⟩ := h.pr
  refine ⟨own_grownG h.own hg (by omega), h.pc.set _ _, ⟨x, y, hp.kept hg (by intro e; injection e with e; omega)⟩, hd.kept hg (fun k hk => by injection hk with hk; omega), ?_, h.bw⟩
  exact (h.row.setCell (p := ⟨w.heap.size, 0, none⟩) (Nat.le_refl _) _).setCell (p := ⟨w.heap.size, 1, none⟩) (Nat.le_refl _) _
/-- A cell of another block of the call's own. -/
theorem NtK.other (h : NtK w B s A n c u k xs wr) {p : Nat} (hp : w.heap.size + 1 < p) (hu : ∀ b, u.ownBlock = some b → b ≠ p) (j : Nat) (v : Value) : NtK w B s A n c u k xs (wr.setCell ⟨p, j, none⟩ v) := by
  have hbw := h.bw
  have hg : wr.grownBy (wr.setCell ⟨p, j, none⟩ v) (some p) := Lib.grownBy_setB (World.grownBy.refl _ _) _ _
  obtain ⟨x, y, hq⟩ := h.pr
  exact ⟨row_kept h.own (fun b e => Below.heap_setCell wr ⟨p, j, none⟩ v b (hu b e)), h.pc.kept hg (by intro e; injection e with e; omega), ⟨x, y, hq.kept hg (by intro e; injection e with e; omega)⟩, h.dat.kept hg (fun k hk => by injection hk with hk; omega), h.row.setCell (p := ⟨p, j, none⟩) (by show w.heap.size ≤ p; omega) _, h.bw⟩
set_option maxRecDepth 100000 in
/-- A node more. -/
theorem NtK.step (h : NtK w B s A n c u k xs wr) {u' : Value} {k' : Nat} {xs' : List Value} {w2 : World} {o : Obj} (hown : w2.ownsRow (w.heap.size + 1 + 1) 53 7 u' k' xs') (hg : (wr.alloc o).grownBy w2 u.ownBlock) : NtK w B s A n c u' k' xs' w2 := by
  have hk := h.kept ((Below.refl _ wr).alloc (Nat.le_refl _) o)
  have hbw := h.bw
  obtain ⟨y, z, hp⟩ := hk.pr
  have hlt : ∀ j, u.ownBlock = some j → w.heap.size + 1 + 1 ≤ j := fun j hk' => (h.own.lt j hk').1
  exact ⟨hown, hk.pc.kept hg (fun e => by have := hlt _ e; omega), ⟨y, z, hp.kept hg (fun e => by have := hlt _ e; omega)⟩, hk.dat.kept hg (fun j hk' => by have := hlt j hk'; omega), hk.row.grown hg hk.row.size (fun j hk' => by have := hlt j hk'; omega), h.bw⟩
/-- At a return: nodes, and a cursor laid into the result's box. -/
theorem NtK.ret (h : NtK w B s A n c u k xs wr) {r : List Tr.Nd} {Av : Option Addr} (hr : NodesAt wr wr.heap.size Av r.length r) (hrv : 0 < r.length → ∃ b off, Av = some ⟨b, off, none⟩ ∧ w.heap.size + 1 + 1 ≤ b) :
    NodesAt ((wr.setCell ⟨w.heap.size + 1, 0, none⟩ (.slice A n c)).setCell ⟨w.heap.size + 1, 1, none⟩ (.int .i64 (s.2 : Int))) ((wr.setCell ⟨w.heap.size + 1, 0, none⟩ (.slice A n c)).setCell ⟨w.heap.size + 1, 1, none⟩ (.int .i64 (s.2 : Int))).heap.size Av r.length r ∧
    Dat ((wr.setCell ⟨w.heap.size + 1, 0, none⟩ (.slice A n c)).setCell ⟨w.heap.size + 1, 1, none⟩ (.int .i64 (s.2 : Int))) B A n c s ∧
    Below w.heap.size w ((wr.setCell ⟨w.heap.size + 1, 0, none⟩ (.slice A n c)).setCell ⟨w.heap.size + 1, 1, none⟩ (.int .i64 (s.2 : Int))) ∧
    ((wr.setCell ⟨w.heap.size + 1, 0, none⟩ (.slice A n c)).setCell ⟨w.heap.size + 1, 1, none⟩ (.int .i64 (s.2 : Int))).cell? ⟨w.heap.size + 1, 0, none⟩ = some (.slice A n c) ∧
    ((wr.setCell ⟨w.heap.size + 1, 0, none⟩ (.slice A n c)).setCell ⟨w.heap.size + 1, 1, none⟩ (.int .i64 (s.2 : Int))).cell? ⟨w.heap.size + 1, 1, none⟩ = some (.int .i64 (s.2 : Int)) := by
  have hbw := h.bw
  have hg : wr.grownBy ((wr.setCell ⟨w.heap.size + 1, 0, none⟩ (.slice A n c)).setCell ⟨w.heap.size + 1, 1, none⟩ (.int .i64 (s.2 : Int))) (some (w.heap.size + 1)) := Lib.grownBy_setB (Lib.grownBy_setB (World.grownBy.refl _ _) _ _) _ _
  obtain ⟨x, y, hp⟩ := h.pr
  refine ⟨⟨rfl, fun hn => ?_⟩, h.dat.kept hg (fun k hk => by injection hk with hk; omega), ?_, (hp.set _ _).c0, (hp.set _ _).c1⟩
  · obtain ⟨b, off, e, hlt, hc⟩ := hr.2 hn
    obtain ⟨b', off', e', hge⟩ := hrv hn
    rw [e] at e'
    injection e' with e'
    injection e' with e1 e2
    subst e1 e2
    refine ⟨b, off, e, by have := hg.size; omega, fun i hi j hj => ?_⟩
    exact hg.cell (hc i hi j hj) (by intro e; injection e with e; have e : b = w.heap.size + 1 := e; omega)
  · exact (h.row.setCell (p := ⟨w.heap.size + 1, 0, none⟩) (by simp) _).setCell (p := ⟨w.heap.size + 1, 1, none⟩) (by simp) _
end

theorem nodes_own {w : World} {b : Nat} {e : TypeId} {A : Option Addr} {k c : Nat} {xs : List Value} (h : w.ownsRow b e 7 (.slice A k c) k xs) (hk : 0 < k) : ∃ g off, A = some ⟨g, off, none⟩ ∧ b ≤ g := by
  rcases h.2 with ⟨hv, hn⟩ | ⟨g, cap, cur, hv, hg, _⟩
  · omega
  · injection hv with h1
    exact ⟨g, 0, h1, hg⟩

/-- Nodes and a cursor are told. -/
def RTakeT (o : List Tr.Nd × (List Nat × Nat)) (B : Nat) (w : World) (e : Ending) (w' : World) : Prop :=
  ∃ Av cv A n c, e = .returned (.tuple #[.slice Av o.1.length cv, .agg #[.slice A n c, .int .i64 (o.2.2 : Int)]]) ∧ NodesAt w' w'.heap.size Av o.1.length o.1 ∧ (0 < o.1.length → ∃ b off, Av = some ⟨b, off, none⟩ ∧ w.heap.size ≤ b) ∧ Dat w' B A n c o.2 ∧ Below w.heap.size w w'

/-- At a return, behind a draw. -/
theorem NtK.told {w wr : World} {B n c k : Nat} {s : List Nat × Nat} {A : Option Addr} {u : Value} {xs : List Value} (h : NtK w B s A n c u k xs wr) {e : Int} (he : (s.2 : Int) = e) {r : List Tr.Nd} {Av : Option Addr} (hr : NodesAt wr wr.heap.size Av r.length r) (hrv : 0 < r.length → ∃ b off, Av = some ⟨b, off, none⟩ ∧ w.heap.size + 1 + 1 ≤ b) :
    (((wr.setCell ⟨w.heap.size + 1, 0, none⟩ (.slice A n c)).setCell ⟨w.heap.size + 1, 1, none⟩ (.int .i64 e)).drew.cell? ⟨w.heap.size + 1, 0, none⟩ = some (.slice A n c) ∧
     ((wr.setCell ⟨w.heap.size + 1, 0, none⟩ (.slice A n c)).setCell ⟨w.heap.size + 1, 1, none⟩ (.int .i64 e)).drew.cell? ⟨w.heap.size + 1, 1, none⟩ = some (.int .i64 e)) ∧
    ∀ cv, RTakeT (r, s) B w (.returned (.tuple #[.slice Av r.length cv, .agg #[.slice A n c, .int .i64 e]])) ((wr.setCell ⟨w.heap.size + 1, 0, none⟩ (.slice A n c)).setCell ⟨w.heap.size + 1, 1, none⟩ (.int .i64 e)).drew := by
  subst he
  obtain ⟨r1, r2, r3, q0, q1⟩ := h.ret hr hrv
  exact ⟨⟨q0, q1⟩, fun cv => ⟨Av, cv, A, n, c, rfl, r1.on (Below.refl _ _).drew, fun h => by obtain ⟨b, off, e, hg⟩ := hrv h; exact ⟨b, off, e, by omega⟩, r2.below (Below.refl _ _).drew, r3.drew⟩⟩

/-- Between two rounds: i nodes are taken. -/
def NtRel (w : World) (B m : Nat) (s1 : List Nat × Nat) (u i : Value) (wr : World) : Prop :=
  ∃ (k : Nat) (A : Option Addr) (n c : Nat), k ≤ m ∧ i = .int .i64 (k : Int) ∧ NtK w B (Tr.nodesS k s1) A n c u k (nds (Tr.nodesV s1 k)) wr
/-- Within a round: a node's first j numbers are taken. -/
def NtIn (w : World) (B p k : Nat) (s s1 : List Nat × Nat) (u i : Value) (wr : World) : Prop :=
  ∃ (j : Nat) (A : Option Addr) (n c : Nat), j ≤ 7 ∧ i = .int .i64 (j : Int) ∧ BoxAt wr p 63 (Tr.box s j) ∧ NtK w B (Tr.intsS j s) A n c u k (nds (Tr.nodesV s1 k)) wr

set_option maxHeartbeats 16000000 in
set_option maxRecDepth 100000 in
theorem rtrtake_any (A : Option Addr) (n c B : Nat) (s : List Nat × Nat) (w : World) (h : Dat w B A n c s) (hs : Clean s) (hB : B ≤ w.heap.size) :
    Calls Tryd.prog 25 #[.agg #[.slice A n c, .int .i64 (s.2 : Int)]] w (RTakeT (Tr.take s) B w) := by
  obtain ⟨i0, hi, hz0, hz1, hz2⟩ := info_parts info_node
  have hba : Below w.heap.size w ((w.alloc (.cells #[.slice A n c, .int .i64 (s.2 : Int)] 42)).alloc (.cells #[.slice none 0 0, .int .i64 0] 42)) := ((Below.refl _ w).alloc (Nat.le_refl _) _).alloc (by simp) _
  have hK : NtK w B s A n c (.slice none 0 0) 0 (nds (Tr.nodesV s 0)) ((w.alloc (.cells #[.slice A n c, .int .i64 (s.2 : Int)] 42)).alloc (.cells #[.slice none 0 0, .int .i64 0] 42)) := by
    refine ⟨World.ownsRow_nil _ _ _ _, (Two.new w _ _).alloc _, ⟨.slice none 0 0, .int .i64 0, ?_⟩, h.below (hba.mono hB), hba, hB⟩
    have := Two.new (w.alloc (.cells #[.slice A n c, .int .i64 (s.2 : Int)] 42)) (.slice none 0 0) (.int .i64 0)
    simpa only [World.size_alloc] using this
  have HNm := Lib.hid (rNum_any A n c B s 120 _ hK.dat hs (Nat.le_trans hB hba.size) (by decide) (by decide))
  have HK := Lib.hid hK
  have HCl : Hid (Clean s) := Lib.hid hs
  have z0 := hK.pc.c0
  have z1 := hK.pc.c1
  have f0 := hK.pc.f 0
  have f1 := hK.pc.f 1
  have hm120 := Tr.num_le s
  obtain ⟨m, s1, hns⟩ : ∃ m s1, numA s 120 = (m, s1) := ⟨_, _, rfl⟩
  have HC1 : Hid (Clean s1) := Lib.hid (by have := num_clean 120 hs; rwa [hns] at this)
  rw [hns] at HNm hm120
  dsimp only at HNm hm120
  have HNs := Lib.hid hns
  clear h hs hns hba hK
  go_enter Tryd.func25, Tryd.ntmps25
  go_wp2_with (go_at_call 51; go_must (refine HNm.out.mono ?_; rintro _ w1 ⟨A1, n1, c1, rfl, hd1, hb1⟩; have HK1 := Lib.hid (HK.out.kept hb1); have HD1 := Lib.hid hd1; have k0 := HK1.out.pc.c0; have k1 := HK1.out.pc.c1; have g0 := HK1.out.pc.f 0; have g1 := HK1.out.pc.f 1; clear hd1 hb1 HNm z0 z1 f0 f1))
  go_loopw [5, 6, 7, 8] (fun u i _ _ wr => NtRel w B m s1 u i wr) (fun _ i _ _ _ => m - (intOf i).toNat)
  case atStart => exact ⟨0, A1, n1, c1, Nat.zero_le _, rfl, HK1.out.store HD1.out⟩
  case round =>
    obtain ⟨k, A, n, c, hk, rfl, hK⟩ := hrel
    have HK := Lib.hid hK
    have z0 := hK.pc.c0
    have z1 := hK.pc.c1
    have f0 := hK.pc.f 0
    have f1 := hK.pc.f 1
    have hlen : (Tr.nodesV s1 k).length = k := Tr.nodesV_len s1 k
    have hclean := Tr.nodesS_clean HC1.out k
    have ht : (numA s 120).1 = m ∧ (numA s 120).2 = s1 := by rw [HNs.out]; exact ⟨rfl, rfl⟩
    obtain ⟨Av, cv, rfl⟩ : ∃ Av cv, u5 = .slice Av k cv := by
      rcases hK.own.2 with ⟨hv, h0⟩ | ⟨g, cap, cur, hv, _⟩
      · exact ⟨none, 0, by rw [hv, h0]⟩
      · exact ⟨_, _, hv⟩
    clear hK
    by_cases h0 : (Tr.nodesS k s1).2 = 0
    · by_cases hlt : k < m
      · have hkm : (k : Int) < (m : Int) := by omega
        rw [h0] at z1
        go_wp2
        have HB0 : Hid (BoxAt (wr.alloc (.cells #[.int .i64 0, .int .i64 0, .int .i64 0, .int .i64 0, .int .i64 0, .int .i64 0, .int .i64 0] 63)) wr.heap.size 63 (Tr.box (Tr.nodesS k s1) 0)) := Lib.hid (by rw [Tr.box_zero]; exact heap_alloc_new wr _)
        have HK0 := Lib.hid (HK.out.kept ((Below.refl wr.heap.size wr).alloc (Nat.le_refl _) (.cells #[.int .i64 0, .int .i64 0, .int .i64 0, .int .i64 0, .int .i64 0, .int .i64 0, .int .i64 0] 63)))
        have HU : Hid (∀ b, (Value.slice Av k cv).ownBlock = some b → b ≠ wr.heap.size) := Lib.hid (fun b e => Nat.ne_of_lt (HK.out.own.lt b e).2)
        have hp2 : w.heap.size + 1 < wr.heap.size := HK.out.big
        clear z0 z1 f0 f1 HK
        generalize wr.heap.size = p at *
        go_loopw [8] (fun j W => NtIn w B p k (Tr.nodesS k s1) s1 (.slice Av k cv) j W) (fun j _ => 7 - (intOf j).toNat)
        case atStart => exact ⟨0, A, n, c, by omega, rfl, HB0.out, HK0.out⟩
        case round =>
          obtain ⟨j, A, n, c, hj7, rfl, hB3, hK3⟩ := hrel
          have HB3 := Lib.hid hB3
          have HK3 := Lib.hid hK3
          by_cases hj6 : j < 7
          · have hi64 : (j : Int) < 7 := by omega
            have HInt := Lib.hid (rInt_any A n c B (Tr.intsS j (Tr.nodesS k s1)) wr hK3.dat (Tr.intsS_clean hclean j) (by have := hK3.bw; have := hK3.row.size; omega))
            have z0 := hK3.pc.c0
            have z1 := hK3.pc.c1
            clear hB3 hK3
            go_wp2_with (go_at_call 52; go_must (refine HInt.out.mono ?_; rintro _ w3 ⟨A3, n3, c3, rfl, hd3, hb3⟩; have HD3 := Lib.hid hd3; have HB4 := Lib.hid (show BoxAt w3 p 63 _ from (hb3.block p HB3.out.lt).trans HB3.out); have HK4 := Lib.hid (HK3.out.kept hb3); clear hd3 hb3 z0 z1; have ec := HB4.out.cell (j := j) (by rw [Tr.box_len]; exact hj6); have ef := HB4.out.f j; have HK5 := Lib.hid (HK4.out.other hp2 HU.out j (.int .i64 (intA (Tr.intsS j (Tr.nodesS k s1))).1)); have q0 := HK5.out.pc.c0; have q1 := HK5.out.pc.c1; have g0 := HK5.out.pc.f 0; have g1 := HK5.out.pc.f 1))
            refine ⟨⟨j + 1, A3, n3, c3, hj6, by go_num, ?_, ?_⟩, by simp [intOf]; omega⟩
            · rw [← Tr.box_set (Tr.nodesS k s1) hj6]
              exact (HB4.out.set j _).kept (g := w.heap.size) (Lib.grownBy_setB (Lib.grownBy_setB (World.grownBy.refl _ _) _ _) _ _) (by omega)
            · exact HK5.out.store (s' := Tr.intsS (j + 1) (Tr.nodesS k s1)) (HD3.out.below ((Below.refl B w3).setCell (p := ⟨p, j, none⟩) (by show B ≤ p; omega) _))
          · obtain rfl : j = 7 := by omega
            have HN : NodeAt wr p 63 (Tr.nodeV (Tr.nodesS k s1)) := by have h := HB3.out; rw [Tr.box_all] at h; exact h.node
            have HV : Hid (Tr.nodesV s1 (k + 1) = Tr.nodesV s1 k ++ [Tr.nodeV (Tr.nodesS k s1)]) := Lib.hid rfl
            have HS : Hid (Tr.nodesS (k + 1) s1 = Tr.intsS 7 (Tr.nodesS k s1)) := Lib.hid (Tr.nodesS_succ k s1)
            generalize Tr.nodeV (Tr.nodesS k s1) = y at HN HV
            obtain ⟨e0, e1, e2, e3, e4, e5, e6⟩ := HN.cells
            have hk120 : k < 120 := by omega
            clear hB3 hK3
            go_wp2_with (at_builtin; refine wpList_append_lies _ rfl (.tmp 35) (.tmp 51) 22 rfl (w.heap.size + 1 + 1) 53 i0 (.agg #[.int .i64 0, .int .i64 0, .int .i64 0, .int .i64 0, .int .i64 0, .int .i64 0, .int .i64 0]) 7 56 Tryd.underlying22 hi hz0 hz1 hz2 rfl (by decide) (.slice Av k cv) k (nds (Tr.nodesV s1 k)) rfl (HK3.out.own.alloc _) ⟨wr.heap.size, 0, none⟩ 1 1 (nds [y]) rfl rfl ?c1 (nds_one _) (by decide) ?c3 ?c4 ?c5 (wr.heap.size + 1) ?c6 ?_)
            case c1 => exact new_node wr _ y
            case c3 => unfold maxLen; omega
            case c4 => omega
            case c5 => have := HK3.out.big; simp; omega
            case c6 => simp
            intro ga cap w4 hown4 hgrow4 hat4 _
            rw [← nds_append, ← HV.out] at hown4
            have HKf := Lib.hid (HK3.out.step hown4 hgrow4)
            clear hown4 hgrow4 hat4 e0 e1 e2 e3 e4 e5 e6 HN
            go_wp2
            go_roundw
            case rel => exact ⟨k + 1, A, n, c, hlt, by go_num, by rw [HS.out]; exact HKf.out⟩
            case measure => simp [intOf]; omega
      · obtain rfl : k = m := by omega
        have hkm : ¬ (k : Int) < (k : Int) := by omega
        have hO : wr.ownsRow (w.heap.size + 1 + 1) 53 7 (.slice Av k cv) (Tr.nodesV s1 k).length (nds (Tr.nodesV s1 k)) := by rw [hlen]; exact HK.out.own
        have hN := (nodes_of_own hO).2.1
        have HN := Lib.hid hN
        have HOw := Lib.hid (nodes_own HK.out.own)
        have HRt := rtrright_any Av k cv (Tr.nodesV s1 k) wr hN (by omega)
        rw [h0] at z1
        clear hO hN
        cases hb : Tr.right (Tr.nodesV s1 k) with
        | true =>
          rw [hb] at HRt
          have HT : Hid (Tr.take s = (Tr.nodesV s1 k, Tr.nodesS k s1)) := Lib.hid (by have := Tr.take_right (s := s) (by rw [ht.1, ht.2]; exact h0) (by rw [ht.1, ht.2]; exact hb); rw [ht.1, ht.2] at this; exact this)
          have HZ := Lib.hid h0
          have HLn := Lib.hid hlen
          clear hb h0 hclean ht hlen
          go_wp2_with (go_at_call 9; go_must (refine HRt.mono ?_; rintro _ w2 ⟨rfl, hb2⟩; have HK2 := Lib.hid (HK.out.kept hb2); have HN2 := Lib.hid (HN.out.on hb2); clear hb2 z0 z1 f0 f1; have z0 := HK2.out.pc.c0; have z1 := HK2.out.pc.c1; rw [HZ.out] at z1))
          obtain ⟨x9, y9, hp9⟩ := HK2.out.pr
          have i0 := hp9.c0
          have i1 := hp9.c1
          have g0 := hp9.f 0
          have g1 := hp9.f 1
          clear hp9
          go_region
          go_wp2
          have hNr : NodesAt w2 w2.heap.size Av (Tr.nodesV s1 k).length (Tr.nodesV s1 k) := by rw [HLn.out]; exact HN2.out
          obtain ⟨⟨q0, q1⟩, hT⟩ := HK2.out.told (e := 0) (by rw [HZ.out]; rfl) hNr (by rw [HLn.out]; exact HOw.out)
          rw [HLn.out] at hT
          rw [HT.out]
          generalize ((w2.setCell ⟨w.heap.size + 1, 0, none⟩ (.slice A n c)).setCell ⟨w.heap.size + 1, 1, none⟩ (.int .i64 0)).drew = W at q0 q1 hT ⊢
          exact bodyPost_ret (v := .tuple #[.slice Av k cv, .agg #[.slice A n c, .int .i64 0]]) (by simp [results, Tryd.results25, go_sem, q0, q1]) rfl (hT cv)
        | false =>
          rw [hb] at HRt
          have HT : Hid (Tr.take s = ([], failA (Tr.nodesS k s1) 14)) := Lib.hid (by have := Tr.take_wrong (s := s) (by rw [ht.1, ht.2]; exact h0) (by rw [ht.1, ht.2]; exact hb); rw [ht.1, ht.2] at this; exact this)
          have hf : (failA (Tr.nodesS k s1) 14).2 = 14 := by rw [fail_sets h0 (by decide)]
          have HZ := Lib.hid h0
          have HF := Lib.hid hf
          have HFl := rFail_any A n c 0 14
          rw [if_pos rfl] at HFl
          clear hb h0 hclean ht hlen hf
          go_wp2_with (first
            | (go_at_call 9; go_must (refine HRt.mono ?_; rintro _ w2 ⟨rfl, hb2⟩; have HK2 := Lib.hid (HK.out.kept hb2); clear hb2 z0 z1 f0 f1; have z0 := HK2.out.pc.c0; have z1 := HK2.out.pc.c1; rw [HZ.out] at z1))
            | (go_at_call 53; go_must (refine (HFl _).mono ?_; rintro _ w3 ⟨rfl, hb3⟩; have HK3 := Lib.hid (HK2.out.kept hb3); clear hb3 z0 z1; have z0 := HK3.out.pc.c0; have z1 := HK3.out.pc.c1; have f0 := HK3.out.pc.f 0; have f1 := HK3.out.pc.f 1; have HK4 := Lib.hid (HK3.out.store (s' := failA (Tr.nodesS k s1) 14) (A' := A) (n' := n) (c' := c) (fun h => absurd h (by rw [HF.out]; decide))); rw [HF.out] at HK4)))
          have h14 : ((14 : Nat) : Int) = 14 := rfl
          rw [h14] at HK4
          clear z0 z1 f0 f1
          generalize (w3.setCell ⟨w.heap.size, 0, none⟩ (.slice A n c)).setCell ⟨w.heap.size, 1, none⟩ (.int .i64 14) = w4 at HK4 ⊢
          obtain ⟨x9, y9, hp9⟩ := HK4.out.pr
          have i0 := hp9.c0
          have i1 := hp9.c1
          have g0 := hp9.f 0
          have g1 := hp9.f 1
          have y0 := HK4.out.pc.c0
          have y1 := HK4.out.pc.c1
          rw [HF.out, h14] at y1
          clear hp9
          go_region
          go_wp2
          obtain ⟨⟨q0, q1⟩, hT⟩ := HK4.out.told (e := 14) (by rw [HF.out]; rfl) (r := []) (Av := none) ⟨rfl, fun h => absurd h (by simp)⟩ (fun h => absurd h (by simp))
          rw [HT.out]
          generalize ((w4.setCell ⟨w.heap.size + 1, 0, none⟩ (.slice A n c)).setCell ⟨w.heap.size + 1, 1, none⟩ (.int .i64 14)).drew = W at q0 q1 hT ⊢
          exact bodyPost_ret (v := .tuple #[.slice none 0 0, .agg #[.slice A n c, .int .i64 14]]) (by simp [results, Tryd.results25, go_sem, q0, q1]) rfl (hT 0)
    · have HT : Hid (Tr.take s = ([], Tr.nodesS k s1)) := Lib.hid (by have := Tr.take_err HCl.out (k := k) (by rw [ht.1]; exact hk) (by rw [ht.2]; exact h0); rw [ht.2] at this; exact this)
      obtain ⟨z, hz⟩ : ∃ z, (Tr.nodesS k s1).2 = z := ⟨_, rfl⟩
      rw [hz] at z1 h0
      have HZ := Lib.hid hz
      have d1 : (((z : Nat) : Int) == 0) = false := beq_eq_false_iff_ne.2 (by omega)
      have d2 : (((z : Nat) : Int) != 0) = true := bne_iff_ne.2 (by omega)
      obtain ⟨x9, y9, hp9⟩ := HK.out.pr
      have i0 := hp9.c0
      have i1 := hp9.c1
      have g0 := hp9.f 0
      have g1 := hp9.f 1
      clear hp9 hz h0 hclean ht hlen
      by_cases hlt : k < m
      · have hkm : (k : Int) < (m : Int) := by omega
        go_wp2
        go_region
        go_wp2
        obtain ⟨⟨q0, q1⟩, hT⟩ := HK.out.told (e := z) (by rw [HZ.out]) (r := []) (Av := none) ⟨rfl, fun h => absurd h (by simp)⟩ (fun h => absurd h (by simp))
        rw [HT.out]
        generalize ((wr.setCell ⟨w.heap.size + 1, 0, none⟩ (.slice A n c)).setCell ⟨w.heap.size + 1, 1, none⟩ (.int .i64 (z : Int))).drew = W at q0 q1 hT ⊢
        exact bodyPost_ret (v := .tuple #[.slice none 0 0, .agg #[.slice A n c, .int .i64 (z : Int)]]) (by simp [results, Tryd.results25, go_sem, q0, q1]) rfl (hT 0)
      · have hkm : decide ((k : Int) < (m : Int)) = false := decide_eq_false (by omega)
        go_wp2
        go_region
        go_wp2
        obtain ⟨⟨q0, q1⟩, hT⟩ := HK.out.told (e := z) (by rw [HZ.out]) (r := []) (Av := none) ⟨rfl, fun h => absurd h (by simp)⟩ (fun h => absurd h (by simp))
        rw [HT.out]
        generalize ((wr.setCell ⟨w.heap.size + 1, 0, none⟩ (.slice A n c)).setCell ⟨w.heap.size + 1, 1, none⟩ (.int .i64 (z : Int))).drew = W at q0 q1 hT ⊢
        exact bodyPost_ret (v := .tuple #[.slice none 0 0, .agg #[.slice A n c, .int .i64 (z : Int)]]) (by simp [results, Tryd.results25, go_sem, q0, q1]) rfl (hT 0)
end Go.Proofs.YtpfcfmpfommfaaaDoor
