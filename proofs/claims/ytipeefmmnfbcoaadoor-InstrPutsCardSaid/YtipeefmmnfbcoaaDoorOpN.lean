/-
  What ops.named yields: each instruction, and its name. Conditions: each round keeps the iterators that there are.
-/
import Derived.RangeFuncNested
import Derived.RangeFuncBound
import Derived.RangeFuncCalls
import Derived.RangeFuncLeaves
import Derived.Shelf.Abstract
import Derived.Shelf.RegionOpen
import Derived.OwnWalkIn
import Derived.TacticsInMore
import Derived.LoopNIn
import Derived.LoopIn
import Derived.WalkSmall
import Derived.Lib.OthersKept
import Derived.Test.YtipeefmmnfbcoaaDoorOpScan
namespace Go.Proofs.YtipeefmmnfbcoaaDoor
open Go.RowKit Go.Shelf

attribute [local go_sem] Oper.semAt_some

def encN (x : Nat × ByteArray) : Array Value := #[.int .i64 (x.1 : Int), .string x.2]

/-- Between two rounds. -/
def NmRel (it : Nat) (J : List (Nat × ByteArray) → World → Prop) (o f : Value) (wr : World) : Prop :=
  ∃ (p : Nat) (x : Op.Scan), p ≤ 176 ∧ Op.scan Op.list 44 p = x ∧ o = .int .i64 (x.k : Int) ∧ f = .int .i64 (x.start : Int) ∧ J x.told wr ∧ wr.heap[it]? = some (.stringIter Op.list p)

theorem abides_iter {β : Type} {B : Nat} {J : β → World → Prop} (h : AbidesFrom B J) {s : β} {W : World} (hJ : J s W) {k : Nat} {t : ByteArray} {p : Nat} (hk : W.heap[k]? = some (.stringIter t p)) (hB : B ≤ k) (q : Nat) : J s (W.iterAt k t q) :=
  h s W (W.iterAt k t q) (some k) hJ ⟨rfl, rfl, rfl, by rw [Lib.iterAt_size]; exact Nat.le_refl _, fun i _ hi => Lib.iterAt_other W k i t q (fun e => hi (by rw [e]))⟩ (fun r e => by cases e; exact ⟨hB, _, hk, rfl⟩)
theorem abides_alloc {β : Type} {B : Nat} {J : β → World → Prop} (h : AbidesFrom B J) {s : β} {W : World} (hJ : J s W) (o : Obj) : J s (W.alloc o) :=
  h s W _ none hJ (World.grownBy_alloc W o none) (fun r e => by cases e)

set_option maxRecDepth 100000 in
set_option maxHeartbeats 4000000 in
theorem named_in (n : Nat) (hn : 1 ≤ n) (l : Nat) (J Jx : List (Nat × ByteArray) → World → Prop) (B : Nat) (hJ : AbidesFrom B J)
    (hY : ∀ pre x W, J pre W → pre.length < 35 → YieldAt Fence.wide (n - 1) Tryd.prog l (encN x) W fun e W' =>
      (e = .returned (.bool true) ∧ J (pre ++ [x]) W' ∧ KeepsWalks W W') ∨ (e = .returned (.bool false) ∧ Jx (pre ++ [x]) W'))
    (W : World) (hB : B ≤ W.heap.size) (h0 : J [] W) :
    CallsIn Fence.wide n Tryd.prog 61 #[.func (.yield l) #[] #[]] W fun e W' => (∃ v, e = .returned v) ∧
      ((∃ ys, ys = Op.all ∧ J ys W') ∨ (∃ pre, pre <+: Op.all ∧ Jx pre W')) := by
  have HY := Lib.hid hY
  have HJ := Lib.hid hJ
  have HB := Lib.hid hB
  clear hY hJ hB
  have hsz : Op.list.size = 176 := Op.list_size
  refine callsIn_of_wp Tryd.func61 rfl trivial ?_ rfl
  simp only [Tryd.ntmps61, List.size_toArray, List.length_cons, List.length_nil, Nat.reduceAdd, Nat.reduceSub, Array.replicate_succ, Array.replicate_zero, List.push_toArray, List.append_toArray, List.nil_append, List.cons_append]
  unfold Tryd.f61
  rw [Op.lit_list]
  gi_wp2
  gi_loopw [2, 3] (NmRel W.heap.size J) (fun _ _ wr => 176 - wr.iterPos W.heap.size)
  case atStart => exact ⟨0, _, by omega, rfl, rfl, rfl, abides_alloc HJ.out h0 _, World.iter_heap _ _ _⟩
  case round =>
    obtain ⟨p, x, hp, hx, rfl, rfl, hJr, hit⟩ := hrel
    obtain ⟨hs1, hs2, hs3, hs4⟩ := Op.scan_le Op.list 44 p
    have HPR := Lib.hid fun (q : Nat) (h : p ≤ q) => Op.scan_prefix Op.list 44 p q h
    have HHit := Lib.hid (Op.scan_hit (s := Op.list) (c := 44) (p := p))
    have HMiss := Lib.hid (Op.scan_miss (s := Op.list) (c := 44) (p := p))
    rw [hx] at hs1 hs2 hs3 hs4 HPR HHit HMiss
    have HX := Lib.hid hx
    have HS3 := Lib.hid hs3
    clear hx hs4 hs3
    obtain ⟨k, st, told⟩ := x
    dsimp only at hs1 hs2 HS3 HPR HHit HMiss hJr ⊢
    by_cases hlt : p < 176
    · have hnx := fun ty => Lib.run_next_ascii_at (P := Tryd.prog) wr W.heap.size Op.list p ty hit (by omega) (by rw [Op.byte_eq]; exact Op.list_ascii p hlt)
      have HI2 := Lib.hid (Lib.iterAt_heap wr W.heap.size Op.list p (p + 1) hit)
      have HJ2 := Lib.hid (abides_iter HJ.out hJr hit HB.out (p + 1))
      have HM : Hid (wr.iterPos W.heap.size = p) := Lib.hid (iterPos_of hit)
      generalize wr.iterAt W.heap.size Op.list (p + 1) = w2 at *
      clear hit hJr
      have hby := Op.byte_eq Op.list p (by omega)
      rw [hby] at hnx
      clear hby
      obtain ⟨c, hc⟩ : ∃ c, Op.byte Op.list p = c := ⟨_, rfl⟩
      rw [hc] at hnx HHit HMiss
      clear hc
      by_cases h44 : c = 44
      · subst h44
        have HN := Lib.hid (HHit.out rfl)
        clear HHit HMiss
        have HPre : Hid (told ++ [(k, Op.list.extract st p)] <+: Op.all) := Lib.hid (by
          have := Op.scan_prefix Op.list 44 (p + 1) 176 (by omega)
          rw [HN.out, Op.list_all] at this
          exact this)
        obtain ⟨fn, tmps, assign, body, hy, hR⟩ := HY.out told (k, Op.list.extract st p) w2 HJ2.out (by
          have h1 := HPre.out.length_le
          have h2 : Op.all.length = 35 := by kernel_rfl
          rw [List.length_append, h2] at h1
          simp at h1
          omega)
        dsimp only [encN] at hy
        have hpi : (p : Int) ≤ 176 := by omega
        have hsi : (st : Int) ≤ (p : Int) := by omega
        gi_wp2
        refine hR.mono ?_
        rintro e W3 (⟨rfl, hJ3, hk3⟩ | ⟨rfl, hJx3⟩)
        · have HI3 := Lib.hid (hk3.same _ _ HI2.out rfl)
          have HJ3 := Lib.hid hJ3
          clear hk3 hJ3
          gi_wp2
          go_roundw
          case rel => exact ⟨p + 1, _, by omega, HN.out, by go_num, by go_num, HJ3.out, HI3.out⟩
          case measure => rw [iterPos_of HI3.out, HM.out]; omega
        · gi_wp2
          refine bodyPost_ret (results_none rfl _ _ _) rfl ?_
          exact ⟨⟨_, rfl⟩, .inr ⟨_, HPre.out, hJx3⟩⟩
      · have hd : ((c : Int) != 44) = true := by rw [bne_iff_ne]; omega
        have HN := Lib.hid (HMiss.out h44)
        clear HHit HMiss
        gi_wp2
        go_roundw
        case rel => exact ⟨p + 1, _, by omega, HN.out, rfl, rfl, HJ2.out, HI2.out⟩
        case measure => rw [iterPos_of HI2.out, HM.out]; omega
    · obtain rfl : p = 176 := by omega
      have hnx := fun ty => Lib.run_next_end_at (P := Tryd.prog) wr W.heap.size Op.list 176 ty hit (by omega)
      have HE : Hid (told = Op.all) := Lib.hid (by have := Op.list_all; rw [HX.out] at this; exact this)
      gi_wp2
      go_end0
      exact ⟨⟨_, rfl⟩, .inl ⟨told, HE.out, hJr⟩⟩

theorem named_stops (n : Nat) (hn : 1 ≤ n) (w : World) :
    SeqStopsK Fence.wide n Tryd.prog 61 #[] encN KeepsWalks (fun ys => ys = Op.all) (fun pre => pre <+: Op.all) 35 w :=
  fun l J Jx W _ hJ _ hY h0 => named_in n hn l J Jx W.heap.size hJ hY W (Nat.le_refl _) h0
end Go.Proofs.YtipeefmmnfbcoaaDoor
