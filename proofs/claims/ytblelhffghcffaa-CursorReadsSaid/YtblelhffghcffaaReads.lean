/-
  The walk of the law CursorReads: whatever calls take from whatever bytes, and where they stop, is what the document's cursor tells. Conditions: the bytes and the questions can be read.
-/
import Derived.Test.YtblelhffghcffaaReadsC
import Derived.Test.YtblelhffghcffaaLit61
namespace Go.Proofs.Ytblelhffghcffaa
open Go.RowKit

/-- What each operation of the call's statement yields. -/
def RdG (g : Nat) (s : List Nat × Nat) (Ad : Option Addr) (nd cd lb lo len cap k : Nat) (kk mm : Int) (x : RdX) : Nat → Value → Prop
  | 0, v => v = .pointer (some ⟨g, 0, none⟩)
  | 1, v => v = .agg #[.slice Ad nd cd, .int .i64 (s.2 : Int)]
  | 2, v => v = .slice (some ⟨lb, lo, none⟩) len cap
  | 3, v => v = .int .i64 (k : Int)
  | 4, v => v = .pointer (some ⟨lb, lo + k * 2, none⟩)
  | 5, v => v = .agg #[.int .i64 kk, .int .i64 mm]
  | 6, v | 7, v => v = .tuple #[.agg #[.slice x.A x.n x.c, .int .i64 (x.s.2 : Int)], .bool true]
  | 8, v => v = .agg #[.slice x.A x.n x.c, .int .i64 (x.s.2 : Int)]
  | 10, v => v = .pointer (some ⟨x.q, 0, none⟩)
  | 11, _ => True
  | _, v => v = .bool true

theorem rdg_mono {g : Nat} {s : List Nat × Nat} {Ad : Option Addr} {nd cd lb lo len cap k : Nat} {kk mm : Int} {x x' : RdX} {D : Nat → Bool} (h6 : D 6 = false) (h7 : D 7 = false) (h8 : D 8 = false) (hq : x'.q = x.q := by rfl) :
    ∀ j u, D j = true → RdG g s Ad nd cd lb lo len cap k kk mm x j u → RdG g s Ad nd cd lb lo len cap k kk mm x' j u
  | 0, _, _, h | 1, _, _, h | 2, _, _, h | 3, _, _, h | 4, _, _, h | 5, _, _, h | 9, _, _, h | 11, _, _, h => h
  | 6, _, hj, _ => by rw [h6] at hj; cases hj
  | 7, _, hj, _ => by rw [h7] at hj; cases hj
  | 8, _, hj, _ => by rw [h8] at hj; cases hj
  | 10, u, _, h => by
    have h' : u = .pointer (some ⟨x.q, 0, none⟩) := h
    show u = .pointer (some ⟨x'.q, 0, none⟩)
    rw [hq]
    exact h'
  | _ + 12, _, _, h => h
theorem rdg_alloc {g : Nat} {s : List Nat × Nat} {Ad : Option Addr} {nd cd lb lo len cap k : Nat} {kk mm : Int} {x : RdX} {q : Nat} {D : Nat → Bool} (h10 : D 10 = false) :
    ∀ j u, D j = true → RdG g s Ad nd cd lb lo len cap k kk mm x j u → RdG g s Ad nd cd lb lo len cap k kk mm ⟨x.s, x.A, x.n, x.c, q⟩ j u
  | 0, _, _, h | 1, _, _, h | 2, _, _, h | 3, _, _, h | 4, _, _, h | 5, _, _, h | 6, _, _, h | 7, _, _, h | 8, _, _, h | 9, _, _, h | 11, _, _, h => h
  | 10, _, hj, _ => by rw [h10] at hj; cases hj
  | _ + 12, _, _, h => h

/-- What each operation of the test yields. -/
def RdT (g p : Nat) (x : RdX) : Nat → Value → Prop
  | 0, v => v = .bool true
  | 1, v => v = .bool false
  | 2, v => v = .bool false
  | 3, v => v = .pointer (some ⟨g, 0, none⟩)
  | 4, v => v = .int .i64 (x.s.2 : Int)
  | 5, v => v = .pointer (some ⟨p, 1, none⟩)
  | 6, v => v = .int .i64 (x.s.2 : Int)
  | 7, v => v = .bool false
  | 8, v => v = .bool false
  | 9, v => v = .bool false
  | 10, v => v = .pointer (some ⟨g, 0, none⟩)
  | 11, v => v = .int .i64 (x.s.1.length : Int)
  | 12, v => v = .agg #[.slice x.A x.n x.c, .int .i64 (x.s.2 : Int)]
  | 13, v => v = .int .i64 (x.s.1.length : Int)
  | 14, v => v = .bool false
  | 15, v => v = .bool false
  | 16, v => v = .bool false
  | 17, v => v = .pointer (some ⟨g, 0, none⟩)
  | 18, v => v = .int .i64 (endA x.s : Int)
  | 19, v => v = .agg #[.slice x.A x.n x.c, .int .i64 (x.s.2 : Int)]
  | 20, v => v = .int .i64 (endA x.s : Int)
  | 21, v => v = .bool false
  | _, v => v = .bool false

set_option maxHeartbeats 4000000 in
set_option maxRecDepth 100000 in
theorem reads_walk (A : Option Addr) (n c : Nat) (l : List Nat) (L : Option Addr) (len cap : Nat) (w0 : World) (hb : BytesAt w0 w0.heap.size A n l) (hnc : n ≤ c) (hn : n ≤ 140737488355328) (hcc : c ≤ 9223372036854775807) (ha : AsksAt w0 L len) (hlen : len ≤ 9223372036854775807) :
    Calls Try.prog 3 #[.slice A n c, .slice L len cap] w0 fun e w' => e = .returned (.bool true) ∧ Below w0.heap.size w0 w' := by
  have HN := Lib.hid (new_any A n c l w0 hb hn)
  have HA := Lib.hid ha
  have HB := Lib.hid hb
  clear ha hb
  go_enter Try.func3, Try.ntmps3
  go_wp2_with fail
  refine HN.out.mono ?_
  rintro e w1 ⟨g, rfl, hg, hc, hbl⟩
  have hs1 : RdRel w0 g w1.heap.size len (.int .i64 0) (w1.alloc (.cells #[.slice A n c, .int .i64 0] 28)) := rd_start HB.out hnc hcc hc hbl
  have HS := Lib.hid hs1
  have hgp : g < w1.heap.size := hc.lt
  clear hc hbl hs1 HN HB hn
  go_wp2
  go_loopw [7] (fun i W => RdRel w0 g w1.heap.size len i W) (fun i _ => 40 - (intOf i).toNat)
  case atStart => exact HS.out
  case round =>
    clear HS
    generalize w1.heap.size = p at *
    obtain ⟨k, s, Ad, nd, cd, rfl, hk1, hk2, hR⟩ := hrel
    have HR := Lib.hid hR
    clear hR
    by_cases hlt : k < len ∧ k < 40
    · obtain ⟨hlt, hlt40⟩ := hlt
      obtain ⟨lb, lo, rfl, hlb, hask⟩ := HA.out (by omega)
      obtain ⟨kk, mm, q0, q1, hm1, hm2⟩ := hask k hlt
      clear hask
      go_wp2
      refine region_g (⟨s, Ad, nd, cd, 0⟩ : RdX) 61 [(0, .slice A n c), (1, .slice (some ⟨lb, lo, none⟩) len cap), (2, undef), (3, undef), (5, .pointer (some ⟨g, 0, none⟩)), (6, .pointer (some ⟨p, 0, none⟩)), (7, .int .i64 (k : Int)), (10, .slice A n c), (11, .pointer (some ⟨g, 0, none⟩)), (12, .slice A n c), (13, .agg #[.slice A n c, .int .i64 0]), (14, .pointer (some ⟨g, 0, none⟩)), (15, .bool false), (60, undef)] (RdC w0 g p s Ad nd cd) (RdG g s Ad nd cd lb lo len cap k kk mm) (by kernel_rfl) (by kernel_rfl) (by kernel_rfl) rfl rfl (by intro p hp; simp only [List.mem_cons, List.not_mem_nil, or_false] at hp; rcases hp with rfl | rfl | rfl | rfl | rfl | rfl | rfl | rfl | rfl | rfl | rfl | rfl | rfl | rfl <;> rfl) (rd_before HR.out hg hgp) ?_ ?_
      · refine ⟨?_, ?_, ?_, ?_, ?_, ?_, ?_, ?_, ?_, ?_, ?_, ?_, ?_, trivial⟩
        · intro x D a w hI hdep hD0 K hK
          have e5 : a.eval (.tmp 5) = .pointer (some ⟨g, 0, none⟩) := hI.fast (5, .pointer (some ⟨g, 0, none⟩)) (by simp)
          refine ok_value (wanted_none rfl) (v := .pointer (some ⟨g, 0, none⟩)) ?_ (hK x _ _ (hI.world.up rfl rfl rfl) (fun _ _ _ h => h) rfl)
          have ec : ∀ c, a.eval (.const c) = c := fun _ => rfl
          have ef : ∀ f, a.eval (.func f) = .func (.func f) #[] #[] := fun _ => rfl
          clear hI hdep hK
          generalize a.eval = ρ at e5 ec ef ⊢
          go_simp
        · intro x D a w hI hdep hD0 K hK
          have e6 : a.eval (.tmp 6) = .pointer (some ⟨p, 0, none⟩) := hI.fast (6, .pointer (some ⟨p, 0, none⟩)) (by simp)
          have x0 := hI.world.two.c0
          have x1 := hI.world.two.c1
          refine ok_value (wanted_none rfl) (v := .agg #[.slice Ad nd cd, .int .i64 (s.2 : Int)]) ?_ (hK x _ _ (hI.world.up rfl rfl rfl) (fun _ _ _ h => h) rfl)
          have ec : ∀ c, a.eval (.const c) = c := fun _ => rfl
          have ef : ∀ f, a.eval (.func f) = .func (.func f) #[] #[] := fun _ => rfl
          clear hI hdep hK
          generalize a.eval = ρ at e6 ec ef ⊢
          go_simp
        · intro x D a w hI hdep hD0 K hK
          have e1 : a.eval (.tmp 1) = .slice (some ⟨lb, lo, none⟩) len cap := hI.fast (1, .slice (some ⟨lb, lo, none⟩) len cap) (by simp)
          refine ok_value (wanted_none rfl) (v := .slice (some ⟨lb, lo, none⟩) len cap) ?_ (hK x _ _ (hI.world.up rfl rfl rfl) (fun _ _ _ h => h) rfl)
          have ec : ∀ c, a.eval (.const c) = c := fun _ => rfl
          have ef : ∀ f, a.eval (.func f) = .func (.func f) #[] #[] := fun _ => rfl
          clear hI hdep hK
          generalize a.eval = ρ at e1 ec ef ⊢
          go_simp
        · intro x D a w hI hdep hD0 K hK
          have e7 : a.eval (.tmp 7) = .int .i64 (k : Int) := hI.fast (7, .int .i64 (k : Int)) (by simp)
          refine ok_value (wanted_none rfl) (v := .int .i64 (k : Int)) ?_ (hK x _ _ (hI.world.up rfl rfl rfl) (fun _ _ _ h => h) rfl)
          have ec : ∀ c, a.eval (.const c) = c := fun _ => rfl
          have ef : ∀ f, a.eval (.func f) = .func (.func f) #[] #[] := fun _ => rfl
          clear hI hdep hK
          generalize a.eval = ρ at e7 ec ef ⊢
          go_simp
        · intro x D a w hI hdep hD0 K hK
          have e29 : a.eval (.tmp 29) = .slice (some ⟨lb, lo, none⟩) len cap := hI.good 2 29 (dep_of hdep 2 rfl) rfl
          have e30 : a.eval (.tmp 30) = .int .i64 (k : Int) := hI.good 3 30 (dep_of hdep 3 rfl) rfl
          refine ok_value (wanted_none rfl) (v := .pointer (some ⟨lb, lo + k * 2, none⟩)) ?_ (hK x _ _ (hI.world.up rfl rfl rfl) (fun _ _ _ h => h) rfl)
          have ec : ∀ c, a.eval (.const c) = c := fun _ => rfl
          have ef : ∀ f, a.eval (.func f) = .func (.func f) #[] #[] := fun _ => rfl
          clear hI hdep hK
          generalize a.eval = ρ at e29 e30 ec ef ⊢
          go_simp
        · intro x D a w hI hdep hD0 K hK
          have e31 : a.eval (.tmp 31) = .pointer (some ⟨lb, lo + k * 2, none⟩) := hI.good 4 31 (dep_of hdep 4 rfl) rfl
          have x0 := (hI.world.row.cell (p := ⟨lb, lo + k * 2, none⟩) hlb).trans q0
          have x1 := (hI.world.row.cell (p := ⟨lb, lo + k * 2 + 1, none⟩) hlb).trans q1
          refine ok_value (wanted_none rfl) (v := .agg #[.int .i64 kk, .int .i64 mm]) ?_ (hK x _ _ (hI.world.up rfl rfl rfl) (fun _ _ _ h => h) rfl)
          have ec : ∀ c, a.eval (.const c) = c := fun _ => rfl
          have ef : ∀ f, a.eval (.func f) = .func (.func f) #[] #[] := fun _ => rfl
          clear hI hdep hK
          generalize a.eval = ρ at e31 ec ef ⊢
          go_simp
        · intro x D a w hI hdep hD0 K hK
          have e27 : a.eval (.tmp 27) = .pointer (some ⟨g, 0, none⟩) := hI.good 0 27 (dep_of hdep 0 rfl) rfl
          have e28 : a.eval (.tmp 28) = .agg #[.slice Ad nd cd, .int .i64 (s.2 : Int)] := hI.good 1 28 (dep_of hdep 1 rfl) rfl
          have e32 : a.eval (.tmp 32) = .agg #[.int .i64 kk, .int .i64 mm] := hI.good 5 32 (dep_of hdep 5 rfl) rfl
          refine ok_call (wanted_none rfl) (f := 7) (args := #[.pointer (some ⟨g, 0, none⟩), .agg #[.slice Ad nd cd, .int .i64 (s.2 : Int)], .agg #[.int .i64 kk, .int .i64 mm]]) ?_ (one_any g Ad nd cd w0.heap.size s kk mm w (hI.world.curB hD0) (hI.world.datB hD0) hI.world.bg hm1 hm2) ?_
          · have ec : ∀ c, a.eval (.const c) = c := fun _ => rfl
            have ef : ∀ f, a.eval (.func f) = .func (.func f) #[] #[] := fun _ => rfl
            clear hI hdep hK
            generalize a.eval = ρ at e27 e28 e32 ec ef ⊢
            go_simp
          · rintro e w2 ⟨s', A', n', c', rfl, hc2, hd2, hg2⟩
            refine ⟨_, rfl, hK ⟨s', A', n', c', x.q⟩ _ _ (hI.world.called hc2 hd2 hg2 (hI.not_up hD0 11 rfl)) ?_ rfl⟩
            exact rdg_mono hD0 (hI.not_up hD0 7 rfl) (hI.not_up (hI.not_up hD0 7 rfl) 8 rfl)
        · intro x D a w hI hdep hD0 K hK
          have e33 : a.eval (.tmp 33) = .tuple #[.agg #[.slice x.A x.n x.c, .int .i64 (x.s.2 : Int)], .bool true] := hI.good 6 33 (dep_of hdep 6 rfl) rfl
          refine ok_value (wanted_none rfl) (v := .tuple #[.agg #[.slice x.A x.n x.c, .int .i64 (x.s.2 : Int)], .bool true]) ?_ (hK x _ _ (hI.world.up rfl rfl rfl) (fun _ _ _ h => h) rfl)
          have ec : ∀ c, a.eval (.const c) = c := fun _ => rfl
          have ef : ∀ f, a.eval (.func f) = .func (.func f) #[] #[] := fun _ => rfl
          clear hI hdep hK
          generalize a.eval = ρ at e33 ec ef ⊢
          go_simp
        · intro x D a w hI hdep hD0 K hK
          have e26 : a.eval (.tmp 26) = .tuple #[.agg #[.slice x.A x.n x.c, .int .i64 (x.s.2 : Int)], .bool true] := hI.good 7 26 (dep_of hdep 7 rfl) rfl
          refine ok_value (wanted_none rfl) (v := .agg #[.slice x.A x.n x.c, .int .i64 (x.s.2 : Int)]) ?_ (hK x _ _ (hI.world.up rfl rfl rfl) (fun _ _ _ h => h) rfl)
          have ec : ∀ c, a.eval (.const c) = c := fun _ => rfl
          have ef : ∀ f, a.eval (.func f) = .func (.func f) #[] #[] := fun _ => rfl
          clear hI hdep hK
          generalize a.eval = ρ at e26 ec ef ⊢
          go_simp
        · intro x D a w hI hdep hD0 K hK
          have e26 : a.eval (.tmp 26) = .tuple #[.agg #[.slice x.A x.n x.c, .int .i64 (x.s.2 : Int)], .bool true] := hI.good 7 26 (dep_of hdep 7 rfl) rfl
          refine ok_value (wanted_none rfl) (v := .bool true) ?_ (hK x _ _ (hI.world.up rfl rfl rfl) (fun _ _ _ h => h) rfl)
          have ec : ∀ c, a.eval (.const c) = c := fun _ => rfl
          have ef : ∀ f, a.eval (.func f) = .func (.func f) #[] #[] := fun _ => rfl
          clear hI hdep hK
          generalize a.eval = ρ at e26 ec ef ⊢
          go_simp
        · intro x D a w hI hdep hD0 K hK
          refine ok_new (wanted_none rfl) (v := .pointer (some ⟨w.heap.size, 0, none⟩)) (w' := w.alloc (.cells #[.slice none 0 0, .int .i64 0] 28)) (by go_simp) ?_
          exact hK ⟨x.s, x.A, x.n, x.c, w.heap.size⟩ _ _ (hI.world.alloced (hI.not_up hD0 11 rfl)) (rdg_alloc hD0) rfl
        · intro x D a w hI hdep hD0 K hK
          have e34 : a.eval (.tmp 34) = .agg #[.slice x.A x.n x.c, .int .i64 (x.s.2 : Int)] := hI.good 8 34 (dep_of hdep 8 rfl) rfl
          have e8 : a.eval (.tmp 8) = .pointer (some ⟨x.q, 0, none⟩) := hI.good 10 8 (dep_of hdep 10 rfl) rfl
          obtain ⟨u, v, ht, _⟩ := hI.world.new (dep_of hdep 10 rfl)
          have x0 := ht.c0
          have x1 := ht.c1
          have g0 := ht.f 0
          have g1 := ht.f 1
          refine ok_store (wanted_none rfl) (w' := (w.setCell ⟨x.q, 0, none⟩ (.slice x.A x.n x.c)).setCell ⟨x.q, 1, none⟩ (.int .i64 (x.s.2 : Int))) ?_ (hK x _ _ (hI.world.stored (dep_of hdep 10 rfl)) (fun _ _ _ h => h) trivial)
          have ec : ∀ c, a.eval (.const c) = c := fun _ => rfl
          have ef : ∀ f, a.eval (.func f) = .func (.func f) #[] #[] := fun _ => rfl
          clear hI hdep hK
          generalize a.eval = ρ at e34 e8 ec ef ⊢
          go_simp
        · intro x D a w hI hdep hD0 K hK
          have e35 : a.eval (.tmp 35) = .bool true := hI.good 9 35 (dep_of hdep 9 rfl) rfl
          refine ok_value (wanted_none rfl) (v := .bool true) ?_ (hK x _ _ (hI.world.up rfl rfl rfl) (fun _ _ _ h => h) rfl)
          have ec : ∀ c, a.eval (.const c) = c := fun _ => rfl
          have ef : ∀ f, a.eval (.func f) = .func (.func f) #[] #[] := fun _ => rfl
          clear hI hdep hK
          generalize a.eval = ρ at e35 ec ef ⊢
          go_simp
      · intro x D a w2 hI hD
        have f0 : a.eval (.tmp 0) = .slice A n c := hI.fast (0, .slice A n c) (by simp)
        have f1 : a.eval (.tmp 1) = .slice (some ⟨lb, lo, none⟩) len cap := hI.fast (1, .slice (some ⟨lb, lo, none⟩) len cap) (by simp)
        have f2 : a.eval (.tmp 2) = undef := hI.fast (2, undef) (by simp)
        have f3 : a.eval (.tmp 3) = undef := hI.fast (3, undef) (by simp)
        have f5 : a.eval (.tmp 5) = .pointer (some ⟨g, 0, none⟩) := hI.fast (5, .pointer (some ⟨g, 0, none⟩)) (by simp)
        have f6 : a.eval (.tmp 6) = .pointer (some ⟨p, 0, none⟩) := hI.fast (6, .pointer (some ⟨p, 0, none⟩)) (by simp)
        have f7 : a.eval (.tmp 7) = .int .i64 (k : Int) := hI.fast (7, .int .i64 (k : Int)) (by simp)
        have f8 : a.eval (.tmp 8) = .pointer (some ⟨x.q, 0, none⟩) := hI.good 10 8 (hD 10 (by decide)) rfl
        have f9 : a.eval (.tmp 9) = .bool true := hI.good 12 9 (hD 12 (by decide)) rfl
        have f10 : a.eval (.tmp 10) = .slice A n c := hI.fast (10, .slice A n c) (by simp)
        have f11 : a.eval (.tmp 11) = .pointer (some ⟨g, 0, none⟩) := hI.fast (11, .pointer (some ⟨g, 0, none⟩)) (by simp)
        have f12 : a.eval (.tmp 12) = .slice A n c := hI.fast (12, .slice A n c) (by simp)
        have f13 : a.eval (.tmp 13) = .agg #[.slice A n c, .int .i64 0] := hI.fast (13, .agg #[.slice A n c, .int .i64 0]) (by simp)
        have f14 : a.eval (.tmp 14) = .pointer (some ⟨g, 0, none⟩) := hI.fast (14, .pointer (some ⟨g, 0, none⟩)) (by simp)
        have f15 : a.eval (.tmp 15) = .bool false := hI.fast (15, .bool false) (by simp)
        have f26 : a.eval (.tmp 26) = .tuple #[.agg #[.slice x.A x.n x.c, .int .i64 (x.s.2 : Int)], .bool true] := hI.good 7 26 (hD 7 (by decide)) rfl
        have f27 : a.eval (.tmp 27) = .pointer (some ⟨g, 0, none⟩) := hI.good 0 27 (hD 0 (by decide)) rfl
        have f28 : a.eval (.tmp 28) = .agg #[.slice Ad nd cd, .int .i64 (s.2 : Int)] := hI.good 1 28 (hD 1 (by decide)) rfl
        have f29 : a.eval (.tmp 29) = .slice (some ⟨lb, lo, none⟩) len cap := hI.good 2 29 (hD 2 (by decide)) rfl
        have f30 : a.eval (.tmp 30) = .int .i64 (k : Int) := hI.good 3 30 (hD 3 (by decide)) rfl
        have f31 : a.eval (.tmp 31) = .pointer (some ⟨lb, lo + k * 2, none⟩) := hI.good 4 31 (hD 4 (by decide)) rfl
        have f32 : a.eval (.tmp 32) = .agg #[.int .i64 kk, .int .i64 mm] := hI.good 5 32 (hD 5 (by decide)) rfl
        have f33 : a.eval (.tmp 33) = .tuple #[.agg #[.slice x.A x.n x.c, .int .i64 (x.s.2 : Int)], .bool true] := hI.good 6 33 (hD 6 (by decide)) rfl
        have f34 : a.eval (.tmp 34) = .agg #[.slice x.A x.n x.c, .int .i64 (x.s.2 : Int)] := hI.good 8 34 (hD 8 (by decide)) rfl
        have f35 : a.eval (.tmp 35) = .bool true := hI.good 9 35 (hD 9 (by decide)) rfl
        have f60 : a.eval (.tmp 60) = undef := hI.fast (60, undef) (by simp)
        have hsz := hI.size
        have hdf := hI.defers
        have hW := hI.world
        obtain ⟨tmps, defers⟩ := a
        simp only at hdf
        subst hdf
        have hl := lit61 tmps hsz
        rw [show tmps.getD 0 undef = _ from f0, show tmps.getD 1 undef = _ from f1, show tmps.getD 2 undef = _ from f2, show tmps.getD 3 undef = _ from f3, show tmps.getD 5 undef = _ from f5, show tmps.getD 6 undef = _ from f6, show tmps.getD 7 undef = _ from f7, show tmps.getD 8 undef = _ from f8, show tmps.getD 9 undef = _ from f9, show tmps.getD 10 undef = _ from f10, show tmps.getD 11 undef = _ from f11, show tmps.getD 12 undef = _ from f12, show tmps.getD 13 undef = _ from f13, show tmps.getD 14 undef = _ from f14, show tmps.getD 15 undef = _ from f15, show tmps.getD 26 undef = _ from f26, show tmps.getD 27 undef = _ from f27, show tmps.getD 28 undef = _ from f28, show tmps.getD 29 undef = _ from f29, show tmps.getD 30 undef = _ from f30, show tmps.getD 31 undef = _ from f31, show tmps.getD 32 undef = _ from f32, show tmps.getD 33 undef = _ from f33, show tmps.getD 34 undef = _ from f34, show tmps.getD 35 undef = _ from f35, show tmps.getD 60 undef = _ from f60] at hl
        clear f0 f1 f2 f3 f5 f6 f7 f8 f9 f10 f11 f12 f13 f14 f15 f26 f27 f28 f29 f30 f31 f32 f33 f34 f35 f60 hI hsz
        generalize tmps.getD 4 undef = y4 at hl
        generalize tmps.getD 16 undef = y16 at hl
        generalize tmps.getD 17 undef = y17 at hl
        generalize tmps.getD 18 undef = y18 at hl
        generalize tmps.getD 19 undef = y19 at hl
        generalize tmps.getD 20 undef = y20 at hl
        generalize tmps.getD 21 undef = y21 at hl
        generalize tmps.getD 22 undef = y22 at hl
        generalize tmps.getD 23 undef = y23 at hl
        generalize tmps.getD 24 undef = y24 at hl
        generalize tmps.getD 25 undef = y25 at hl
        generalize tmps.getD 36 undef = y36 at hl
        generalize tmps.getD 37 undef = y37 at hl
        generalize tmps.getD 38 undef = y38 at hl
        generalize tmps.getD 39 undef = y39 at hl
        generalize tmps.getD 40 undef = y40 at hl
        generalize tmps.getD 41 undef = y41 at hl
        generalize tmps.getD 42 undef = y42 at hl
        generalize tmps.getD 43 undef = y43 at hl
        generalize tmps.getD 44 undef = y44 at hl
        generalize tmps.getD 45 undef = y45 at hl
        generalize tmps.getD 46 undef = y46 at hl
        generalize tmps.getD 47 undef = y47 at hl
        generalize tmps.getD 48 undef = y48 at hl
        generalize tmps.getD 49 undef = y49 at hl
        generalize tmps.getD 50 undef = y50 at hl
        generalize tmps.getD 51 undef = y51 at hl
        generalize tmps.getD 52 undef = y52 at hl
        generalize tmps.getD 53 undef = y53 at hl
        generalize tmps.getD 54 undef = y54 at hl
        generalize tmps.getD 55 undef = y55 at hl
        generalize tmps.getD 56 undef = y56 at hl
        generalize tmps.getD 57 undef = y57 at hl
        generalize tmps.getD 58 undef = y58 at hl
        generalize tmps.getD 59 undef = y59 at hl
        subst hl
        obtain ⟨hcur, hdat, zt, ht, hrow⟩ := hW.all (hD 6 (by decide)) (hD 10 (by decide)) (hD 11 (by decide))
        have x0 := zt.c0
        have x1 := zt.c1
        have v0 := ht.c0
        have v1 := ht.c1
        have g0 := ht.f 0
        have g1 := ht.f 1
        have HT := Lib.hid (rd_test hcur hdat ht hrow hg hgp)
        clear hW hD hcur hdat zt ht hrow HR q0 q1 HA
        go_wp2
        refine region_d 61 [(0, .slice A n c), (1, .slice (some ⟨lb, lo, none⟩) len cap), (2, undef), (3, undef), (5, .pointer (some ⟨g, 0, none⟩)), (6, .pointer (some ⟨p, 0, none⟩)), (7, .int .i64 (k : Int)), (10, .slice A n c), (11, .pointer (some ⟨g, 0, none⟩)), (12, .slice A n c), (13, .agg #[.slice A n c, .int .i64 0]), (14, .pointer (some ⟨g, 0, none⟩)), (15, .bool false), (60, undef), (9, .bool true)] (fun _ W => RdK w0 g p x W) (RdT g p x) (by kernel_rfl) (by kernel_rfl) (by kernel_rfl) rfl rfl (by intro p hp; simp only [List.mem_cons, List.not_mem_nil, or_false] at hp; rcases hp with rfl | rfl | rfl | rfl | rfl | rfl | rfl | rfl | rfl | rfl | rfl | rfl | rfl | rfl | rfl <;> rfl) HT.out.drew ?_ ?_
        · refine ⟨?_, ?_, ?_, ?_, ?_, ?_, ?_, ?_, ?_, ?_, ?_, ?_, ?_, ?_, ?_, ?_, ?_, ?_, ?_, ?_, ?_, ?_, ?_, trivial⟩
          · intro D a w hI hdep hD0 K hK
            have e9 : a.eval (.tmp 9) = .bool true := hI.fast (9, .bool true) (by simp)
            refine ok_value (wanted_none rfl) (v := .bool true) ?_ (hK _ _ (hI.world) rfl)
            have ec : ∀ c, a.eval (.const c) = c := fun _ => rfl
            have ef : ∀ f, a.eval (.func f) = .func (.func f) #[] #[] := fun _ => rfl
            clear hI hdep hK
            generalize a.eval = ρ at e9 ec ef ⊢
            go_simp
          · intro D a w hI hdep hD0 K hK
            have e37 : a.eval (.tmp 37) = .bool true := hI.good 0 37 (dep_of hdep 0 rfl) rfl
            refine ok_value (wanted_none rfl) (v := .bool false) ?_ (hK _ _ (hI.world) rfl)
            have ec : ∀ c, a.eval (.const c) = c := fun _ => rfl
            have ef : ∀ f, a.eval (.func f) = .func (.func f) #[] #[] := fun _ => rfl
            clear hI hdep hK
            generalize a.eval = ρ at e37 ec ef ⊢
            go_simp
          · intro D a w hI hdep hD0 K hK
            have e38 : a.eval (.tmp 38) = .bool false := hI.good 1 38 (dep_of hdep 1 rfl) rfl
            refine ok_value (wanted_none rfl) (v := .bool false) ?_ (hK _ _ (hI.world) rfl)
            have ec : ∀ c, a.eval (.const c) = c := fun _ => rfl
            have ef : ∀ f, a.eval (.func f) = .func (.func f) #[] #[] := fun _ => rfl
            clear hI hdep hK
            generalize a.eval = ρ at e38 ec ef ⊢
            go_simp
          · intro D a w hI hdep hD0 K hK
            have eg : a.eval (.tmp 39) = .bool false := hI.good 2 39 (dep_of hdep 2 rfl) rfl
            have e5 : a.eval (.tmp 5) = .pointer (some ⟨g, 0, none⟩) := hI.fast (5, .pointer (some ⟨g, 0, none⟩)) (by simp)
            refine ok_value (wanted_is rfl rfl hI.size (by decide) eg) (v := .pointer (some ⟨g, 0, none⟩)) ?_ (hK _ _ (hI.world) rfl)
            have ec : ∀ c, a.eval (.const c) = c := fun _ => rfl
            have ef : ∀ f, a.eval (.func f) = .func (.func f) #[] #[] := fun _ => rfl
            clear hI hdep hK
            generalize a.eval = ρ at eg e5 ec ef ⊢
            go_simp
          · intro D a w hI hdep hD0 K hK
            have eg : a.eval (.tmp 39) = .bool false := hI.good 2 39 (dep_of hdep 2 rfl) rfl
            have e40 : a.eval (.tmp 40) = .pointer (some ⟨g, 0, none⟩) := hI.good 3 40 (dep_of hdep 3 rfl) rfl
            refine ok_call (wanted_is rfl rfl hI.size (by decide) eg) (f := 8) (args := #[.pointer (some ⟨g, 0, none⟩)]) ?_ (err_any (some ⟨g, 0, none⟩) x.s w (.inr ⟨g, rfl, hI.world.cur⟩)) ?_
            · have ec : ∀ c, a.eval (.const c) = c := fun _ => rfl
              have ef : ∀ f, a.eval (.func f) = .func (.func f) #[] #[] := fun _ => rfl
              clear hI hdep hK
              generalize a.eval = ρ at eg e40 ec ef ⊢
              go_simp
            · rintro e w2 ⟨rfl, ⟨_, rfl⟩ | ⟨hx, _⟩⟩
              · exact ⟨_, rfl, hK _ _ hI.world rfl⟩
              · cases hx
          · intro D a w hI hdep hD0 K hK
            have eg : a.eval (.tmp 39) = .bool false := hI.good 2 39 (dep_of hdep 2 rfl) rfl
            have e6 : a.eval (.tmp 6) = .pointer (some ⟨p, 0, none⟩) := hI.fast (6, .pointer (some ⟨p, 0, none⟩)) (by simp)
            refine ok_value (wanted_is rfl rfl hI.size (by decide) eg) (v := .pointer (some ⟨p, 1, none⟩)) ?_ (hK _ _ (hI.world) rfl)
            have ec : ∀ c, a.eval (.const c) = c := fun _ => rfl
            have ef : ∀ f, a.eval (.func f) = .func (.func f) #[] #[] := fun _ => rfl
            clear hI hdep hK
            generalize a.eval = ρ at eg e6 ec ef ⊢
            go_simp
          · intro D a w hI hdep hD0 K hK
            have eg : a.eval (.tmp 39) = .bool false := hI.good 2 39 (dep_of hdep 2 rfl) rfl
            have e42 : a.eval (.tmp 42) = .pointer (some ⟨p, 1, none⟩) := hI.good 5 42 (dep_of hdep 5 rfl) rfl
            have x0 := hI.world.two.c0
            have x1 := hI.world.two.c1
            refine ok_value (wanted_is rfl rfl hI.size (by decide) eg) (v := .int .i64 (x.s.2 : Int)) ?_ (hK _ _ hI.world rfl)
            have ec : ∀ c, a.eval (.const c) = c := fun _ => rfl
            have ef : ∀ f, a.eval (.func f) = .func (.func f) #[] #[] := fun _ => rfl
            clear hI hdep hK
            generalize a.eval = ρ at eg e42 ec ef ⊢
            go_simp
          · intro D a w hI hdep hD0 K hK
            have eg : a.eval (.tmp 39) = .bool false := hI.good 2 39 (dep_of hdep 2 rfl) rfl
            have e41 : a.eval (.tmp 41) = .int .i64 (x.s.2 : Int) := hI.good 4 41 (dep_of hdep 4 rfl) rfl
            have e43 : a.eval (.tmp 43) = .int .i64 (x.s.2 : Int) := hI.good 6 43 (dep_of hdep 6 rfl) rfl
            refine ok_value (wanted_is rfl rfl hI.size (by decide) eg) (v := .bool false) ?_ (hK _ _ (hI.world) rfl)
            have ec : ∀ c, a.eval (.const c) = c := fun _ => rfl
            have ef : ∀ f, a.eval (.func f) = .func (.func f) #[] #[] := fun _ => rfl
            clear hI hdep hK
            generalize a.eval = ρ at eg e41 e43 ec ef ⊢
            go_simp
          · intro D a w hI hdep hD0 K hK
            have e39 : a.eval (.tmp 39) = .bool false := hI.good 2 39 (dep_of hdep 2 rfl) rfl
            have e44 : a.eval (.tmp 44) = .bool false := hI.good 7 44 (dep_of hdep 7 rfl) rfl
            refine ok_value (wanted_none rfl) (v := .bool false) ?_ (hK _ _ (hI.world) rfl)
            have ec : ∀ c, a.eval (.const c) = c := fun _ => rfl
            have ef : ∀ f, a.eval (.func f) = .func (.func f) #[] #[] := fun _ => rfl
            clear hI hdep hK
            generalize a.eval = ρ at e39 e44 ec ef ⊢
            go_simp
          · intro D a w hI hdep hD0 K hK
            have e45 : a.eval (.tmp 45) = .bool false := hI.good 8 45 (dep_of hdep 8 rfl) rfl
            refine ok_value (wanted_none rfl) (v := .bool false) ?_ (hK _ _ (hI.world) rfl)
            have ec : ∀ c, a.eval (.const c) = c := fun _ => rfl
            have ef : ∀ f, a.eval (.func f) = .func (.func f) #[] #[] := fun _ => rfl
            clear hI hdep hK
            generalize a.eval = ρ at e45 ec ef ⊢
            go_simp
          · intro D a w hI hdep hD0 K hK
            have eg : a.eval (.tmp 46) = .bool false := hI.good 9 46 (dep_of hdep 9 rfl) rfl
            have e5 : a.eval (.tmp 5) = .pointer (some ⟨g, 0, none⟩) := hI.fast (5, .pointer (some ⟨g, 0, none⟩)) (by simp)
            refine ok_value (wanted_is rfl rfl hI.size (by decide) eg) (v := .pointer (some ⟨g, 0, none⟩)) ?_ (hK _ _ (hI.world) rfl)
            have ec : ∀ c, a.eval (.const c) = c := fun _ => rfl
            have ef : ∀ f, a.eval (.func f) = .func (.func f) #[] #[] := fun _ => rfl
            clear hI hdep hK
            generalize a.eval = ρ at eg e5 ec ef ⊢
            go_simp
          · intro D a w hI hdep hD0 K hK
            have eg : a.eval (.tmp 46) = .bool false := hI.good 9 46 (dep_of hdep 9 rfl) rfl
            have e47 : a.eval (.tmp 47) = .pointer (some ⟨g, 0, none⟩) := hI.good 10 47 (dep_of hdep 10 rfl) rfl
            refine ok_call (wanted_is rfl rfl hI.size (by decide) eg) (f := 9) (args := #[.pointer (some ⟨g, 0, none⟩)]) ?_ (left_any (some ⟨g, 0, none⟩) x.s w (.inr ⟨g, rfl, hI.world.cur⟩)) ?_
            · have ec : ∀ c, a.eval (.const c) = c := fun _ => rfl
              have ef : ∀ f, a.eval (.func f) = .func (.func f) #[] #[] := fun _ => rfl
              clear hI hdep hK
              generalize a.eval = ρ at eg e47 ec ef ⊢
              go_simp
            · rintro e w2 ⟨rfl, ⟨_, rfl⟩ | ⟨hx, _⟩⟩
              · exact ⟨_, rfl, hK _ _ hI.world rfl⟩
              · cases hx
          · intro D a w hI hdep hD0 K hK
            have eg : a.eval (.tmp 46) = .bool false := hI.good 9 46 (dep_of hdep 9 rfl) rfl
            have e6 : a.eval (.tmp 6) = .pointer (some ⟨p, 0, none⟩) := hI.fast (6, .pointer (some ⟨p, 0, none⟩)) (by simp)
            have x0 := hI.world.two.c0
            have x1 := hI.world.two.c1
            refine ok_value (wanted_is rfl rfl hI.size (by decide) eg) (v := .agg #[.slice x.A x.n x.c, .int .i64 (x.s.2 : Int)]) ?_ (hK _ _ hI.world rfl)
            have ec : ∀ c, a.eval (.const c) = c := fun _ => rfl
            have ef : ∀ f, a.eval (.func f) = .func (.func f) #[] #[] := fun _ => rfl
            clear hI hdep hK
            generalize a.eval = ρ at eg e6 ec ef ⊢
            go_simp
          · intro D a w hI hdep hD0 K hK
            have eg : a.eval (.tmp 46) = .bool false := hI.good 9 46 (dep_of hdep 9 rfl) rfl
            have e49 : a.eval (.tmp 49) = .agg #[.slice x.A x.n x.c, .int .i64 (x.s.2 : Int)] := hI.good 12 49 (dep_of hdep 12 rfl) rfl
            refine ok_call (wanted_is rfl rfl hI.size (by decide) eg) (f := 10) (args := #[.agg #[.slice x.A x.n x.c, .int .i64 (x.s.2 : Int)]]) ?_ (rLeft_any x.A x.n x.c w0.heap.size x.s w hI.world.dat hI.world.cur.nil) ?_
            · have ec : ∀ c, a.eval (.const c) = c := fun _ => rfl
              have ef : ∀ f, a.eval (.func f) = .func (.func f) #[] #[] := fun _ => rfl
              clear hI hdep hK
              generalize a.eval = ρ at eg e49 ec ef ⊢
              go_simp
            · rintro e w2 ⟨rfl, hbl⟩
              exact ⟨_, rfl, hK _ _ (hI.world.below hbl) rfl⟩
          · intro D a w hI hdep hD0 K hK
            have eg : a.eval (.tmp 46) = .bool false := hI.good 9 46 (dep_of hdep 9 rfl) rfl
            have e48 : a.eval (.tmp 48) = .int .i64 (x.s.1.length : Int) := hI.good 11 48 (dep_of hdep 11 rfl) rfl
            have e50 : a.eval (.tmp 50) = .int .i64 (x.s.1.length : Int) := hI.good 13 50 (dep_of hdep 13 rfl) rfl
            refine ok_value (wanted_is rfl rfl hI.size (by decide) eg) (v := .bool false) ?_ (hK _ _ (hI.world) rfl)
            have ec : ∀ c, a.eval (.const c) = c := fun _ => rfl
            have ef : ∀ f, a.eval (.func f) = .func (.func f) #[] #[] := fun _ => rfl
            clear hI hdep hK
            generalize a.eval = ρ at eg e48 e50 ec ef ⊢
            go_simp
          · intro D a w hI hdep hD0 K hK
            have e46 : a.eval (.tmp 46) = .bool false := hI.good 9 46 (dep_of hdep 9 rfl) rfl
            have e51 : a.eval (.tmp 51) = .bool false := hI.good 14 51 (dep_of hdep 14 rfl) rfl
            refine ok_value (wanted_none rfl) (v := .bool false) ?_ (hK _ _ (hI.world) rfl)
            have ec : ∀ c, a.eval (.const c) = c := fun _ => rfl
            have ef : ∀ f, a.eval (.func f) = .func (.func f) #[] #[] := fun _ => rfl
            clear hI hdep hK
            generalize a.eval = ρ at e46 e51 ec ef ⊢
            go_simp
          · intro D a w hI hdep hD0 K hK
            have e52 : a.eval (.tmp 52) = .bool false := hI.good 15 52 (dep_of hdep 15 rfl) rfl
            refine ok_value (wanted_none rfl) (v := .bool false) ?_ (hK _ _ (hI.world) rfl)
            have ec : ∀ c, a.eval (.const c) = c := fun _ => rfl
            have ef : ∀ f, a.eval (.func f) = .func (.func f) #[] #[] := fun _ => rfl
            clear hI hdep hK
            generalize a.eval = ρ at e52 ec ef ⊢
            go_simp
          · intro D a w hI hdep hD0 K hK
            have eg : a.eval (.tmp 53) = .bool false := hI.good 16 53 (dep_of hdep 16 rfl) rfl
            have e5 : a.eval (.tmp 5) = .pointer (some ⟨g, 0, none⟩) := hI.fast (5, .pointer (some ⟨g, 0, none⟩)) (by simp)
            refine ok_value (wanted_is rfl rfl hI.size (by decide) eg) (v := .pointer (some ⟨g, 0, none⟩)) ?_ (hK _ _ (hI.world) rfl)
            have ec : ∀ c, a.eval (.const c) = c := fun _ => rfl
            have ef : ∀ f, a.eval (.func f) = .func (.func f) #[] #[] := fun _ => rfl
            clear hI hdep hK
            generalize a.eval = ρ at eg e5 ec ef ⊢
            go_simp
          · intro D a w hI hdep hD0 K hK
            have eg : a.eval (.tmp 53) = .bool false := hI.good 16 53 (dep_of hdep 16 rfl) rfl
            have e54 : a.eval (.tmp 54) = .pointer (some ⟨g, 0, none⟩) := hI.good 17 54 (dep_of hdep 17 rfl) rfl
            refine ok_call (wanted_is rfl rfl hI.size (by decide) eg) (f := 11) (args := #[.pointer (some ⟨g, 0, none⟩)]) ?_ (end_any (some ⟨g, 0, none⟩) x.s w (.inr ⟨g, rfl, hI.world.cur⟩)) ?_
            · have ec : ∀ c, a.eval (.const c) = c := fun _ => rfl
              have ef : ∀ f, a.eval (.func f) = .func (.func f) #[] #[] := fun _ => rfl
              clear hI hdep hK
              generalize a.eval = ρ at eg e54 ec ef ⊢
              go_simp
            · rintro e w2 ⟨rfl, ⟨_, rfl⟩ | ⟨hx, _⟩⟩
              · exact ⟨_, rfl, hK _ _ hI.world rfl⟩
              · cases hx
          · intro D a w hI hdep hD0 K hK
            have eg : a.eval (.tmp 53) = .bool false := hI.good 16 53 (dep_of hdep 16 rfl) rfl
            have e6 : a.eval (.tmp 6) = .pointer (some ⟨p, 0, none⟩) := hI.fast (6, .pointer (some ⟨p, 0, none⟩)) (by simp)
            have x0 := hI.world.two.c0
            have x1 := hI.world.two.c1
            refine ok_value (wanted_is rfl rfl hI.size (by decide) eg) (v := .agg #[.slice x.A x.n x.c, .int .i64 (x.s.2 : Int)]) ?_ (hK _ _ hI.world rfl)
            have ec : ∀ c, a.eval (.const c) = c := fun _ => rfl
            have ef : ∀ f, a.eval (.func f) = .func (.func f) #[] #[] := fun _ => rfl
            clear hI hdep hK
            generalize a.eval = ρ at eg e6 ec ef ⊢
            go_simp
          · intro D a w hI hdep hD0 K hK
            have eg : a.eval (.tmp 53) = .bool false := hI.good 16 53 (dep_of hdep 16 rfl) rfl
            have e56 : a.eval (.tmp 56) = .agg #[.slice x.A x.n x.c, .int .i64 (x.s.2 : Int)] := hI.good 19 56 (dep_of hdep 19 rfl) rfl
            refine ok_call (wanted_is rfl rfl hI.size (by decide) eg) (f := 12) (args := #[.agg #[.slice x.A x.n x.c, .int .i64 (x.s.2 : Int)]]) ?_ (rEnd_any x.A x.n x.c w0.heap.size x.s w hI.world.dat) ?_
            · have ec : ∀ c, a.eval (.const c) = c := fun _ => rfl
              have ef : ∀ f, a.eval (.func f) = .func (.func f) #[] #[] := fun _ => rfl
              clear hI hdep hK
              generalize a.eval = ρ at eg e56 ec ef ⊢
              go_simp
            · rintro e w2 ⟨rfl, hbl⟩
              exact ⟨_, rfl, hK _ _ (hI.world.below hbl) rfl⟩
          · intro D a w hI hdep hD0 K hK
            have eg : a.eval (.tmp 53) = .bool false := hI.good 16 53 (dep_of hdep 16 rfl) rfl
            have e55 : a.eval (.tmp 55) = .int .i64 (endA x.s : Int) := hI.good 18 55 (dep_of hdep 18 rfl) rfl
            have e57 : a.eval (.tmp 57) = .int .i64 (endA x.s : Int) := hI.good 20 57 (dep_of hdep 20 rfl) rfl
            refine ok_value (wanted_is rfl rfl hI.size (by decide) eg) (v := .bool false) ?_ (hK _ _ (hI.world) rfl)
            have ec : ∀ c, a.eval (.const c) = c := fun _ => rfl
            have ef : ∀ f, a.eval (.func f) = .func (.func f) #[] #[] := fun _ => rfl
            clear hI hdep hK
            generalize a.eval = ρ at eg e55 e57 ec ef ⊢
            go_simp
          · intro D a w hI hdep hD0 K hK
            have e53 : a.eval (.tmp 53) = .bool false := hI.good 16 53 (dep_of hdep 16 rfl) rfl
            have e58 : a.eval (.tmp 58) = .bool false := hI.good 21 58 (dep_of hdep 21 rfl) rfl
            refine ok_value (wanted_none rfl) (v := .bool false) ?_ (hK _ _ (hI.world) rfl)
            have ec : ∀ c, a.eval (.const c) = c := fun _ => rfl
            have ef : ∀ f, a.eval (.func f) = .func (.func f) #[] #[] := fun _ => rfl
            clear hI hdep hK
            generalize a.eval = ρ at e53 e58 ec ef ⊢
            go_simp
        · intro D a w3 hI hD
          have f0 : a.eval (.tmp 0) = .slice A n c := hI.fast (0, .slice A n c) (by simp)
          have f1 : a.eval (.tmp 1) = .slice (some ⟨lb, lo, none⟩) len cap := hI.fast (1, .slice (some ⟨lb, lo, none⟩) len cap) (by simp)
          have f2 : a.eval (.tmp 2) = undef := hI.fast (2, undef) (by simp)
          have f3 : a.eval (.tmp 3) = undef := hI.fast (3, undef) (by simp)
          have f5 : a.eval (.tmp 5) = .pointer (some ⟨g, 0, none⟩) := hI.fast (5, .pointer (some ⟨g, 0, none⟩)) (by simp)
          have f6 : a.eval (.tmp 6) = .pointer (some ⟨p, 0, none⟩) := hI.fast (6, .pointer (some ⟨p, 0, none⟩)) (by simp)
          have f7 : a.eval (.tmp 7) = .int .i64 (k : Int) := hI.fast (7, .int .i64 (k : Int)) (by simp)
          have f9 : a.eval (.tmp 9) = .bool true := hI.fast (9, .bool true) (by simp)
          have f10 : a.eval (.tmp 10) = .slice A n c := hI.fast (10, .slice A n c) (by simp)
          have f11 : a.eval (.tmp 11) = .pointer (some ⟨g, 0, none⟩) := hI.fast (11, .pointer (some ⟨g, 0, none⟩)) (by simp)
          have f12 : a.eval (.tmp 12) = .slice A n c := hI.fast (12, .slice A n c) (by simp)
          have f13 : a.eval (.tmp 13) = .agg #[.slice A n c, .int .i64 0] := hI.fast (13, .agg #[.slice A n c, .int .i64 0]) (by simp)
          have f14 : a.eval (.tmp 14) = .pointer (some ⟨g, 0, none⟩) := hI.fast (14, .pointer (some ⟨g, 0, none⟩)) (by simp)
          have f15 : a.eval (.tmp 15) = .bool false := hI.fast (15, .bool false) (by simp)
          have f37 : a.eval (.tmp 37) = .bool true := hI.good 0 37 (hD 0 (by decide)) rfl
          have f38 : a.eval (.tmp 38) = .bool false := hI.good 1 38 (hD 1 (by decide)) rfl
          have f39 : a.eval (.tmp 39) = .bool false := hI.good 2 39 (hD 2 (by decide)) rfl
          have f40 : a.eval (.tmp 40) = .pointer (some ⟨g, 0, none⟩) := hI.good 3 40 (hD 3 (by decide)) rfl
          have f41 : a.eval (.tmp 41) = .int .i64 (x.s.2 : Int) := hI.good 4 41 (hD 4 (by decide)) rfl
          have f42 : a.eval (.tmp 42) = .pointer (some ⟨p, 1, none⟩) := hI.good 5 42 (hD 5 (by decide)) rfl
          have f43 : a.eval (.tmp 43) = .int .i64 (x.s.2 : Int) := hI.good 6 43 (hD 6 (by decide)) rfl
          have f44 : a.eval (.tmp 44) = .bool false := hI.good 7 44 (hD 7 (by decide)) rfl
          have f45 : a.eval (.tmp 45) = .bool false := hI.good 8 45 (hD 8 (by decide)) rfl
          have f46 : a.eval (.tmp 46) = .bool false := hI.good 9 46 (hD 9 (by decide)) rfl
          have f47 : a.eval (.tmp 47) = .pointer (some ⟨g, 0, none⟩) := hI.good 10 47 (hD 10 (by decide)) rfl
          have f48 : a.eval (.tmp 48) = .int .i64 (x.s.1.length : Int) := hI.good 11 48 (hD 11 (by decide)) rfl
          have f49 : a.eval (.tmp 49) = .agg #[.slice x.A x.n x.c, .int .i64 (x.s.2 : Int)] := hI.good 12 49 (hD 12 (by decide)) rfl
          have f50 : a.eval (.tmp 50) = .int .i64 (x.s.1.length : Int) := hI.good 13 50 (hD 13 (by decide)) rfl
          have f51 : a.eval (.tmp 51) = .bool false := hI.good 14 51 (hD 14 (by decide)) rfl
          have f52 : a.eval (.tmp 52) = .bool false := hI.good 15 52 (hD 15 (by decide)) rfl
          have f53 : a.eval (.tmp 53) = .bool false := hI.good 16 53 (hD 16 (by decide)) rfl
          have f54 : a.eval (.tmp 54) = .pointer (some ⟨g, 0, none⟩) := hI.good 17 54 (hD 17 (by decide)) rfl
          have f55 : a.eval (.tmp 55) = .int .i64 (endA x.s : Int) := hI.good 18 55 (hD 18 (by decide)) rfl
          have f56 : a.eval (.tmp 56) = .agg #[.slice x.A x.n x.c, .int .i64 (x.s.2 : Int)] := hI.good 19 56 (hD 19 (by decide)) rfl
          have f57 : a.eval (.tmp 57) = .int .i64 (endA x.s : Int) := hI.good 20 57 (hD 20 (by decide)) rfl
          have f58 : a.eval (.tmp 58) = .bool false := hI.good 21 58 (hD 21 (by decide)) rfl
          have f59 : a.eval (.tmp 59) = .bool false := hI.good 22 59 (hD 22 (by decide)) rfl
          have f60 : a.eval (.tmp 60) = undef := hI.fast (60, undef) (by simp)
          have hsz := hI.size
          have hdf := hI.defers
          have hW := hI.world
          obtain ⟨tmps, defers⟩ := a
          simp only at hdf
          subst hdf
          have hl := lit61 tmps hsz
          rw [show tmps.getD 0 undef = _ from f0, show tmps.getD 1 undef = _ from f1, show tmps.getD 2 undef = _ from f2, show tmps.getD 3 undef = _ from f3, show tmps.getD 5 undef = _ from f5, show tmps.getD 6 undef = _ from f6, show tmps.getD 7 undef = _ from f7, show tmps.getD 9 undef = _ from f9, show tmps.getD 10 undef = _ from f10, show tmps.getD 11 undef = _ from f11, show tmps.getD 12 undef = _ from f12, show tmps.getD 13 undef = _ from f13, show tmps.getD 14 undef = _ from f14, show tmps.getD 15 undef = _ from f15, show tmps.getD 37 undef = _ from f37, show tmps.getD 38 undef = _ from f38, show tmps.getD 39 undef = _ from f39, show tmps.getD 40 undef = _ from f40, show tmps.getD 41 undef = _ from f41, show tmps.getD 42 undef = _ from f42, show tmps.getD 43 undef = _ from f43, show tmps.getD 44 undef = _ from f44, show tmps.getD 45 undef = _ from f45, show tmps.getD 46 undef = _ from f46, show tmps.getD 47 undef = _ from f47, show tmps.getD 48 undef = _ from f48, show tmps.getD 49 undef = _ from f49, show tmps.getD 50 undef = _ from f50, show tmps.getD 51 undef = _ from f51, show tmps.getD 52 undef = _ from f52, show tmps.getD 53 undef = _ from f53, show tmps.getD 54 undef = _ from f54, show tmps.getD 55 undef = _ from f55, show tmps.getD 56 undef = _ from f56, show tmps.getD 57 undef = _ from f57, show tmps.getD 58 undef = _ from f58, show tmps.getD 59 undef = _ from f59, show tmps.getD 60 undef = _ from f60] at hl
          clear f0 f1 f2 f3 f5 f6 f7 f9 f10 f11 f12 f13 f14 f15 f37 f38 f39 f40 f41 f42 f43 f44 f45 f46 f47 f48 f49 f50 f51 f52 f53 f54 f55 f56 f57 f58 f59 f60 hI hsz
          generalize tmps.getD 4 undef = y4 at hl
          generalize tmps.getD 8 undef = y8 at hl
          generalize tmps.getD 16 undef = y16 at hl
          generalize tmps.getD 17 undef = y17 at hl
          generalize tmps.getD 18 undef = y18 at hl
          generalize tmps.getD 19 undef = y19 at hl
          generalize tmps.getD 20 undef = y20 at hl
          generalize tmps.getD 21 undef = y21 at hl
          generalize tmps.getD 22 undef = y22 at hl
          generalize tmps.getD 23 undef = y23 at hl
          generalize tmps.getD 24 undef = y24 at hl
          generalize tmps.getD 25 undef = y25 at hl
          generalize tmps.getD 26 undef = y26 at hl
          generalize tmps.getD 27 undef = y27 at hl
          generalize tmps.getD 28 undef = y28 at hl
          generalize tmps.getD 29 undef = y29 at hl
          generalize tmps.getD 30 undef = y30 at hl
          generalize tmps.getD 31 undef = y31 at hl
          generalize tmps.getD 32 undef = y32 at hl
          generalize tmps.getD 33 undef = y33 at hl
          generalize tmps.getD 34 undef = y34 at hl
          generalize tmps.getD 35 undef = y35 at hl
          generalize tmps.getD 36 undef = y36 at hl
          subst hl
          have HK := Lib.hid hW
          clear hW hD HT
          go_wp2
          go_roundw
          case rel => exact ⟨k + 1, x.s, x.A, x.n, x.c, by go_num, by omega, by omega, HK.out.cur, HK.out.two, HK.out.dat, HK.out.row⟩
          case measure => simp [intOf]; omega
    · have HX := Lib.hid HR.out.2.2.2
      clear HR HA
      by_cases hl : k < len
      · have hk40 : k = 40 := by omega
        subst hk40
        clear hlt
        go_wp2_with (go_at_call 13; refine (lives2_any _).mono ?_; rintro e w' ⟨rfl, hb⟩)
        go_ret
        exact ⟨rfl, HX.out.trans (hb.mono HX.out.size)⟩
      · clear hlt
        go_wp2_with (go_at_call 13; refine (lives2_any _).mono ?_; rintro e w' ⟨rfl, hb⟩)
        go_ret
        exact ⟨rfl, HX.out.trans (hb.mono HX.out.size)⟩
end Go.Proofs.Ytblelhffghcffaa
