/-
  The walk of CellRows. Conditions: the types can be read; the library's table of powers of ten is laid.
-/
import Derived.Test.YtdenboakcbipdaaDoorCeR
import Derived.Laws.StructEq
namespace Go.Proofs.YtdenboakcbipdaaDoor
open Go.RowKit
attribute [local go_sem] Ce.run_store_complex

theorem run_equalIn_cx {P : Program} (w : World) (d : Nat) (t : TypeId) (h : P.underlying t = some (.complex .f64)) : (Op.equalIn (d + 1) t (.complex .f64 0 0) (.complex .f64 0 0)).run P w = .ok true w := by
  simp [Op.equalIn, run_underlying h]
  decide +kernel

/-- A value is the same as itself, by '=='. -/
theorem equal_val (k n : Int) (w : World) : (Op.equalIn 10000 29 (.agg #[.int .i64 k, .int .i64 n, .complex .f64 0 0]) (.agg #[.int .i64 k, .int .i64 n, .complex .f64 0 0])).run Tryd.prog w = .ok true w := by
  have h27 : (Op.equalIn 9999 27 (.complex .f64 0 0) (.complex .f64 0 0)).run Tryd.prog w = .ok true w := run_equalIn_cx (P := Tryd.prog) w 9998 27 Tryd.underlying27
  rw [run_equalIn_struct w 9999 29 _ _ (by kernel_rfl) (by kernel_rfl)]
  simp [go_sem, Program.fieldsOf, Tryd.underlying29, Op.eqFields, part]
  rw [h27]
  rfl
theorem eql_val (k n : Int) (w : World) : (binOp .eql 29 (.agg #[.int .i64 k, .int .i64 n, .complex .f64 0 0]) (.agg #[.int .i64 k, .int .i64 n, .complex .f64 0 0])).run Tryd.prog w = .ok (.bool true) w := by
  rw [run_eql_struct, equal_val]
  rfl
theorem neq_val (k n : Int) (w : World) : (binOp .neq 29 (.agg #[.int .i64 k, .int .i64 n, .complex .f64 0 0]) (.agg #[.int .i64 k, .int .i64 n, .complex .f64 0 0])).run Tryd.prog w = .ok (.bool false) w := by
  rw [run_neq_struct, equal_val]
  rfl
theorem guard_val (op : BinOp) (x y : Operand) (xs ys : Array Value) (w : World) : (eqGuard op 29 x y (.agg xs) (.agg ys)).run Tryd.prog w = .ok () w := run_eqGuard_agg w op _ x y xs ys (by kernel_rfl)

theorem zero_form (t : Int) : ∃ z, Ce.zero t = ⟨z, 0, 0, 0⟩ := by
  unfold Ce.zero
  split
  · exact ⟨_, rfl⟩
  · split
    · exact ⟨_, rfl⟩
    · exact ⟨_, rfl⟩

def RwG (b off b' off' n c k : Nat) (t z : Int) (_ : Unit) : Nat → Value → Prop
  | 0, v => v = .slice (some ⟨b', off', none⟩) n n
  | 1, v => v = .int .i64 (k : Int)
  | 2, v => v = .pointer (some ⟨b', off' + k * 3, none⟩)
  | 3, v => v = .agg #[.int .i64 z, .int .i64 0, .complex .f64 0 0]
  | 4, v => v = .slice (some ⟨b, off, none⟩) n c
  | 5, v => v = .int .i64 (k : Int)
  | 6, v => v = .pointer (some ⟨b, off + k, none⟩)
  | 7, v => v = .int .i64 t
  | 8, v => v = .agg #[.int .i64 z, .int .i64 0, .complex .f64 0 0]
  | 9, v => v = .bool false
  | 10, v => v = .bool false
  | 11, v => v = .slice (some ⟨b, off, none⟩) n c
  | 12, v => v = .int .i64 (k : Int)
  | 13, v => v = .pointer (some ⟨b, off + k, none⟩)
  | 14, v => v = .int .i64 t
  | 15, v => v = .agg #[.int .i64 z, .int .i64 0, .complex .f64 0 0]
  | 16, v => v = .slice (some ⟨b', off', none⟩) n n
  | 17, v => v = .int .i64 (k : Int)
  | 18, v => v = .pointer (some ⟨b', off' + k * 3, none⟩)
  | 19, v => v = .agg #[.int .i64 z, .int .i64 0, .complex .f64 0 0]
  | 20, v => v = .bool false
  | 21, v => v = .bool false
  | _, _ => True

set_option maxHeartbeats 4000000 in
set_option maxRecDepth 100000 in
theorem rows8_walk (a : Option Addr) (n c : Nat) (l : List Int) (w : World) (h : IntsAt w w.heap.size a n l) (hp : Pow w) :
    Calls Tryd.prog 4 #[.slice a n c] w (BoolP true w) := by
  have HS := Lib.hid h
  have HP := Lib.hid hp
  have hl := h.1
  clear h hp
  by_cases h300 : 300 < n
  · have hi300 : (300 : Int) < (n : Int) := by omega
    go_enter Tryd.func4, Tryd.ntmps4
    go_wp2_with (go_at_call 5; refine (lives8_any _ HP.out).mono ?_; rintro e w1 ⟨rfl, hb1⟩)
    go_ret
    exact ⟨rfl, hb1⟩
  have hi300 : ¬ (300 : Int) < (n : Int) := by omega
  have g1 := eql_val
  have g2 := neq_val
  have g3 := guard_val
  go_enter Tryd.func4, Tryd.ntmps4
  go_wp2_with fail
  refine (row_any a n c l w HS.out (by omega)).mono ?_
  rintro e w1 ⟨A, rfl, hv, hb⟩
  rw [show (l.map Ce.zero).length = n by rw [List.length_map, hl]] at hv ⊢
  have HV := Lib.hid hv
  have HB1 := Lib.hid hb
  clear hv hb
  go_wp2
  go_loopw [4] (fun i W => ∃ k : Nat, k ≤ n ∧ i = .int .i64 (k : Int) ∧ Below w1.heap.size w1 W) (fun i _ => n - (intOf i).toNat)
  case atStart => exact ⟨0, Nat.zero_le _, rfl, Below.refl _ _⟩
  case round =>
    obtain ⟨k, hk, rfl, hB⟩ := hrel
    have HB := Lib.hid hB
    clear hB
    by_cases hlt : k < n
    · obtain ⟨b, off, rfl, hlb, hc⟩ := HS.out.2 (by omega)
      have q0 := (HB1.out.cell (p := ⟨b, off + k, none⟩) hlb).trans (hc k hlt)
      have hlb : b < w1.heap.size := by have := HB1.out.size; omega
      obtain ⟨b', off', rfl, hlb', hc'⟩ := HV.out.2 (by omega)
      obtain ⟨p0, p1, p2⟩ := hc' k hlt
      rw [show (l.map Ce.zero).getD k Ce.c0 = Ce.zero (l.getD k 0) by simp [List.getD, hl, hlt]] at p0 p1 p2
      clear hc hc'
      generalize l.getD k 0 = t at *
      obtain ⟨z, hz⟩ := zero_form t
      have HZ := fun w => rzero_any t w
      have HZ2 := fun w => zero_any t w
      rw [hz] at HZ HZ2 p0 p1 p2
      clear hz
      simp only at p0 p1 p2
      have hki : (k : Int) < (n : Int) := by omega
      go_wp2
      refine region_k () 54 (fun _ _ W => Below w1.heap.size w1 W) (RwG b off b' off' n c k t z) (by kernel_rfl) (by kernel_rfl) (by kernel_rfl) rfl rfl HB.out.drew ?_ ?_
      · refine ⟨?_, ?_, ?_, ?_, ?_, ?_, ?_, ?_, ?_, ?_, ?_, ?_, ?_, ?_, ?_, ?_, ?_, ?_, ?_, ?_, ?_, ?_, trivial⟩
        · intro x D a w hI hdep hD0 K hK
          have e3 : a.eval (.tmp 3) = .slice (some ⟨b', off', none⟩) n n := hI.read 3 rfl
          refine ok_value (wanted_none rfl) (v := .slice (some ⟨b', off', none⟩) n n) ?_ (hK x _ _ (hI.world) (fun _ _ _ h => h) rfl)
          have ec : ∀ c, a.eval (.const c) = c := fun _ => rfl
          have ef : ∀ f, a.eval (.func f) = .func (.func f) #[] #[] := fun _ => rfl
          clear hI hdep hK
          generalize a.eval = ρ at e3 ec ef ⊢
          go_simp
        · intro x D a w hI hdep hD0 K hK
          have e4 : a.eval (.tmp 4) = .int .i64 (k : Int) := hI.read 4 rfl
          refine ok_value (wanted_none rfl) (v := .int .i64 (k : Int)) ?_ (hK x _ _ (hI.world) (fun _ _ _ h => h) rfl)
          have ec : ∀ c, a.eval (.const c) = c := fun _ => rfl
          have ef : ∀ f, a.eval (.func f) = .func (.func f) #[] #[] := fun _ => rfl
          clear hI hdep hK
          generalize a.eval = ρ at e4 ec ef ⊢
          go_simp
        · intro x D a w hI hdep hD0 K hK
          have e22 : a.eval (.tmp 22) = .slice (some ⟨b', off', none⟩) n n := hI.good 0 22 (dep_of hdep 0 rfl) rfl
          have e23 : a.eval (.tmp 23) = .int .i64 (k : Int) := hI.good 1 23 (dep_of hdep 1 rfl) rfl
          refine ok_value (wanted_none rfl) (v := .pointer (some ⟨b', off' + k * 3, none⟩)) ?_ (hK x _ _ (hI.world) (fun _ _ _ h => h) rfl)
          have ec : ∀ c, a.eval (.const c) = c := fun _ => rfl
          have ef : ∀ f, a.eval (.func f) = .func (.func f) #[] #[] := fun _ => rfl
          clear hI hdep hK
          generalize a.eval = ρ at e22 e23 ec ef ⊢
          go_simp
        · intro x D a w hI hdep hD0 K hK
          have e24 : a.eval (.tmp 24) = .pointer (some ⟨b', off' + k * 3, none⟩) := hI.good 2 24 (dep_of hdep 2 rfl) rfl
          have x0 := (hI.world.cell (p := ⟨b', off' + k * 3, none⟩) hlb').trans p0
          have x1 := (hI.world.cell (p := ⟨b', off' + k * 3 + 1, none⟩) hlb').trans p1
          have x2 := (hI.world.cell (p := ⟨b', off' + k * 3 + 2, none⟩) hlb').trans p2
          refine ok_value (wanted_none rfl) (v := .agg #[.int .i64 z, .int .i64 0, .complex .f64 0 0]) ?_ (hK x _ _ (hI.world) (fun _ _ _ h => h) rfl)
          have ec : ∀ c, a.eval (.const c) = c := fun _ => rfl
          have ef : ∀ f, a.eval (.func f) = .func (.func f) #[] #[] := fun _ => rfl
          clear hI hdep hK
          generalize a.eval = ρ at e24 ec ef ⊢
          go_simp
        · intro x D a w hI hdep hD0 K hK
          have e0 : a.eval (.tmp 0) = .slice (some ⟨b, off, none⟩) n c := hI.read 0 rfl
          refine ok_value (wanted_none rfl) (v := .slice (some ⟨b, off, none⟩) n c) ?_ (hK x _ _ (hI.world) (fun _ _ _ h => h) rfl)
          have ec : ∀ c, a.eval (.const c) = c := fun _ => rfl
          have ef : ∀ f, a.eval (.func f) = .func (.func f) #[] #[] := fun _ => rfl
          clear hI hdep hK
          generalize a.eval = ρ at e0 ec ef ⊢
          go_simp
        · intro x D a w hI hdep hD0 K hK
          have e4 : a.eval (.tmp 4) = .int .i64 (k : Int) := hI.read 4 rfl
          refine ok_value (wanted_none rfl) (v := .int .i64 (k : Int)) ?_ (hK x _ _ (hI.world) (fun _ _ _ h => h) rfl)
          have ec : ∀ c, a.eval (.const c) = c := fun _ => rfl
          have ef : ∀ f, a.eval (.func f) = .func (.func f) #[] #[] := fun _ => rfl
          clear hI hdep hK
          generalize a.eval = ρ at e4 ec ef ⊢
          go_simp
        · intro x D a w hI hdep hD0 K hK
          have e26 : a.eval (.tmp 26) = .slice (some ⟨b, off, none⟩) n c := hI.good 4 26 (dep_of hdep 4 rfl) rfl
          have e27 : a.eval (.tmp 27) = .int .i64 (k : Int) := hI.good 5 27 (dep_of hdep 5 rfl) rfl
          refine ok_value (wanted_none rfl) (v := .pointer (some ⟨b, off + k, none⟩)) ?_ (hK x _ _ (hI.world) (fun _ _ _ h => h) rfl)
          have ec : ∀ c, a.eval (.const c) = c := fun _ => rfl
          have ef : ∀ f, a.eval (.func f) = .func (.func f) #[] #[] := fun _ => rfl
          clear hI hdep hK
          generalize a.eval = ρ at e26 e27 ec ef ⊢
          go_simp
        · intro x D a w hI hdep hD0 K hK
          have e28 : a.eval (.tmp 28) = .pointer (some ⟨b, off + k, none⟩) := hI.good 6 28 (dep_of hdep 6 rfl) rfl
          have x0 := (hI.world.cell (p := ⟨b, off + k, none⟩) hlb).trans q0
          refine ok_value (wanted_none rfl) (v := .int .i64 t) ?_ (hK x _ _ (hI.world) (fun _ _ _ h => h) rfl)
          have ec : ∀ c, a.eval (.const c) = c := fun _ => rfl
          have ef : ∀ f, a.eval (.func f) = .func (.func f) #[] #[] := fun _ => rfl
          clear hI hdep hK
          generalize a.eval = ρ at e28 ec ef ⊢
          go_simp
        · intro x D a w hI hdep hD0 K hK
          have e29 : a.eval (.tmp 29) = .int .i64 t := hI.good 7 29 (dep_of hdep 7 rfl) rfl
          refine ok_call (wanted_none rfl) (f := 11) (args := #[.int .i64 t]) ?_ (HZ w) ?_
          · have ec : ∀ c, a.eval (.const c) = c := fun _ => rfl
            have ef : ∀ f, a.eval (.func f) = .func (.func f) #[] #[] := fun _ => rfl
            clear hI hdep hK
            generalize a.eval = ρ at e29 ec ef ⊢
            go_simp
          · rintro e w2 ⟨rfl, hb2⟩
            exact ⟨_, rfl, hK x _ _ (hI.world.trans (hb2.mono hI.world.size)) (fun _ _ _ h => h) rfl⟩
        · intro x D a w hI hdep hD0 K hK
          have e25 : a.eval (.tmp 25) = .agg #[.int .i64 z, .int .i64 0, .complex .f64 0 0] := hI.good 3 25 (dep_of hdep 3 rfl) rfl
          have e30 : a.eval (.tmp 30) = .agg #[.int .i64 z, .int .i64 0, .complex .f64 0 0] := hI.good 8 30 (dep_of hdep 8 rfl) rfl
          refine ok_value (wanted_none rfl) (v := .bool false) ?_ (hK x _ _ (hI.world) (fun _ _ _ h => h) rfl)
          have ec : ∀ c, a.eval (.const c) = c := fun _ => rfl
          have ef : ∀ f, a.eval (.func f) = .func (.func f) #[] #[] := fun _ => rfl
          clear hI hdep hK
          generalize a.eval = ρ at e25 e30 ec ef ⊢
          go_simp
        · intro x D a w hI hdep hD0 K hK
          have e31 : a.eval (.tmp 31) = .bool false := hI.good 9 31 (dep_of hdep 9 rfl) rfl
          refine ok_value (wanted_none rfl) (v := .bool false) ?_ (hK x _ _ (hI.world) (fun _ _ _ h => h) rfl)
          have ec : ∀ c, a.eval (.const c) = c := fun _ => rfl
          have ef : ∀ f, a.eval (.func f) = .func (.func f) #[] #[] := fun _ => rfl
          clear hI hdep hK
          generalize a.eval = ρ at e31 ec ef ⊢
          go_simp
        · intro x D a w hI hdep hD0 K hK
          have eg : a.eval (.tmp 32) = .bool false := hI.good 10 32 (dep_of hdep 10 rfl) rfl
          have e0 : a.eval (.tmp 0) = .slice (some ⟨b, off, none⟩) n c := hI.read 0 rfl
          refine ok_value (wanted_is rfl rfl hI.size (by simp) eg) (v := .slice (some ⟨b, off, none⟩) n c) ?_ (hK x _ _ (hI.world) (fun _ _ _ h => h) rfl)
          have ec : ∀ c, a.eval (.const c) = c := fun _ => rfl
          have ef : ∀ f, a.eval (.func f) = .func (.func f) #[] #[] := fun _ => rfl
          clear hI hdep hK
          generalize a.eval = ρ at eg e0 ec ef ⊢
          go_simp
        · intro x D a w hI hdep hD0 K hK
          have eg : a.eval (.tmp 32) = .bool false := hI.good 10 32 (dep_of hdep 10 rfl) rfl
          have e4 : a.eval (.tmp 4) = .int .i64 (k : Int) := hI.read 4 rfl
          refine ok_value (wanted_is rfl rfl hI.size (by simp) eg) (v := .int .i64 (k : Int)) ?_ (hK x _ _ (hI.world) (fun _ _ _ h => h) rfl)
          have ec : ∀ c, a.eval (.const c) = c := fun _ => rfl
          have ef : ∀ f, a.eval (.func f) = .func (.func f) #[] #[] := fun _ => rfl
          clear hI hdep hK
          generalize a.eval = ρ at eg e4 ec ef ⊢
          go_simp
        · intro x D a w hI hdep hD0 K hK
          have eg : a.eval (.tmp 32) = .bool false := hI.good 10 32 (dep_of hdep 10 rfl) rfl
          have e33 : a.eval (.tmp 33) = .slice (some ⟨b, off, none⟩) n c := hI.good 11 33 (dep_of hdep 11 rfl) rfl
          have e34 : a.eval (.tmp 34) = .int .i64 (k : Int) := hI.good 12 34 (dep_of hdep 12 rfl) rfl
          refine ok_value (wanted_is rfl rfl hI.size (by simp) eg) (v := .pointer (some ⟨b, off + k, none⟩)) ?_ (hK x _ _ (hI.world) (fun _ _ _ h => h) rfl)
          have ec : ∀ c, a.eval (.const c) = c := fun _ => rfl
          have ef : ∀ f, a.eval (.func f) = .func (.func f) #[] #[] := fun _ => rfl
          clear hI hdep hK
          generalize a.eval = ρ at eg e33 e34 ec ef ⊢
          go_simp
        · intro x D a w hI hdep hD0 K hK
          have eg : a.eval (.tmp 32) = .bool false := hI.good 10 32 (dep_of hdep 10 rfl) rfl
          have e35 : a.eval (.tmp 35) = .pointer (some ⟨b, off + k, none⟩) := hI.good 13 35 (dep_of hdep 13 rfl) rfl
          have x0 := (hI.world.cell (p := ⟨b, off + k, none⟩) hlb).trans q0
          refine ok_value (wanted_is rfl rfl hI.size (by simp) eg) (v := .int .i64 t) ?_ (hK x _ _ (hI.world) (fun _ _ _ h => h) rfl)
          have ec : ∀ c, a.eval (.const c) = c := fun _ => rfl
          have ef : ∀ f, a.eval (.func f) = .func (.func f) #[] #[] := fun _ => rfl
          clear hI hdep hK
          generalize a.eval = ρ at eg e35 ec ef ⊢
          go_simp
        · intro x D a w hI hdep hD0 K hK
          have eg : a.eval (.tmp 32) = .bool false := hI.good 10 32 (dep_of hdep 10 rfl) rfl
          have e36 : a.eval (.tmp 36) = .int .i64 t := hI.good 14 36 (dep_of hdep 14 rfl) rfl
          refine ok_call (wanted_is rfl rfl hI.size (by simp) eg) (f := 12) (args := #[.int .i64 t]) ?_ (HZ2 w) ?_
          · have ec : ∀ c, a.eval (.const c) = c := fun _ => rfl
            have ef : ∀ f, a.eval (.func f) = .func (.func f) #[] #[] := fun _ => rfl
            clear hI hdep hK
            generalize a.eval = ρ at eg e36 ec ef ⊢
            go_simp
          · rintro e w2 ⟨rfl, hb2⟩
            exact ⟨_, rfl, hK x _ _ (hI.world.trans (hb2.mono hI.world.size)) (fun _ _ _ h => h) rfl⟩
        · intro x D a w hI hdep hD0 K hK
          have eg : a.eval (.tmp 32) = .bool false := hI.good 10 32 (dep_of hdep 10 rfl) rfl
          have e3 : a.eval (.tmp 3) = .slice (some ⟨b', off', none⟩) n n := hI.read 3 rfl
          refine ok_value (wanted_is rfl rfl hI.size (by simp) eg) (v := .slice (some ⟨b', off', none⟩) n n) ?_ (hK x _ _ (hI.world) (fun _ _ _ h => h) rfl)
          have ec : ∀ c, a.eval (.const c) = c := fun _ => rfl
          have ef : ∀ f, a.eval (.func f) = .func (.func f) #[] #[] := fun _ => rfl
          clear hI hdep hK
          generalize a.eval = ρ at eg e3 ec ef ⊢
          go_simp
        · intro x D a w hI hdep hD0 K hK
          have eg : a.eval (.tmp 32) = .bool false := hI.good 10 32 (dep_of hdep 10 rfl) rfl
          have e4 : a.eval (.tmp 4) = .int .i64 (k : Int) := hI.read 4 rfl
          refine ok_value (wanted_is rfl rfl hI.size (by simp) eg) (v := .int .i64 (k : Int)) ?_ (hK x _ _ (hI.world) (fun _ _ _ h => h) rfl)
          have ec : ∀ c, a.eval (.const c) = c := fun _ => rfl
          have ef : ∀ f, a.eval (.func f) = .func (.func f) #[] #[] := fun _ => rfl
          clear hI hdep hK
          generalize a.eval = ρ at eg e4 ec ef ⊢
          go_simp
        · intro x D a w hI hdep hD0 K hK
          have eg : a.eval (.tmp 32) = .bool false := hI.good 10 32 (dep_of hdep 10 rfl) rfl
          have e38 : a.eval (.tmp 38) = .slice (some ⟨b', off', none⟩) n n := hI.good 16 38 (dep_of hdep 16 rfl) rfl
          have e39 : a.eval (.tmp 39) = .int .i64 (k : Int) := hI.good 17 39 (dep_of hdep 17 rfl) rfl
          refine ok_value (wanted_is rfl rfl hI.size (by simp) eg) (v := .pointer (some ⟨b', off' + k * 3, none⟩)) ?_ (hK x _ _ (hI.world) (fun _ _ _ h => h) rfl)
          have ec : ∀ c, a.eval (.const c) = c := fun _ => rfl
          have ef : ∀ f, a.eval (.func f) = .func (.func f) #[] #[] := fun _ => rfl
          clear hI hdep hK
          generalize a.eval = ρ at eg e38 e39 ec ef ⊢
          go_simp
        · intro x D a w hI hdep hD0 K hK
          have eg : a.eval (.tmp 32) = .bool false := hI.good 10 32 (dep_of hdep 10 rfl) rfl
          have e40 : a.eval (.tmp 40) = .pointer (some ⟨b', off' + k * 3, none⟩) := hI.good 18 40 (dep_of hdep 18 rfl) rfl
          have x0 := (hI.world.cell (p := ⟨b', off' + k * 3, none⟩) hlb').trans p0
          have x1 := (hI.world.cell (p := ⟨b', off' + k * 3 + 1, none⟩) hlb').trans p1
          have x2 := (hI.world.cell (p := ⟨b', off' + k * 3 + 2, none⟩) hlb').trans p2
          refine ok_value (wanted_is rfl rfl hI.size (by simp) eg) (v := .agg #[.int .i64 z, .int .i64 0, .complex .f64 0 0]) ?_ (hK x _ _ (hI.world) (fun _ _ _ h => h) rfl)
          have ec : ∀ c, a.eval (.const c) = c := fun _ => rfl
          have ef : ∀ f, a.eval (.func f) = .func (.func f) #[] #[] := fun _ => rfl
          clear hI hdep hK
          generalize a.eval = ρ at eg e40 ec ef ⊢
          go_simp
        · intro x D a w hI hdep hD0 K hK
          have eg : a.eval (.tmp 32) = .bool false := hI.good 10 32 (dep_of hdep 10 rfl) rfl
          have e37 : a.eval (.tmp 37) = .agg #[.int .i64 z, .int .i64 0, .complex .f64 0 0] := hI.good 15 37 (dep_of hdep 15 rfl) rfl
          have e41 : a.eval (.tmp 41) = .agg #[.int .i64 z, .int .i64 0, .complex .f64 0 0] := hI.good 19 41 (dep_of hdep 19 rfl) rfl
          refine ok_value (wanted_is rfl rfl hI.size (by simp) eg) (v := .bool false) ?_ (hK x _ _ (hI.world) (fun _ _ _ h => h) rfl)
          have ec : ∀ c, a.eval (.const c) = c := fun _ => rfl
          have ef : ∀ f, a.eval (.func f) = .func (.func f) #[] #[] := fun _ => rfl
          clear hI hdep hK
          generalize a.eval = ρ at eg e37 e41 ec ef ⊢
          go_simp
        · intro x D a w hI hdep hD0 K hK
          have e32 : a.eval (.tmp 32) = .bool false := hI.good 10 32 (dep_of hdep 10 rfl) rfl
          have e42 : a.eval (.tmp 42) = .bool false := hI.good 20 42 (dep_of hdep 20 rfl) rfl
          refine ok_value (wanted_none rfl) (v := .bool false) ?_ (hK x _ _ (hI.world) (fun _ _ _ h => h) rfl)
          have ec : ∀ c, a.eval (.const c) = c := fun _ => rfl
          have ef : ∀ f, a.eval (.func f) = .func (.func f) #[] #[] := fun _ => rfl
          clear hI hdep hK
          generalize a.eval = ρ at e32 e42 ec ef ⊢
          go_simp
      · intro x D a w2 hI hD
        have hfr := hI.frame [(22, .slice (some ⟨b', off', none⟩) n n), (23, .int .i64 (k : Int)), (24, .pointer (some ⟨b', off' + k * 3, none⟩)), (25, .agg #[.int .i64 z, .int .i64 0, .complex .f64 0 0]), (26, .slice (some ⟨b, off, none⟩) n c), (27, .int .i64 (k : Int)), (28, .pointer (some ⟨b, off + k, none⟩)), (29, .int .i64 t), (30, .agg #[.int .i64 z, .int .i64 0, .complex .f64 0 0]), (31, .bool false), (32, .bool false), (33, .slice (some ⟨b, off, none⟩) n c), (34, .int .i64 (k : Int)), (35, .pointer (some ⟨b, off + k, none⟩)), (36, .int .i64 t), (37, .agg #[.int .i64 z, .int .i64 0, .complex .f64 0 0]), (38, .slice (some ⟨b', off', none⟩) n n), (39, .int .i64 (k : Int)), (40, .pointer (some ⟨b', off' + k * 3, none⟩)), (41, .agg #[.int .i64 z, .int .i64 0, .complex .f64 0 0]), (42, .bool false), (43, .bool false)] (all_cons (hI.good 0 22 (hD 0 (by decide)) rfl) (all_cons (hI.good 1 23 (hD 1 (by decide)) rfl) (all_cons (hI.good 2 24 (hD 2 (by decide)) rfl) (all_cons (hI.good 3 25 (hD 3 (by decide)) rfl) (all_cons (hI.good 4 26 (hD 4 (by decide)) rfl) (all_cons (hI.good 5 27 (hD 5 (by decide)) rfl) (all_cons (hI.good 6 28 (hD 6 (by decide)) rfl) (all_cons (hI.good 7 29 (hD 7 (by decide)) rfl) (all_cons (hI.good 8 30 (hD 8 (by decide)) rfl) (all_cons (hI.good 9 31 (hD 9 (by decide)) rfl) (all_cons (hI.good 10 32 (hD 10 (by decide)) rfl) (all_cons (hI.good 11 33 (hD 11 (by decide)) rfl) (all_cons (hI.good 12 34 (hD 12 (by decide)) rfl) (all_cons (hI.good 13 35 (hD 13 (by decide)) rfl) (all_cons (hI.good 14 36 (hD 14 (by decide)) rfl) (all_cons (hI.good 15 37 (hD 15 (by decide)) rfl) (all_cons (hI.good 16 38 (hD 16 (by decide)) rfl) (all_cons (hI.good 17 39 (hD 17 (by decide)) rfl) (all_cons (hI.good 18 40 (hD 18 (by decide)) rfl) (all_cons (hI.good 19 41 (hD 19 (by decide)) rfl) (all_cons (hI.good 20 42 (hD 20 (by decide)) rfl) (all_cons (hI.good 21 43 (hD 21 (by decide)) rfl) all_nil)))))))))))))))))))))) rfl
        have hW := hI.world
        clear hI
        subst hfr
        simp only [List.foldl_cons, List.foldl_nil, List.setIfInBounds_toArray, List.set_cons_succ, List.set_cons_zero]
        have HB2 := Lib.hid hW
        clear hW hD q0 p0 p1 p2
        go_wp2
        go_roundw
        case rel => exact ⟨k + 1, hlt, by go_num, HB2.out⟩
        case measure => simp [intOf]; omega
    · have hki : decide ((k : Int) < (n : Int)) = false := decide_eq_false (by omega)
      have HBB := Lib.hid (HB1.out.trans (HB.out.mono HB1.out.size))
      have HN := fun w => num_any (n : Int) w
      go_wp2_with (go_at_call 13; refine (HN _).mono ?_; rintro e w2 ⟨rfl, b2⟩)
      have HB3 := Lib.hid (HBB.out.trans (b2.mono HBB.out.size))
      clear b2
      refine (lives8_any w2 (HP.out.below HB3.out)).mono ?_
      rintro e w4 ⟨rfl, b4⟩
      go_wp2
      go_ret
      exact ⟨rfl, HB3.out.trans (b4.mono HB3.out.size)⟩
end Go.Proofs.YtdenboakcbipdaaDoor
