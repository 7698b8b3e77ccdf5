/-
  The walk of the law CursorBack: what was laid one behind the other is taken one behind the other, and all of it. Conditions: the numbers and the texts can be read; the texts have together at most 2^20 bytes.
-/
import Derived.Test.YtblelhffghcffaaBackC
namespace Go.Proofs.Ytblelhffghcffaa
open Go.RowKit

def BkG (u : Value) (sb so scap k : Nat) (ss : List ByteArray) (st : ByteArray) (x : BkX) : Nat → Value → Prop
  | 0, w => w = u
  | 1, w => w = .slice (some ⟨sb, so, none⟩) ss.length scap
  | 2, w => w = .int .i64 (k : Int)
  | 3, w => w = .pointer (some ⟨sb, so + k, none⟩)
  | 4, w => w = .string st
  | 5, w => w = .int .i64 (st.size : Int)
  | 6, w => w = .int .u64 (st.size : Int)
  | 7, w => w = x.v
  | 8, w => w = .slice (some ⟨sb, so, none⟩) ss.length scap
  | 9, w => w = .int .i64 (k : Int)
  | 10, w => w = .pointer (some ⟨sb, so + k, none⟩)
  | 11, w => w = .string st
  | 12, w => w = .slice (some ⟨x.q, 0, none⟩) st.size x.c
  | 13, w => w = x.r
  | 14, w => w = x.r
  | _, _ => True

theorem bkg_call {u : Value} {sb so scap k : Nat} {ss : List ByteArray} {st : ByteArray} {x : BkX} {D : Nat → Bool} {v : Value} (h7 : D 7 = false) :
    ∀ j w, D j = true → BkG u sb so scap k ss st x j w → BkG u sb so scap k ss st ⟨v, x.q, x.c, x.r⟩ j w
  | 0, _, _, h | 1, _, _, h | 2, _, _, h | 3, _, _, h | 4, _, _, h | 5, _, _, h | 6, _, _, h | 8, _, _, h | 9, _, _, h | 10, _, _, h | 11, _, _, h | 12, _, _, h | 13, _, _, h => h
  | 7, _, hj, _ => by rw [h7] at hj; cases hj
  | 14, _, _, h | _ + 15, _, _, h => h
theorem bkg_conv {u : Value} {sb so scap k : Nat} {ss : List ByteArray} {st : ByteArray} {x : BkX} {D : Nat → Bool} {q c : Nat} (h12 : D 12 = false) :
    ∀ j w, D j = true → BkG u sb so scap k ss st x j w → BkG u sb so scap k ss st ⟨x.v, q, c, x.r⟩ j w
  | 0, _, _, h | 1, _, _, h | 2, _, _, h | 3, _, _, h | 4, _, _, h | 5, _, _, h | 6, _, _, h | 7, _, _, h | 8, _, _, h | 9, _, _, h | 10, _, _, h | 11, _, _, h | 13, _, _, h => h
  | 12, _, hj, _ => by rw [h12] at hj; cases hj
  | 14, _, _, h | _ + 15, _, _, h => h
theorem bkg_app {u : Value} {sb so scap k : Nat} {ss : List ByteArray} {st : ByteArray} {x : BkX} {D : Nat → Bool} {r : Value} (h13 : D 13 = false) (h14 : D 14 = false) :
    ∀ j w, D j = true → BkG u sb so scap k ss st x j w → BkG u sb so scap k ss st ⟨x.v, x.q, x.c, r⟩ j w
  | 0, _, _, h | 1, _, _, h | 2, _, _, h | 3, _, _, h | 4, _, _, h | 5, _, _, h | 6, _, _, h | 7, _, _, h | 8, _, _, h | 9, _, _, h | 10, _, _, h | 11, _, _, h | 12, _, _, h => h
  | 13, _, hj, _ => by rw [h13] at hj; cases hj
  | 14, _, hj, _ => by rw [h14] at hj; cases hj
  | _ + 15, _, _, h => h

def TkI (g ib io cap k : Nat) (zs : List Int) (z : Int) (_ : Unit) : Nat → Value → Prop
  | 0, w => w = .pointer (some ⟨g, 0, none⟩)
  | 1, w => w = .int .i64 z
  | 2, w => w = .slice (some ⟨ib, io, none⟩) zs.length cap
  | 3, w => w = .int .i64 (k : Int)
  | 4, w => w = .pointer (some ⟨ib, io + k, none⟩)
  | 5, w => w = .int .i64 z
  | _, w => w = .bool false

def TkS (g sb so scap k : Nat) (ss : List ByteArray) (st : ByteArray) (_ : Unit) : Nat → Value → Prop
  | 0, w => w = .pointer (some ⟨g, 0, none⟩)
  | 1, w => w = .slice (some ⟨sb, so, none⟩) ss.length scap
  | 2, w => w = .int .i64 (k : Int)
  | 3, w => w = .pointer (some ⟨sb, so + k, none⟩)
  | 4, w => w = .string st
  | 5, w => w = .int .i64 (st.size : Int)
  | 6, w => w = .string st
  | 7, w => w = .slice (some ⟨sb, so, none⟩) ss.length scap
  | 8, w => w = .int .i64 (k : Int)
  | 9, w => w = .pointer (some ⟨sb, so + k, none⟩)
  | 10, w => w = .string st
  | _, w => w = .bool false

/-- The world while something is taken: behind operation ci the cursor has gone on. -/
structure TkC (ci : Nat) (w0 : World) (g : Nat) (s s' : List Nat × Nat) (x : Unit) (D : Nat → Bool) (W : World) : Prop where
  cur : Cur W g (if D ci = true then s' else s)
  row : Below w0.heap.size w0 W
  bg : w0.heap.size ≤ g
section
variable {ci : Nat} {w0 W : World} {g : Nat} {s s' : List Nat × Nat} {x : Unit} {D : Nat → Bool}
theorem TkC.up (h : TkC ci w0 g s s' x D W) {i : Nat} (h1 : (ci == i) = false) : TkC ci w0 g s s' x (add D i) W := ⟨by rw [up_other h1]; exact h.cur, h.row, h.bg⟩
theorem TkC.curB (h : TkC ci w0 g s s' x D W) (hD : D ci = false) : Cur W g s := by
  have := h.cur
  rw [hD] at this
  exact this
theorem TkC.called (h : TkC ci w0 g s s' x D W) {W' : World} (hc : CurP W' (some ⟨g, 0, none⟩) s') (ho : Only (some ⟨g, 0, none⟩) W W') : TkC ci w0 g s s' x (add D ci) W' := ⟨by rw [up_self, if_pos rfl]; exact hc.cur, ho.below h.row h.bg h.row.size, h.bg⟩
theorem tk_start (h : Cur W g s) (hb : Below w0.heap.size w0 W) (hg : w0.heap.size ≤ g) : TkC ci w0 g s s' x (fun _ => false) W.drew :=
  ⟨h.kept (row := none) ⟨rfl, rfl, rfl, Nat.le_refl _, fun _ _ _ => rfl⟩ (by simp), hb.drew, hg⟩
theorem TkC.all (h : TkC ci w0 g s s' x D W) (hD : D ci = true) : Cur W g s' ∧ Below w0.heap.size w0 W := by
  have := h.cur
  rw [if_pos hD] at this
  exact ⟨this, h.row⟩
end

/-- The rounds' heads. -/
def Bk1 (w0 : World) (zs : List Int) (u i : Value) (W : World) : Prop := ∃ k : Nat, i = .int .i64 (k : Int) ∧ k ≤ zs.length ∧ Lies w0 (laidI (zs.take k)) u W
def Bk2 (w0 : World) (zs : List Int) (ss : List ByteArray) (u i : Value) (W : World) : Prop := ∃ k : Nat, i = .int .i64 (k : Int) ∧ k ≤ ss.length ∧ Lies w0 (laidI zs ++ laidS (ss.take k)) u W
def Bk3 (w0 : World) (g : Nat) (zs : List Int) (ss : List ByteArray) (i : Value) (W : World) : Prop := ∃ k : Nat, i = .int .i64 (k : Int) ∧ k ≤ zs.length ∧ Cur W g (laidI (zs.drop k) ++ laidS ss, 0) ∧ Below w0.heap.size w0 W
def Bk4 (w0 : World) (g : Nat) (ss : List ByteArray) (i : Value) (W : World) : Prop := ∃ k : Nat, i = .int .i64 (k : Int) ∧ k ≤ ss.length ∧ Cur W g (laidS (ss.drop k), 0) ∧ Below w0.heap.size w0 W

set_option maxHeartbeats 8000000 in
set_option maxRecDepth 100000 in
theorem back2_walk (L S : Option Addr) (cap scap : Nat) (zs : List Int) (ss : List ByteArray) (w0 : World) (hi : IntsAt w0 L zs) (hs : StrsAt w0 S ss) (ht : tot ss ≤ 1048576) (hz1 : zs.length ≤ 9223372036854775807) (hs1 : ss.length ≤ 9223372036854775807) :
    Calls Try.prog 4 #[.slice L zs.length cap, .slice S ss.length scap] w0 fun e w' => e = .returned (.bool true) ∧ Below w0.heap.size w0 w' := by
  by_cases hz : 40 < zs.length
  · clear hi hs ht
    go_enter Try.func4, Try.ntmps4
    go_wp2_with (go_at_call 13; refine (lives2_any _).mono ?_; rintro e w' ⟨rfl, hb⟩)
    go_ret
    exact ⟨rfl, hb⟩
  by_cases hs40 : 40 < ss.length
  · clear hi hs ht
    go_enter Try.func4, Try.ntmps4
    go_wp2_with (go_at_call 13; refine (lives2_any _).mono ?_; rintro e w' ⟨rfl, hb⟩)
    go_ret
    exact ⟨rfl, hb⟩
  have HI := Lib.hid hi
  have HS := Lib.hid hs
  have HZ := Lib.hid hi.1
  clear hi hs
  go_enter Try.func4, Try.ntmps4
  go_wp2
  go_loopw [5, 6] (fun u i W => Bk1 w0 zs u i W) (fun _ i _ => zs.length - (intOf i).toNat)
  case atStart => exact ⟨0, rfl, Nat.zero_le _, Lies.nil w0⟩
  case round =>
    obtain ⟨k, rfl, hk, hL⟩ := hrel
    have HL := Lib.hid hL
    clear hL
    by_cases hlt : k < zs.length
    · obtain ⟨ib, io, rfl, hib, hcell⟩ := HI.out.2 (by omega)
      have q0 := (HL.out.2.cell (p := ⟨ib, io + k, none⟩) hib).trans (hcell k hlt)
      obtain ⟨b1, b2⟩ := HI.out.at hlt
      have hlen : (laidI (zs.take k)).length ≤ 10 * k := by
        have := laidI_len (l := zs.take k) (fun z hz => HZ.out z (List.mem_of_mem_take hz))
        simp only [List.length_take] at this
        omega
      have HSN := Lib.hid (laidI_snoc hlt)
      clear hcell
      generalize zs.getD k 0 = z at *
      go_wp2_with (go_at_call 14; refine (putInt_own w0.heap.size u5 _ (bs (laidI (zs.take k))) z _ b1 b2 HL.out.1 HL.out.2.size (by omega)).mono ?_; rintro e w2 ⟨v, rfl, hinv⟩)
      go_roundw
      case rel => exact ⟨k + 1, by go_num, by omega, by rw [HSN.out]; exact HL.out.put hinv⟩
      case measure => simp [intOf]; omega
    · obtain rfl : k = zs.length := by omega
      have hL := HL.out
      rw [List.take_length] at hL
      have HL2 := Lib.hid hL
      clear hL HL hlt hk
      go_wp2
      go_loopw [5, 7] (fun u i W => Bk2 w0 zs ss u i W) (fun _ i _ => ss.length - (intOf i).toNat)
      case atStart => exact ⟨0, rfl, Nat.zero_le _, by simpa [laidS] using HL2.out⟩
      case round =>
        clear HL2
        obtain ⟨k, rfl, hk, hL⟩ := hrel
        have HL := Lib.hid hL
        clear hL
        by_cases hlt : k < ss.length
        · obtain ⟨sb, so, rfl, hsb, hcell⟩ := HS.out (by omega)
          have q0 := hcell k hlt
          have hst := tot_mem hlt
          have HSN := Lib.hid (laidS_snoc hlt)
          have hlen : (laidI zs ++ laidS (ss.take k)).length ≤ 1050000 := by
            have h1 := laidI_len HZ.out
            have h2 := laidS_len (l := ss.take k) (by have := tot_take ss k; omega)
            have h3 := tot_take ss k
            simp only [List.length_take, List.length_append] at h2 ⊢
            omega
          clear hcell
          generalize ss.getD k .empty = st at *
          generalize hld : laidI zs ++ laidS (ss.take k) = l at *
          have HLD := Lib.hid hld
          clear hld
          have hp10 := Uv.put_len_10 (n := st.size) (by omega)
          have hl10 : l.length + 10 ≤ 140737488355328 := by omega
          have hlt47 : (l ++ Uv.put st.size).length + (nats st).length ≤ 140737488355328 := by
            rw [List.length_append, nats_length]
            omega
          go_wp2
          generalize hu : u5 = u at *
          refine region_k (⟨undef, 0, 0, undef⟩ : BkX) 93 (BkC w0 l (Uv.put st.size) (nats st) u) (BkG u sb so scap k ss st) (by kernel_rfl) (by kernel_rfl) (by kernel_rfl) rfl rfl (bk_start HL.out) ?_ ?_
          · refine ⟨?_, ?_, ?_, ?_, ?_, ?_, ?_, ?_, ?_, ?_, ?_, ?_, ?_, ?_, ?_, trivial⟩
            · intro x D a w hI hdep hD0 K hK
              have e5 : a.eval (.tmp 5) = u := hI.ahead 5 14 (hI.not_up hD0 14 rfl) rfl
              refine ok_value (wanted_none rfl) (v := u) ?_ (hK x _ _ (hI.world.up rfl rfl rfl) (fun _ _ _ h => h) rfl)
              have ec : ∀ c, a.eval (.const c) = c := fun _ => rfl
              clear hI hdep hK
              generalize a.eval = ρ at e5 ec ⊢
              go_simp
            · intro x D a w hI hdep hD0 K hK
              have e1 : a.eval (.tmp 1) = .slice (some ⟨sb, so, none⟩) ss.length scap := hI.read 1 rfl
              refine ok_value (wanted_none rfl) (v := .slice (some ⟨sb, so, none⟩) ss.length scap) ?_ (hK x _ _ (hI.world.up rfl rfl rfl) (fun _ _ _ h => h) rfl)
              have ec : ∀ c, a.eval (.const c) = c := fun _ => rfl
              have ef : ∀ f, a.eval (.func f) = .func (.func f) #[] #[] := fun _ => rfl
              clear hI hdep hK
              generalize a.eval = ρ at e1 ec ef ⊢
              go_simp
            · intro x D a w hI hdep hD0 K hK
              have e7 : a.eval (.tmp 7) = .int .i64 (k : Int) := hI.read 7 rfl
              refine ok_value (wanted_none rfl) (v := .int .i64 (k : Int)) ?_ (hK x _ _ (hI.world.up rfl rfl rfl) (fun _ _ _ h => h) rfl)
              have ec : ∀ c, a.eval (.const c) = c := fun _ => rfl
              have ef : ∀ f, a.eval (.func f) = .func (.func f) #[] #[] := fun _ => rfl
              clear hI hdep hK
              generalize a.eval = ρ at e7 ec ef ⊢
              go_simp
            · intro x D a w hI hdep hD0 K hK
              have e39 : a.eval (.tmp 39) = .slice (some ⟨sb, so, none⟩) ss.length scap := hI.good 1 39 (dep_of hdep 1 rfl) rfl
              have e40 : a.eval (.tmp 40) = .int .i64 (k : Int) := hI.good 2 40 (dep_of hdep 2 rfl) rfl
              refine ok_value (wanted_none rfl) (v := .pointer (some ⟨sb, so + k, none⟩)) ?_ (hK x _ _ (hI.world.up rfl rfl rfl) (fun _ _ _ h => h) rfl)
              have ec : ∀ c, a.eval (.const c) = c := fun _ => rfl
              have ef : ∀ f, a.eval (.func f) = .func (.func f) #[] #[] := fun _ => rfl
              clear hI hdep hK
              generalize a.eval = ρ at e39 e40 ec ef ⊢
              go_simp
            · intro x D a w hI hdep hD0 K hK
              have e41 : a.eval (.tmp 41) = .pointer (some ⟨sb, so + k, none⟩) := hI.good 3 41 (dep_of hdep 3 rfl) rfl
              have x0 := (hI.world.row.cell (p := ⟨sb, so + k, none⟩) hsb).trans q0
              refine ok_value (wanted_none rfl) (v := .string st) ?_ (hK x _ _ (hI.world.up rfl rfl rfl) (fun _ _ _ h => h) rfl)
              have ec : ∀ c, a.eval (.const c) = c := fun _ => rfl
              have ef : ∀ f, a.eval (.func f) = .func (.func f) #[] #[] := fun _ => rfl
              clear hI hdep hK
              generalize a.eval = ρ at e41 ec ef ⊢
              go_simp
            · intro x D a w hI hdep hD0 K hK
              have e42 : a.eval (.tmp 42) = .string st := hI.good 4 42 (dep_of hdep 4 rfl) rfl
              refine ok_value (wanted_none rfl) (v := .int .i64 (st.size : Int)) ?_ (hK x _ _ (hI.world.up rfl rfl rfl) (fun _ _ _ h => h) rfl)
              have ec : ∀ c, a.eval (.const c) = c := fun _ => rfl
              have ef : ∀ f, a.eval (.func f) = .func (.func f) #[] #[] := fun _ => rfl
              clear hI hdep hK
              generalize a.eval = ρ at e42 ec ef ⊢
              go_simp
            · intro x D a w hI hdep hD0 K hK
              have e43 : a.eval (.tmp 43) = .int .i64 (st.size : Int) := hI.good 5 43 (dep_of hdep 5 rfl) rfl
              have hwr : IntKind.u64.wrap (st.size : Int) = (st.size : Int) := by rw [IntKind.wrap_u64]; omega
              refine ok_value (wanted_none rfl) (v := .int .u64 (st.size : Int)) ?_ (hK x _ _ (hI.world.up rfl rfl rfl) (fun _ _ _ h => h) rfl)
              have ec : ∀ c, a.eval (.const c) = c := fun _ => rfl
              have ef : ∀ f, a.eval (.func f) = .func (.func f) #[] #[] := fun _ => rfl
              clear hI hdep hK
              generalize a.eval = ρ at e43 ec ef ⊢
              go_simp
            · intro x D a w hI hdep hD0 K hK
              have e38 : a.eval (.tmp 38) = u := hI.good 0 38 (dep_of hdep 0 rfl) rfl
              have e44 : a.eval (.tmp 44) = .int .u64 (st.size : Int) := hI.good 6 44 (dep_of hdep 6 rfl) rfl
              have h13 := hI.not_up hD0 13 rfl
              refine ok_call (wanted_none rfl) (f := 15) (args := #[u, .int .u64 (st.size : Int)]) ?_ (put_own w0.heap.size u l.length (bs l) st.size w (by omega) (hI.world.own0 hD0 h13).1 hI.world.row.size hl10) ?_
              · have ec : ∀ c, a.eval (.const c) = c := fun _ => rfl
                have ef : ∀ f, a.eval (.func f) = .func (.func f) #[] #[] := fun _ => rfl
                clear hI hdep hK
                generalize a.eval = ρ at e38 e44 ec ef ⊢
                go_simp
              · rintro e w2 ⟨v, rfl, hinv⟩
                exact ⟨_, rfl, hK ⟨v, x.q, x.c, x.r⟩ _ _ (hI.world.called hD0 h13 hinv) (bkg_call hD0) rfl⟩
            · intro x D a w hI hdep hD0 K hK
              have e1 : a.eval (.tmp 1) = .slice (some ⟨sb, so, none⟩) ss.length scap := hI.read 1 rfl
              refine ok_value (wanted_none rfl) (v := .slice (some ⟨sb, so, none⟩) ss.length scap) ?_ (hK x _ _ (hI.world.up rfl rfl rfl) (fun _ _ _ h => h) rfl)
              have ec : ∀ c, a.eval (.const c) = c := fun _ => rfl
              have ef : ∀ f, a.eval (.func f) = .func (.func f) #[] #[] := fun _ => rfl
              clear hI hdep hK
              generalize a.eval = ρ at e1 ec ef ⊢
              go_simp
            · intro x D a w hI hdep hD0 K hK
              have e7 : a.eval (.tmp 7) = .int .i64 (k : Int) := hI.read 7 rfl
              refine ok_value (wanted_none rfl) (v := .int .i64 (k : Int)) ?_ (hK x _ _ (hI.world.up rfl rfl rfl) (fun _ _ _ h => h) rfl)
              have ec : ∀ c, a.eval (.const c) = c := fun _ => rfl
              have ef : ∀ f, a.eval (.func f) = .func (.func f) #[] #[] := fun _ => rfl
              clear hI hdep hK
              generalize a.eval = ρ at e7 ec ef ⊢
              go_simp
            · intro x D a w hI hdep hD0 K hK
              have e46 : a.eval (.tmp 46) = .slice (some ⟨sb, so, none⟩) ss.length scap := hI.good 8 46 (dep_of hdep 8 rfl) rfl
              have e47 : a.eval (.tmp 47) = .int .i64 (k : Int) := hI.good 9 47 (dep_of hdep 9 rfl) rfl
              refine ok_value (wanted_none rfl) (v := .pointer (some ⟨sb, so + k, none⟩)) ?_ (hK x _ _ (hI.world.up rfl rfl rfl) (fun _ _ _ h => h) rfl)
              have ec : ∀ c, a.eval (.const c) = c := fun _ => rfl
              have ef : ∀ f, a.eval (.func f) = .func (.func f) #[] #[] := fun _ => rfl
              clear hI hdep hK
              generalize a.eval = ρ at e46 e47 ec ef ⊢
              go_simp
            · intro x D a w hI hdep hD0 K hK
              have e48 : a.eval (.tmp 48) = .pointer (some ⟨sb, so + k, none⟩) := hI.good 10 48 (dep_of hdep 10 rfl) rfl
              have x0 := (hI.world.row.cell (p := ⟨sb, so + k, none⟩) hsb).trans q0
              refine ok_value (wanted_none rfl) (v := .string st) ?_ (hK x _ _ (hI.world.up rfl rfl rfl) (fun _ _ _ h => h) rfl)
              have ec : ∀ c, a.eval (.const c) = c := fun _ => rfl
              have ef : ∀ f, a.eval (.func f) = .func (.func f) #[] #[] := fun _ => rfl
              clear hI hdep hK
              generalize a.eval = ρ at e48 ec ef ⊢
              go_simp
            · intro x D a w hI hdep hD0 K hK
              have e49 : a.eval (.tmp 49) = .string st := hI.good 11 49 (dep_of hdep 11 rfl) rfl
              have h13 := hI.not_up hD0 13 rfl
              obtain ⟨c, W', hr, hc, hs, hb⟩ := conv_text w st
              refine ok_new (wanted_none rfl) (v := .slice (some ⟨w.heap.size, 0, none⟩) st.size c) (w' := W') ?_ (hK ⟨x.v, w.heap.size, c, x.r⟩ _ _ (hI.world.turned h13 (by rw [nats_length]; exact hc) hs hb) (bkg_conv hD0) rfl)
              have ec : ∀ c, a.eval (.const c) = c := fun _ => rfl
              have ef : ∀ f, a.eval (.func f) = .func (.func f) #[] #[] := fun _ => rfl
              clear hI hdep hK
              generalize a.eval = ρ at e49 ec ef ⊢
              go_simp
            · intro x D a w hI hdep hD0 K hK
              have e45 : a.eval (.tmp 45) = x.v := hI.good 7 45 (dep_of hdep 7 rfl) rfl
              have e50 : a.eval (.tmp 50) = .slice (some ⟨x.q, 0, none⟩) st.size x.c := hI.good 12 50 (dep_of hdep 12 rfl) rfl
              obtain ⟨r, W', hr, hC⟩ := hI.world.appends (dep_of hdep 7 rfl) (dep_of hdep 12 rfl) hD0 (nats_byte st) hlt47
              rw [nats_length] at hr
              exact ok_append (wanted_none rfl) (.tmp 45) (.tmp 50) 22 22 rfl (by rw [e45, e50]; exact hr) (hK ⟨x.v, x.q, x.c, r⟩ _ _ hC (bkg_app hD0 (hI.not_up hD0 14 rfl)) rfl)
            · intro x D a w hI hdep hD0 K hK
              have e51 : a.eval (.tmp 51) = x.r := hI.good 13 51 (dep_of hdep 13 rfl) rfl
              refine ok_value (wanted_none rfl) (v := x.r) ?_ (hK x _ _ (hI.world.up rfl rfl rfl) (fun _ _ _ h => h) rfl)
              have ec : ∀ c, a.eval (.const c) = c := fun _ => rfl
              have ef : ∀ f, a.eval (.func f) = .func (.func f) #[] #[] := fun _ => rfl
              clear hI hdep hK
              generalize a.eval = ρ at e51 ec ef ⊢
              go_simp
          · intro x D a w hI hD
            have hfr := hI.frame [(38, u), (39, .slice (some ⟨sb, so, none⟩) ss.length scap), (40, .int .i64 (k : Int)), (41, .pointer (some ⟨sb, so + k, none⟩)), (42, .string st), (43, .int .i64 (st.size : Int)), (44, .int .u64 (st.size : Int)), (45, x.v), (46, .slice (some ⟨sb, so, none⟩) ss.length scap), (47, .int .i64 (k : Int)), (48, .pointer (some ⟨sb, so + k, none⟩)), (49, .string st), (50, .slice (some ⟨x.q, 0, none⟩) st.size x.c), (51, x.r), (5, x.r)] (all_cons (hI.good 0 38 (hD 0 (by decide)) rfl) (all_cons (hI.good 1 39 (hD 1 (by decide)) rfl) (all_cons (hI.good 2 40 (hD 2 (by decide)) rfl) (all_cons (hI.good 3 41 (hD 3 (by decide)) rfl) (all_cons (hI.good 4 42 (hD 4 (by decide)) rfl) (all_cons (hI.good 5 43 (hD 5 (by decide)) rfl) (all_cons (hI.good 6 44 (hD 6 (by decide)) rfl) (all_cons (hI.good 7 45 (hD 7 (by decide)) rfl) (all_cons (hI.good 8 46 (hD 8 (by decide)) rfl) (all_cons (hI.good 9 47 (hD 9 (by decide)) rfl) (all_cons (hI.good 10 48 (hD 10 (by decide)) rfl) (all_cons (hI.good 11 49 (hD 11 (by decide)) rfl) (all_cons (hI.good 12 50 (hD 12 (by decide)) rfl) (all_cons (hI.good 13 51 (hD 13 (by decide)) rfl) (all_cons (hI.good 14 5 (hD 14 (by decide)) rfl) all_nil))))))))))))))) rfl
            have hW := hI.world
            clear hI
            subst hfr
            simp only [List.foldl_cons, List.foldl_nil, List.setIfInBounds_toArray, List.set_cons_succ, List.set_cons_zero]
            have HW := Lib.hid (hW.all (hD 13 (by decide)))
            clear hW hD HL q0
            go_wp2
            go_roundw
            case rel => exact ⟨k + 1, by go_num, by omega, by rw [HSN.out, ← List.append_assoc, ← List.append_assoc, HLD.out]; exact HW.out⟩
            case measure => simp [intOf]; omega
        · obtain rfl : k = ss.length := by omega
          have hL := HL.out
          rw [List.take_length] at hL
          have hbytes : ∀ c ∈ laidI zs ++ laidS ss, c < 256 := fun c hc => (List.mem_append.1 hc).elim (laidI_byte zs c) (laidS_byte ss c)
          have hlen : (laidI zs ++ laidS ss).length ≤ 1050000 := by
            have h1 := laidI_len HZ.out
            have h2 := laidS_len ht
            simp only [List.length_append]
            omega
          obtain ⟨A, c, hu, hb⟩ := hL.bytes hbytes
          subst hu
          have HN := Lib.hid (new_any A _ c _ wr hb (by omega))
          have HB := Lib.hid hL.2
          generalize hnl : (laidI zs ++ laidS ss).length = nl at *
          clear hb hL HL hlt hk hbytes hnl
          go_wp2_with fail
          refine HN.out.mono ?_
          rintro e w1 ⟨g, rfl, hg, hc, hbl⟩
          have hg0 : w0.heap.size ≤ g := Nat.le_trans HB.out.size hg
          have HC3 := Lib.hid hc
          have HB3 := Lib.hid (HB.out.trans (hbl.mono HB.out.size))
          clear hc hbl HN HB hg
          go_wp2
          go_loopw [9] (fun i W => Bk3 w0 g zs ss i W) (fun i _ => zs.length - (intOf i).toNat)
          case atStart => exact ⟨0, rfl, Nat.zero_le _, HC3.out, HB3.out⟩
          case round =>
            clear HC3 HB3
            obtain ⟨k, rfl, hk, hcur, hrow⟩ := hrel
            have HC3 := Lib.hid hcur
            have HB3 := Lib.hid hrow
            clear hcur hrow
            by_cases hlt : k < zs.length
            · obtain ⟨ib, io, rfl, hib, hcell⟩ := HI.out.2 (by omega)
              have q0 := hcell k hlt
              obtain ⟨b1, b2⟩ := HI.out.at hlt
              have hd := laidI_drop hlt
              have hcur := HC3.out
              rw [hd, List.append_assoc] at hcur
              have HCu := Lib.hid hcur
              clear hcell hd hcur HC3
              generalize zs.getD k 0 = z at *
              have HC := Lib.hid (fun W (h : Cur W g (Uv.put (Uv.fold z) ++ (laidI (zs.drop (k + 1)) ++ laidS ss), 0)) => int_any (some ⟨g, 0, none⟩) _ W (.inr ⟨g, rfl, h⟩))
              rw [intA_put b1 b2] at HC
              go_wp2
              refine region_k () 93 (TkC 1 w0 g (Uv.put (Uv.fold z) ++ (laidI (zs.drop (k + 1)) ++ laidS ss), 0) (laidI (zs.drop (k + 1)) ++ laidS ss, 0)) (TkI g ib io cap k zs z) (by kernel_rfl) (by kernel_rfl) (by kernel_rfl) rfl rfl (tk_start HCu.out HB3.out hg0) ?_ ?_
              · refine ⟨?_, ?_, ?_, ?_, ?_, ?_, ?_, trivial⟩
                · intro x D a w hI hdep hD0 K hK
                  have e8 : a.eval (.tmp 8) = .pointer (some ⟨g, 0, none⟩) := hI.read 8 rfl
                  refine ok_value (wanted_none rfl) (v := .pointer (some ⟨g, 0, none⟩)) ?_ (hK x _ _ (hI.world.up rfl) (fun _ _ _ h => h) rfl)
                  have ec : ∀ c, a.eval (.const c) = c := fun _ => rfl
                  have ef : ∀ f, a.eval (.func f) = .func (.func f) #[] #[] := fun _ => rfl
                  clear hI hdep hK
                  generalize a.eval = ρ at e8 ec ef ⊢
                  go_simp
                · intro x D a w hI hdep hD0 K hK
                  have e62 : a.eval (.tmp 62) = .pointer (some ⟨g, 0, none⟩) := hI.good 0 62 (dep_of hdep 0 rfl) rfl
                  refine ok_call (wanted_none rfl) (f := 16) (args := #[.pointer (some ⟨g, 0, none⟩)]) ?_ (HC.out w (hI.world.curB hD0)) ?_
                  · have ec : ∀ c, a.eval (.const c) = c := fun _ => rfl
                    have ef : ∀ f, a.eval (.func f) = .func (.func f) #[] #[] := fun _ => rfl
                    clear hI hdep hK
                    generalize a.eval = ρ at e62 ec ef ⊢
                    go_simp
                  · rintro e w2 ⟨rfl, hc2, ho2⟩
                    exact ⟨_, rfl, hK x _ _ (hI.world.called hc2 ho2) (fun _ _ _ h => h) rfl⟩
                · intro x D a w hI hdep hD0 K hK
                  have e0 : a.eval (.tmp 0) = .slice (some ⟨ib, io, none⟩) zs.length cap := hI.read 0 rfl
                  refine ok_value (wanted_none rfl) (v := .slice (some ⟨ib, io, none⟩) zs.length cap) ?_ (hK x _ _ (hI.world.up rfl) (fun _ _ _ h => h) rfl)
                  have ec : ∀ c, a.eval (.const c) = c := fun _ => rfl
                  have ef : ∀ f, a.eval (.func f) = .func (.func f) #[] #[] := fun _ => rfl
                  clear hI hdep hK
                  generalize a.eval = ρ at e0 ec ef ⊢
                  go_simp
                · intro x D a w hI hdep hD0 K hK
                  have e9 : a.eval (.tmp 9) = .int .i64 (k : Int) := hI.read 9 rfl
                  refine ok_value (wanted_none rfl) (v := .int .i64 (k : Int)) ?_ (hK x _ _ (hI.world.up rfl) (fun _ _ _ h => h) rfl)
                  have ec : ∀ c, a.eval (.const c) = c := fun _ => rfl
                  have ef : ∀ f, a.eval (.func f) = .func (.func f) #[] #[] := fun _ => rfl
                  clear hI hdep hK
                  generalize a.eval = ρ at e9 ec ef ⊢
                  go_simp
                · intro x D a w hI hdep hD0 K hK
                  have e64 : a.eval (.tmp 64) = .slice (some ⟨ib, io, none⟩) zs.length cap := hI.good 2 64 (dep_of hdep 2 rfl) rfl
                  have e65 : a.eval (.tmp 65) = .int .i64 (k : Int) := hI.good 3 65 (dep_of hdep 3 rfl) rfl
                  refine ok_value (wanted_none rfl) (v := .pointer (some ⟨ib, io + k, none⟩)) ?_ (hK x _ _ (hI.world.up rfl) (fun _ _ _ h => h) rfl)
                  have ec : ∀ c, a.eval (.const c) = c := fun _ => rfl
                  have ef : ∀ f, a.eval (.func f) = .func (.func f) #[] #[] := fun _ => rfl
                  clear hI hdep hK
                  generalize a.eval = ρ at e64 e65 ec ef ⊢
                  go_simp
                · intro x D a w hI hdep hD0 K hK
                  have e66 : a.eval (.tmp 66) = .pointer (some ⟨ib, io + k, none⟩) := hI.good 4 66 (dep_of hdep 4 rfl) rfl
                  have x0 := (hI.world.row.cell (p := ⟨ib, io + k, none⟩) hib).trans q0
                  refine ok_value (wanted_none rfl) (v := .int .i64 z) ?_ (hK x _ _ (hI.world.up rfl) (fun _ _ _ h => h) rfl)
                  have ec : ∀ c, a.eval (.const c) = c := fun _ => rfl
                  have ef : ∀ f, a.eval (.func f) = .func (.func f) #[] #[] := fun _ => rfl
                  clear hI hdep hK
                  generalize a.eval = ρ at e66 ec ef ⊢
                  go_simp
                · intro x D a w hI hdep hD0 K hK
                  have e63 : a.eval (.tmp 63) = .int .i64 z := hI.good 1 63 (dep_of hdep 1 rfl) rfl
                  have e67 : a.eval (.tmp 67) = .int .i64 z := hI.good 5 67 (dep_of hdep 5 rfl) rfl
                  refine ok_value (wanted_none rfl) (v := .bool false) ?_ (hK x _ _ (hI.world.up rfl) (fun _ _ _ h => h) rfl)
                  have ec : ∀ c, a.eval (.const c) = c := fun _ => rfl
                  have ef : ∀ f, a.eval (.func f) = .func (.func f) #[] #[] := fun _ => rfl
                  clear hI hdep hK
                  generalize a.eval = ρ at e63 e67 ec ef ⊢
                  go_simp
              · intro x D a w hI hD
                have hfr := hI.frame [(62, .pointer (some ⟨g, 0, none⟩)), (63, .int .i64 z), (64, .slice (some ⟨ib, io, none⟩) zs.length cap), (65, .int .i64 (k : Int)), (66, .pointer (some ⟨ib, io + k, none⟩)), (67, .int .i64 z), (68, .bool false)] (all_cons (hI.good 0 62 (hD 0 (by decide)) rfl) (all_cons (hI.good 1 63 (hD 1 (by decide)) rfl) (all_cons (hI.good 2 64 (hD 2 (by decide)) rfl) (all_cons (hI.good 3 65 (hD 3 (by decide)) rfl) (all_cons (hI.good 4 66 (hD 4 (by decide)) rfl) (all_cons (hI.good 5 67 (hD 5 (by decide)) rfl) (all_cons (hI.good 6 68 (hD 6 (by decide)) rfl) all_nil))))))) rfl
                have hW := hI.world
                clear hI
                subst hfr
                simp only [List.foldl_cons, List.foldl_nil, List.setIfInBounds_toArray, List.set_cons_succ, List.set_cons_zero]
                have HW := Lib.hid (hW.all (hD 1 (by decide)))
                clear hW hD HC HCu HB3 q0
                go_wp2
                go_roundw
                case rel => exact ⟨k + 1, by go_num, by omega, HW.out.1, HW.out.2⟩
                case measure => simp [intOf]; omega
            · obtain rfl : k = zs.length := by omega
              have hcur := HC3.out
              rw [List.drop_length] at hcur
              have HC4 := Lib.hid hcur
              clear hcur HC3 hlt hk
              go_wp2
              go_loopw [10] (fun i W => Bk4 w0 g ss i W) (fun i _ => ss.length - (intOf i).toNat)
              case atStart => exact ⟨0, rfl, Nat.zero_le _, HC4.out, HB3.out⟩
              case round =>
                clear HC4 HB3
                obtain ⟨k, rfl, hk, hcur, hrow⟩ := hrel
                have HC3 := Lib.hid hcur
                have HB3 := Lib.hid hrow
                clear hcur hrow
                by_cases hlt : k < ss.length
                · obtain ⟨sb, so, rfl, hsb, hcell⟩ := HS.out (by omega)
                  have q0 := hcell k hlt
                  have hst := tot_mem hlt
                  have hd := laidS_drop hlt
                  have hcur := HC3.out
                  rw [hd] at hcur
                  have HCu := Lib.hid hcur
                  clear hcell hd hcur HC3
                  generalize ss.getD k .empty = st at *
                  have HC := Lib.hid (fun W (h : Cur W g ((Uv.put st.size ++ nats st) ++ laidS (ss.drop (k + 1)), 0)) => ctext_any (some ⟨g, 0, none⟩) _ (st.size : Int) W (.inr ⟨g, rfl, h⟩) (by omega) (by omega))
                  rw [textA_put (s := st) (by omega)] at HC
                  go_wp2
                  refine region_k () 93 (TkC 6 w0 g ((Uv.put st.size ++ nats st) ++ laidS (ss.drop (k + 1)), 0) (laidS (ss.drop (k + 1)), 0)) (TkS g sb so scap k ss st) (by kernel_rfl) (by kernel_rfl) (by kernel_rfl) rfl rfl (tk_start HCu.out HB3.out hg0) ?_ ?_
                  · refine ⟨?_, ?_, ?_, ?_, ?_, ?_, ?_, ?_, ?_, ?_, ?_, ?_, trivial⟩
                    · intro x D a w hI hdep hD0 K hK
                      have e8 : a.eval (.tmp 8) = .pointer (some ⟨g, 0, none⟩) := hI.read 8 rfl
                      refine ok_value (wanted_none rfl) (v := .pointer (some ⟨g, 0, none⟩)) ?_ (hK x _ _ (hI.world.up rfl) (fun _ _ _ h => h) rfl)
                      have ec : ∀ c, a.eval (.const c) = c := fun _ => rfl
                      have ef : ∀ f, a.eval (.func f) = .func (.func f) #[] #[] := fun _ => rfl
                      clear hI hdep hK
                      generalize a.eval = ρ at e8 ec ef ⊢
                      go_simp
                    · intro x D a w hI hdep hD0 K hK
                      have e1 : a.eval (.tmp 1) = .slice (some ⟨sb, so, none⟩) ss.length scap := hI.read 1 rfl
                      refine ok_value (wanted_none rfl) (v := .slice (some ⟨sb, so, none⟩) ss.length scap) ?_ (hK x _ _ (hI.world.up rfl) (fun _ _ _ h => h) rfl)
                      have ec : ∀ c, a.eval (.const c) = c := fun _ => rfl
                      have ef : ∀ f, a.eval (.func f) = .func (.func f) #[] #[] := fun _ => rfl
                      clear hI hdep hK
                      generalize a.eval = ρ at e1 ec ef ⊢
                      go_simp
                    · intro x D a w hI hdep hD0 K hK
                      have e10 : a.eval (.tmp 10) = .int .i64 (k : Int) := hI.read 10 rfl
                      refine ok_value (wanted_none rfl) (v := .int .i64 (k : Int)) ?_ (hK x _ _ (hI.world.up rfl) (fun _ _ _ h => h) rfl)
                      have ec : ∀ c, a.eval (.const c) = c := fun _ => rfl
                      have ef : ∀ f, a.eval (.func f) = .func (.func f) #[] #[] := fun _ => rfl
                      clear hI hdep hK
                      generalize a.eval = ρ at e10 ec ef ⊢
                      go_simp
                    · intro x D a w hI hdep hD0 K hK
                      have e76 : a.eval (.tmp 76) = .slice (some ⟨sb, so, none⟩) ss.length scap := hI.good 1 76 (dep_of hdep 1 rfl) rfl
                      have e77 : a.eval (.tmp 77) = .int .i64 (k : Int) := hI.good 2 77 (dep_of hdep 2 rfl) rfl
                      refine ok_value (wanted_none rfl) (v := .pointer (some ⟨sb, so + k, none⟩)) ?_ (hK x _ _ (hI.world.up rfl) (fun _ _ _ h => h) rfl)
                      have ec : ∀ c, a.eval (.const c) = c := fun _ => rfl
                      have ef : ∀ f, a.eval (.func f) = .func (.func f) #[] #[] := fun _ => rfl
                      clear hI hdep hK
                      generalize a.eval = ρ at e76 e77 ec ef ⊢
                      go_simp
                    · intro x D a w hI hdep hD0 K hK
                      have e78 : a.eval (.tmp 78) = .pointer (some ⟨sb, so + k, none⟩) := hI.good 3 78 (dep_of hdep 3 rfl) rfl
                      have x0 := (hI.world.row.cell (p := ⟨sb, so + k, none⟩) hsb).trans q0
                      refine ok_value (wanted_none rfl) (v := .string st) ?_ (hK x _ _ (hI.world.up rfl) (fun _ _ _ h => h) rfl)
                      have ec : ∀ c, a.eval (.const c) = c := fun _ => rfl
                      have ef : ∀ f, a.eval (.func f) = .func (.func f) #[] #[] := fun _ => rfl
                      clear hI hdep hK
                      generalize a.eval = ρ at e78 ec ef ⊢
                      go_simp
                    · intro x D a w hI hdep hD0 K hK
                      have e79 : a.eval (.tmp 79) = .string st := hI.good 4 79 (dep_of hdep 4 rfl) rfl
                      refine ok_value (wanted_none rfl) (v := .int .i64 (st.size : Int)) ?_ (hK x _ _ (hI.world.up rfl) (fun _ _ _ h => h) rfl)
                      have ec : ∀ c, a.eval (.const c) = c := fun _ => rfl
                      have ef : ∀ f, a.eval (.func f) = .func (.func f) #[] #[] := fun _ => rfl
                      clear hI hdep hK
                      generalize a.eval = ρ at e79 ec ef ⊢
                      go_simp
                    · intro x D a w hI hdep hD0 K hK
                      have e75 : a.eval (.tmp 75) = .pointer (some ⟨g, 0, none⟩) := hI.good 0 75 (dep_of hdep 0 rfl) rfl
                      have e80 : a.eval (.tmp 80) = .int .i64 (st.size : Int) := hI.good 5 80 (dep_of hdep 5 rfl) rfl
                      refine ok_call (wanted_none rfl) (f := 17) (args := #[.pointer (some ⟨g, 0, none⟩), .int .i64 (st.size : Int)]) ?_ (HC.out w (hI.world.curB hD0)) ?_
                      · have ec : ∀ c, a.eval (.const c) = c := fun _ => rfl
                        have ef : ∀ f, a.eval (.func f) = .func (.func f) #[] #[] := fun _ => rfl
                        clear hI hdep hK
                        generalize a.eval = ρ at e75 e80 ec ef ⊢
                        go_simp
                      · rintro e w2 ⟨rfl, hc2, ho2⟩
                        exact ⟨_, rfl, hK x _ _ (hI.world.called hc2 ho2) (fun _ _ _ h => h) rfl⟩
                    · intro x D a w hI hdep hD0 K hK
                      have e1 : a.eval (.tmp 1) = .slice (some ⟨sb, so, none⟩) ss.length scap := hI.read 1 rfl
                      refine ok_value (wanted_none rfl) (v := .slice (some ⟨sb, so, none⟩) ss.length scap) ?_ (hK x _ _ (hI.world.up rfl) (fun _ _ _ h => h) rfl)
                      have ec : ∀ c, a.eval (.const c) = c := fun _ => rfl
                      have ef : ∀ f, a.eval (.func f) = .func (.func f) #[] #[] := fun _ => rfl
                      clear hI hdep hK
                      generalize a.eval = ρ at e1 ec ef ⊢
                      go_simp
                    · intro x D a w hI hdep hD0 K hK
                      have e10 : a.eval (.tmp 10) = .int .i64 (k : Int) := hI.read 10 rfl
                      refine ok_value (wanted_none rfl) (v := .int .i64 (k : Int)) ?_ (hK x _ _ (hI.world.up rfl) (fun _ _ _ h => h) rfl)
                      have ec : ∀ c, a.eval (.const c) = c := fun _ => rfl
                      have ef : ∀ f, a.eval (.func f) = .func (.func f) #[] #[] := fun _ => rfl
                      clear hI hdep hK
                      generalize a.eval = ρ at e10 ec ef ⊢
                      go_simp
                    · intro x D a w hI hdep hD0 K hK
                      have e82 : a.eval (.tmp 82) = .slice (some ⟨sb, so, none⟩) ss.length scap := hI.good 7 82 (dep_of hdep 7 rfl) rfl
                      have e83 : a.eval (.tmp 83) = .int .i64 (k : Int) := hI.good 8 83 (dep_of hdep 8 rfl) rfl
                      refine ok_value (wanted_none rfl) (v := .pointer (some ⟨sb, so + k, none⟩)) ?_ (hK x _ _ (hI.world.up rfl) (fun _ _ _ h => h) rfl)
                      have ec : ∀ c, a.eval (.const c) = c := fun _ => rfl
                      have ef : ∀ f, a.eval (.func f) = .func (.func f) #[] #[] := fun _ => rfl
                      clear hI hdep hK
                      generalize a.eval = ρ at e82 e83 ec ef ⊢
                      go_simp
                    · intro x D a w hI hdep hD0 K hK
                      have e84 : a.eval (.tmp 84) = .pointer (some ⟨sb, so + k, none⟩) := hI.good 9 84 (dep_of hdep 9 rfl) rfl
                      have x0 := (hI.world.row.cell (p := ⟨sb, so + k, none⟩) hsb).trans q0
                      refine ok_value (wanted_none rfl) (v := .string st) ?_ (hK x _ _ (hI.world.up rfl) (fun _ _ _ h => h) rfl)
                      have ec : ∀ c, a.eval (.const c) = c := fun _ => rfl
                      have ef : ∀ f, a.eval (.func f) = .func (.func f) #[] #[] := fun _ => rfl
                      clear hI hdep hK
                      generalize a.eval = ρ at e84 ec ef ⊢
                      go_simp
                    · intro x D a w hI hdep hD0 K hK
                      have e81 : a.eval (.tmp 81) = .string st := hI.good 6 81 (dep_of hdep 6 rfl) rfl
                      have e85 : a.eval (.tmp 85) = .string st := hI.good 10 85 (dep_of hdep 10 rfl) rfl
                      refine ok_value (wanted_none rfl) (v := .bool false) ?_ (hK x _ _ (hI.world.up rfl) (fun _ _ _ h => h) rfl)
                      have ec : ∀ c, a.eval (.const c) = c := fun _ => rfl
                      have ef : ∀ f, a.eval (.func f) = .func (.func f) #[] #[] := fun _ => rfl
                      clear hI hdep hK
                      generalize a.eval = ρ at e81 e85 ec ef ⊢
                      go_simp
                  · intro x D a w hI hD
                    have hfr := hI.frame [(75, .pointer (some ⟨g, 0, none⟩)), (76, .slice (some ⟨sb, so, none⟩) ss.length scap), (77, .int .i64 (k : Int)), (78, .pointer (some ⟨sb, so + k, none⟩)), (79, .string st), (80, .int .i64 (st.size : Int)), (81, .string st), (82, .slice (some ⟨sb, so, none⟩) ss.length scap), (83, .int .i64 (k : Int)), (84, .pointer (some ⟨sb, so + k, none⟩)), (85, .string st), (86, .bool false)] (all_cons (hI.good 0 75 (hD 0 (by decide)) rfl) (all_cons (hI.good 1 76 (hD 1 (by decide)) rfl) (all_cons (hI.good 2 77 (hD 2 (by decide)) rfl) (all_cons (hI.good 3 78 (hD 3 (by decide)) rfl) (all_cons (hI.good 4 79 (hD 4 (by decide)) rfl) (all_cons (hI.good 5 80 (hD 5 (by decide)) rfl) (all_cons (hI.good 6 81 (hD 6 (by decide)) rfl) (all_cons (hI.good 7 82 (hD 7 (by decide)) rfl) (all_cons (hI.good 8 83 (hD 8 (by decide)) rfl) (all_cons (hI.good 9 84 (hD 9 (by decide)) rfl) (all_cons (hI.good 10 85 (hD 10 (by decide)) rfl) (all_cons (hI.good 11 86 (hD 11 (by decide)) rfl) all_nil)))))))))))) rfl
                    have hW := hI.world
                    clear hI
                    subst hfr
                    simp only [List.foldl_cons, List.foldl_nil, List.setIfInBounds_toArray, List.set_cons_succ, List.set_cons_zero]
                    have HW := Lib.hid (hW.all (hD 6 (by decide)))
                    clear hW hD HC HCu HB3 q0
                    go_wp2
                    go_roundw
                    case rel => exact ⟨k + 1, by go_num, by omega, HW.out.1, HW.out.2⟩
                    case measure => simp [intOf]; omega
                · obtain rfl : k = ss.length := by omega
                  have hcur := HC3.out
                  rw [List.drop_length] at hcur
                  have HE := Lib.hid (end_any (some ⟨g, 0, none⟩) ([], 0) wr (.inr ⟨g, rfl, hcur⟩))
                  rw [show endA ([], 0) = 0 from rfl] at HE
                  clear hcur HC3 hlt hk
                  go_wp2_with (first
                    | (go_at_call 11; refine HE.out.mono ?_; rintro e w3 ⟨rfl, ⟨_, rfl⟩ | ⟨hx, _⟩⟩ <;> first | cases hx | skip)
                    | (go_at_call 13; refine (lives2_any _).mono ?_; rintro e w' ⟨rfl, hb⟩))
                  go_ret
                  exact ⟨rfl, HB3.out.trans (hb.mono HB3.out.size)⟩
end Go.Proofs.Ytblelhffghcffaa
