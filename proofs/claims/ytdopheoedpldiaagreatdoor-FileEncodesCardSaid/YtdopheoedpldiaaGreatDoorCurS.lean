/-
 What the cursor's calls answer where a call made the cursor. Conditions: none.
-/
import Derived.Test.YtdopheoedpldiaaGreatDoorCurM
import Derived.Test.YtdopheoedpldiaaGreatDoorPMa
set_option maxRecDepth 100000
namespace Go.Proofs.YtdopheoedpldiaaGreatDoor
open Go.RowKit
theorem bits_cur (g : Nat) (s : List Nat × Nat) (w : World) (h : Cur w g s) :
   Calls Tryz.prog 133 #[.pointer (some ⟨g, 0, none⟩)] w fun e w' => e = .returned (.int .u64 (bitsA s).1) ∧ Cur w' g (bitsA s).2 ∧ w.grownBy w' (some g) :=
 (bits_any (some ⟨g, 0, none⟩) s w (.inr ⟨g, rfl, h⟩)).mono fun _ _ ⟨h1, h2, h3⟩ => ⟨h1, h2.cur, h3⟩
theorem int_cur (g : Nat) (s : List Nat × Nat) (w : World) (h : Cur w g s) :
   Calls Tryz.prog 192 #[.pointer (some ⟨g, 0, none⟩)] w fun e w' => e = .returned (.int .i64 (intA s).1) ∧ Cur w' g (intA s).2 ∧ w.grownBy w' (some g) :=
 (int_any (some ⟨g, 0, none⟩) s w (.inr ⟨g, rfl, h⟩)).mono fun _ _ ⟨h1, h2, h3⟩ => ⟨h1, h2.cur, h3⟩
theorem err_cur (g : Nat) (s : List Nat × Nat) (w : World) (h : Cur w g s) :
   Calls Tryz.prog 107 #[.pointer (some ⟨g, 0, none⟩)] w fun e w' => e = .returned (.int .i64 s.2) ∧ w' = w := by
 refine (err_any (some ⟨g, 0, none⟩) s w (.inr ⟨g, rfl, h⟩)).mono ?_
 rintro e w' ⟨rfl, ⟨_, rfl⟩ | ⟨h, _⟩⟩
 · exact ⟨rfl, rfl⟩
 · cases h
theorem num_cur (g : Nat) (s : List Nat × Nat) (most : Int) (w : World) (h : Cur w g s) (h1 : -9223372036854775808 ≤ most) (h2 : most ≤ 9223372036854775807) :
   Calls Tryz.prog 106 #[.pointer (some ⟨g, 0, none⟩), .int .i64 most] w fun e w' => e = .returned (.int .i64 (numA s most).1) ∧ Cur w' g (numA s most).2 ∧ w.grownBy w' (some g) :=
 (num_any (some ⟨g, 0, none⟩) s most w (.inr ⟨g, rfl, h⟩) h1 h2).mono fun _ _ ⟨h1, h2, h3⟩ => ⟨h1, h2.cur, h3⟩
theorem cur_grown {w w' : World} {g : Nat} {s : List Nat × Nat} (h : Cur w g s) (hb : Below w.heap.size w w') : Cur w' g s :=
 h.kept (row := none) ⟨hb.os, hb.tape, hb.output, hb.size, fun k hk _ => hb.block k hk⟩ (by simp)
theorem own_grownG {w : World} {base g n : Nat} {e : TypeId} {size : Nat} {u : Value} {xs : List Value} (h : w.ownsRow base e size u n xs) {w' : World} (hg : w.grownBy w' (some g)) (hlt : g < base) : w'.ownsRow base e size u n xs := by
 refine h.kept hg ?_
 cases hu : u.ownBlock with
 | none => exact .inl rfl
 | some k =>
   refine .inr (fun e' => ?_)
   injection e' with e'
   have := (h.lt k hu).1
   omega
theorem grown_more {w wr w2 : World} {g : Nat} {e : TypeId} {size k : Nat} {u : Value} {xs : List Value} (h : w.grownBy wr (some g)) (hO : wr.ownsRow w.heap.size e size u k xs) (hg : wr.grownBy w2 u.ownBlock) : w.grownBy w2 (some g) := by
 refine ⟨hg.os.trans h.os, hg.tape.trans h.tape, hg.output.trans h.output, Nat.le_trans h.size hg.size, fun j hj hne => ?_⟩
 rw [hg.block j (Nat.lt_of_lt_of_le hj h.size) (fun e' => by have := (hO.lt j e'.symm).1; omega), h.block j hj hne]
theorem grown_below {w wr w2 : World} {g B : Nat} (h : w.grownBy wr (some g)) (hb : Below B wr w2) (hB : w.heap.size ≤ B) : w.grownBy w2 (some g) := by
 refine ⟨hb.os.trans h.os, hb.tape.trans h.tape, hb.output.trans h.output, Nat.le_trans h.size hb.size, fun j hj hne => ?_⟩
 rw [hb.block j (by omega), h.block j hj hne]
theorem cur_below {w w2 : World} {g B : Nat} {s : List Nat × Nat} (h : Cur w g s) (hb : Below B w w2) (hB : g < B) : Cur w2 g s := by
 obtain ⟨A, n, c, m, e0, h1, h2, h3⟩ := h
 exact ⟨A, n, c, m, e0, (hb.block g hB).trans h1, h2.below (hb.mono (Nat.le_of_lt hB)), h3⟩
end Go.Proofs.YtdopheoedpldiaaGreatDoor
namespace Go.Proofs.YtdopheoedpldiaaGreatDoor
def Clean (s : List Nat × Nat) : Prop := s.2 ≠ 0 → s.1 = []
theorem fail_err {s : List Nat × Nat} {er : Nat} (h : er ≠ 0) : (failA s er).2 ≠ 0 := by
 unfold failA
 by_cases h2 : s.2 = 0
 · rw [if_neg (by omega)]; exact h
 · rw [if_pos (.inr h2)]; exact h2
theorem fail_stays {s : List Nat × Nat} (er : Nat) (h : s.2 ≠ 0) : failA s er = s := by unfold failA; rw [if_pos (.inr h)]
theorem fail_sets {s : List Nat × Nat} {er : Nat} (h : s.2 = 0) (he : er ≠ 0) : failA s er = ([], er) := by unfold failA; rw [if_neg (by omega)]
theorem fail_clean {s : List Nat × Nat} (er : Nat) (h : Clean s) : Clean (failA s er) := by
 unfold failA
 split
 · exact h
 · exact fun _ => rfl
theorem drop_clean {s : List Nat × Nat} (k : Nat) (h : Clean s) : Clean (s.1.drop k, s.2) := by
 intro e
 show s.1.drop k = []
 rw [h e, List.drop_nil]
theorem bits_clean {s : List Nat × Nat} (h : Clean s) : Clean (bitsA s).2 := fail_clean _ (drop_clean _ h)
theorem int_clean {s : List Nat × Nat} (h : Clean s) : Clean (intA s).2 := fail_clean _ (drop_clean _ h)
theorem get_nil : Uv.get [] = (0, 0, 3) := rfl
theorem bits_err {s : List Nat × Nat} (h : Clean s) (h0 : s.2 ≠ 0) : bitsA s = (0, s) := by
 obtain ⟨l, e⟩ := s
 obtain rfl : l = [] := h h0
 unfold bitsA
 simp only [get_nil, List.drop_nil]
 rw [fail_stays _ h0]
theorem int_err {s : List Nat × Nat} (h : Clean s) (h0 : s.2 ≠ 0) : intA s = (0, s) := by
 obtain ⟨l, e⟩ := s
 obtain rfl : l = [] := h h0
 unfold intA
 simp only [get_nil, List.drop_nil]
 rw [fail_stays _ h0]
 rfl
theorem num_clean {s : List Nat × Nat} (most : Int) (h : Clean s) : Clean (numA s most).2 := by
 unfold numA
 split
 · exact fail_clean _ (bits_clean h)
 · exact bits_clean h
end Go.Proofs.YtdopheoedpldiaaGreatDoor
namespace Go.Proofs.YtdopheoedpldiaaGreatDoor
theorem byte_clean {s : List Nat × Nat} (h : Clean s) : Clean (byteA s).2 := fail_clean _ (drop_clean _ h)
theorem byte_err {s : List Nat × Nat} (h : Clean s) (h0 : s.2 ≠ 0) : byteA s = (0, s) := by
 obtain ⟨l, e⟩ := s
 obtain rfl : l = [] := h h0
 unfold byteA
 simp only [octB, List.drop_nil]
 rw [fail_stays _ h0]
theorem byteA_lt {s : List Nat × Nat} (h : ∀ c ∈ s.1, c < 256) : (byteA s).1 < 256 := by
 unfold byteA octB
 cases hl : s.1 with
 | nil => exact Nat.zero_lt_succ _
 | cons c r => exact h c (by rw [hl]; simp)
theorem byteA_cons (c : Nat) (r : List Nat) : byteA (c :: r, 0) = (c, r, 0) := by
 unfold byteA
 simp only [octB, List.drop_succ_cons, List.drop_zero]
 unfold failA
 rw [if_pos (.inl rfl)]
theorem bits_put {x : Nat} (h : x < 18446744073709551616) (r : List Nat) : bitsA (Uv.put x ++ r, 0) = (x, r, 0) := by
 unfold bitsA
 simp only [Uv.get_put h]
 unfold failA
 rw [if_pos (.inl rfl)]
 simp
theorem num_put {x : Nat} {most : Int} (h : x < 18446744073709551616) (hm : (x : Int) ≤ most) (r : List Nat) : numA (Uv.put x ++ r, 0) most = (x, r, 0) := by
 unfold numA
 rw [bits_put h, if_neg (by simp only; omega)]
theorem num_most (s : List Nat × Nat) {most : Int} (h : 0 ≤ most) : ((numA s most).1 : Int) ≤ most := by
 unfold numA
 split
 · exact h
 · rename_i h
   simp only at h ⊢
   omega
namespace Si
variable {s : List Nat × Nat}
def bytesS : Nat → List Nat × Nat → List Nat × Nat
 | 0, s => s
 | k + 1, s => (byteA (bytesS k s)).2
def byteV (s : List Nat × Nat) (k : Nat) : Nat := (byteA (bytesS k s)).1
def bytesV (s : List Nat × Nat) (k : Nat) : List Int := (List.range k).map fun i => (byteV s i : Int)
theorem bytesS_clean (h : Clean s) : ∀ k, Clean (bytesS k s)
 | 0 => h
 | k + 1 => byte_clean (bytesS_clean h k)
theorem bytesS_add (a b : Nat) (s : List Nat × Nat) : bytesS (a + b) s = bytesS b (bytesS a s) := by
 induction b with
 | zero => rfl
 | succ b ih => rw [Nat.add_succ, bytesS, bytesS, ih]
theorem bytesS_stays (h : Clean s) (h0 : s.2 ≠ 0) : ∀ k, bytesS k s = s
 | 0 => rfl
 | k + 1 => by rw [bytesS, bytesS_stays h h0 k, byte_err h h0]
theorem bytesS_err (h : Clean s) {k : Nat} (he : (bytesS k s).2 ≠ 0) {n : Nat} (hn : k ≤ n) : bytesS n s = bytesS k s := by
 obtain ⟨d, rfl⟩ : ∃ d, n = k + d := ⟨n - k, by omega⟩
 rw [bytesS_add, bytesS_stays (bytesS_clean h k) he]
theorem bytesV_len (s : List Nat × Nat) (k : Nat) : (bytesV s k).length = k := by simp [bytesV]
theorem bytesV_succ (s : List Nat × Nat) (k : Nat) : bytesV s (k + 1) = bytesV s k ++ [(byteV s k : Int)] := by
 unfold bytesV
 rw [List.range_succ, List.map_append]
 rfl
def take (s : List Nat × Nat) (most : Int) : List Int × (List Nat × Nat) :=
 if (bytesS (numA s most).1 (numA s most).2).2 ≠ 0 then ([], bytesS (numA s most).1 (numA s most).2)
 else if (bytesV (numA s most).2 (numA s most).1).all may then (bytesV (numA s most).2 (numA s most).1, bytesS (numA s most).1 (numA s most).2)
 else ([], failA (bytesS (numA s most).1 (numA s most).2) 9)
theorem take_err {most : Int} (h : Clean s) {k : Nat} (hk : k ≤ (numA s most).1) (he : (bytesS k (numA s most).2).2 ≠ 0) : take s most = ([], bytesS k (numA s most).2) := by
 have e := bytesS_err (num_clean most h) he hk
 unfold take
 rw [e, if_pos he]
theorem take_right {most : Int} (h0 : (bytesS (numA s most).1 (numA s most).2).2 = 0) (hr : (bytesV (numA s most).2 (numA s most).1).all may = true) : take s most = (bytesV (numA s most).2 (numA s most).1, bytesS (numA s most).1 (numA s most).2) := by
 unfold take
 rw [if_neg (by omega), if_pos hr]
theorem take_wrong {most : Int} (h0 : (bytesS (numA s most).1 (numA s most).2).2 = 0) (hr : (bytesV (numA s most).2 (numA s most).1).all may = false) : take s most = ([], failA (bytesS (numA s most).1 (numA s most).2) 9) := by
 unfold take
 rw [if_neg (by omega), if_neg (by rw [hr]; decide)]
theorem take_len (s : List Nat × Nat) {most : Int} (h : 0 ≤ most) : ((take s most).1.length : Int) ≤ most := by
 have h1 := num_most s h
 unfold take
 split
 · exact h
 · split
   · simp only [bytesV_len]; exact h1
   · exact h
theorem bytes_back : ∀ (l : List Nat) (r : List Nat), bytesS l.length (l ++ r, 0) = (r, 0) ∧ bytesV (l ++ r, 0) l.length = l.map fun c : Nat => (c : Int)
 | [], r => ⟨rfl, rfl⟩
 | c :: l, r => by
   have e : ∀ k, bytesS (k + 1) (c :: (l ++ r), 0) = bytesS k (l ++ r, 0) := fun k => by
     rw [Nat.add_comm, bytesS_add]
     show bytesS k (byteA (c :: (l ++ r), 0)).2 = _
     rw [byteA_cons]
   obtain ⟨h1, h2⟩ := bytes_back l r
   refine ⟨by rw [List.length_cons, List.cons_append, e, h1], ?_⟩
   unfold bytesV at h2 ⊢
   have h0 : ((byteV (c :: (l ++ r), 0) 0 : Nat) : Int) = (c : Int) := by
     show ((byteA (c :: (l ++ r), 0)).1 : Int) = _
     rw [byteA_cons]
   rw [List.length_cons, List.range_succ_eq_map, List.map_cons, List.map_cons, List.map_map, List.cons_append, h0, ← h2]
   congr 1
   refine List.map_congr_left fun i _ => ?_
   show ((byteA (bytesS (i + 1) (c :: (l ++ r), 0))).1 : Int) = ((byteA (bytesS i (l ++ r, 0))).1 : Int)
   rw [e]
theorem take_back {l : List Int} {most : Int} (h : right l most = true) (hl : l.length < 18446744073709551616) (r : List Nat) : take (bytes l ++ r, 0) most = (l, (r, 0)) := by
 unfold right at h
 rw [Bool.and_eq_true, decide_eq_true_eq] at h
 have hn : numA (bytes l ++ r, 0) most = (l.length, l.map Int.toNat ++ r, 0) := by
   rw [bytes_ok h.2, List.append_assoc]
   exact num_put hl h.1 _
 obtain ⟨h1, h2⟩ := bytes_back (l.map Int.toNat) r
 rw [List.length_map] at h1 h2
 have h3 : (l.map Int.toNat).map (fun c : Nat => (c : Int)) = l := by
   rw [List.map_map]
   conv => rhs; rw [← List.map_id l]
   refine List.map_congr_left fun t ht => ?_
   rcases (may_iff t).1 (List.all_eq_true.1 h.2 t ht) with rfl | rfl <;> rfl
 rw [h3] at h2
 have := take_right (s := (bytes l ++ r, 0)) (most := most) (by rw [hn]; simp only; rw [h1]) (by rw [hn]; simp only; rw [h2]; exact h.2)
 rw [this, hn]
 simp only
 rw [h1, h2]
end Si
end Go.Proofs.YtdopheoedpldiaaGreatDoor
namespace Go.Proofs.YtdopheoedpldiaaGreatDoor
open Go.RowKit
theorem byte_cur (g : Nat) (s : List Nat × Nat) (w : World) (h : Cur w g s) :
   Calls Tryz.prog 165 #[.pointer (some ⟨g, 0, none⟩)] w fun e w' => e = .returned (.int .u8 (byteA s).1) ∧ Cur w' g (byteA s).2 ∧ w.grownBy w' (some g) :=
 (byte_any (some ⟨g, 0, none⟩) s w (.inr ⟨g, rfl, h⟩)).mono fun _ _ ⟨h1, h2, h3⟩ => ⟨h1, h2.cur, h3⟩
theorem text_cur (g : Nat) (s : List Nat × Nat) (most : Int) (w : World) (h : Cur w g s) (h1 : -9223372036854775808 ≤ most) (h2 : most ≤ 9223372036854775807) :
   Calls Tryz.prog 162 #[.pointer (some ⟨g, 0, none⟩), .int .i64 most] w fun e w' => e = .returned (.string (textA s most).1) ∧ Cur w' g (textA s most).2 ∧ w.grownBy w' (some g) :=
 (ctext_any (some ⟨g, 0, none⟩) s most w (.inr ⟨g, rfl, h⟩) h1 h2).mono fun _ _ ⟨h1, h2, h3⟩ => ⟨h1, h2.cur, h3⟩
end Go.Proofs.YtdopheoedpldiaaGreatDoor
