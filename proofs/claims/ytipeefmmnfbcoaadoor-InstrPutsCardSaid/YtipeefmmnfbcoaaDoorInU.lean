/-
  What the document's Take takes. Conditions: where there is no error, the bytes can be read.
-/
import Derived.Test.YtipeefmmnfbcoaaDoorInT
import Derived.Test.YtipeefmmnfbcoaaDoorRefM
namespace Go.Proofs.YtipeefmmnfbcoaaDoor
open Go.RowKit

theorem byteA_zero {s s1 : List Nat × Nat} {b : Nat} (hs : s.2 ≠ 0 → s.1 = []) (h : byteA s = (b, s1)) (he : s1.2 ≠ 0) : b = 0 := by
  obtain ⟨l, e⟩ := s
  simp only at hs
  cases l with
  | nil =>
    have : byteA ([], e) = (0, failA ([], e) 3) := rfl
    rw [this] at h
    injection h with h1 h2
    exact h1.symm
  | cons c r =>
    by_cases h0 : e = 0
    · subst h0
      have : byteA (c :: r, 0) = (c, r, 0) := rfl
      rw [this] at h
      injection h with h1 h2
      rw [← h2] at he
      exact absurd rfl he
    · exact absurd (hs h0) (by simp)
namespace In
theorem take_short {s s1 : List Nat × Nat} {b : Nat} (hs : s.2 ≠ 0 → s.1 = []) (hb : byteA s = (b, s1)) (he : s1.2 ≠ 0) : take s = ((0, 0), s1) := by
  have h0 := byteA_zero hs hb he
  subst h0
  rw [take_bare hb (by decide) (by kernel_rfl), if_pos he]
end In
theorem Two.on {w w' : World} {p : Nat} {x y : Value} (h : Two w p x y) (hb : Below w.heap.size w w') : Two w' p x y := h.below hb h.lt

theorem Ins.other {w : World} {p q : Nat} {x y : Int} (h : Ins w p x y) (hne : p ≠ q) (i : Nat) (v : Value) : Ins (w.setCell ⟨q, i, none⟩ v) p x y := (Below.heap_setCell w ⟨q, i, none⟩ v p hne).trans h
theorem Two.other {w : World} {p q : Nat} {x y : Value} (h : Two w p x y) (hne : p ≠ q) (i : Nat) (v : Value) : Two (w.setCell ⟨q, i, none⟩ v) p x y := (Below.heap_setCell w ⟨q, i, none⟩ v p hne).trans h
theorem ref_store {w W : World} {B n c : Nat} {A : Option Addr} {s : List Nat × Nat} (hd : Dat W B A n c s) (hb : Below w.heap.size w W) (hB : B ≤ w.heap.size) (p : Nat) (hp : w.heap.size ≤ p) (i : Nat) (v : Value) : Dat (W.setCell ⟨p, i, none⟩ v) B A n c s ∧ Below w.heap.size w (W.setCell ⟨p, i, none⟩ v) :=
  ⟨hd.below ((Below.refl B W).setCell (p := ⟨p, i, none⟩) (Nat.le_trans hB hp) v), hb.setCell (p := ⟨p, i, none⟩) hp v⟩
theorem ref_drew {W : World} {B n c : Nat} {A : Option Addr} {s : List Nat × Nat} (hd : Dat W B A n c s) : Dat W.drew B A n c s := hd.below ((Below.refl B W).drew)
theorem refTake {B : Nat} {s s' : List Nat × Nat} {a b : Int} {A : Option Addr} {n c : Nat} {w w' : World} (ht : In.take s = ((a, b), s')) (hd : Dat w' B A n c s') (hb : Below w.heap.size w w') :
    RefP (.agg #[.int .i64 (In.take s).1.1, .int .i64 (In.take s).1.2]) B (In.take s).2 w (.returned (.tuple #[.agg #[.int .i64 a, .int .i64 b], .agg #[.slice A n c, .int .i64 (s'.2 : Int)]])) w' := by
  rw [ht]
  exact ⟨A, n, c, rfl, hd, hb⟩
theorem refTakeE {B e : Nat} {s s' : List Nat × Nat} {a b : Int} {A : Option Addr} {n c : Nat} {w w' : World} (ht : In.take s = ((a, b), s')) (he : s'.2 = e) (hd : Dat w' B A n c s') (hb : Below w.heap.size w w') :
    RefP (.agg #[.int .i64 (In.take s).1.1, .int .i64 (In.take s).1.2]) B (In.take s).2 w (.returned (.tuple #[.agg #[.int .i64 a, .int .i64 b], .agg #[.slice A n c, .int .i64 (e : Int)]])) w' := by
  subst he
  exact refTake ht hd hb

set_option maxHeartbeats 4000000 in
set_option maxRecDepth 100000 in
theorem rintake_any (A : Option Addr) (n c B : Nat) (s : List Nat × Nat) (w : World) (h : Dat w B A n c s) (hs : s.2 ≠ 0 → s.1 = []) (hB : B ≤ w.heap.size) :
    Calls Tryd.prog 17 #[.agg #[.slice A n c, .int .i64 (s.2 : Int)]] w (RefP (.agg #[.int .i64 (In.take s).1.1, .int .i64 (In.take s).1.2]) B (In.take s).2 w) := by
  have hB0 : Below w.heap.size w (((w.alloc (.cells #[.slice A n c, .int .i64 (s.2 : Int)] 40)).alloc (.cells #[.int .i64 0, .int .i64 0] 24)).alloc (.cells #[.slice none 0 0, .int .i64 0] 40)) := (((Below.refl _ _).alloc (Nat.le_refl _) _).alloc (by simp) _).alloc (by simp; omega) _
  have HBy := Lib.hid (rByte_any A n c B s _ (h.below (hB0.mono hB)) hs (Nat.le_trans hB hB0.size))
  have R2 : Ins (((w.alloc (.cells #[.slice A n c, .int .i64 (s.2 : Int)] 40)).alloc (.cells #[.int .i64 0, .int .i64 0] 24)).alloc (.cells #[.slice none 0 0, .int .i64 0] 40)) (w.heap.size + 1) 0 0 := by
    have := (Ins.new (w.alloc (.cells #[.slice A n c, .int .i64 (s.2 : Int)] 40)) 0 0).alloc (.cells #[.slice none 0 0, .int .i64 0] 40)
    simpa only [World.size_alloc] using this
  have R3 : Two (((w.alloc (.cells #[.slice A n c, .int .i64 (s.2 : Int)] 40)).alloc (.cells #[.int .i64 0, .int .i64 0] 24)).alloc (.cells #[.slice none 0 0, .int .i64 0] 40)) (w.heap.size + 1 + 1) (.slice none 0 0) (.int .i64 0) := by
    have := Two.new ((w.alloc (.cells #[.slice A n c, .int .i64 (s.2 : Int)] 40)).alloc (.cells #[.int .i64 0, .int .i64 0] 24)) (.slice none 0 0) (.int .i64 0)
    simpa only [World.size_alloc] using this
  have HR2 := Lib.hid R2
  have HR3 := Lib.hid R3
  have HB0 := Lib.hid hB0
  obtain ⟨b, s1, hb⟩ : ∃ b s1, byteA s = (b, s1) := ⟨_, _, rfl⟩
  rw [hb] at HBy
  dsimp only at HBy
  have HB := Lib.hid hb
  have HSh := Lib.hid (fun he => In.take_short hs hb he)
  have hbl : b < 256 := by
    have := In.byte_lt (s := s) (by
      by_cases h0 : s.2 = 0
      · exact (h h0).1.2.1
      · rw [hs h0]
        intro c hc
        cases hc)
    rw [hb] at this
    exact this
  have hbl2 : (b : Int) < 256 := by omega
  clear h hs hb hB0 R2 R3
  generalize s.2 = e0 at *
  go_enter Tryd.func17, Tryd.ntmps17
  go_wp2_with fail
  refine HBy.out.mono ?_
  rintro _ w1 ⟨A1, n1, c1, rfl, hd1, b1⟩
  have R2 := Lib.hid (HR2.out.on b1)
  have R3 := Lib.hid (HR3.out.on b1)
  have B1 := Lib.hid (below_self HB0.out b1)
  have D1 := Lib.hid hd1
  have hz : w.heap.size + 1 + 1 < w1.heap.size := R3.out.lt
  clear HBy HR2 HR3 HB0 b1 hd1
  by_cases he : s1.2 = 0
  · rw [he]
    have T5a := Two.new w1 (.slice A1 n1 c1) (.int .i64 0)
    have S2a := R2.out.alloc (.cells #[.slice A1 n1 c1, .int .i64 0] 40)
    have S3a := R3.out.alloc (.cells #[.slice A1 n1 c1, .int .i64 0] 40)
    have b2 := (Below.refl w1.heap.size w1).alloc (Nat.le_refl _) (.cells #[.slice A1 n1 c1, .int .i64 0] 40)
    have b3 := b2.alloc (by simp) (.cells #[.int .i64 (b : Int), .int .i64 0] 24)
    have I6a := Ins.new (w1.alloc (.cells #[.slice A1 n1 c1, .int .i64 0] 40)) (b : Int) 0
    rw [World.size_alloc] at I6a
    have S22 := Lib.hid (S2a.alloc (.cells #[.int .i64 (b : Int), .int .i64 0] 24))
    have S32 := Lib.hid (S3a.alloc (.cells #[.int .i64 (b : Int), .int .i64 0] 24))
    have T52 := Lib.hid (T5a.alloc (.cells #[.int .i64 (b : Int), .int .i64 0] 24))
    have I62 := Lib.hid I6a
    have D2 := Lib.hid (D1.out.below (b3.mono (Nat.le_trans hB B1.out.size)))
    have B2 := Lib.hid (below_self B1.out b3)
    have hs1 : s1.2 ≠ 0 → s1.1 = [] := fun h => absurd he h
    have HE := Lib.hid he
    have HS1 := Lib.hid hs1
    clear T5a S2a S3a I6a b2 b3 R2 R3 D1 hs1 he HSh
    have r20 := S22.out.c0
    have r21 := S22.out.c1
    have f20 := S22.out.f 0
    have f21 := S22.out.f 1
    have r30 := S32.out.c0
    have r31 := S32.out.c1
    have f30 := S32.out.f 0
    have f31 := S32.out.f 1
    have t50 := T52.out.c0
    have t51 := T52.out.c1
    have g50 := T52.out.f 0
    have g51 := T52.out.f 1
    have i60 := I62.out.c0
    have i61 := I62.out.c1
    have h60 := I62.out.f 0
    have h61 := I62.out.f 1
    by_cases hk : 35 ≤ (b : Int)
    · have HT := Lib.hid (In.take_op HB.out (by rw [← Bool.not_eq_true, In.known_iff]; omega))
      have HFs : Hid ((failA s1 8).2 = 8) := Lib.hid (by rw [fail_snd, HE.out, if_pos rfl])
      go_wp2_with fail
      refine (rFail_any A1 n1 c1 0 8 _).mono ?_
      rw [if_pos rfl]
      rintro _ w4 ⟨rfl, b4⟩
      have S24 := Lib.hid (S22.out.on b4)
      have S34 := Lib.hid (S32.out.on b4)
      have T54 := Lib.hid (T52.out.on b4)
      have I64 := Lib.hid (I62.out.on b4)
      have D4 := Lib.hid (D2.out.below (b4.mono (Nat.le_trans hB B2.out.size)))
      have B4 := Lib.hid (below_self B2.out b4)
      have D5 : Hid (Dat w4 B A1 n1 c1 (failA s1 8)) := Lib.hid (fun h => absurd h (by rw [HFs.out]; decide))
      have B5 := B4
      clear r20 r21 f20 f21 r30 r31 f30 f31 t50 t51 g50 g51 i60 i61 h60 h61
      clear b4
      have r20 := S24.out.c0
      have r21 := S24.out.c1
      have f20 := S24.out.f 0
      have f21 := S24.out.f 1
      have r30 := S34.out.c0
      have r31 := S34.out.c1
      have f30 := S34.out.f 0
      have f31 := S34.out.f 1
      have t50 := T54.out.c0
      have t51 := T54.out.c1
      have g50 := T54.out.f 0
      have g51 := T54.out.f 1
      have i60 := I64.out.c0
      have i61 := I64.out.c1
      have h60 := I64.out.f 0
      have h61 := I64.out.f 1
      go_wp2
      have d1 := ref_store D5.out B5.out hB (w.heap.size + 1) (by omega) 0 (.int .i64 0)
      have d2 := ref_store d1.1 d1.2 hB (w.heap.size + 1) (by omega) 1 (.int .i64 0)
      have d3 := ref_store d2.1 d2.2 hB (w.heap.size + 1 + 1) (by omega) 0 (.slice A1 n1 c1)
      have d4 := ref_store d3.1 d3.2 hB (w.heap.size + 1 + 1) (by omega) 1 (.int .i64 ((8 : Nat) : Int))
      exact bodyPost_ret (v := .tuple #[.agg #[.int .i64 0, .int .i64 0], .agg #[.slice A1 n1 c1, .int .i64 ((8 : Nat) : Int)]]) (by simp [results, Tryd.results17, go_sem, r20, r21, r30, r31]) rfl (refTakeE HT.out HFs.out d4.1 d4.2)
    · have hk1 : (b : Int) < 35 := by omega
      have hkn : In.known (b : Int) = true := In.known_iff.2 ⟨by omega, hk1⟩
      have hki := In.kind_in (b : Int)
      have HOp := roperand_any (b : Int)
      unfold In.kind at hki
      cases hn : In.numbered (b : Int) with
      | false =>
        have hk0 : (Op.row (b : Int)).operand = 0 := by unfold In.numbered In.kind at hn; simpa using hn
        rw [hk0] at HOp
        have HT := Lib.hid (In.take_bare HB.out hkn hn)
        rw [if_neg (not_not_intro HE.out)] at HT
        have HRt := rinright_any (b : Int) 0
        rw [In.bare_right (In.known_iff.1 hkn) hn] at HRt
        clear hk0 hki hkn hn hk
        go_wp2_with (go_at_call 26; refine (HOp _).mono ?_; rintro _ wa ⟨rfl, he⟩; obtain rfl := he.symm)
        refine (HRt _).mono ?_
        rintro _ w4 ⟨rfl, b4⟩
        have S24 := Lib.hid (S22.out.on b4)
        have S34 := Lib.hid (S32.out.on b4)
        have T54 := Lib.hid (T52.out.on b4)
        have I64 := Lib.hid (I62.out.on b4)
        have D4 := Lib.hid (D2.out.below (b4.mono (Nat.le_trans hB B2.out.size)))
        have B4 := Lib.hid (below_self B2.out b4)
        clear r20 r21 f20 f21 r30 r31 f30 f31 t50 t51 g50 g51 i60 i61 h60 h61
        clear b4
        have r20 := S24.out.c0
        have r21 := S24.out.c1
        have f20 := S24.out.f 0
        have f21 := S24.out.f 1
        have r30 := S34.out.c0
        have r31 := S34.out.c1
        have f30 := S34.out.f 0
        have f31 := S34.out.f 1
        have t50 := T54.out.c0
        have t51 := T54.out.c1
        have g50 := T54.out.f 0
        have g51 := T54.out.f 1
        have i60 := I64.out.c0
        have i61 := I64.out.c1
        have h60 := I64.out.f 0
        have h61 := I64.out.f 1
        go_wp2
        go_region
        go_wp2
        have d1 := ref_store D4.out B4.out hB (w.heap.size + 1) (by omega) 0 (.int .i64 (b : Int))
        have d2 := ref_store d1.1 d1.2 hB (w.heap.size + 1) (by omega) 1 (.int .i64 0)
        have d3 := ref_store d2.1 d2.2 hB (w.heap.size + 1 + 1) (by omega) 0 (.slice A1 n1 c1)
        have d4 := ref_store d3.1 d3.2 hB (w.heap.size + 1 + 1) (by omega) 1 (.int .i64 0)
        exact bodyPost_ret (v := .tuple #[.agg #[.int .i64 (b : Int), .int .i64 0], .agg #[.slice A1 n1 c1, .int .i64 0]]) (by simp [results, Tryd.results17, go_sem, r20, r21, r30, r31]) rfl (refTakeE HT.out HE.out (ref_drew d4.1) d4.2.drew)
      | true =>
        have hk0 : 0 < (Op.row (b : Int)).operand := by
          have : (Op.row (b : Int)).operand ≠ 0 := by unfold In.numbered In.kind at hn; simpa using hn
          omega
        generalize (Op.row (b : Int)).operand = k at *
        have HK := Lib.hid (And.intro hkn hn)
        obtain ⟨z, s3, hi⟩ : ∃ z s3, intA s1 = (z, s3) := ⟨_, _, rfl⟩
        have HIn := rInt_any A1 n1 c1 B s1 _ D2.out HS1.out (Nat.le_trans hB B2.out.size)
        rw [hi, HE.out] at HIn
        dsimp only at HIn
        have HI := Lib.hid hi
        clear hi hki hkn hn hk
        go_wp2_with (go_at_call 26; refine (HOp _).mono ?_; rintro _ wa ⟨rfl, he⟩; obtain rfl := he.symm)
        refine HIn.mono ?_
        rintro _ w4 ⟨A3, n3, c3, rfl, d4, b4⟩
        have S24 := Lib.hid (S22.out.on b4)
        have S34 := Lib.hid (S32.out.on b4)
        have T54 := Lib.hid (T52.out.on b4)
        have I64 := Lib.hid (I62.out.on b4)
        have B4 := Lib.hid (below_self B2.out b4)
        have D4 := Lib.hid d4
        clear r20 r21 f20 f21 r30 r31 f30 f31 t50 t51 g50 g51 i60 i61 h60 h61
        clear b4 d4 HIn
        have S25 := Lib.hid (((S24.out.other (q := (w1.heap.size + 1)) (by omega) 1 (.int .i64 z)).other (q := w1.heap.size) (by omega) 0 (.slice A3 n3 c3)).other (q := w1.heap.size) (by omega) 1 (.int .i64 (s3.2 : Int)))
        have S35 := Lib.hid (((S34.out.other (q := (w1.heap.size + 1)) (by omega) 1 (.int .i64 z)).other (q := w1.heap.size) (by omega) 0 (.slice A3 n3 c3)).other (q := w1.heap.size) (by omega) 1 (.int .i64 (s3.2 : Int)))
        have T55 := Lib.hid ((T54.out.other (q := (w1.heap.size + 1)) (by omega) 1 (.int .i64 z)).set (.slice A3 n3 c3) (.int .i64 (s3.2 : Int)))
        have I65 := Lib.hid (((I64.out.set1 z).other (q := w1.heap.size) (by omega) 0 (.slice A3 n3 c3)).other (q := w1.heap.size) (by omega) 1 (.int .i64 (s3.2 : Int)))
        have e1 := ref_store D4.out B4.out hB (w1.heap.size + 1) (by omega) 1 (.int .i64 z)
        have e2 := ref_store e1.1 e1.2 hB w1.heap.size (by omega) 0 (.slice A3 n3 c3)
        have e3 := ref_store e2.1 e2.2 hB w1.heap.size (by omega) 1 (.int .i64 (s3.2 : Int))
        have D5 := Lib.hid e3.1
        have B5 := Lib.hid e3.2
        clear e1 e2 e3
        have t50 := T54.out.c0
        have t51 := T54.out.c1
        have g50 := T54.out.f 0
        have g51 := T54.out.f 1
        have i60 := I64.out.c0
        have i61 := I64.out.c1
        have h60 := I64.out.f 0
        have h61 := I64.out.f 1
        have hq : w1.heap.size ≠ w1.heap.size + 1 := by omega
        have HRt := rinright_any (b : Int) z
        obtain ⟨rr, hr⟩ : ∃ rr, In.right (b : Int) z = rr := ⟨_, rfl⟩
        rw [hr] at HRt
        have HRr := Lib.hid hr
        clear hr
        have v50 := T55.out.c0
        have v51 := T55.out.c1
        have v60 := I65.out.c0
        have v61 := I65.out.c1
        by_cases he3 : s3.2 = 0
        · rw [he3] at S25 S35 T55 I65 D5 B5
          have HE3 := Lib.hid he3
          go_wp2_with fail
          refine (HRt _).mono ?_
          rintro _ w6 ⟨rfl, b6⟩
          have S26 := Lib.hid (S25.out.on b6)
          have S36 := Lib.hid (S35.out.on b6)
          have T56 := Lib.hid (T55.out.on b6)
          have I66 := Lib.hid (I65.out.on b6)
          have D6 := Lib.hid (D5.out.below (b6.mono (Nat.le_trans hB B5.out.size)))
          have B6 := Lib.hid (below_self B5.out b6)
          clear t50 t51 g50 g51 i60 i61 h60 h61 v50 v51 v60 v61
          clear b6
          have r20 := S26.out.c0
          have r21 := S26.out.c1
          have f20 := S26.out.f 0
          have f21 := S26.out.f 1
          have r30 := S36.out.c0
          have r31 := S36.out.c1
          have f30 := S36.out.f 0
          have f31 := S36.out.f 1
          have t50 := T56.out.c0
          have t51 := T56.out.c1
          have g50 := T56.out.f 0
          have g51 := T56.out.f 1
          have i60 := I66.out.c0
          have i61 := I66.out.c1
          have h60 := I66.out.f 0
          have h61 := I66.out.f 1
          cases rr with
          | true =>
            have HT := Lib.hid (In.take_both HB.out HK.out.1 HK.out.2 HI.out HRr.out)
            rw [if_neg (not_not_intro he3)] at HT
            clear he3
            go_wp2
            go_region
            go_wp2
            have d1 := ref_store D6.out B6.out hB (w.heap.size + 1) (by omega) 0 (.int .i64 (b : Int))
            have d2 := ref_store d1.1 d1.2 hB (w.heap.size + 1) (by omega) 1 (.int .i64 z)
            have d3 := ref_store d2.1 d2.2 hB (w.heap.size + 1 + 1) (by omega) 0 (.slice A3 n3 c3)
            have d4 := ref_store d3.1 d3.2 hB (w.heap.size + 1 + 1) (by omega) 1 (.int .i64 0)
            exact bodyPost_ret (v := .tuple #[.agg #[.int .i64 (b : Int), .int .i64 z], .agg #[.slice A3 n3 c3, .int .i64 0]]) (by simp [results, Tryd.results17, go_sem, r20, r21, r30, r31]) rfl (refTakeE HT.out HE3.out (ref_drew d4.1) d4.2.drew)
          | false =>
            have HT := Lib.hid (In.take_arg HB.out HK.out.1 HK.out.2 HI.out HRr.out)
            have HFs : Hid ((failA s3 2).2 = 2) := Lib.hid (by rw [fail_snd, he3, if_pos rfl])
            clear he3
            go_wp2_with fail
            refine (rFail_any A3 n3 c3 0 2 _).mono ?_
            rw [if_pos rfl]
            rintro _ w7 ⟨rfl, b7⟩
            have S27 := Lib.hid (S26.out.on b7)
            have S37 := Lib.hid (S36.out.on b7)
            have T57 := Lib.hid (T56.out.on b7)
            have I67 := Lib.hid (I66.out.on b7)
            have D7 := Lib.hid (D6.out.below (b7.mono (Nat.le_trans hB B6.out.size)))
            have B7 := Lib.hid (below_self B6.out b7)
            clear r20 r21 f20 f21 r30 r31 f30 f31 t50 t51 g50 g51 i60 i61 h60 h61
            clear b7
            have S28 := Lib.hid ((S27.out.other (q := w1.heap.size) (by omega) 0 (.slice A3 n3 c3)).other (q := w1.heap.size) (by omega) 1 (.int .i64 2))
            have S38 := Lib.hid ((S37.out.other (q := w1.heap.size) (by omega) 0 (.slice A3 n3 c3)).other (q := w1.heap.size) (by omega) 1 (.int .i64 2))
            have T58 := Lib.hid (T57.out.set (.slice A3 n3 c3) (.int .i64 2))
            have I68 := Lib.hid ((I67.out.other (q := w1.heap.size) (by omega) 0 (.slice A3 n3 c3)).other (q := w1.heap.size) (by omega) 1 (.int .i64 2))
            have e2 := ref_store D7.out B7.out hB w1.heap.size (by omega) 0 (.slice A3 n3 c3)
            have e3 := ref_store e2.1 e2.2 hB w1.heap.size (by omega) 1 (.int .i64 2)
            have D8 : Hid (Dat ((w7.setCell ⟨w1.heap.size, 0, none⟩ (.slice A3 n3 c3)).setCell ⟨w1.heap.size, 1, none⟩ (.int .i64 2)) B A3 n3 c3 (failA s3 2)) := Lib.hid (fun h => absurd h (by rw [HFs.out]; decide))
            have B8 := Lib.hid e3.2
            clear e2 e3
            have u50 := T57.out.c0
            have u51 := T57.out.c1
            have u52 := T57.out.f 0
            have u53 := T57.out.f 1
            have r20 := S28.out.c0
            have r21 := S28.out.c1
            have f20 := S28.out.f 0
            have f21 := S28.out.f 1
            have r30 := S38.out.c0
            have r31 := S38.out.c1
            have f30 := S38.out.f 0
            have f31 := S38.out.f 1
            have t50 := T58.out.c0
            have t51 := T58.out.c1
            have g50 := T58.out.f 0
            have g51 := T58.out.f 1
            have i60 := I68.out.c0
            have i61 := I68.out.c1
            have h60 := I68.out.f 0
            have h61 := I68.out.f 1
            go_wp2
            go_region
            go_wp2
            have d1 := ref_store D8.out B8.out hB (w.heap.size + 1) (by omega) 0 (.int .i64 0)
            have d2 := ref_store d1.1 d1.2 hB (w.heap.size + 1) (by omega) 1 (.int .i64 0)
            have d3 := ref_store d2.1 d2.2 hB (w.heap.size + 1 + 1) (by omega) 0 (.slice A3 n3 c3)
            have d4 := ref_store d3.1 d3.2 hB (w.heap.size + 1 + 1) (by omega) 1 (.int .i64 2)
            exact bodyPost_ret (v := .tuple #[.agg #[.int .i64 0, .int .i64 0], .agg #[.slice A3 n3 c3, .int .i64 2]]) (by simp [results, Tryd.results17, go_sem, r20, r21, r30, r31]) rfl (refTakeE HT.out HFs.out (ref_drew d4.1) d4.2.drew)
        · have heb : ((s3.2 : Int) == 0) = false := by rw [beq_eq_false_iff_ne]; omega
          have hec : ((s3.2 : Int) != 0) = true := by rw [bne_iff_ne]; omega
          have HT : Hid (In.take s = ((0, 0), s3)) := Lib.hid (by
            cases rr with
            | true => exact (In.take_both HB.out HK.out.1 HK.out.2 HI.out HRr.out).trans (by rw [if_pos he3])
            | false => exact (In.take_arg HB.out HK.out.1 HK.out.2 HI.out HRr.out).trans (by rw [failA_err he3]))
          clear he3 v50 v51 v60 v61
          have t60 := I65.out.c0
          have r20 := S25.out.c0
          have r21 := S25.out.c1
          have f20 := S25.out.f 0
          have f21 := S25.out.f 1
          have r30 := S35.out.c0
          have r31 := S35.out.c1
          have f30 := S35.out.f 0
          have f31 := S35.out.f 1
          have v50 := T55.out.c0
          have v51 := T55.out.c1
          go_wp2
          go_region
          go_wp2
          have d1 := ref_store D5.out B5.out hB (w.heap.size + 1) (by omega) 0 (.int .i64 0)
          have d2 := ref_store d1.1 d1.2 hB (w.heap.size + 1) (by omega) 1 (.int .i64 0)
          have d3 := ref_store d2.1 d2.2 hB (w.heap.size + 1 + 1) (by omega) 0 (.slice A3 n3 c3)
          have d4 := ref_store d3.1 d3.2 hB (w.heap.size + 1 + 1) (by omega) 1 (.int .i64 (s3.2 : Int))
          exact bodyPost_ret (v := .tuple #[.agg #[.int .i64 0, .int .i64 0], .agg #[.slice A3 n3 c3, .int .i64 (s3.2 : Int)]]) (by simp [results, Tryd.results17, go_sem, r20, r21, r30, r31]) rfl (refTake HT.out (ref_drew d4.1) d4.2.drew)
  · have HT := Lib.hid (HSh.out he)
    have heb : ((s1.2 : Int) != 0) = true := by rw [bne_iff_ne]; omega
    have T52 := Lib.hid (Two.new w1 (.slice A1 n1 c1) (.int .i64 (s1.2 : Int)))
    have S22 := Lib.hid (R2.out.alloc (.cells #[.slice A1 n1 c1, .int .i64 (s1.2 : Int)] 40))
    have S32 := Lib.hid (R3.out.alloc (.cells #[.slice A1 n1 c1, .int .i64 (s1.2 : Int)] 40))
    have b2 := (Below.refl w1.heap.size w1).alloc (Nat.le_refl _) (.cells #[.slice A1 n1 c1, .int .i64 (s1.2 : Int)] 40)
    have B2 := Lib.hid (below_self B1.out b2)
    have D2 := Lib.hid (D1.out.below (b2.mono (Nat.le_trans hB B1.out.size)))
    clear b2 R2 R3 D1 he HSh
    have r20 := S22.out.c0
    have r21 := S22.out.c1
    have f20 := S22.out.f 0
    have f21 := S22.out.f 1
    have r30 := S32.out.c0
    have r31 := S32.out.c1
    have f30 := S32.out.f 0
    have f31 := S32.out.f 1
    have t50 := T52.out.c0
    have t51 := T52.out.c1
    have g50 := T52.out.f 0
    have g51 := T52.out.f 1
    go_wp2
    go_region
    go_wp2
    have d1 := ref_store D2.out B2.out hB (w.heap.size + 1) (by omega) 0 (.int .i64 0)
    have d2 := ref_store d1.1 d1.2 hB (w.heap.size + 1) (by omega) 1 (.int .i64 0)
    have d3 := ref_store d2.1 d2.2 hB (w.heap.size + 1 + 1) (by omega) 0 (.slice A1 n1 c1)
    have d4 := ref_store d3.1 d3.2 hB (w.heap.size + 1 + 1) (by omega) 1 (.int .i64 (s1.2 : Int))
    exact bodyPost_ret (v := .tuple #[.agg #[.int .i64 0, .int .i64 0], .agg #[.slice A1 n1 c1, .int .i64 (s1.2 : Int)]]) (by simp [results, Tryd.results17, go_sem, r20, r21, r30, r31]) rfl (refTake HT.out (ref_drew d4.1) d4.2.drew)
end Go.Proofs.YtipeefmmnfbcoaaDoor
