/-
  What slots.Of, Range and the document's Of, Range answer. Conditions: the row can be read.
-/
import Derived.Test.YtinmcelgfdjmfaaDoorSlAt
namespace Go.Proofs.YtinmcelgfdjmfaaDoor
open Go.RowKit

theorem below_store {B : Nat} {w w1 : World} (hb : Below B w w1) {g : Nat} (hg : B ≤ g) (a b c d : Value) :
    Below B w ((((w1.setCell ⟨g, 0, none⟩ a).setCell ⟨g, 1, none⟩ b).setCell ⟨g, 2, none⟩ c).setCell ⟨g, 3, none⟩ d) :=
  (((hb.setCell (p := ⟨g, 0, none⟩) hg _).setCell (p := ⟨g, 1, none⟩) hg _).setCell (p := ⟨g, 2, none⟩) hg _).setCell (p := ⟨g, 3, none⟩) hg _
theorem SetAt.far4 {w : World} {g g' : Nat} {s : Sl.Four} (h : SetAt w g s) (hne : g ≠ g') (a b c d : Value) :
    SetAt ((((w.setCell ⟨g', 0, none⟩ a).setCell ⟨g', 1, none⟩ b).setCell ⟨g', 2, none⟩ c).setCell ⟨g', 3, none⟩ d) g s :=
  (((h.far (p := ⟨g', 0, none⟩) hne _).far (p := ⟨g', 1, none⟩) hne _).far (p := ⟨g', 2, none⟩) hne _).far (p := ⟨g', 3, none⟩) hne _

/-- What a loop that gathers a set at block g holds: s is gathered, the result's block is empty, nothing below has turned. -/
def Gath (w : World) (g : Nat) (s : Sl.Four) (wr : World) : Prop := SetAt wr (g + 1) s ∧ SetAt wr g Sl.no ∧ Below w.heap.size w wr
theorem Gath.step {w wr w1 : World} {g : Nat} {s : Sl.Four} (h : Gath w g s wr) (hg : w.heap.size ≤ g) (hbl : Below wr.heap.size wr w1) (t : Sl.Four) :
    Gath w g t ((((w1.setCell ⟨g + 1, 0, none⟩ (.int .u64 (t.a : Int))).setCell ⟨g + 1, 1, none⟩ (.int .u64 (t.b : Int))).setCell ⟨g + 1, 2, none⟩ (.int .u64 (t.c : Int))).setCell ⟨g + 1, 3, none⟩ (.int .u64 (t.d : Int))) := by
  obtain ⟨h1, h2, h3⟩ := h
  exact ⟨(h1.below hbl h1.lt).store t, (h2.below hbl h2.lt).far4 (by omega) _ _ _ _, below_store (h3.trans (hbl.mono h3.size)) (by omega) _ _ _ _⟩

set_option maxRecDepth 100000 in
theorem Gath.start (w : World) : Gath w w.heap.size Sl.no ((w.alloc (.cells #[.int .u64 0, .int .u64 0, .int .u64 0, .int .u64 0] 27)).alloc (.cells #[.int .u64 0, .int .u64 0, .int .u64 0, .int .u64 0] 27)) := by
  have h := SetAt.new (w.alloc (.cells #[.int .u64 0, .int .u64 0, .int .u64 0, .int .u64 0] 27)) Sl.no
  rw [World.size_alloc] at h
  exact ⟨h, (SetAt.new w Sl.no).alloc _, ((Below.refl _ _).alloc (Nat.le_refl _) _).alloc (by simp) _⟩
theorem SetAt.put {w : World} {g : Nat} {s : Sl.Four} (h : SetAt w g s) (q x : Nat) (hq : q < 4) : SetAt (w.setCell ⟨g, q, none⟩ (.int .u64 (x : Int))) g (s.put q x) := by
  unfold SetAt at h ⊢
  obtain rfl | rfl | rfl | rfl : q = 0 ∨ q = 1 ∨ q = 2 ∨ q = 3 := by omega
  all_goals simp [World.setCell, Array.getElem?_modify, h, Sl.Four.put]
theorem Gath.put {w wr w1 : World} {g : Nat} {s : Sl.Four} (h : Gath w g s wr) (hg : w.heap.size ≤ g) (hbl : Below wr.heap.size wr w1) (q x : Nat) (hq : q < 4) {i : Int} (hi : i = (x : Int)) :
    Gath w g (s.put q x) (w1.setCell ⟨g + 1, q, none⟩ (.int .u64 i)) := by
  subst hi
  obtain ⟨h1, h2, h3⟩ := h
  exact ⟨(h1.below hbl h1.lt).put q x hq, (h2.below hbl h2.lt).far (p := ⟨g + 1, q, none⟩) (by simp) _, (h3.trans (hbl.mono h3.size)).setCell (p := ⟨g + 1, q, none⟩) (by simp; omega) _⟩
theorem Gath.kept {w wr w1 : World} {g : Nat} {s : Sl.Four} (h : Gath w g s wr) (hbl : Below wr.heap.size wr w1) : Gath w g s w1 := by
  obtain ⟨h1, h2, h3⟩ := h
  exact ⟨h1.below hbl h1.lt, h2.below hbl h2.lt, h3.trans (hbl.mono h3.size)⟩

def OfRel (w : World) (n : Nat) (l : List Int) (i : Value) (wr : World) : Prop :=
  ∃ k : Nat, k ≤ n ∧ i = .int .i64 k ∧ Gath w w.heap.size (Sl.of (l.take k)) wr

set_option maxRecDepth 100000 in
set_option maxHeartbeats 1000000 in
theorem slof_any (a : Option Addr) (n c : Nat) (l : List Int) (w : World) (h : IntsAt w w.heap.size a n l) (hn : n ≤ 9223372036854775807) :
    Calls Tryd.prog 16 #[.slice a n c] w (SetP (Sl.of l) w) := by
  have H := Lib.hid h
  clear h
  go_enter Tryd.func16, Tryd.ntmps16
  go_wp2
  go_loopw [8] (OfRel w n l) (fun i _ => n - (intOf i).toNat)
  case atStart =>
    exact ⟨0, by omega, rfl, Gath.start w⟩
  case round =>
    obtain ⟨k, hk, rfl, hG⟩ := hrel
    by_cases hlt : k < n
    · obtain ⟨b, off, rfl, hlb, hc⟩ := (H.out.below hG.2.2).2 (by omega)
      have hck := hc k hlt
      have HS := Lib.hid (take_snoc l k (by rw [H.out.1]; exact hlt))
      have HO := Lib.hid (Sl.of_snoc (l.take k) (l.getD k 0))
      rw [← HS.out] at HO
      obtain ⟨⟨c0, c1, c2, c3⟩, f0, f1, f2, f3⟩ := hG.1.reads
      have HW := Lib.hid (fun w => with_any (Sl.of (l.take k)) (Sl.ok_of _) (l.getD k 0) w)
      have HG := Lib.hid hG
      clear hc hG
      generalize Sl.of (l.take k) = s at *
      generalize l.getD k 0 = x at *
      go_wp2_with (go_at_call 30; refine (HW.out _).mono ?_; rintro e w1 ⟨rfl, hbl⟩; obtain ⟨⟨c0, c1, c2, c3⟩, f0, f1, f2, f3⟩ := (SetAt.below HG.out.1 hbl HG.out.1.lt).reads)
      go_roundw
      case rel => exact ⟨k + 1, by omega, by go_num, by rw [HO.out]; exact HG.out.step (Nat.le_refl _) hbl _⟩
      case measure => simp [intOf]; omega
    · have HE : Hid (l.take k = l) := Lib.hid (List.take_of_length_le (by rw [H.out.1]; omega))
      rw [HE.out] at hG
      obtain ⟨⟨c0, c1, c2, c3⟩, f0, f1, f2, f3⟩ := hG.1.reads
      obtain ⟨⟨d0, d1, d2, d3⟩, g0, g1, g2, g3⟩ := hG.2.1.reads
      have HG := Lib.hid hG
      clear hG
      generalize Sl.of l = s at *
      go_wp2
      exact bodyPost_ret (v := setV s) (by simp [results, Tryd.results16, go_sem, *]) rfl ⟨rfl, below_store HG.out.2.2 (Nat.le_refl _) _ _ _ _⟩

/-- A word with a bit that it has not, added. -/
theorem add_word {x r : Nat} (hx : x < 18446744073709551616) (hr : r < 64) (h : x.testBit r = false) : IntKind.u64.wrap ((x : Int) + IntKind.u64.wrap (2 ^ r)) = ((x + 2 ^ r : Nat) : Int) := by
  have e := Sl.add_bit hr hx h
  have hb := Sl.bit_lt hr
  have hl := Sl.or_lt hx hb
  rw [← e] at hl
  rw [IntKind.wrap_u64, IntKind.wrap_u64, show ((2 : Int) ^ r) = ((2 ^ r : Nat) : Int) by simp]
  generalize 2 ^ r = k at *
  omega

set_option maxRecDepth 100000 in
set_option maxHeartbeats 1000000 in
theorem rslof_any (a : Option Addr) (n c : Nat) (l : List Int) (w : World) (h : IntsAt w w.heap.size a n l) (hn : n ≤ 9223372036854775807) :
    Calls Tryd.prog 19 #[.slice a n c] w (SetP (Sl.of l) w) := by
  have H := Lib.hid h
  clear h
  go_enter Tryd.func19, Tryd.ntmps19
  go_wp2
  go_loopw [4] (OfRel w n l) (fun i _ => n - (intOf i).toNat)
  case atStart =>
    exact ⟨0, by omega, rfl, Gath.start w⟩
  case round =>
    obtain ⟨k, hk, rfl, hG⟩ := hrel
    by_cases hlt : k < n
    · obtain ⟨b, off, rfl, hlb, hc⟩ := (H.out.below hG.2.2).2 (by omega)
      have hck := hc k hlt
      have HS := Lib.hid (take_snoc l k (by rw [H.out.1]; exact hlt))
      have HO := Lib.hid (Sl.of_snoc (l.take k) (l.getD k 0))
      rw [← HS.out] at HO
      obtain ⟨⟨c0, c1, c2, c3⟩, f0, f1, f2, f3⟩ := hG.1.reads
      have HK := Lib.hid (Sl.ok_of (l.take k))
      have HG := Lib.hid hG
      clear hc hG
      generalize Sl.of (l.take k) = s at *
      generalize l.getD k 0 = x at *
      by_cases hx : x < 0 ∨ 256 ≤ x
      · rw [Sl.with_out hx] at HO
        rcases hx with hx | hx
        · have h0 : ¬ 0 ≤ x := by omega
          go_wp2
          go_roundw
          case rel => exact ⟨k + 1, by omega, by go_num, by rw [HO.out]; exact HG.out⟩
          case measure => simp [intOf]; omega
        · have h0 : 0 ≤ x := by omega
          have h1 : ¬ x ≤ 255 := by omega
          go_wp2
          go_roundw
          case rel => exact ⟨k + 1, by omega, by go_num, by rw [HO.out]; exact HG.out⟩
          case measure => simp [intOf]; omega
      · have h0 : 0 ≤ x := by omega
        have h1 : x ≤ 255 := by omega
        obtain ⟨q, r, _, hq, hr, e, _⟩ := parts (n := x) (by omega) (by omega)
        have hd : x / 64 = (q : Int) := by omega
        have hm : x % 64 = (r : Int) := by omega
        have hh : s.hasI x = (s.word q).testBit r := hasI_at hq hr e
        have HW : Hid (s.with_ x = if s.hasI x = true then s else s.put q (s.word q + 2 ^ r)) := Lib.hid (by
          rw [with_at hq hr e, hh]
          split
          · rename_i ht
            rw [Sl.or_bit ht, Sl.put_word]
          · rename_i ht
            rw [Sl.add_bit hr (Sl.ok_word HK.out q) (by simpa using ht)])
        have HR := Lib.hid (fun w => rhas_any s x w)
        have HB : Hid (s.hasI x = false → IntKind.u64.wrap ((s.word q : Int) + IntKind.u64.wrap (2 ^ r)) = ((s.word q + 2 ^ r : Nat) : Int)) := Lib.hid (fun hf => add_word (Sl.ok_word HK.out q) hr (hh.symm.trans hf))
        clear hx hh e
        cases hv : s.hasI x
        · rw [hv] at HW HR HB
          clear hv
          have HP : Hid (s.with_ x = s.put q (s.word q + 2 ^ r)) := Lib.hid (by rw [HW.out]; rfl)
          have HC := Lib.hid (HB.out rfl)
          rw [HP.out] at HO
          clear HW HB HP
          obtain rfl | rfl | rfl | rfl : q = 0 ∨ q = 1 ∨ q = 2 ∨ q = 3 := by omega
          all_goals
            go_wp2_with (go_at_call 32; refine (HR.out _).mono ?_; rintro e w1 ⟨rfl, hbl⟩; obtain ⟨⟨c0, c1, c2, c3⟩, f0, f1, f2, f3⟩ := (SetAt.below HG.out.1 hbl HG.out.1.lt).reads)
            go_roundw
            case rel => exact ⟨k + 1, by omega, by go_num, by rw [HO.out]; exact HG.out.put (Nat.le_refl _) hbl _ _ (by omega) HC.out⟩
            case measure => simp [intOf]; omega
        · rw [hv] at HW HR
          clear hv HB
          have HP : Hid (s.with_ x = s) := Lib.hid (by rw [HW.out]; rfl)
          rw [HP.out] at HO
          clear HW HP hd hm
          go_wp2_with (go_at_call 32; refine (HR.out _).mono ?_; rintro e w1 ⟨rfl, hbl⟩)
          go_roundw
          case rel => exact ⟨k + 1, by omega, by go_num, by rw [HO.out]; exact HG.out.kept hbl⟩
          case measure => simp [intOf]; omega
    · have HE : Hid (l.take k = l) := Lib.hid (List.take_of_length_le (by rw [H.out.1]; omega))
      rw [HE.out] at hG
      obtain ⟨⟨c0, c1, c2, c3⟩, f0, f1, f2, f3⟩ := hG.1.reads
      obtain ⟨⟨d0, d1, d2, d3⟩, g0, g1, g2, g3⟩ := hG.2.1.reads
      have HG := Lib.hid hG
      clear hG
      generalize Sl.of l = s at *
      go_wp2
      exact bodyPost_ret (v := setV s) (by simp [results, Tryd.results19, go_sem, *]) rfl ⟨rfl, below_store HG.out.2.2 (Nat.le_refl _) _ _ _ _⟩

end Go.Proofs.YtinmcelgfdjmfaaDoor
