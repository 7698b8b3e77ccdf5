/-
 Tables of sets: which may be, runs of alike sets, their bytes: the plain mathematics. Conditions: none.
-/
import Derived.Test.YtmhmlhlplfkpaaaDoorSlAA
namespace Go.Proofs.YtmhmlhlplfkpaaaDoor.Mp
open Sl (Four)
def same (s t : Four) : Bool := s.a == t.a && (s.b == t.b && (s.c == t.c && s.d == t.d))
def at_ (l : List Four) (pc : Int) : Four := if pc < 0 ∨ (l.length : Int) ≤ pc then Sl.no else l.getD pc.toNat Sl.no
theorem at_out {l : List Four} {pc : Int} (h : pc < 0 ∨ (l.length : Int) ≤ pc) : at_ l pc = Sl.no := if_pos h
theorem at_in {l : List Four} {k : Nat} (h : k < l.length) : at_ l (k : Int) = l.getD k Sl.no := by
 unfold at_
 rw [if_neg (by omega), Int.toNat_natCast]
def right (l : List Four) (m : Int) : Bool := (l.all fun s => s.inside (Sl.range 0 m)) && decide (l.length ≤ 2000)
def inside (a b : List Four) : Bool := decide (a.length = b.length) && (List.range a.length).all fun i => (a.getD i Sl.no).inside (b.getD i Sl.no)
theorem take_snoc {l : List Four} {k : Nat} (h : k < l.length) : l.take (k + 1) = l.take k ++ [l.getD k Sl.no] := by
 rw [List.take_succ_eq_append_getElem h]
 simp [List.getD, h]
abbrev Runs := List (Nat × Four)
def step (r : Runs) (x : Four) : Runs := match r.getLast? with
 | some (n, y) => if same y x then r.dropLast ++ [(n + 1, y)] else r ++ [(1, x)]
 | none => [(1, x)]
def of (l : List Four) : Runs := l.foldl step []
def row (r : Runs) : List Four := r.flatMap fun p => List.replicate p.1 p.2
def words (s : Four) : List Nat := Uv.put s.a ++ (Uv.put s.b ++ (Uv.put s.c ++ Uv.put s.d))
def one (p : Nat × Four) : List Nat := Uv.put p.1 ++ words p.2
def laid (r : Runs) : List Nat := r.flatMap one
def bytes (l : List Four) : List Nat := laid (of l)
structure Part (l : List Four) (k fr : Nat) : Prop where
 le : fr ≤ k
 alike : ∀ j, fr ≤ j → j ≤ k → j < l.length → l.getD j Sl.no = l.getD fr Sl.no
 last : 0 < fr → fr < l.length → l.getD (fr - 1) Sl.no ≠ l.getD fr Sl.no
 done : k = l.length → fr = k
theorem Part.zero (l : List Four) : Part l 0 0 := ⟨Nat.le_refl _, fun j h1 h2 _ => by rw [show j = 0 by omega], fun h => absurd h (by omega), fun _ => rfl⟩
theorem Part.cut {l : List Four} {k fr : Nat} (_ : Part l k fr) (hc : k + 1 < l.length → l.getD (k + 1) Sl.no ≠ l.getD k Sl.no) : Part l (k + 1) (k + 1) :=
 ⟨Nat.le_refl _, fun j h1 h2 _ => by rw [show j = k + 1 by omega], fun _ hl => by rw [Nat.add_sub_cancel]; exact fun e => hc hl e.symm, fun _ => rfl⟩
theorem Part.more {l : List Four} {k fr : Nat} (h : Part l k fr) (hk : k + 1 < l.length) (he : l.getD (k + 1) Sl.no = l.getD k Sl.no) : Part l (k + 1) fr :=
 ⟨Nat.le_trans h.le (Nat.le_succ k), fun j h1 h2 h3 => by
   rcases (show j ≤ k ∨ j = k + 1 by omega) with h4 | rfl
   · exact h.alike j h1 h4 h3
   · rw [he]; exact h.alike k h.le (Nat.le_refl _) (by omega), h.last, fun e => absurd e (by omega)⟩
theorem Part.take {l : List Four} {k fr : Nat} (h : Part l k fr) (hk : k < l.length) : l.take (k + 1) = l.take fr ++ List.replicate (k - fr + 1) (l.getD k Sl.no) := by
 have hle := h.le
 apply List.ext_getElem
 · simp
   omega
 · intro i h1 h2
   have hi : i < l.length := by simp at h1; omega
   by_cases hf : i < fr
   · rw [List.getElem_append_left (by simp; omega)]
     simp
   · rw [List.getElem_append_right (by simp; omega)]
     simp only [List.getElem_take, List.getElem_replicate]
     have e1 := h.alike i (by omega) (by simp at h1; omega) hi
     have e2 := h.alike k hle (Nat.le_refl _) hk
     rw [e2, ← e1]
     simp [List.getD, hi]
end Go.Proofs.YtmhmlhlplfkpaaaDoor.Mp
namespace Go.Proofs.YtmhmlhlplfkpaaaDoor
open Go.RowKit
def words (s : Sl.Four) : List Value := [.int .u64 (s.a : Int), .int .u64 (s.b : Int), .int .u64 (s.c : Int), .int .u64 (s.d : Int)]
def SetsAt (w : World) (B : Nat) (a : Option Addr) (n : Nat) (r : List Sl.Four) : Prop :=
 r.length = n ∧ (0 < n → ∃ b off, a = some ⟨b, off, none⟩ ∧ b < B ∧ ∀ i, i < n → ∀ j, j < 4 → w.cell? ⟨b, off + i * 4 + j, none⟩ = some (.int .u64 ((r.getD i Sl.no).word j : Int)))
theorem SetsAt.below {w w' : World} {B : Nat} {a : Option Addr} {n : Nat} {r : List Sl.Four} (h : SetsAt w B a n r) (hb : Below B w w') : SetsAt w' B a n r := by
 refine ⟨h.1, fun hn => ?_⟩
 obtain ⟨b, off, e, hlt, hc⟩ := h.2 hn
 exact ⟨b, off, e, hlt, fun i hi j hj => (hb.cell (p := ⟨b, off + i * 4 + j, none⟩) hlt).trans (hc i hi j hj)⟩
theorem SetsAt.more {w : World} {B B' : Nat} {a : Option Addr} {n : Nat} {r : List Sl.Four} (h : SetsAt w B a n r) (hb : B ≤ B') : SetsAt w B' a n r := by
 refine ⟨h.1, fun hn => ?_⟩
 obtain ⟨b, off, e, hlt, hc⟩ := h.2 hn
 exact ⟨b, off, e, by omega, hc⟩
theorem SetsAt.on {w w' : World} {a : Option Addr} {n : Nat} {r : List Sl.Four} (h : SetsAt w w.heap.size a n r) (hb : Below w.heap.size w w') : SetsAt w' w'.heap.size a n r := (h.below hb).more hb.size
def SetRunsAt (w : World) (B : Nat) (a : Option Addr) (n : Nat) (r : Mp.Runs) : Prop :=
 r.length = n ∧ (0 < n → ∃ b off, a = some ⟨b, off, none⟩ ∧ b < B ∧ ∀ i, i < n → w.cell? ⟨b, off + i * 5, none⟩ = some (.int .i64 ((r.getD i (0, Sl.no)).1 : Int)) ∧ ∀ j, j < 4 → w.cell? ⟨b, off + i * 5 + (j + 1), none⟩ = some (.int .u64 ((r.getD i (0, Sl.no)).2.word j : Int)))
theorem SetRunsAt.below {w w' : World} {B : Nat} {a : Option Addr} {n : Nat} {r : Mp.Runs} (h : SetRunsAt w B a n r) (hb : Below B w w') : SetRunsAt w' B a n r := by
 refine ⟨h.1, fun hn => ?_⟩
 obtain ⟨b, off, e, hlt, hc⟩ := h.2 hn
 exact ⟨b, off, e, hlt, fun i hi => ⟨(hb.cell (p := ⟨b, off + i * 5, none⟩) hlt).trans (hc i hi).1, fun j hj => (hb.cell (p := ⟨b, off + i * 5 + (j + 1), none⟩) hlt).trans ((hc i hi).2 j hj)⟩⟩
theorem SetRunsAt.more {w : World} {B B' : Nat} {a : Option Addr} {n : Nat} {r : Mp.Runs} (h : SetRunsAt w B a n r) (hb : B ≤ B') : SetRunsAt w B' a n r := by
 refine ⟨h.1, fun hn => ?_⟩
 obtain ⟨b, off, e, hlt, hc⟩ := h.2 hn
 exact ⟨b, off, e, by omega, hc⟩
theorem SetRunsAt.on {w w' : World} {a : Option Addr} {n : Nat} {r : Mp.Runs} (h : SetRunsAt w w.heap.size a n r) (hb : Below w.heap.size w w') : SetRunsAt w' w'.heap.size a n r := (h.below hb).more hb.size
end Go.Proofs.YtmhmlhlplfkpaaaDoor
