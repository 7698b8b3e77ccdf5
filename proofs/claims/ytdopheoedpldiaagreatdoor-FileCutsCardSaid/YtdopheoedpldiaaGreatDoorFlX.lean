/-
 What is taken of bytes is taken of them where others stand behind: the plain mathematics. Conditions: none.
-/
import Derived.Test.YtdopheoedpldiaaGreatDoorFlR
namespace Go.Proofs.YtdopheoedpldiaaGreatDoor
def ext (x : List Nat) (s : List Nat × Nat) : List Nat × Nat := (s.1 ++ x, s.2)
def Ext {α : Type} (p : List Nat × Nat → α × (List Nat × Nat)) : Prop := ∀ s, (p s).2.2 = 0 → s.2 = 0 ∧ ∀ x, p (ext x s) = ((p s).1, ext x (p s).2)
def ExtS (p : List Nat × Nat → List Nat × Nat) : Prop := ∀ s, (p s).2 = 0 → s.2 = 0 ∧ ∀ x, p (ext x s) = ext x (p s)
theorem fail_ok {s : List Nat × Nat} {e : Nat} (h : (failA s e).2 = 0) : e = 0 ∧ s.2 = 0 ∧ failA s e = s := by
 unfold failA at h ⊢
 split at h
 · rename_i hc
   have : e = 0 := by
     rcases hc with hc | hc
     · exact hc
     · exact absurd h hc
   exact ⟨this, h, by rw [if_pos (.inl this)]⟩
 · rename_i hc
   exact absurd (.inl h) hc
theorem fail_no {s : List Nat × Nat} {e : Nat} (he : e ≠ 0) (h : (failA s e).2 = 0) : False := he (fail_ok h).1
theorem fail_zero (s : List Nat × Nat) : failA s 0 = s := by unfold failA; rw [if_pos (.inl rfl)]
theorem getF_ext : ∀ (l x : List Nat) (i n : Nat), (Uv.getF l i n).2.2 = 0 → Uv.getF (l ++ x) i n = Uv.getF l i n ∧ (Uv.getF l i n).2.1 ≤ i + l.length
 | [], x, i, n, h => by simp [Uv.getF] at h
 | c :: r, x, i, n, h => by
   unfold Uv.getF at h ⊢
   rw [List.cons_append]
   split at h
   · simp at h
   · rename_i h1
     simp only [if_neg h1]
     split at h
     · rename_i h2
       simp only [if_pos h2]
       have := getF_ext r x (i + 1) (n + (c - 128) * 128 ^ i) h
       refine ⟨this.1, ?_⟩
       have := this.2
       simp only [List.length_cons]
       omega
     · rename_i h2
       simp only [if_neg h2]
       split at h
       · simp at h
       · rename_i h3
         simp only [if_neg h3]
         refine ⟨trivial, ?_⟩
         simp only [List.length_cons]
         omega
theorem get_ext {l : List Nat} (x : List Nat) (h : (Uv.get l).2.2 = 0) : Uv.get (l ++ x) = Uv.get l ∧ (Uv.get l).2.1 ≤ l.length := by
 have := getF_ext l x 0 0 h
 rwa [Nat.zero_add] at this
theorem bits_ext : Ext bitsA := by
 intro s h
 unfold bitsA at h ⊢
 obtain ⟨h1, h2, h3⟩ := fail_ok h
 simp only at h1 h2 h3
 refine ⟨h2, fun x => ?_⟩
 obtain ⟨h4, h5⟩ := get_ext x h1
 unfold ext
 simp only [h4, h1, fail_zero]
 rw [List.drop_append_of_le_length h5]
theorem int_ext : Ext intA := by
 intro s h
 obtain ⟨h1, h2⟩ := bits_ext s h
 refine ⟨h1, fun x => ?_⟩
 have e := h2 x
 have e1 : (intA (ext x s)).2 = (bitsA (ext x s)).2 := rfl
 have e2 : (intA (ext x s)).1 = Uv.unfold_ (bitsA (ext x s)).1 := rfl
 refine Prod.ext ?_ ?_
 · rw [e2, e]; rfl
 · rw [e1, e]; rfl
theorem byte_ext : Ext byteA := by
 intro s h
 unfold byteA at h ⊢
 obtain ⟨h1, h2, _⟩ := fail_ok h
 simp only at h1 h2
 refine ⟨h2, fun x => ?_⟩
 obtain ⟨l, e⟩ := s
 cases l with
 | nil => simp [octB] at h1
 | cons c r =>
   unfold ext
   simp only [octB, List.cons_append, List.drop_succ_cons, List.drop_zero]
   simp only at h2
   rw [h2, fail_zero, fail_zero]
theorem num_ext (most : Int) : Ext (fun s => numA s most) := by
 intro s h
 unfold numA at h ⊢
 simp only at h ⊢
 split at h
 · exact (fail_no (by decide) h).elim
 · rename_i hc
   obtain ⟨h1, h2⟩ := bits_ext s h
   refine ⟨h1, fun x => ?_⟩
   rw [h2 x]
   simp only [if_neg hc]
theorem text_ext (most : Int) : Ext (fun s => textA s most) := by
 intro s h
 unfold textA at h ⊢
 obtain ⟨h1, h2, h3⟩ := fail_ok h
 simp only at h1 h2 h3
 obtain ⟨h4, h5⟩ := num_ext most s h2
 simp only at h4 h5
 refine ⟨h4, fun x => ?_⟩
 unfold textB at h1 h3 ⊢
 split at h1
 · simp at h1
 · rename_i hl
   simp only [if_neg hl] at h3 ⊢
   rw [h5 x]
   unfold ext
   simp only
   rw [if_neg (by rw [List.length_append]; omega)]
   simp only [h2, fail_zero]
   rw [List.take_append_of_le_length (by omega), List.drop_append_of_le_length (by omega)]
namespace Si
theorem bytesS_ext : ∀ k, ExtS (bytesS k)
 | 0 => fun _ h => ⟨h, fun _ => rfl⟩
 | k + 1 => fun s h => by
   obtain ⟨h1, h2⟩ := byte_ext _ (show (byteA (bytesS k s)).2.2 = 0 from h)
   obtain ⟨h3, h4⟩ := bytesS_ext k s h1
   exact ⟨h3, fun x => by rw [bytesS, bytesS, h4 x, h2 x]⟩
theorem bytesS_down {s : List Nat × Nat} : ∀ {k : Nat}, (bytesS k s).2 = 0 → ∀ j, j ≤ k → (bytesS j s).2 = 0
 | 0, h, j, hj => by obtain rfl : j = 0 := by omega
                     exact h
 | k + 1, h, j, hj => by
   by_cases e : j = k + 1
   · subst e; exact h
   · exact bytesS_down (byte_ext _ (show (byteA (bytesS k s)).2.2 = 0 from h)).1 j (by omega)
theorem bytesV_ext {s : List Nat × Nat} {k : Nat} (h : (bytesS k s).2 = 0) (x : List Nat) : bytesV (ext x s) k = bytesV s k := by
 unfold bytesV
 refine List.map_congr_left fun i hi => ?_
 have hi := List.mem_range.1 hi
 have h1 := bytesS_down h (i + 1) (by omega)
 have h2 := (bytesS_ext i s (bytesS_down h i (by omega))).2 x
 have h3 := (byte_ext _ (show (byteA (bytesS i s)).2.2 = 0 from h1)).2 x
 unfold byteV
 rw [h2, h3]
theorem take_ext (most : Int) : Ext (fun s => take s most) := by
 intro s h
 unfold take at h ⊢
 simp only at h ⊢
 split at h
 · rename_i h1; exact absurd h h1
 · rename_i h1
   split at h
   · rename_i h2
     obtain ⟨a1, a2⟩ := bytesS_ext _ _ h
     obtain ⟨b1, b2⟩ := num_ext most s a1
     simp only at b2
     refine ⟨b1, fun x => ?_⟩
     rw [b2 x]
     simp only
     rw [a2 x, bytesV_ext h x]
     rw [if_neg (show ¬ (ext x (bytesS (numA s most).1 (numA s most).2)).2 ≠ 0 from h1), if_pos h2, if_neg h1, if_pos h2]
   · exact (fail_no (by decide) h).elim
end Si
namespace In
theorem take_ext : Ext take := by
 intro s h
 have e0 : byteA s = ((byteA s).1, (byteA s).2) := rfl
 rcases Bool.eq_false_or_eq_true (known ((byteA s).1 : Int)) with hk | hk
 · rcases Bool.eq_false_or_eq_true (numbered ((byteA s).1 : Int)) with hn | hn
   · rcases Bool.eq_false_or_eq_true (right ((byteA s).1 : Int) (intA (byteA s).2).1) with hr | hr
     · have e := take_both e0 hk hn (show intA (byteA s).2 = ((intA (byteA s).2).1, (intA (byteA s).2).2) from rfl) hr
       rw [e] at h ⊢
       simp only at h
       obtain ⟨h1, h2⟩ := int_ext _ h
       obtain ⟨h3, h4⟩ := byte_ext _ h1
       refine ⟨h3, fun x => ?_⟩
       rw [take_both (h4 x) hk hn (h2 x) hr]
       rfl
     · have e := take_arg e0 hk hn (show intA (byteA s).2 = ((intA (byteA s).2).1, (intA (byteA s).2).2) from rfl) hr
       rw [e] at h
       exact (fail_no (by decide) h).elim
   · have e := take_bare e0 hk hn
     rw [e] at h ⊢
     simp only at h
     obtain ⟨h3, h4⟩ := byte_ext _ h
     refine ⟨h3, fun x => ?_⟩
     rw [take_bare (h4 x) hk hn]
     rfl
 · have e := take_op e0 hk
   rw [e] at h
   exact (fail_no (by decide) h).elim
theorem insS_ext : ∀ k, ExtS (insS k)
 | 0 => fun _ h => ⟨h, fun _ => rfl⟩
 | k + 1 => fun s h => by
   obtain ⟨h1, h2⟩ := take_ext _ (show (take (insS k s)).2.2 = 0 from h)
   obtain ⟨h3, h4⟩ := insS_ext k s h1
   exact ⟨h3, fun x => by rw [insS, insS, h4 x, h2 x]⟩
theorem insV_ext {s : List Nat × Nat} : ∀ {k : Nat}, (insS k s).2 = 0 → ∀ x, insV (ext x s) k = insV s k
 | 0, _, _ => rfl
 | k + 1, h, x => by
   obtain ⟨h1, h2⟩ := take_ext _ (show (take (insS k s)).2.2 = 0 from h)
   rw [insV, insV, insV_ext h1 x, (insS_ext k s h1).2 x, h2 x]
end In
section
variable {last : Option Int} {left low high : Int}
theorem xform_ok {s : List Nat × Nat} (h : (formS s left).2 = 0) : formS s left = (bitsA s).2 ∧ (bitsA s).2.2 = 0 ∧ ¬ ((bitsA s).1 < 1 ∨ left < ((bitsA s).1 : Int)) := by
 unfold formS at h ⊢
 split at h
 · exact (fail_no (by decide) h).elim
 · rename_i hc
   exact ⟨if_neg hc, h, hc⟩
theorem xform_ext : ExtS (fun s => formS s left) := by
 intro s h
 obtain ⟨h1, h2, h3⟩ := xform_ok h
 obtain ⟨h4, h5⟩ := bits_ext s h2
 refine ⟨h4, fun x => ?_⟩
 simp only
 rw [h1]
 unfold formS
 rw [h5 x, if_neg h3]
theorem xrun_ok {s : List Nat × Nat} (h : (runS s last left low high).2 = 0) : (formS s left).2 = 0 ∧ (intA (formS s left)).2.2 = 0 ∧ runS s last left low high = (intA (formS s left)).2 ∧ ¬ last = some (intA (formS s left)).1 ∧ ¬ ((intA (formS s left)).1 < low ∨ high < (intA (formS s left)).1) := by
 unfold runS at h ⊢
 split at h
 · exact (fail_no (by decide) h).elim
 · rename_i hc
   rw [if_neg hc]
   unfold sameS at h ⊢
   split at h
   · exact (fail_no (by decide) h).elim
   · rename_i hd
     exact ⟨(int_ext _ h).1, h, if_neg hd, hd, hc⟩
theorem xrun_ext : ExtS (fun s => runS s last left low high) := by
 intro s h
 obtain ⟨h1, h2, h3, h4, h5⟩ := xrun_ok h
 obtain ⟨a1, a2⟩ := xform_ext s h1
 obtain ⟨b1, b2⟩ := int_ext _ h2
 refine ⟨a1, fun x => ?_⟩
 simp only at a2 ⊢
 rw [h3]
 unfold runS sameS
 rw [a2 x, b2 x, if_neg h5, if_neg h4]
theorem takeL_ext (n : Nat) : ∀ (f : Nat) (s : List Nat × Nat) (out : List Int), (takeL n low high f s out).2.2 = 0 → s.2 = 0 ∧ ∀ x, takeL n low high f (ext x s) out = ((takeL n low high f s out).1, ext x (takeL n low high f s out).2)
 | 0, s, out, h => ⟨h, fun _ => rfl⟩
 | f + 1, s, out, h => by
   unfold takeL at h ⊢
   split at h
   · rename_i h1
     exact ⟨h, fun x => by simp only [if_pos h1]⟩
   · rename_i h1
     simp only [if_neg h1]
     split at h
     · rename_i h2; exact absurd h h2
     · rename_i h2
       have h2' : (runS s out.getLast? ((n - out.length : Nat) : Int) low high).2 = 0 := by omega
       obtain ⟨a1, a2⟩ := xrun_ext (low := low) (high := high) (last := out.getLast?) (left := ((n - out.length : Nat) : Int)) s h2'
       obtain ⟨b1, b2⟩ := takeL_ext n f _ _ h
       obtain ⟨c1, _⟩ := xrun_ok h2'
       obtain ⟨d1, d2, _⟩ := xform_ok c1
       obtain ⟨_, e2⟩ := bits_ext s d2
       have f2 : (intA (bitsA s).2).2.2 = 0 := by rw [← d1]; exact (xrun_ok h2').2.1
       obtain ⟨_, g2⟩ := int_ext _ f2
       refine ⟨a1, fun x => ?_⟩
       simp only at a2
       rw [a2 x, e2 x]
       simp only
       rw [g2 x, if_neg (show ¬ (ext x (runS s out.getLast? ((n - out.length : Nat) : Int) low high)).2 ≠ 0 from h2), if_neg h2]
       exact b2 x
theorem takeA_ext (n : Int) : Ext (fun s => takeA s n low high) := fun s h => takeL_ext n.toNat _ s [] h
end
namespace Tr
theorem intsS_ext : ∀ k, ExtS (intsS k)
 | 0 => fun _ h => ⟨h, fun _ => rfl⟩
 | k + 1 => fun s h => by
   obtain ⟨h1, h2⟩ := int_ext _ (show (intA (intsS k s)).2.2 = 0 from h)
   obtain ⟨h3, h4⟩ := intsS_ext k s h1
   exact ⟨h3, fun x => by rw [intsS, intsS, h4 x, h2 x]⟩
theorem intsS_down {s : List Nat × Nat} : ∀ {k : Nat}, (intsS k s).2 = 0 → ∀ j, j ≤ k → (intsS j s).2 = 0
 | 0, h, j, hj => by obtain rfl : j = 0 := by omega
                     exact h
 | k + 1, h, j, hj => by
   by_cases e : j = k + 1
   · subst e; exact h
   · exact intsS_down (int_ext _ (show (intA (intsS k s)).2.2 = 0 from h)).1 j (by omega)
theorem intsV_ext {s : List Nat × Nat} {k : Nat} (h : (intsS (k + 1) s).2 = 0) (x : List Nat) : intsV (ext x s) k = intsV s k := by
 have h1 := int_ext _ (show (intA (intsS k s)).2.2 = 0 from h)
 unfold intsV
 rw [(intsS_ext k s h1.1).2 x, h1.2 x]
theorem nodeV_ext {s : List Nat × Nat} (h : (intsS 7 s).2 = 0) (x : List Nat) : nodeV (ext x s) = nodeV s := by
 unfold nodeV
 rw [intsV_ext (intsS_down h 1 (by decide)), intsV_ext (intsS_down h 2 (by decide)), intsV_ext (intsS_down h 3 (by decide)), intsV_ext (intsS_down h 4 (by decide)), intsV_ext (intsS_down h 5 (by decide)), intsV_ext (intsS_down h 6 (by decide)), intsV_ext h]
theorem nodesS_ext {s : List Nat × Nat} {k : Nat} (h : (nodesS k s).2 = 0) (x : List Nat) : nodesS k (ext x s) = ext x (nodesS k s) := by
 unfold nodesS at h ⊢
 exact (intsS_ext (7 * k) s h).2 x
theorem nodesV_ext {s : List Nat × Nat} {k : Nat} (h : (nodesS k s).2 = 0) (x : List Nat) : nodesV (ext x s) k = nodesV s k := by
 induction k with
 | zero => rfl
 | succ k ih =>
   rw [nodesS_succ] at h
   generalize hz : nodesS k s = z at h
   have h1 := (intsS_ext 7 z h).1
   have e2 := nodeV_ext h x
   have e : nodesS k (ext x s) = ext x z := by rw [← hz]; exact nodesS_ext (by rw [hz]; exact h1) x
   have e3 := ih (by rw [hz]; exact h1)
   rw [nodesV, nodesV, e3, e, e2, hz]
theorem take_ext : Ext take := by
 intro s h
 unfold take at h ⊢
 split at h
 · rename_i h1; exact absurd h h1
 · rename_i h1
   split at h
   · rename_i h2
     obtain ⟨a1, a2⟩ := intsS_ext _ _ (show (intsS (7 * (numA s 120).1) (numA s 120).2).2 = 0 from h)
     obtain ⟨b1, b2⟩ := num_ext 120 s a1
     simp only at b2
     refine ⟨b1, fun x => ?_⟩
     rw [b2 x]
     have e : nodesS (numA s 120).1 (ext x (numA s 120).2) = ext x (nodesS (numA s 120).1 (numA s 120).2) := a2 x
     simp only
     rw [e, nodesV_ext h x, if_neg (show ¬ (ext x (nodesS (numA s 120).1 (numA s 120).2)).2 ≠ 0 from h1), if_pos h2, if_neg h1, if_pos h2]
   · exact (fail_no (by decide) h).elim
end Tr
namespace Mp
theorem bitsS_ext : ∀ k, ExtS (bitsS k)
 | 0 => fun _ h => ⟨h, fun _ => rfl⟩
 | k + 1 => fun s h => by
   obtain ⟨h1, h2⟩ := bits_ext _ (show (bitsA (bitsS k s)).2.2 = 0 from h)
   obtain ⟨h3, h4⟩ := bitsS_ext k s h1
   exact ⟨h3, fun x => by rw [bitsS, bitsS, h4 x, h2 x]⟩
theorem bitsS_down {s : List Nat × Nat} : ∀ {k : Nat}, (bitsS k s).2 = 0 → ∀ j, j ≤ k → (bitsS j s).2 = 0
 | 0, h, j, hj => by obtain rfl : j = 0 := by omega
                     exact h
 | k + 1, h, j, hj => by
   by_cases e : j = k + 1
   · subst e; exact h
   · exact bitsS_down (bits_ext _ (show (bitsA (bitsS k s)).2.2 = 0 from h)).1 j (by omega)
theorem bitV_ext {s : List Nat × Nat} {k : Nat} (h : (bitsS (k + 1) s).2 = 0) (x : List Nat) : bitV (ext x s) k = bitV s k := by
 have h1 := bits_ext _ (show (bitsA (bitsS k s)).2.2 = 0 from h)
 unfold bitV
 rw [(bitsS_ext k s h1.1).2 x, h1.2 x]
theorem fourV_ext {s : List Nat × Nat} (h : (bitsS 4 s).2 = 0) (x : List Nat) : fourV (ext x s) = fourV s := by
 unfold fourV
 rw [bitV_ext (bitsS_down h 1 (by decide)), bitV_ext (bitsS_down h 2 (by decide)), bitV_ext (bitsS_down h 3 (by decide)), bitV_ext h]
theorem run_ok {s : List Nat × Nat} {last : Option Sl.Four} {left : Nat} (h : (runS s last left).2 = 0) : ¬ bad s last left ∧ runS s last left = bitsS 4 (bitsA s).2 ∧ (bitsS 4 (bitsA s).2).2 = 0 := by
 unfold runS at h ⊢
 split at h
 · exact (fail_no (by decide) h).elim
 · rename_i hc
   exact ⟨hc, if_neg hc, h⟩
theorem run_ext {last : Option Sl.Four} {left : Nat} : ExtS (fun s => runS s last left) := by
 intro s h
 obtain ⟨h1, h2, h3⟩ := run_ok h
 obtain ⟨a1, a2⟩ := bitsS_ext 4 _ h3
 obtain ⟨b1, b2⟩ := bits_ext s a1
 refine ⟨b1, fun x => ?_⟩
 simp only
 rw [h2]
 unfold runS
 have hb : ¬ bad (ext x s) last left := by
   unfold bad at h1 ⊢
   rw [b2 x]
   simp only
   rw [fourV_ext h3 x]
   exact h1
 rw [if_neg hb, b2 x]
 exact a2 x
theorem takeL_ext (n : Nat) : ∀ (f : Nat) (s : List Nat × Nat) (r : Runs), (takeL n f s r).2.2 = 0 → s.2 = 0 ∧ (takeL n f s r).1 ≠ none ∧ ∀ x, takeL n f (ext x s) r = ((takeL n f s r).1, ext x (takeL n f s r).2)
 | 0, s, r, h => ⟨h, (fun e => by cases e), fun _ => rfl⟩
 | f + 1, s, r, h => by
   unfold takeL at h ⊢
   split at h
   · rename_i h1
     exact ⟨h, by rw [if_pos h1]; exact (fun e => by cases e), fun x => by simp only [if_pos h1]⟩
   · rename_i h1
     simp only [if_neg h1]
     split at h
     · rename_i h2; exact absurd h h2
     · rename_i h2
       have h2' : (runS s (lastV r) (n - (row r).length)).2 = 0 := by omega
       obtain ⟨a1, a2⟩ := run_ext (last := lastV r) (left := n - (row r).length) s h2'
       obtain ⟨b1, b2, b3⟩ := takeL_ext n f _ _ h
       obtain ⟨_, _, c3⟩ := run_ok h2'
       obtain ⟨d1, d2⟩ := bits_ext s (bitsS_ext 4 _ c3).1
       refine ⟨a1, by rw [if_neg h2]; exact b2, fun x => ?_⟩
       simp only at a2
       rw [a2 x, d2 x]
       simp only
       rw [fourV_ext c3 x, if_neg (show ¬ (ext x (runS s (lastV r) (n - (row r).length))).2 ≠ 0 from h2), if_neg h2]
       exact b3 x
theorem takeA_ext (n m : Int) : Ext (fun s => takeA s n m) := by
 intro s h
 unfold takeA at h ⊢
 simp only at h ⊢
 cases hq : takeL n.toNat (n.toNat + 1) s [] with
 | mk o s' =>
   rw [hq] at h
   cases o with
   | none =>
     simp only at h
     have := takeL_ext n.toNat (n.toNat + 1) s [] (by rw [hq]; exact h)
     exact absurd (by rw [hq]) this.2.1
   | some r =>
     simp only at h
     split at h
     · rename_i hr
       obtain ⟨a1, _, a3⟩ := takeL_ext n.toNat (n.toNat + 1) s [] (by rw [hq]; exact h)
       refine ⟨a1, fun x => ?_⟩
       rw [a3 x, hq]
       simp only
       rw [if_pos hr, if_pos hr]
     · exact (fail_no (by decide) h).elim
end Mp
namespace Fn
def St.ext (x : List Nat) (t : St) : St := { t with s := _root_.Go.Proofs.YtdopheoedpldiaaGreatDoor.ext x t.s }
def ExtP (p : St → St) : Prop := ∀ t, (p t).s.2 = 0 → t.s.2 = 0 ∧ ∀ x, p (t.ext x) = (p t).ext x
theorem name_ext : ExtP pName := by
 intro t h
 obtain ⟨h1, h2⟩ := ask_yes (by decide) h
 obtain ⟨h3, h4⟩ := text_ext 12 t.s h2
 refine ⟨h3, fun x => ?_⟩
 have e := h4 x
 simp only at e
 unfold pName St.ext
 simp only [e, ask_ok h1]
theorem mark_ext : ExtP pMark := by
 intro t h
 obtain ⟨h1, h2⟩ := ask_yes (by decide) h
 obtain ⟨h3, h4⟩ := byte_ext t.s h2
 refine ⟨h3, fun x => ?_⟩
 have e := h4 x
 unfold pMark St.ext
 simp only [e, ask_ok h1]
theorem outer_ext : ExtP pOuter := by
 intro t h
 obtain ⟨h3, h4⟩ := Si.take_ext 4 t.s h
 exact ⟨h3, fun x => by have e := h4 x; simp only at e; unfold pOuter St.ext; simp only [e]⟩
theorem params_ext : ExtP pParams := by
 intro t h
 obtain ⟨h3, h4⟩ := Si.take_ext 8 t.s h
 exact ⟨h3, fun x => by have e := h4 x; simp only at e; unfold pParams St.ext; simp only [e]⟩
theorem results_ext : ExtP pResults := by
 intro t h
 obtain ⟨h3, h4⟩ := Si.take_ext 4 t.s h
 exact ⟨h3, fun x => by have e := h4 x; simp only at e; unfold pResults St.ext; simp only [e]⟩
theorem locals_ext : ExtP pLocals := by
 intro t h
 obtain ⟨h3, h4⟩ := Si.take_ext 256 t.s h
 exact ⟨h3, fun x => by have e := h4 x; simp only at e; unfold pLocals St.ext; simp only [e]⟩
theorem fits_ext : ExtP pFits := by
 intro t h
 obtain ⟨h1, h2⟩ := ask_yes (by decide) h
 refine ⟨h2, fun x => ?_⟩
 unfold pFits St.ext
 simp only [ask_ok h1]
theorem many_ext : ExtP pMany := by
 intro t h
 obtain ⟨h1, h2⟩ := ask_yes (by decide) h
 obtain ⟨h3, h4⟩ := num_ext 2000 t.s h2
 refine ⟨h3, fun x => ?_⟩
 have e := h4 x
 simp only at e
 unfold pMany St.ext
 simp only [e, ask_ok h1]
theorem code_ext : ExtP pCode := by
 intro t h
 have h0 : (In.insS t.many t.s).2 = 0 := h
 obtain ⟨h3, h4⟩ := In.insS_ext t.many t.s h0
 refine ⟨h3, fun x => ?_⟩
 have e := h4 x
 have e2 := In.insV_ext h0 x
 unfold pCode St.ext
 simp only [e, e2]
theorem lines_ext : ExtP pLines := by
 intro t h
 obtain ⟨h3, h4⟩ := takeA_ext (low := 0) (high := 65535) (t.many : Int) t.s h
 exact ⟨h3, fun x => by have e := h4 x; simp only at e; unfold pLines St.ext; simp only [e]⟩
theorem nodes_ext : ExtP pNodes := by
 intro t h
 obtain ⟨h3, h4⟩ := Tr.take_ext t.s h
 exact ⟨h3, fun x => by have e := h4 x; unfold pNodes St.ext; simp only [e]⟩
theorem at_ext : ExtP pAt := by
 intro t h
 obtain ⟨h3, h4⟩ := takeA_ext (low := 0) (high := (t.f.nodes.length : Int) - 1) (t.many : Int) t.s h
 exact ⟨h3, fun x => by have e := h4 x; simp only at e; unfold pAt St.ext; simp only [e]⟩
theorem live_ext : ExtP pLive := by
 intro t h
 obtain ⟨h3, h4⟩ := Mp.takeA_ext (t.many : Int) (t.f.slots : Int) t.s h
 exact ⟨h3, fun x => by have e := h4 x; simp only at e; unfold pLive St.ext; simp only [e]⟩
theorem goP_ext : ∀ {ps : List (St → St)}, (∀ p ∈ ps, ExtP p) → ∀ (t t' : St), goP ps t = .inr t' → t'.s.2 = 0 → t.s.2 = 0 ∧ ∀ x, goP ps (t.ext x) = .inr (t'.ext x)
 | [], _, t, t', h, h0 => by
   injection h with h
   subst h
   exact ⟨h0, fun _ => rfl⟩
 | p :: r, hp, t, t', h, h0 => by
   by_cases e : (p t).s.2 = 0
   · rw [goP_ok e] at h
     obtain ⟨a1, a2⟩ := hp p (List.mem_cons_self ..) t e
     obtain ⟨_, b2⟩ := goP_ext (fun q hq => hp q (List.mem_cons_of_mem _ hq)) _ _ h h0
     refine ⟨a1, fun x => ?_⟩
     have e2 : (p (t.ext x)).s.2 = 0 := by rw [a2 x]; exact e
     rw [goP_ok e2, a2 x]
     exact b2 x
   · rw [goP_err e] at h
     cases h
theorem goP_left : ∀ {ps : List (St → St)} {t : St} {z : List Nat × Nat}, goP ps t = .inl z → z.2 ≠ 0
 | [], _, _, h => by cases h
 | p :: r, t, z, h => by
   by_cases e : (p t).s.2 = 0
   · rw [goP_ok e] at h
     exact goP_left h
   · rw [goP_err e] at h
     injection h with h
     subst h
     exact e
def ExtG (g : St → List (St → St)) : Prop := (∀ t, ∀ p ∈ g t, ExtP p) ∧ ∀ t x, g (t.ext x) = g t
theorem goG_ext : ∀ {gs : List (St → List (St → St))}, (∀ g ∈ gs, ExtG g) → ∀ (t : St), (goG gs t).2.2 = 0 → t.s.2 = 0 ∧ ∀ x, goG gs (t.ext x) = ((goG gs t).1, _root_.Go.Proofs.YtdopheoedpldiaaGreatDoor.ext x (goG gs t).2)
 | [], _, t, h => ⟨h, fun _ => rfl⟩
 | g :: r, hg, t, h => by
   cases hq : goP (g t) t with
   | inl z =>
     rw [goG, hq] at h
     exact absurd h (goP_left hq)
   | inr t' =>
     have e := goG_ok (r := r) hq
     rw [e] at h ⊢
     obtain ⟨a1, a2⟩ := goG_ext (fun q hq => hg q (List.mem_cons_of_mem _ hq)) t' h
     obtain ⟨b1, b2⟩ := goP_ext ((hg g (List.mem_cons_self ..)).1 t) t t' hq a1
     refine ⟨b1, fun x => ?_⟩
     have e2 : goP (g (t.ext x)) (t.ext x) = .inr (t'.ext x) := by rw [(hg g (List.mem_cons_self ..)).2]; exact b2 x
     rw [goG_ok (r := r) e2]
     exact a2 x
theorem title_extG : ExtG gTitle := ⟨fun t p hp => by
 simp only [gTitle, List.mem_cons, List.not_mem_nil, or_false] at hp
 rcases hp with rfl | rfl
 · exact name_ext
 · exact mark_ext, fun _ _ => rfl⟩
theorem types_extG : ExtG gTypes := ⟨fun t p hp => by
 unfold gTypes at hp
 have : p = pOuter ∨ p = pParams ∨ p = pResults ∨ p = pLocals ∨ p = pFits := by
   cases hi : t.f.inner with
   | false =>
     rw [hi] at hp
     simp only [Bool.false_eq_true, if_false, List.nil_append, List.mem_cons, List.not_mem_nil, or_false] at hp
     exact .inr hp
   | true =>
     rw [hi] at hp
     simpa using hp
 rcases this with rfl | rfl | rfl | rfl | rfl
 · exact outer_ext
 · exact params_ext
 · exact results_ext
 · exact locals_ext
 · exact fits_ext, fun _ _ => rfl⟩
theorem body_extG : ExtG gBody := ⟨fun t p hp => by
 simp only [gBody, List.mem_cons, List.not_mem_nil, or_false] at hp
 rcases hp with rfl | rfl | rfl
 · exact many_ext
 · exact code_ext
 · exact lines_ext, fun _ _ => rfl⟩
theorem tables_extG : ExtG gTables := ⟨fun t p hp => by
 unfold gTables at hp
 split at hp
 · cases hp
 · simp only [List.mem_cons, List.not_mem_nil, or_false] at hp
   rcases hp with rfl | rfl | rfl
   · exact nodes_ext
   · exact at_ext
   · exact live_ext, fun _ _ => rfl⟩
theorem take_ext : Ext take := by
 intro s h
 obtain ⟨h1, h2⟩ := goG_ext (gs := [gTitle, gTypes, gBody, gTables]) (fun g hg => by
   simp only [List.mem_cons, List.not_mem_nil, or_false] at hg
   rcases hg with rfl | rfl | rfl | rfl
   · exact title_extG
   · exact types_extG
   · exact body_extG
   · exact tables_extG) ⟨F.zero, 0, 0, s⟩ h
 exact ⟨h1, fun x => h2 x⟩
end Fn
end Go.Proofs.YtdopheoedpldiaaGreatDoor
namespace Go.Proofs.YtdopheoedpldiaaGreatDoor
namespace Fl
open _root_.Go.Proofs.YtdopheoedpldiaaGreatDoor.Fn (F)
theorem fnS_ext : ∀ k, ExtS (fnS k)
 | 0 => fun _ h => ⟨h, fun _ => rfl⟩
 | k + 1 => fun s h => by
   obtain ⟨h1, h2⟩ := Fn.take_ext _ (show (Fn.take (fnS k s)).2.2 = 0 from h)
   obtain ⟨h3, h4⟩ := fnS_ext k s h1
   exact ⟨h3, fun x => by rw [fnS, fnS, h4 x, h2 x]⟩
theorem many_ext {b : List Nat} (x : List Nat) (h4 : 4 ≤ b.length) (h : (howMany b).2.2 = 0) : howMany (b ++ x) = ((howMany b).1, ext x (howMany b).2) := by
 unfold howMany at h ⊢
 simp only at h
 obtain ⟨h1, h2⟩ := Fn.ask_yes (by decide) h
 obtain ⟨_, h5⟩ := num_ext 40 (b.drop 4, 0) h2
 have e := h5 x
 unfold ext at e
 simp only at e
 rw [List.drop_append_of_le_length h4, e]
 simp only
 rw [Fn.ask_ok (by
   rw [h2] at h1
   simp only [h2]
   exact h1), Fn.ask_ok h1]
 rfl
theorem dec_cut {l : List F} (h : can l = 0) (hw : ∀ f ∈ l, f.Wf) {k : Nat} (hk : k < (laid l).length) : (dec ((laid l).take k)).1 = [] ∧ (dec ((laid l).take k)).2 ≠ 0 := by
 generalize hb : (laid l).take k = b
 have hx : laid l = b ++ (laid l).drop k := by rw [← hb]; exact (List.take_append_drop k _).symm
 have hne : (laid l).drop k ≠ [] := by
   intro e
   have := congrArg List.length e
   rw [List.length_drop] at this
   simp at this
   omega
 generalize (laid l).drop k = x at hx hne
 unfold dec
 split
 · exact ⟨rfl, by decide⟩
 · rename_i h0
   have hm : b.take 4 = magic := by
     by_cases e : b.take 4 = magic
     · exact e
     · exact absurd e h0
   have h4 : 4 ≤ b.length := by
     have := congrArg List.length hm
     rw [List.length_take] at this
     unfold magic at this
     simp at this
     omega
   split
   · rename_i h1
     exact ⟨rfl, h1⟩
   · rename_i h1
     split
     · rename_i h2
       exact ⟨rfl, h2⟩
     · rename_i h2
       have a1 := stop_zero (by omega) (show stop (howMany b).1 (howMany b).2 = 0 by omega)
       obtain ⟨_, a2⟩ := fnS_ext _ _ a1
       have a3 := many_ext x h4 (show (howMany b).2.2 = 0 by omega)
       obtain ⟨e0, e1, e2⟩ := taken_back h hw []
       rw [List.append_nil, hx, a3] at e1 e2
       simp only at e1 e2
       rw [a2 x] at e1
       exfalso
       have e3 := congrArg Prod.fst e1
       unfold ext at e3
       simp only at e3
       exact hne (List.append_eq_nil_iff.1 e3).2
end Fl
theorem Fl.cut_stops {l : List Fn.F} (h : Fl.can l = 0) (hw : ∀ f ∈ l, f.Wf) {k : Nat} (hk : k < (Fl.laid l).length) (h1 : (Fl.howMany ((Fl.laid l).take k)).2.2 = 0) (h2 : Fl.stop (Fl.howMany ((Fl.laid l).take k)).1 (Fl.howMany ((Fl.laid l).take k)).2 = 0) : False := by
 by_cases hk4 : k < 4
 · have e : ((Fl.laid l).take k).drop 4 = [] := by
     apply List.eq_nil_of_length_eq_zero
     simp
     omega
   unfold Fl.howMany at h1
   rw [e] at h1
   revert h1
   decide
 · have h4 : 4 ≤ ((Fl.laid l).take k).length := by rw [List.length_take]; omega
   have a1 := Fl.stop_zero h1 h2
   obtain ⟨_, a2⟩ := Fl.fnS_ext _ _ a1
   have a3 := Fl.many_ext ((Fl.laid l).drop k) h4 h1
   obtain ⟨_, e1, _⟩ := Fl.taken_back h hw []
   rw [List.append_nil] at e1
   rw [List.take_append_drop] at a3
   rw [a3] at e1
   simp only at e1
   rw [a2] at e1
   have e3 := congrArg Prod.fst e1
   unfold ext at e3
   simp only at e3
   have e4 := (List.append_eq_nil_iff.1 e3).2
   have := congrArg List.length e4
   rw [List.length_drop] at this
   simp at this
   omega
end Go.Proofs.YtdopheoedpldiaaGreatDoor
