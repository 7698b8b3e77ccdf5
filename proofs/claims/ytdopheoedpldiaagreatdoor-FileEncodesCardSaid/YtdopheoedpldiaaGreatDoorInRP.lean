/-
 What instr.Put and the document's Put lay. Conditions: an operand of its type; the slice is the caller's own; lengths within the reach.
-/
import Derived.Test.YtdopheoedpldiaaGreatDoorInBB
import Derived.Test.YtdopheoedpldiaaGreatDoorInR
import Derived.Test.YtdopheoedpldiaaGreatDoorUv
import Derived.Lib.ConvBytes
set_option maxRecDepth 100000
namespace Go.Proofs.YtdopheoedpldiaaGreatDoor
open Go.RowKit
namespace In
def bytes (op a : Int) : List Nat := if right op a then op.toNat :: (if numbered op then Uv.put (Uv.fold a) else []) else []
theorem bytes_len {op a : Int} (h0 : -9223372036854775808 ≤ a) (h1 : a ≤ 9223372036854775807) : (bytes op a).length ≤ 11 := by
 unfold bytes
 split
 · split
   · have := Uv.put_len_10 (Uv.fold_lt h0 h1)
     simp only [List.length_cons]
     omega
   · simp
 · simp
theorem bytes_byte (op a : Int) : ∀ c ∈ bytes op a, c < 256 := by
 intro c hc
 unfold bytes at hc
 split at hc
 · rename_i hr
   have hk := right_known hr
   rcases List.mem_cons.1 hc with rfl | hc
   · omega
   · split at hc
     · exact Uv.put_byte _ c hc
     · cases hc
 · cases hc
end In
set_option maxHeartbeats 2000000 in
theorem input_own (base : Nat) (v : Value) (l : Nat) (xs : List Value) (op a0 : Int) (w : World) (h0 : -9223372036854775808 ≤ a0) (h1 : a0 ≤ 9223372036854775807) (hown : w.ownsRow base 5 1 v l xs) (hbase : base ≤ w.heap.size) (hl : l + 12 ≤ 140737488355328) :
   Calls Tryz.prog 45 #[v, .agg #[.int .i64 op, .int .i64 a0]] w (OwnPost base w v (l + (In.bytes op a0).length) (xs ++ bs (In.bytes op a0))) := by
 have HRt := inright_any op a0
 have HO := Lib.hid hown
 clear hown
 cases hr : In.right op a0 with
 | false =>
   rw [hr] at HRt
   rw [show In.bytes op a0 = [] by unfold In.bytes; rw [hr]; rfl]
   clear hr
   go_enter Tryz.func45, Tryz.ntmps45
   go_wp2_with (go_at_call 90; refine (HRt _).mono ?_; rintro _ w1 ⟨rfl, b1⟩)
   go_ret
   exact ⟨_, rfl, (own_later HO.out (below_self ((Below.refl _ _).alloc (Nat.le_refl _) _) b1)).cast rfl (by simp [bs])⟩
 | true =>
   have hk := In.right_known hr
   rw [hr] at HRt
   obtain ⟨k, rfl⟩ := Int.eq_ofNat_of_zero_le hk.1
   have hk35 : k < 35 := by omega
   have hk35i : (k : Int) < 35 := by omega
   have HNb := numbered_any (k : Int)
   clear hk
   cases hn : In.numbered (k : Int) with
   | false =>
     rw [hn] at HNb
     rw [show In.bytes (k : Int) a0 = [k] by unfold In.bytes; rw [hr, hn]; rfl]
     clear hr hn
     go_enter Tryz.func45, Tryz.ntmps45
     go_wp2_with (first
       | (go_at_call 90; refine (HRt _).mono ?_; rintro _ w1 ⟨rfl, b1⟩; obtain ⟨q0, q1, hl1, B1⟩ := box_kept b1; clear b1)
       | (go_at_call 91; refine (HNb _).mono ?_; rintro _ w3 ⟨rfl, b3⟩; refine Hid.out ?_))
     have hb3 : Below w.heap.size w w3 := below_self (below_self B1 ((Below.refl w1.heap.size w1).alloc (Nat.le_refl _) (.cells #[.int .u8 (k : Int)] 5))) b3
     have hG : Has w3 w1.heap.size #[.int .u8 (k : Int)] := (Has.new w1 _).below b3 (by simp)
     obtain ⟨v', w', hr2, hinv⟩ := append_bytes_at (c := 1) (ownsRow_below HO.out hb3) (bytesAt_own (n := 1) (l := [k]) hG rfl rfl (by intro c hc; obtain rfl := List.mem_singleton.1 hc; omega)) (by intro e; cases e) (Nat.le_trans hbase hb3.size) (by omega)
     have HR := Lib.hid (hr2 27 rfl)
     have HI := Lib.hid (own_then hb3 hinv)
     clear b3 B1 hb3 hG hr2 hinv q0 q1 HRt HNb
     refine Lib.hid ?_
     go_wp2_with (at_builtin; refine Lib.wpList_append_run _ rfl (.tmp 21) (.tmp 22) _ _ rfl _ _ rfl rfl _ _ HR.out ?_)
     go_ret
     exact ⟨_, rfl, HI.out⟩
   | true =>
     rw [hn] at HNb
     rw [show In.bytes (k : Int) a0 = [k] ++ Uv.put (Uv.fold a0) by unfold In.bytes; rw [hr, hn]; rfl]
     clear hr hn
     have hpl := Uv.put_len_10 (Uv.fold_lt h0 h1)
     go_enter Tryz.func45, Tryz.ntmps45
     go_wp2_with (first
       | (go_at_call 90; refine (HRt _).mono ?_; rintro _ w1 ⟨rfl, b1⟩; obtain ⟨q0, q1, hl1, B1⟩ := box_kept b1; clear b1)
       | (go_at_call 91; refine (HNb _).mono ?_; rintro _ w3 ⟨rfl, b3⟩; refine Hid.out ?_))
     have hb3 : Below w.heap.size w w3 := below_self (below_self B1 ((Below.refl w1.heap.size w1).alloc (Nat.le_refl _) (.cells #[.int .u8 (k : Int)] 5))) b3
     have hownL : w3.ownsRow w1.heap.size 5 1 (.slice (some ⟨w1.heap.size, 0, none⟩) 1 1) 1 (bs [k]) := ownsRow_below (World.ownsRow_lit w1 #[.int .u8 (k : Int)] 1 (Nat.le_refl _) (by decide) rfl) b3
     have r1 := (b3.cell (p := ⟨w.heap.size, 1, none⟩) (by simp; omega)).trans ((((Below.refl w1.heap.size w1).alloc (Nat.le_refl _) (.cells #[.int .u8 (k : Int)] 5)).cell (p := ⟨w.heap.size, 1, none⟩) hl1).trans q1)
     have hw13 : w1.heap.size ≤ w3.heap.size := by have := b3.size; simp at this; omega
     have HP := Lib.hid (putInt_own w1.heap.size _ 1 (bs [k]) a0 w3 h0 h1 hownL hw13 (by omega))
     have HB3 := Lib.hid hb3
     have HL := Lib.hid hownL
     have HW := Lib.hid (And.intro hl1 hw13)
     clear b3 B1 hb3 hownL q0 q1 HRt HNb hl1 hw13
     refine Lib.hid ?_
     go_wp2_with fail
     refine HP.out.mono ?_
     rintro _ w4 ⟨v4, rfl, hinv4⟩
     have hb4 : Below w.heap.size w w4 := HB3.out.trans ((hinv4.below HL.out HW.out.2).mono (Nat.le_of_lt HW.out.1))
     have ho4 := hinv4.1
     rw [← bs_append] at ho4
     obtain ⟨g, cap, cur, rfl, _, _, hG, hlen, htake⟩ := own_str ho4 (by omega)
     obtain ⟨v', w', hr2, hinv⟩ := append_bytes_at (c := cap) (ownsRow_below HO.out hb4) (bytesAt_own hG hlen htake (by
       intro c hc
       rcases List.mem_append.1 hc with hc | hc
       · obtain rfl := List.mem_singleton.1 hc; omega
       · exact Uv.put_byte _ c hc)) (by intro e; cases e) (Nat.le_trans hbase hb4.size) (by omega)
     have HR := Lib.hid (hr2 27 rfl)
     have HI := Lib.hid (own_then hb4 hinv)
     clear HP HB3 HL hb4 ho4 hG hlen htake hinv4 hr2 hinv r1
     go_wp2_with (at_builtin; refine Lib.wpList_append_run _ rfl (.tmp 21) (.tmp 22) _ _ rfl _ _ rfl rfl _ _ HR.out ?_)
     go_ret
     exact ⟨_, rfl, HI.out.cast (by simp; omega) rfl⟩
set_option maxHeartbeats 2000000 in
theorem rinput_any (op a0 : Int) (w : World) (h0 : -9223372036854775808 ≤ a0) (h1 : a0 ≤ 9223372036854775807) : Calls Tryz.prog 53 #[.agg #[.int .i64 op, .int .i64 a0]] w (NewPost (In.bytes op a0) w) := by
 have HRt := rinright_any op a0
 cases hr : In.right op a0 with
 | false =>
   rw [hr] at HRt
   rw [show In.bytes op a0 = [] by unfold In.bytes; rw [hr]; rfl]
   clear hr
   go_enter Tryz.func53, Tryz.ntmps53
   go_wp2_with (go_at_call 62; refine (HRt _).mono ?_; rintro _ w1 ⟨rfl, b1⟩)
   go_ret
   exact ⟨_, rfl, World.ownsRow_nil _ _ _ _, below_self ((Below.refl _ _).alloc (Nat.le_refl _) _) b1⟩
 | true =>
   have hk := In.right_known hr
   have hki := In.kind_in op
   rw [hr] at HRt
   obtain ⟨k, rfl⟩ := Int.eq_ofNat_of_zero_le hk.1
   have hk35 : k < 35 := by omega
   have hk35i : (k : Int) < 35 := by omega
   have HOp := roperand_any (k : Int)
   clear hk
   cases hn : In.numbered (k : Int) with
   | false =>
     have hk0 : (Op.row (k : Int)).operand = 0 := by unfold In.numbered In.kind at hn; simpa using hn
     rw [hk0] at HOp
     rw [show In.bytes (k : Int) a0 = [k] by unfold In.bytes; rw [hr, hn]; rfl]
     clear hr hn hk0 hki
     go_enter Tryz.func53, Tryz.ntmps53
     go_wp2_with (first
       | (go_at_call 62; refine (HRt _).mono ?_; rintro _ w1 ⟨rfl, b1⟩; obtain ⟨q0, q1, hl1, B1⟩ := box_kept b1; clear b1)
       | (go_at_call 96; refine (HOp _).mono ?_; rintro _ wa ⟨rfl, he⟩; obtain rfl := he.symm))
     go_ret
     exact ⟨_, rfl, ownsRow_base (World.ownsRow_lit w1 #[.int .u8 (k : Int)] 1 (Nat.le_refl _) (by decide) rfl) B1.size, below_self B1 ((Below.refl _ _).alloc (Nat.le_refl _) _)⟩
   | true =>
     have hk0 : 0 < (Op.row (k : Int)).operand := by
       unfold In.kind at hki
       have : (Op.row (k : Int)).operand ≠ 0 := by unfold In.numbered In.kind at hn; simpa using hn
       omega
     rw [show In.bytes (k : Int) a0 = [k] ++ Uv.put (Uv.fold a0) by unfold In.bytes; rw [hr, hn]; rfl]
     clear hr hn hki
     generalize (Op.row (k : Int)).operand = kk at *
     have hpl := Uv.put_len_10 (Uv.fold_lt h0 h1)
     have hpp := Uv.put_len_pos (Uv.fold a0)
     have HPt := fun W => rput_any (Uv.fold a0) W (Uv.fold_lt h0 h1)
     have HFo := fun W => rfold_any a0 W h0 h1
     have HBy := Lib.hid (Uv.put_byte (Uv.fold a0))
     generalize Uv.put (Uv.fold a0) = pt at *
     generalize Uv.fold a0 = fo at *
     go_enter Tryz.func53, Tryz.ntmps53
     go_wp2_with (first
       | (go_at_call 62; refine (HRt _).mono ?_; rintro _ w1 ⟨rfl, b1⟩; obtain ⟨q0, q1, hl1, B1⟩ := box_kept b1; clear b1)
       | (go_at_call 96; refine (HOp _).mono ?_; rintro _ wa ⟨rfl, he⟩; obtain rfl := he.symm)
       | (go_at_call 97; refine (HFo _).mono ?_; rintro _ wa ⟨rfl, he⟩; obtain rfl := he)
       | (go_at_call 22; refine (HPt _).mono ?_; rintro _ w4 ⟨v4, rfl, hown4, b4⟩; refine Hid.out ?_))
     have hb4 : Below w.heap.size w w4 := below_self (below_self B1 ((Below.refl w1.heap.size w1).alloc (Nat.le_refl _) (.cells #[.int .u8 (k : Int)] 5))) b4
     have hownL : w4.ownsRow w.heap.size 5 1 (.slice (some ⟨w1.heap.size, 0, none⟩) 1 1) 1 (bs [k]) := ownsRow_below (ownsRow_base (World.ownsRow_lit w1 #[.int .u8 (k : Int)] 1 (Nat.le_refl _) (by decide) rfl) B1.size) b4
     obtain ⟨g, cap, cur, rfl, _, _, hG, hlen, htake⟩ := own_str hown4 hpp
     obtain ⟨v', w', hr2, hown2, hg2⟩ := append_bytes (c := cap) hownL (bytesAt_own hG hlen htake HBy.out) (by intro e; cases e) hb4.size (by omega)
     have HR := Lib.hid (hr2 27 rfl)
     have HO := Lib.hid hown2
     have HBf := Lib.hid (hb4.grown hg2 hb4.size (fun kk hk => (hownL.lt kk hk).1))
     clear hb4 hownL hG hlen htake hr2 hown2 hg2 b4 B1 q0 q1 hown4
     refine Lib.hid ?_
     go_wp2_with (at_builtin; refine Lib.wpList_append_run _ rfl (.tmp 15) (.tmp 19) _ _ rfl _ _ rfl rfl _ _ HR.out ?_)
     go_ret
     refine ⟨_, rfl, ?_, HBf.out⟩
     have := HO.out
     rw [← bs_append] at this
     have hln : 1 + pt.length = (k :: pt).length := by simp; omega
     rw [hln] at this
     exact this
end Go.Proofs.YtdopheoedpldiaaGreatDoor
namespace Go.Proofs.YtdopheoedpldiaaGreatDoor
open Go.RowKit
def nats (s : ByteArray) : List Nat := s.data.toList.map UInt8.toNat
theorem nats_length (s : ByteArray) : (nats s).length = s.size := by
 unfold nats
 rw [List.length_map, Array.length_toList]
 rfl
theorem nats_byte (s : ByteArray) : ∀ c ∈ nats s, c < 256 := by
 intro c hc
 obtain ⟨b, _, rfl⟩ := List.mem_map.1 hc
 exact b.toNat_lt
theorem str_nats (s : ByteArray) : str (nats s) = s := by
 apply ByteArray.ext
 simp [str, nats, Function.comp_def]
theorem nats_getD (s : ByteArray) (j : Nat) (h : j < s.size) : (nats s).getD j 0 = (s.data.toList.getD j 0).toNat := by
 have h' : j < s.data.size := h
 simp only [nats, List.getD, List.getElem?_map, Array.getElem?_toList, Array.getElem?_eq_getElem h', Option.map_some, Option.getD_some]
def Lies (w0 : World) (l : List Nat) (u : Value) (W : World) : Prop := W.ownsRow w0.heap.size 5 1 u l.length (bs l) ∧ Below w0.heap.size w0 W
theorem Lies.nil (w0 : World) : Lies w0 [] (.slice none 0 0) w0 := ⟨World.ownsRow_nil _ _ _ _, Below.refl _ _⟩
theorem Lies.put {w0 W W' : World} {l m : List Nat} {u v : Value} (h : Lies w0 l u W) (k : OwnInv w0.heap.size W u v (l.length + m.length) (bs l ++ bs m) W') : Lies w0 (l ++ m) v W' := by
 refine ⟨?_, h.2.trans (k.below h.1 h.2.size)⟩
 rw [List.length_append, bs_append]
 exact k.1
theorem Lies.bytes {w0 W : World} {l : List Nat} {u : Value} (h : Lies w0 l u W) (hb : ∀ c ∈ l, c < 256) : ∃ A c, u = .slice A l.length c ∧ BytesAt W W.heap.size A l.length l := by
 rcases h.1.2 with ⟨rfl, h0⟩ | ⟨g, cap, cur, rfl, _, hg, _, _, _, ht⟩
 · have : l = [] := List.eq_nil_of_length_eq_zero (by simpa using h0)
   subst this
   exact ⟨none, 0, rfl, rfl, by simp, by simp⟩
 · exact ⟨_, cap, rfl, bytesAt_own (cur := cur) hg rfl (by simpa using ht) hb⟩
theorem conv_text (w : World) (s : ByteArray) : ∃ c W', (convert 9 27 (.string s)).run Tryz.prog w = .ok (.slice (some ⟨w.heap.size, 0, none⟩) s.size c) W' ∧ (∀ i, i < s.size → W'.cell? ⟨w.heap.size, i, none⟩ = some (.int .u8 (((nats s).getD i 0 : Nat) : Int))) ∧ w.heap.size < W'.heap.size ∧ Below w.heap.size w W' := by
 refine ⟨_, _, Lib.run_convert_string_bytes w 9 27 5 s Tryz.underlying9 Tryz.underlying27 Tryz.underlying5, ?_, ?_, ⟨rfl, rfl, rfl, ?_, fun k hk => Lib.bytesWorld_at_old w _ s k hk⟩⟩
 · intro i hi
   rw [Lib.bytesWorld_cell w _ s i hi, nats_getD s i hi]
 · rw [Lib.bytesWorld_size]; omega
 · rw [Lib.bytesWorld_size]; omega
end Go.Proofs.YtdopheoedpldiaaGreatDoor
namespace Go.Proofs.YtdopheoedpldiaaGreatDoor
theorem of_mem (l : List Int) : ∀ p ∈ Ru.of l, p.2 ∈ l := by
 intro p hp
 have h1 := Ru.of_pos l p hp
 have : p.2 ∈ Ru.flat (Ru.of l) := List.mem_flatMap.2 ⟨p, hp, List.mem_replicate.2 ⟨by omega, rfl⟩⟩
 rwa [Ru.flat_of] at this
theorem of_le (l : List Int) : ∀ p ∈ Ru.of l, p.1.toNat ≤ l.length := by
 intro p hp
 have h2 := congrArg List.length (Ru.flat_of l)
 rw [← h2]
 obtain ⟨a, b, hab⟩ := List.append_of_mem hp
 rw [hab, show a ++ p :: b = a ++ [p] ++ b by simp, Ru.flat_append, Ru.flat_append, Ru.flat_one]
 simp
 omega
theorem of_fits {l : List Int} (hz : ∀ z ∈ l, -9223372036854775808 ≤ z ∧ z ≤ 9223372036854775807) (hl : l.length ≤ 9223372036854775807) : Ru.Fits (Ru.of l) := by
 intro p hp
 have h1 := Ru.of_pos l p hp
 have h2 := of_le l p hp
 have h3 := hz _ (of_mem l p hp)
 exact ⟨by omega, by omega, h3.1, h3.2⟩
theorem fits_take {r : Ru.Runs} (h : Ru.Fits r) (k : Nat) : Ru.Fits (r.take k) := fun p hp => h p (List.mem_of_mem_take hp)
end Go.Proofs.YtdopheoedpldiaaGreatDoor
namespace Go.Proofs.YtdopheoedpldiaaGreatDoor.Fn
def F.mark (f : F) : Nat := (if f.inner then 1 else 0) + (if f.bare then 0 else 2)
def codes (l : List (Int × Int)) : List Nat := l.flatMap fun p => In.bytes p.1 p.2
def F.l2 (f : F) : List Nat := (Uv.put f.name.size ++ nats f.name) ++ [f.mark]
def F.l3 (f : F) : List Nat := f.l2 ++ (if f.inner then Si.bytes f.outer else [])
def F.l4 (f : F) : List Nat := f.l3 ++ Si.bytes f.params
def F.l5 (f : F) : List Nat := f.l4 ++ Si.bytes f.results
def F.l6 (f : F) : List Nat := f.l5 ++ Si.bytes f.locals
def F.l7 (f : F) : List Nat := f.l6 ++ Uv.put f.code.length
def F.l8 (f : F) : List Nat := f.l7 ++ codes f.code
def F.l9 (f : F) : List Nat := f.l8 ++ Ru.laid (Ru.of f.lines)
def F.l10 (f : F) : List Nat := f.l9 ++ Tr.bytes f.nodes
def F.l11 (f : F) : List Nat := f.l10 ++ Ru.laid (Ru.of f.at_)
def F.l12 (f : F) : List Nat := f.l11 ++ Mp.bytes f.live
def F.laid (f : F) : List Nat := if f.bare then f.l9 else f.l12
def F.bytes (f : F) : List Nat := if f.can = 0 then f.laid else []
theorem codes_succ {l : List (Int × Int)} {k : Nat} (h : k < l.length) : codes (l.take (k + 1)) = codes (l.take k) ++ In.bytes (l.getD k (0, 0)).1 (l.getD k (0, 0)).2 := by
 rw [Ru.taken h (0, 0), codes, List.flatMap_append]
 simp [codes]
theorem codes_len : ∀ {l : List (Int × Int)}, (∀ p ∈ l, I64 p.1 ∧ I64 p.2) → (codes l).length ≤ 11 * l.length
 | [], _ => Nat.le_refl _
 | p :: r, h => by
   have h1 := In.bytes_len (op := p.1) (h p (by simp)).2.1 (h p (by simp)).2.2
   have h2 := codes_len (l := r) fun q hq => h q (by simp [hq])
   unfold codes at h2 ⊢
   rw [List.flatMap_cons, List.length_append, List.length_cons]
   omega
theorem In_byte (op a : Int) : ∀ c ∈ In.bytes op a, c < 256 := by
 intro c hc
 unfold In.bytes at hc
 split at hc
 · rename_i h
   have hk := In.right_known h
   rcases List.mem_cons.1 hc with rfl | hc
   · omega
   · split at hc
     · exact Uv.put_byte _ c hc
     · cases hc
 · cases hc
theorem codes_byte (l : List (Int × Int)) : ∀ c ∈ codes l, c < 256 := by
 intro c hc
 obtain ⟨p, _, h⟩ := List.mem_flatMap.1 hc
 exact In_byte _ _ c h
theorem mark_lt (f : F) : f.mark < 4 := by
 unfold F.mark
 split <;> split <;> decide
theorem si_len {l : List Int} (h : l.length < 18446744073709551616) : (Si.bytes l).length ≤ l.length + 10 := by
 have := Uv.put_len_10 h
 unfold Si.bytes
 split
 · rw [List.length_append, List.length_map]
   omega
 · exact Nat.zero_le _
theorem tr_byte (l : List Tr.Nd) : ∀ c ∈ Tr.bytes l, c < 256 := by
 intro c hc
 unfold Tr.bytes at hc
 rcases List.mem_append.1 hc with hc | hc
 · exact Uv.put_byte _ c hc
 · obtain ⟨n, _, hc⟩ := List.mem_flatMap.1 hc
   unfold Tr.one at hc
   obtain ⟨z, _, hc⟩ := List.mem_flatMap.1 hc
   exact Uv.put_byte _ c hc
variable {f : F}
theorem l2_byte : ∀ c ∈ f.l2, c < 256 := by
 intro c hc
 have := mark_lt f
 unfold F.l2 at hc
 simp only [List.mem_append, List.mem_singleton] at hc
 rcases hc with (hc | hc) | rfl
 · exact Uv.put_byte _ c hc
 · exact nats_byte _ c hc
 · omega
theorem l6_byte : ∀ c ∈ f.l6, c < 256 := by
 intro c hc
 unfold F.l6 F.l5 F.l4 F.l3 at hc
 simp only [List.mem_append] at hc
 rcases hc with (((hc | hc) | hc) | hc) | hc
 · exact l2_byte c hc
 · split at hc
   · exact Si.bytes_byte _ c hc
   · cases hc
 · exact Si.bytes_byte _ c hc
 · exact Si.bytes_byte _ c hc
 · exact Si.bytes_byte _ c hc
theorem l9_byte : ∀ c ∈ f.l9, c < 256 := by
 intro c hc
 unfold F.l9 F.l8 F.l7 at hc
 simp only [List.mem_append] at hc
 rcases hc with ((hc | hc) | hc) | hc
 · exact l6_byte c hc
 · exact Uv.put_byte _ c hc
 · exact codes_byte _ c hc
 · exact Ru.laid_byte _ c hc
theorem laid_byte : ∀ c ∈ f.laid, c < 256 := by
 intro c hc
 unfold F.laid at hc
 split at hc
 · exact l9_byte c hc
 · unfold F.l12 F.l11 F.l10 at hc
   simp only [List.mem_append] at hc
   rcases hc with ((hc | hc) | hc) | hc
   · exact l9_byte c hc
   · exact tr_byte _ c hc
   · exact Ru.laid_byte _ c hc
   · exact Mp.bytes_byte _ c hc
theorem bytes_byte : ∀ c ∈ f.bytes, c < 256 := by
 intro c hc
 unfold F.bytes at hc
 split at hc
 · exact laid_byte c hc
 · cases hc
theorem can_len (h : f.can = 0) : f.name.size ≤ 12 ∧ f.outer.length ≤ 4 ∧ f.params.length ≤ 8 ∧ f.results.length ≤ 4 ∧ f.locals.length ≤ 256 ∧ f.slots ≤ 256 ∧ 1 ≤ f.code.length ∧ f.code.length ≤ 2000 ∧ f.lines.length = f.code.length ∧ (f.bare = false → f.nodes.length ≤ 120 ∧ f.at_.length = f.code.length ∧ f.live.length = f.code.length) := by
 obtain ⟨h1, h2, h3, h4, h5, h6⟩ := can_ok.1 h
 have t := typed_len h2
 unfold Nm.may at h1
 unfold F.fits at h3
 unfold F.lined at h5
 simp only [Bool.and_eq_true, decide_eq_true_eq] at h1 h3 h5
 refine ⟨h1.1.1.2, t.1, t.2.1, t.2.2.1, t.2.2.2, h3.1, h3.2.1, h3.2.2, h5.1, fun hb => ?_⟩
 rcases h6 with h6 | h6
 · rw [h6] at hb; cases hb
 · unfold F.mapped at h6
   simp only [Bool.and_eq_true, decide_eq_true_eq] at h6
   exact ⟨(Tr.right_run h6.1).2.1, h6.2.1, h6.2.2.1⟩
theorem run_len {l : List Int} (hz : ∀ z ∈ l, -9223372036854775808 ≤ z ∧ z ≤ 9223372036854775807) (hl : l.length ≤ 2000) : (Ru.laid (Ru.of l)).length ≤ 40000 := by
 have h2 := Ru.of_len l
 have h1 := Ru.laid_len (r := Ru.of l) (of_fits hz (by omega))
 omega
theorem parts_len (h : f.can = 0) (hw : f.Wf) : f.l2.length ≤ 40 ∧ (Si.bytes f.outer).length ≤ 20 ∧ (Si.bytes f.params).length ≤ 20 ∧ (Si.bytes f.results).length ≤ 20 ∧ (Si.bytes f.locals).length ≤ 300 ∧ (Uv.put f.code.length).length ≤ 10 ∧ (codes f.code).length ≤ 22000 ∧ (Ru.laid (Ru.of f.lines)).length ≤ 40000 := by
 obtain ⟨n1, n2, n3, n4, n5, n6, n7, n8, n9, n10⟩ := can_len h
 have e1 := si_len (l := f.outer) (by omega)
 have e2 := si_len (l := f.params) (by omega)
 have e3 := si_len (l := f.results) (by omega)
 have e4 := si_len (l := f.locals) (by omega)
 have e5 := Uv.put_len_10 (n := f.code.length) (by omega)
 have e6 := codes_len hw.code
 have e7 := run_len hw.lines (by omega)
 have e8 := Uv.put_len_10 (n := f.name.size) (by omega)
 have e9 := nats_length f.name
 refine ⟨?_, by omega, by omega, by omega, by omega, e5, by omega, e7⟩
 unfold F.l2
 rw [List.length_append, List.length_append, e9, List.length_singleton]
 omega
theorem l9_len (h : f.can = 0) (hw : f.Wf) : f.l9.length ≤ 70000 := by
 obtain ⟨p1, p2, p3, p4, p5, p6, p7, p8⟩ := parts_len h hw
 unfold F.l9 F.l8 F.l7 F.l6 F.l5 F.l4 F.l3
 simp only [List.length_append]
 split
 · omega
 · rw [List.length_nil]; omega
theorem tables_len (h : f.can = 0) (hb : f.bare = false) (hw : f.Wf) : (Tr.bytes f.nodes).length ≤ 10000 ∧ (Ru.laid (Ru.of f.at_)).length ≤ 40000 ∧ (Mp.bytes f.live).length ≤ 100000 := by
 obtain ⟨n1, n2, n3, n4, n5, n6, n7, n8, n9, n10⟩ := can_len h
 obtain ⟨m1, m2, m3⟩ := n10 hb
 have e1 := Tr.bytes_len hw.nodes (by omega)
 have e2 := run_len hw.at_ (by omega)
 have e3 := Mp.bytes_len hw.live (by omega)
 omega
theorem laid_len (h : f.can = 0) (hw : f.Wf) : f.laid.length ≤ 300000 := by
 have h9 := l9_len h hw
 unfold F.laid
 split
 · omega
 · rename_i hb
   have hb' : f.bare = false := by simpa using hb
   obtain ⟨t1, t2, t3⟩ := tables_len h hb' hw
   unfold F.l12 F.l11 F.l10
   simp only [List.length_append]
   omega
end Go.Proofs.YtdopheoedpldiaaGreatDoor.Fn
