/-
 What the document's Tables tells. Conditions: the function's lists can be read; few entries; its tree is right, if it has tables; numbers of their type; lengths within the reach.
-/
import Derived.Test.YtmhmlhlplfkpaaaGreatDoorDiMath
import Derived.Test.YtmhmlhlplfkpaaaGreatDoorTrX
import Derived.Test.YtmhmlhlplfkpaaaGreatDoorCanQ
set_option maxRecDepth 100000
namespace Go.Proofs.YtmhmlhlplfkpaaaGreatDoor
open Go.RowKit
namespace Di
open _root_.Go.Proofs.YtmhmlhlplfkpaaaGreatDoor.Fn (F)
def part (f : F) (k j : Nat) : ByteArray := tabs f k ++ join ([In.txt (k : Int), In.txt (at_ f k)] ++ ((slotsOf f k).take j).map In.txt)
theorem part_zero (f : F) (k : Nat) : part f k 0 = tabs f k ++ In.txt (k : Int) ++ ⟨#[32]⟩ ++ In.txt (at_ f k) := by
 unfold part
 rw [List.take_zero, List.map_nil, List.append_nil]
 show tabs f k ++ (In.txt (k : Int) ++ ⟨#[32]⟩ ++ In.txt (at_ f k)) = _
 rw [ByteArray.append_assoc, ByteArray.append_assoc, ByteArray.append_assoc]
theorem part_succ (f : F) (k j : Nat) {x : Int} (hj : j < (slotsOf f k).length) (hx : (slotsOf f k).getD j 0 = x) : part f k (j + 1) = part f k j ++ ⟨#[32]⟩ ++ In.txt x := by
 have e : (slotsOf f k).take (j + 1) = (slotsOf f k).take j ++ [x] := by
   rw [List.take_add_one, List.getElem?_eq_getElem hj]
   rw [List.getD_eq_getElem?_getD, List.getElem?_eq_getElem hj] at hx
   simp only [Option.getD_some] at hx
   rw [hx]
   rfl
 unfold part
 rw [e, List.map_append, List.map_cons, List.map_nil, ← List.append_assoc, join_snoc (by simp)]
 rw [ByteArray.append_assoc, ByteArray.append_assoc, ByteArray.append_assoc]
theorem part_end (f : F) (k : Nat) : part f k (slotsOf f k).length ++ nl = tabs f (k + 1) := by
 rw [tabs_succ]
 unfold part row rwords
 rw [List.take_length, ByteArray.append_assoc]
theorem part_size (f : F) (k j : Nat) (h : ∀ z ∈ f.at_, -9223372036854775808 ≤ z ∧ z ≤ 9223372036854775807) (hk : (k : Int) ≤ 9223372036854775807) (hl : ∀ z ∈ slotsOf f k, -9223372036854775808 ≤ z ∧ z ≤ 9223372036854775807) : (part f k j).size ≤ (tabs f k).size + 6000 := by
 have h1 := join_size ([In.txt (k : Int), In.txt (at_ f k)] ++ ((slotsOf f k).take j).map In.txt)
 have h2 := txt_size (k : Int) (by omega) hk
 have h3 := txt_size (at_ f k) (node_in h k).1 (node_in h k).2
 have h4 : (slotsOf f k).length ≤ 256 := list_len _
 have h5 := map_sizes (l := (slotsOf f k).take j) (fun z hz => hl z (List.mem_of_mem_take hz))
 have h6 : ((slotsOf f k).take j).length ≤ 256 := by rw [List.length_take]; omega
 unfold part
 rw [ByteArray.size_append]
 rw [sizes_append, List.length_append, List.length_map] at h1
 have h7 : sizes [In.txt (k : Int), In.txt (at_ f k)] = (In.txt (k : Int)).size + (In.txt (at_ f k)).size := by simp [sizes]
 rw [h7] at h1
 simp only [List.length_cons, List.length_nil] at h1
 omega
theorem slots_in (f : F) (k : Nat) : ∀ z ∈ slotsOf f k, -9223372036854775808 ≤ z ∧ z ≤ 9223372036854775807 := by
 intro z hz
 unfold slotsOf at hz
 rw [Sl.list_eq] at hz
 obtain ⟨n, hn, rfl⟩ := List.mem_map.1 hz
 have := List.mem_range.1 (List.mem_filter.1 hn).1
 omega
end Di
theorem retR2 {a b : ByteArray} (h : a = b) : Ending.returned (.string a) = .returned (.string b) := by rw [h]
set_option maxHeartbeats 8000000 in
theorem rdtables_any (v : FnV) (f : Fn.F) (w : World) (h : FnOk w w.heap.size v f) (hw : f.Wf) (hf : v.Few) (hc : f.bare = false → Tr.right f.nodes = true) (hs : (Di.tabs f f.code.length).size ≤ 140737488355328) :
   Calls Tryz.prog 9 #[.agg v.cells] w (StrP (Di.tables f) w) := by
 have b0 := (Below.refl w.heap.size w).alloc (Nat.le_refl _) (.cells v.cells 28)
 have hbe := h.bare
 have HA := Lib.hid (FnAt.new w v)
 have HO := Lib.hid (h.on b0)
 have HB0 := Lib.hid b0
 have HBa := Lib.hid (rfnbare_any v hf (w.alloc (.cells v.cells 28)))
 obtain ⟨c0, c1, c2, c3, c4, c5, c6, c7, c8, c9, c10⟩ := HA.out.all
 rw [hbe] at HBa
 cases hb : f.bare with
 | true =>
   have HE : Hid (ByteArray.empty = Di.tables f) := Lib.hid (by unfold Di.tables; rw [hb]; rfl)
   rw [hb] at HBa
   clear h hw hf hc hs b0 hbe
   go_enter Tryz.func9, Tryz.ntmps9
   go_wp2_with (go_at_call 16; refine HBa.out.mono ?_; rintro _ w1 ⟨rfl, hb1⟩; have HB1 := Lib.hid hb1; clear hb1)
   go_ret
   exact ⟨retR2 HE.out, HB0.out.trans (HB1.out.mono HB0.out.size)⟩
 | false =>
   rw [hb] at HBa
   have HTr := Lib.hid (hc hb)
   have HE : Hid (Di.tabs f f.code.length = Di.tables f) := Lib.hid (by unfold Di.tables; rw [hb]; rfl)
   have HLen : Hid (∀ k, k ≤ f.code.length → (Di.tabs f k).size ≤ 140737488355328) := Lib.hid (fun k hk => by
     have := Di.rowsTo_grows f hk
     unfold Di.tabs at hs ⊢
     rw [ByteArray.size_append] at hs ⊢
     omega)
   have HN := Lib.hid h.n_code
   have HNa := Lib.hid h.n_at
   have HNc : Hid (v.code.n ≤ 150) := Lib.hid hf.1
   have HWf := Lib.hid hw
   have HTx := Lib.hid (fun (W : World) (hW : FnOk W W.heap.size v f) => rtrtext_any v.nodes.a v.nodes.n v.nodes.c f.nodes W hW.nodes.1 HTr.out HWf.out.nodes)
   clear h hw hf hc hs b0 hbe hb
   have e0 : Di.tabs f 0 = Tr.text f.nodes := ByteArray.append_empty
   have HE0 := Lib.hid e0
   clear e0
   go_enter Tryz.func9, Tryz.ntmps9
   go_wp2_with (first
     | (go_at_call 16; refine HBa.out.mono ?_; rintro _ w1 ⟨rfl, hb1⟩; have HB1 := Lib.hid (HB0.out.trans (hb1.mono HB0.out.size)); have HO1 := Lib.hid (HO.out.on hb1); have HA1 := Lib.hid (HA.out.on hb1); clear hb1 c0 c1 c2 c3 c4 c5 c6 c7 c8 c9 c10; have d8 := HA1.out.c8)
     | (go_at_call 32; refine (HTx.out _ HO1.out).mono ?_; rintro _ w2 ⟨rfl, hb2⟩; have HB2 := Lib.hid (HB1.out.trans (hb2.mono HB1.out.size)); have HO2 := Lib.hid (HO1.out.on hb2); have HA2 := Lib.hid (HA1.out.on hb2); clear hb2 d8))
   go_loopw [3, 4] (fun s i wr => ∃ k : Nat, k ≤ v.code.n ∧ s = .string (Di.tabs f k) ∧ i = .int .i64 (k : Int) ∧ Below w2.heap.size w2 wr) (fun _ i _ => v.code.n - (intOf i).toNat)
   case atStart => exact ⟨0, Nat.zero_le _, by rw [HE0.out], rfl, Below.refl _ _⟩
   case round =>
     obtain ⟨k, hk, rfl, rfl, hBr⟩ := hrel
     have hA := HA2.out.on hBr
     have d6 := hA.c6
     have d9 := hA.c9
     have hn150 := HNc.out
     have HBr := Lib.hid hBr
     clear hA HBa HB1 HO1 HA1 HE0 HTx
     by_cases hlt : k < v.code.n
     · have hki : (k : Int) < (v.code.n : Int) := by omega
       have hnd := Di.node_in HWf.out.at_ k
       by_cases hat : k < v.at_.n
       · have hai : (k : Int) < (v.at_.n : Int) := by omega
         obtain ⟨ab, aoff, x, ea, hltb, hcx, hx, _⟩ := ints_cell (HO2.out.on hBr).at_.1 hat
         obtain rfl : Di.at_ f k = x := hx
         rw [ea] at d9
         clear ea hltb hBr hat
         have HD1 := Lib.hid (fun W => rdigits_any (k : Int) (by omega) (by omega) W)
         have HD2 := Lib.hid (fun W => rdigits_any (Di.at_ f k) hnd.1 hnd.2 W)
         have hz1 := txt_size (k : Int) (by omega) (by omega)
         have hz2 := txt_size (Di.at_ f k) hnd.1 hnd.2
         have hls : (Di.tabs f k).size ≤ 140737488355328 := HLen.out k (by rw [HN.out]; exact hk)
         have HP0 : Hid (Di.tabs f k ++ In.txt (k : Int) ++ ⟨#[32]⟩ ++ In.txt (Di.at_ f k) = Di.part f k 0) := Lib.hid (Di.part_zero f k).symm
         have HMp := Lib.hid (fun (W : World) (hW : FnOk W W.heap.size v f) => rmpat_any v.live.a v.live.n v.live.c f.live (k : Int) W hW.live.1)
         have HSl : Hid ((Mp.at_ f.live (k : Int)).list = Di.slotsOf f k) := Lib.hid rfl
         have HLi := Lib.hid (fun (W : World) => list_any (Mp.at_ f.live (k : Int)) W)
         have HPz : Hid (∀ j, (Di.part f k j).size ≤ 140737488361328) := Lib.hid (fun j => Nat.le_trans (Di.part_size f k j HWf.out.at_ (by omega) (Di.slots_in f k)) (by omega))
         have HPs := Lib.hid (fun (j : Nat) (x : Int) => Di.part_succ f k j (x := x))
         have HPe : Hid (Di.part f k (Di.slotsOf f k).length ++ ⟨#[10]⟩ = Di.tabs f (k + 1)) := Lib.hid (Di.part_end f k)
         have HSi := Lib.hid (Di.slots_in f k)
         have HS256 : Hid ((Di.slotsOf f k).length ≤ 256) := Lib.hid (Di.list_len _)
         have hk1 : k + 1 ≤ v.code.n := hlt
         clear hk hlt hnd
         generalize In.txt (k : Int) = dk at *
         generalize hnd2 : In.txt (Di.at_ f k) = dn at *
         generalize hsk : Di.tabs f k = sk at *
         clear hnd2 hsk
         go_wp2_with (first
           | (go_at_call 33; refine (HD1.out _).mono ?_; rintro _ w3 ⟨rfl, hb3⟩; have HB3 := Lib.hid (HBr.out.trans (hb3.mono HBr.out.size)); clear hb3 HD1)
           | (go_at_call 33; refine (HD2.out _).mono ?_; rintro _ w4 ⟨rfl, hb4⟩; have HB4 := Lib.hid (HB3.out.trans (hb4.mono HB3.out.size)); have d10 := (HA2.out.on HB4.out).c10; clear hb4 HD2)
           | (go_at_call 35; refine (HMp.out _ (HO2.out.on HB4.out)).mono ?_; rintro _ w5 ⟨rfl, hb5⟩; have HB5 := Lib.hid (HB4.out.trans (hb5.mono HB4.out.size)); clear hb5 HMp d10)
           | (go_at_call 34; refine (HLi.out _).mono ?_; rintro _ w6 ⟨la, lc, rfl, hli, hb6⟩; have HI := Lib.hid hli; have HB6 := Lib.hid (HB5.out.trans (hb6.mono HB5.out.size)); clear hli hb6 HLi))
         rw [HSl.out] at HI
         rw [HSl.out, HP0.out]
         clear HP0 HSl hz1 hz2 hls
         generalize Di.slotsOf f k = sl at *
         have hsl : sl.length = sl.length := rfl
         go_loopw [3, 7] (fun s j W => ∃ i : Nat, i ≤ sl.length ∧ s = .string (Di.part f k i) ∧ j = .int .i64 (i : Int) ∧ Below w6.heap.size w6 W) (fun _ j _ => sl.length - (intOf j).toNat)
         case atStart => exact ⟨0, Nat.zero_le _, rfl, rfl, Below.refl _ _⟩
         case round =>
           obtain ⟨i, hi, rfl, rfl, hBi⟩ := hrel
           have HBj := Lib.hid hBi
           have HBi := Lib.hid (HB6.out.trans (hBi.mono HB6.out.size))
           have hpz := HPz.out i
           have hs256 := HS256.out
           by_cases hli : i < sl.length
           · obtain ⟨ib, ioff, y, rfl, hltb2, hcy, hy, hky⟩ := ints_cell (HI.out.below hBi) hli
             have hyi : -9223372036854775808 ≤ y ∧ y ≤ 9223372036854775807 := HSi.out y (by rw [← hy]; simp [List.getD, hli])
             have HDy := Lib.hid (fun W => rdigits_any y hyi.1 hyi.2 W)
             have hzy := txt_size y hyi.1 hyi.2
             have hii : (i : Int) < (sl.length : Int) := by omega
             have HS : Hid (Di.part f k i ++ ⟨#[32]⟩ ++ In.txt y = Di.part f k (i + 1)) := Lib.hid (HPs.out i y hli hy).symm
             have hi1 : i + 1 ≤ sl.length := hli
             clear hBi hi hyi hy hky hltb2 hli
             generalize In.txt y = dy at *
             obtain ⟨s1, hs1⟩ : ∃ s, Di.part f k (i + 1) = s := ⟨_, rfl⟩
             rw [hs1] at HS
             obtain ⟨s0, hs0⟩ : ∃ s, Di.part f k i = s := ⟨_, rfl⟩
             rw [hs0] at HS hpz ⊢
             clear hs0
             go_wp2_with (go_at_call 33; refine (HDy.out _).mono ?_; rintro _ w7 ⟨rfl, hb7⟩; have HB7 := Lib.hid hb7; clear hb7 HDy)
             rw [HS.out, ← hs1]
             clear HS hs1
             go_roundw
             case rel => exact ⟨i + 1, hi1, rfl, by go_num, HBj.out.trans (HB7.out.mono HBj.out.size)⟩
             case measure => simp [intOf]; omega
           · obtain rfl : i = sl.length := by omega
             have HE : Hid (Di.part f k sl.length ++ ⟨#[10]⟩ = Di.tabs f (k + 1)) := HPe
             obtain ⟨s1, hs1⟩ : ∃ s, Di.tabs f (k + 1) = s := ⟨_, rfl⟩
             rw [hs1] at HE
             obtain ⟨s0, hs0⟩ : ∃ s, Di.part f k sl.length = s := ⟨_, rfl⟩
             rw [hs0] at HE hpz ⊢
             clear hs0 HPe HPs hi hBi
             go_wp2
             rw [HE.out, ← hs1]
             clear HE hs1
             go_roundw
             case rel => exact ⟨k + 1, hk1, rfl, by go_num, HBi.out⟩
             case measure => simp [intOf]; omega
       · have hda : decide (k < v.at_.n) = false := decide_eq_false hat
         have hx : Di.at_ f k = 0 := by
           unfold Di.at_
           rw [List.getD_eq_getElem?_getD, List.getElem?_eq_none (by have := HNa.out; omega)]
           rfl
         clear hBr hat
         rw [hx] at hnd
         have HD1 := Lib.hid (fun W => rdigits_any (k : Int) (by omega) (by omega) W)
         have HD2 := Lib.hid (fun W => rdigits_any (0 : Int) (by omega) (by omega) W)
         have hz1 := txt_size (k : Int) (by omega) (by omega)
         have hz2 := txt_size (0 : Int) (by omega) (by omega)
         have hls : (Di.tabs f k).size ≤ 140737488355328 := HLen.out k (by rw [HN.out]; exact hk)
         have HP0 : Hid (Di.tabs f k ++ In.txt (k : Int) ++ ⟨#[32]⟩ ++ In.txt (0 : Int) = Di.part f k 0) := Lib.hid (by rw [← hx]; exact (Di.part_zero f k).symm)
         have HMp := Lib.hid (fun (W : World) (hW : FnOk W W.heap.size v f) => rmpat_any v.live.a v.live.n v.live.c f.live (k : Int) W hW.live.1)
         have HSl : Hid ((Mp.at_ f.live (k : Int)).list = Di.slotsOf f k) := Lib.hid rfl
         have HLi := Lib.hid (fun (W : World) => list_any (Mp.at_ f.live (k : Int)) W)
         have HPz : Hid (∀ j, (Di.part f k j).size ≤ 140737488361328) := Lib.hid (fun j => Nat.le_trans (Di.part_size f k j HWf.out.at_ (by omega) (Di.slots_in f k)) (by omega))
         have HPs := Lib.hid (fun (j : Nat) (x : Int) => Di.part_succ f k j (x := x))
         have HPe : Hid (Di.part f k (Di.slotsOf f k).length ++ ⟨#[10]⟩ = Di.tabs f (k + 1)) := Lib.hid (Di.part_end f k)
         have HSi := Lib.hid (Di.slots_in f k)
         have HS256 : Hid ((Di.slotsOf f k).length ≤ 256) := Lib.hid (Di.list_len _)
         have hk1 : k + 1 ≤ v.code.n := hlt
         clear hk hlt hnd hx
         generalize In.txt (k : Int) = dk at *
         generalize hnd2 : In.txt (0 : Int) = dn at *
         generalize hsk : Di.tabs f k = sk at *
         clear hnd2 hsk
         go_wp2_with (first
           | (go_at_call 33; refine (HD1.out _).mono ?_; rintro _ w3 ⟨rfl, hb3⟩; have HB3 := Lib.hid (HBr.out.trans (hb3.mono HBr.out.size)); clear hb3 HD1)
           | (go_at_call 33; refine (HD2.out _).mono ?_; rintro _ w4 ⟨rfl, hb4⟩; have HB4 := Lib.hid (HB3.out.trans (hb4.mono HB3.out.size)); have d10 := (HA2.out.on HB4.out).c10; clear hb4 HD2)
           | (go_at_call 35; refine (HMp.out _ (HO2.out.on HB4.out)).mono ?_; rintro _ w5 ⟨rfl, hb5⟩; have HB5 := Lib.hid (HB4.out.trans (hb5.mono HB4.out.size)); clear hb5 HMp d10)
           | (go_at_call 34; refine (HLi.out _).mono ?_; rintro _ w6 ⟨la, lc, rfl, hli, hb6⟩; have HI := Lib.hid hli; have HB6 := Lib.hid (HB5.out.trans (hb6.mono HB5.out.size)); clear hli hb6 HLi))
         rw [HSl.out] at HI
         rw [HSl.out, HP0.out]
         clear HP0 HSl hz1 hz2 hls
         generalize Di.slotsOf f k = sl at *
         have hsl : sl.length = sl.length := rfl
         go_loopw [3, 7] (fun s j W => ∃ i : Nat, i ≤ sl.length ∧ s = .string (Di.part f k i) ∧ j = .int .i64 (i : Int) ∧ Below w6.heap.size w6 W) (fun _ j _ => sl.length - (intOf j).toNat)
         case atStart => exact ⟨0, Nat.zero_le _, rfl, rfl, Below.refl _ _⟩
         case round =>
           obtain ⟨i, hi, rfl, rfl, hBi⟩ := hrel
           have HBj := Lib.hid hBi
           have HBi := Lib.hid (HB6.out.trans (hBi.mono HB6.out.size))
           have hpz := HPz.out i
           have hs256 := HS256.out
           by_cases hli : i < sl.length
           · obtain ⟨ib, ioff, y, rfl, hltb2, hcy, hy, hky⟩ := ints_cell (HI.out.below hBi) hli
             have hyi : -9223372036854775808 ≤ y ∧ y ≤ 9223372036854775807 := HSi.out y (by rw [← hy]; simp [List.getD, hli])
             have HDy := Lib.hid (fun W => rdigits_any y hyi.1 hyi.2 W)
             have hzy := txt_size y hyi.1 hyi.2
             have hii : (i : Int) < (sl.length : Int) := by omega
             have HS : Hid (Di.part f k i ++ ⟨#[32]⟩ ++ In.txt y = Di.part f k (i + 1)) := Lib.hid (HPs.out i y hli hy).symm
             have hi1 : i + 1 ≤ sl.length := hli
             clear hBi hi hyi hy hky hltb2 hli
             generalize In.txt y = dy at *
             obtain ⟨s1, hs1⟩ : ∃ s, Di.part f k (i + 1) = s := ⟨_, rfl⟩
             rw [hs1] at HS
             obtain ⟨s0, hs0⟩ : ∃ s, Di.part f k i = s := ⟨_, rfl⟩
             rw [hs0] at HS hpz ⊢
             clear hs0
             go_wp2_with (go_at_call 33; refine (HDy.out _).mono ?_; rintro _ w7 ⟨rfl, hb7⟩; have HB7 := Lib.hid hb7; clear hb7 HDy)
             rw [HS.out, ← hs1]
             clear HS hs1
             go_roundw
             case rel => exact ⟨i + 1, hi1, rfl, by go_num, HBj.out.trans (HB7.out.mono HBj.out.size)⟩
             case measure => simp [intOf]; omega
           · obtain rfl : i = sl.length := by omega
             have HE : Hid (Di.part f k sl.length ++ ⟨#[10]⟩ = Di.tabs f (k + 1)) := HPe
             obtain ⟨s1, hs1⟩ : ∃ s, Di.tabs f (k + 1) = s := ⟨_, rfl⟩
             rw [hs1] at HE
             obtain ⟨s0, hs0⟩ : ∃ s, Di.part f k sl.length = s := ⟨_, rfl⟩
             rw [hs0] at HE hpz ⊢
             clear hs0 HPe HPs hi hBi
             go_wp2
             rw [HE.out, ← hs1]
             clear HE hs1
             go_roundw
             case rel => exact ⟨k + 1, hk1, rfl, by go_num, HBi.out⟩
             case measure => simp [intOf]; omega
     · obtain rfl : k = v.code.n := by omega
       have HEn : Hid (Di.tabs f v.code.n = Di.tables f) := Lib.hid (by rw [← HE.out, HN.out])
       clear hBr
       go_wp2
       go_ret
       exact ⟨retR2 HEn.out, HB2.out.trans (HBr.out.mono HB2.out.size)⟩
end Go.Proofs.YtmhmlhlplfkpaaaGreatDoor
