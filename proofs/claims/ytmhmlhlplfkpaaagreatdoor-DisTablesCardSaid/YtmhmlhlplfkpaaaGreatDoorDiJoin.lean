/-
 strings.Join, laid at this translation; a line of words as text. Conditions: the words can be read; lengths within the reach.
-/
import Derived.Shelf.Strings.OnBuilder
import Derived.Test.YtmhmlhlplfkpaaaGreatDoorDiMath
import Derived.Test.YtmhmlhlplfkpaaaGreatDoorNmU
set_option maxRecDepth 100000
namespace Go.Proofs
open Go.Shelf
def Tryz.lays156_ren : Go.Shelf.Ren := ⟨fun | 156 => 66 | 165 => 88 | 166 => 27 | 169 => 31 | 240 => 54 | 241 => 110 | 276 => 85 | 277 => 135 | n => n, fun | 31 => 73 | 9 => 9 | 3 => 3 | 4 => 4 | 0 => 0 | 20 => 20 | 72 => 55 | 76 => 60 | 70 => 52 | 37 => 53 | 75 => 59 | 127 => 102 | 164 => 124 | 5 => 5 | 80 => 65 | n => n, fun | n => n⟩
theorem Tryz.lays156 : Go.Proofs.Lays.n156 Tryz.prog Tryz.lays156_ren := {
 mixed := by kernel_rfl
 f156 := Tryz.func66.trans (congrArg some (by kernel_rfl))
 f165 := Tryz.func88.trans (congrArg some (by kernel_rfl))
 f166 := Tryz.func27.trans (congrArg some (by kernel_rfl))
 f169 := Tryz.func31.trans (congrArg some (by kernel_rfl))
 f240 := Tryz.func54.trans (congrArg some (by kernel_rfl))
 f241 := Tryz.func110.trans (congrArg some (by kernel_rfl))
 f276 := Tryz.func85.trans (congrArg some (by kernel_rfl))
 f277 := Tryz.func135.trans (congrArg some (by kernel_rfl))
 t0 := Tryz.underlying0
 a0 := Tryz.isAgg0
 z0 := Tryz.sizeOf0
 v0 := Tryz.zeroValue0
 t3 := Tryz.underlying3
 a3 := Tryz.isAgg3
 z3 := Tryz.sizeOf3
 v3 := Tryz.zeroValue3
 t4 := Tryz.underlying4
 a4 := Tryz.isAgg4
 z4 := Tryz.sizeOf4
 v4 := Tryz.zeroValue4
 t9 := Tryz.underlying9
 a9 := Tryz.isAgg9
 z9 := Tryz.sizeOf9
 v9 := Tryz.zeroValue9
 t20 := Tryz.underlying20
 a20 := Tryz.isAgg20
 z20 := Tryz.sizeOf20
 v20 := Tryz.zeroValue20
 t31 := Tryz.underlying73
 a31 := Tryz.isAgg73
 z31 := Tryz.sizeOf73
 v31 := Tryz.zeroValue73
 t37 := Tryz.underlying53
 a37 := Tryz.isAgg53
 z37 := Tryz.sizeOf53
 v37 := Tryz.zeroValue53
 t70 := Tryz.underlying52
 a70 := Tryz.isAgg52
 z70 := Tryz.sizeOf52
 v70 := Tryz.zeroValue52
 t72 := Tryz.underlying55
 a72 := Tryz.isAgg55
 z72 := Tryz.sizeOf55
 v72 := Tryz.zeroValue55
 t75 := Tryz.underlying59
 a75 := Tryz.isAgg59
 z75 := Tryz.sizeOf59
 v75 := Tryz.zeroValue59
 t76 := Tryz.underlying60
 a76 := Tryz.isAgg60
 z76 := Tryz.sizeOf60
 v76 := Tryz.zeroValue60
 t127 := Tryz.underlying102
 a127 := Tryz.isAgg102
 z127 := Tryz.sizeOf102
 v127 := Tryz.zeroValue102
 t164 := Tryz.underlying124
 a164 := Tryz.isAgg124
 z164 := Tryz.sizeOf124
 v164 := Tryz.zeroValue124 }
theorem Tryz.join_extra : Builder.Extra Tryz.prog Tryz.lays156_ren := {
 sizeBuilder := by kernel_rfl
 liesBuilder := by kernel_rfl
 t5 := Tryz.underlying5
 a5 := Tryz.isAgg5
 z5 := Tryz.sizeOf5
 v5 := Tryz.zeroValue5
 infoByte := by kernel_rfl
 cellsByte := by kernel_rfl
 sizeByte := by kernel_rfl
 neB5 := by decide }
end Go.Proofs
namespace Go.Proofs.YtmhmlhlplfkpaaaGreatDoor
open Go.RowKit
theorem strjoin_any (a : Option Addr) (n c : Nat) (zs : List ByteArray) (w : World) (h : NamesAt w w.heap.size a n zs) (hn : n ≤ 140737488355328) (hc : n ≤ c) (hs : (Di.join zs).size ≤ 140737488355328) :
   Calls Tryz.prog 66 #[.slice a n c, .string ⟨#[32]⟩] w (StrP (Di.join zs) w) := by
 have hl := h.1
 rcases Nat.eq_zero_or_pos n with h0 | h0
 · subst h0
   obtain rfl := List.length_eq_zero_iff.1 hl
   refine (Any.strings_Join_none Tryz.lays156 Tryz.join_extra a c ⟨#[32]⟩ w).mono ?_
   rintro e w' ⟨rfl, rfl⟩
   exact ⟨rfl, Below.refl _ _⟩
 · obtain ⟨b, off, rfl, hb, hcell⟩ := h.2 h0
   subst hl
   refine (Any.strings_Join Tryz.lays156 Tryz.join_extra b off c zs ⟨#[32]⟩ w (fun j x hx => ?_) hb hn hc ?_).mono ?_
   · have hj : j < zs.length := (List.getElem?_eq_some_iff.1 hx).1
     rw [hcell j hj]
     simp [List.getD, hx]
   · have e := congrArg ByteArray.size (Di.join_lib zs)
     have e2 : (ByteArray.mk (Lib.join (zs.map (·.data.toList)) [32]).toArray).size = (Lib.join (zs.map (·.data.toList)) [32]).length := by rw [Lib.size_eq]
     rw [e2] at e
     show (Lib.join (zs.map (·.data.toList)) [32]).length ≤ _
     omega
   · rintro e w' ⟨rfl, hw⟩
     exact ⟨by rw [← Di.join_lib zs], hw⟩
set_option maxHeartbeats 1000000 in
theorem djoin_any (a : Option Addr) (n c : Nat) (zs : List ByteArray) (w : World) (h : NamesAt w w.heap.size a n zs) (hn : n ≤ 140737488355328) (hc : n ≤ c) (hs : (Di.join zs).size ≤ 140737488355328) :
   Calls Tryz.prog 37 #[.slice a n c] w (StrP (Di.join zs) w) := by
 have HJ := Lib.hid (strjoin_any a n c zs w h hn hc hs)
 clear h hs
 go_enter Tryz.func37, Tryz.ntmps37
 go_wp2_with (go_at_call 66; refine HJ.out.mono ?_; rintro _ w1 ⟨rfl, hb1⟩; have HB1 := Lib.hid hb1; clear hb1)
 go_ret
 exact ⟨rfl, HB1.out⟩
end Go.Proofs.YtmhmlhlplfkpaaaGreatDoor
