/-
 strings.Join, laid at this translation; a line of words as text. Conditions: the words can be read; lengths within the reach.
-/
import Derived.Shelf.Strings.OnBuilder
import Derived.Test.YtmhmlhlplfkpaaaDoorDiMath
import Derived.Test.YtmhmlhlplfkpaaaDoorNmU
set_option maxRecDepth 100000
namespace Go.Proofs
open Go.Shelf
def Tryd.lays156_ren : Go.Shelf.Ren := ⟨fun | 156 => 27 | 165 => 39 | 166 => 20 | 169 => 13 | 240 => 32 | 241 => 48 | 276 => 45 | 277 => 58 | n => n, fun | 31 => 48 | 9 => 9 | 3 => 3 | 4 => 4 | 0 => 0 | 20 => 20 | 72 => 41 | 76 => 60 | 70 => 38 | 37 => 39 | 75 => 59 | 127 => 62 | 164 => 77 | 5 => 5 | 80 => 46 | n => n, fun | n => n⟩
theorem Tryd.lays156 : Go.Proofs.Lays.n156 Tryd.prog Tryd.lays156_ren := {
 mixed := by kernel_rfl
 f156 := Tryd.func27.trans (congrArg some (by kernel_rfl))
 f165 := Tryd.func39.trans (congrArg some (by kernel_rfl))
 f166 := Tryd.func20.trans (congrArg some (by kernel_rfl))
 f169 := Tryd.func13.trans (congrArg some (by kernel_rfl))
 f240 := Tryd.func32.trans (congrArg some (by kernel_rfl))
 f241 := Tryd.func48.trans (congrArg some (by kernel_rfl))
 f276 := Tryd.func45.trans (congrArg some (by kernel_rfl))
 f277 := Tryd.func58.trans (congrArg some (by kernel_rfl))
 t0 := Tryd.underlying0
 a0 := Tryd.isAgg0
 z0 := Tryd.sizeOf0
 v0 := Tryd.zeroValue0
 t3 := Tryd.underlying3
 a3 := Tryd.isAgg3
 z3 := Tryd.sizeOf3
 v3 := Tryd.zeroValue3
 t4 := Tryd.underlying4
 a4 := Tryd.isAgg4
 z4 := Tryd.sizeOf4
 v4 := Tryd.zeroValue4
 t9 := Tryd.underlying9
 a9 := Tryd.isAgg9
 z9 := Tryd.sizeOf9
 v9 := Tryd.zeroValue9
 t20 := Tryd.underlying20
 a20 := Tryd.isAgg20
 z20 := Tryd.sizeOf20
 v20 := Tryd.zeroValue20
 t31 := Tryd.underlying48
 a31 := Tryd.isAgg48
 z31 := Tryd.sizeOf48
 v31 := Tryd.zeroValue48
 t37 := Tryd.underlying39
 a37 := Tryd.isAgg39
 z37 := Tryd.sizeOf39
 v37 := Tryd.zeroValue39
 t70 := Tryd.underlying38
 a70 := Tryd.isAgg38
 z70 := Tryd.sizeOf38
 v70 := Tryd.zeroValue38
 t72 := Tryd.underlying41
 a72 := Tryd.isAgg41
 z72 := Tryd.sizeOf41
 v72 := Tryd.zeroValue41
 t75 := Tryd.underlying59
 a75 := Tryd.isAgg59
 z75 := Tryd.sizeOf59
 v75 := Tryd.zeroValue59
 t76 := Tryd.underlying60
 a76 := Tryd.isAgg60
 z76 := Tryd.sizeOf60
 v76 := Tryd.zeroValue60
 t127 := Tryd.underlying62
 a127 := Tryd.isAgg62
 z127 := Tryd.sizeOf62
 v127 := Tryd.zeroValue62
 t164 := Tryd.underlying77
 a164 := Tryd.isAgg77
 z164 := Tryd.sizeOf77
 v164 := Tryd.zeroValue77 }
theorem Tryd.join_extra : Builder.Extra Tryd.prog Tryd.lays156_ren := {
 sizeBuilder := by kernel_rfl
 liesBuilder := by kernel_rfl
 t5 := Tryd.underlying5
 a5 := Tryd.isAgg5
 z5 := Tryd.sizeOf5
 v5 := Tryd.zeroValue5
 infoByte := by kernel_rfl
 cellsByte := by kernel_rfl
 sizeByte := by kernel_rfl
 neB5 := by decide }
end Go.Proofs
namespace Go.Proofs.YtmhmlhlplfkpaaaDoor
open Go.RowKit
theorem strjoin_any (a : Option Addr) (n c : Nat) (zs : List ByteArray) (w : World) (h : NamesAt w w.heap.size a n zs) (hn : n ≤ 140737488355328) (hc : n ≤ c) (hs : (Di.join zs).size ≤ 140737488355328) :
   Calls Tryd.prog 27 #[.slice a n c, .string ⟨#[32]⟩] w (StrP (Di.join zs) w) := by
 have hl := h.1
 rcases Nat.eq_zero_or_pos n with h0 | h0
 · subst h0
   obtain rfl := List.length_eq_zero_iff.1 hl
   refine (Any.strings_Join_none Tryd.lays156 Tryd.join_extra a c ⟨#[32]⟩ w).mono ?_
   rintro e w' ⟨rfl, rfl⟩
   exact ⟨rfl, Below.refl _ _⟩
 · obtain ⟨b, off, rfl, hb, hcell⟩ := h.2 h0
   subst hl
   refine (Any.strings_Join Tryd.lays156 Tryd.join_extra b off c zs ⟨#[32]⟩ w (fun j x hx => ?_) hb hn hc ?_).mono ?_
   · have hj : j < zs.length := (List.getElem?_eq_some_iff.1 hx).1
     rw [hcell j hj]
     simp [List.getD, hx]
   · have e := congrArg ByteArray.size (Di.join_lib zs)
     have e2 : (ByteArray.mk (Lib.join (zs.map (·.data.toList)) [32]).toArray).size = (Lib.join (zs.map (·.data.toList)) [32]).length := by rw [Lib.size_eq]
     rw [e2] at e
     show (Lib.join (zs.map (·.data.toList)) [32]).length ≤ _
     omega
   · rintro e w' ⟨rfl, hw⟩
     exact ⟨by rw [← Di.join_lib zs], hw⟩
set_option maxHeartbeats 1000000 in
theorem djoin_any (a : Option Addr) (n c : Nat) (zs : List ByteArray) (w : World) (h : NamesAt w w.heap.size a n zs) (hn : n ≤ 140737488355328) (hc : n ≤ c) (hs : (Di.join zs).size ≤ 140737488355328) :
   Calls Tryd.prog 16 #[.slice a n c] w (StrP (Di.join zs) w) := by
 have HJ := Lib.hid (strjoin_any a n c zs w h hn hc hs)
 clear h hs
 go_enter Tryd.func16, Tryd.ntmps16
 go_wp2_with (go_at_call 27; refine HJ.out.mono ?_; rintro _ w1 ⟨rfl, hb1⟩; have HB1 := Lib.hid hb1; clear hb1)
 go_ret
 exact ⟨rfl, HB1.out⟩
end Go.Proofs.YtmhmlhlplfkpaaaDoor
