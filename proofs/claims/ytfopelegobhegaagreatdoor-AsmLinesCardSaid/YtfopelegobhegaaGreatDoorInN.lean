/-
 The contract of strconv.Itoa laid at this translation, in plain words, and what it answers of any number. Conditions: the library's table of powers of ten is laid.
-/
import Derived.Shelf.Strconv.Itoa3
import Derived.Shelf.Strconv.ErrVarAll
import Derived.Shelf.Strings.Cut
import Derived.Lib.ConvBytes
import Derived.Laws.BytesArg
import Derived.Laws.Concat
import Derived.Test.YtfopelegobhegaaGreatDoorSiOp
set_option maxRecDepth 100000
namespace Go.Proofs
open Go.Shelf
def Tryz.laysM171_ren : Go.Shelf.Ren := ⟨fun | 171 => 61 | 243 => 81 | 246 => 102 | 283 => 118 | 284 => 119 | 285 => 120 | 286 => 121 | 129 => 133 | 317 => 132 | 318 => 134 | 319 => 135 | 320 => 136 | 337 => 142 | 338 => 143 | n => n, fun | 3 => 3 | 9 => 9 | 2 => 2 | 4 => 4 | 171 => 150 | 0 => 0 | 53 => 91 | 37 => 109 | 5 => 5 | 173 => 153 | 212 => 169 | 51 => 155 | 20 => 20 | 213 => 170 | 46 => 101 | 232 => 181 | 233 => 182 | n => n, fun | 17 => 3 | 18 => 4 | 19 => 5 | n => n⟩
theorem Tryz.laysM171 : Go.Proofs.LaysM.n171 Tryz.prog Tryz.laysM171_ren := {
 mixed := by kernel_rfl
 f129 := Tryz.func133.trans (congrArg some (by kernel_rfl))
 f171 := Tryz.func61.trans (congrArg some (by kernel_rfl))
 f243 := Tryz.func81.trans (congrArg some (by kernel_rfl))
 f246 := Tryz.func102.trans (congrArg some (by kernel_rfl))
 f283 := Tryz.func118.trans (congrArg some (by kernel_rfl))
 f284 := Tryz.func119.trans (congrArg some (by kernel_rfl))
 f285 := Tryz.func120.trans (congrArg some (by kernel_rfl))
 f286 := Tryz.func121.trans (congrArg some (by kernel_rfl))
 f317 := Tryz.func132.trans (congrArg some (by kernel_rfl))
 f318 := Tryz.func134.trans (congrArg some (by kernel_rfl))
 f319 := Tryz.func135.trans (congrArg some (by kernel_rfl))
 f320 := Tryz.func136.trans (congrArg some (by kernel_rfl))
 f337 := Tryz.func142.trans (congrArg some (by kernel_rfl))
 f338 := Tryz.func143.trans (congrArg some (by kernel_rfl))
 t0 := Tryz.underlying0
 a0 := Tryz.isAgg0
 z0 := Tryz.sizeOf0
 v0 := Tryz.zeroValue0
 t2 := Tryz.underlying2
 a2 := Tryz.isAgg2
 z2 := Tryz.sizeOf2
 v2 := Tryz.zeroValue2
 t3 := Tryz.underlying3
 a3 := Tryz.isAgg3
 z3 := Tryz.sizeOf3
 v3 := Tryz.zeroValue3
 t4 := Tryz.underlying4
 a4 := Tryz.isAgg4
 z4 := Tryz.sizeOf4
 v4 := Tryz.zeroValue4
 t5 := Tryz.underlying5
 a5 := Tryz.isAgg5
 z5 := Tryz.sizeOf5
 v5 := Tryz.zeroValue5
 t9 := Tryz.underlying9
 a9 := Tryz.isAgg9
 z9 := Tryz.sizeOf9
 v9 := Tryz.zeroValue9
 t20 := Tryz.underlying20
 a20 := Tryz.isAgg20
 z20 := Tryz.sizeOf20
 v20 := Tryz.zeroValue20
 t37 := Tryz.underlying109
 a37 := Tryz.isAgg109
 z37 := Tryz.sizeOf109
 v37 := Tryz.zeroValue109
 t46 := Tryz.underlying101
 a46 := Tryz.isAgg101
 z46 := Tryz.sizeOf101
 v46 := Tryz.zeroValue101
 t51 := Tryz.underlying155
 a51 := Tryz.isAgg155
 z51 := Tryz.sizeOf155
 v51 := Tryz.zeroValue155
 t53 := Tryz.underlying91
 a53 := Tryz.isAgg91
 z53 := Tryz.sizeOf91
 v53 := Tryz.zeroValue91
 t171 := Tryz.underlying150
 a171 := Tryz.isAgg150
 z171 := Tryz.sizeOf150
 v171 := Tryz.zeroValue150
 t173 := Tryz.underlying153
 a173 := Tryz.isAgg153
 z173 := Tryz.sizeOf153
 v173 := Tryz.zeroValue153
 t212 := Tryz.underlying169
 a212 := Tryz.isAgg169
 z212 := Tryz.sizeOf169
 v212 := Tryz.zeroValue169
 t213 := Tryz.underlying170
 a213 := Tryz.isAgg170
 z213 := Tryz.sizeOf170
 t232 := Tryz.underlying181
 a232 := Tryz.isAgg181
 z232 := Tryz.sizeOf181
 v232 := Tryz.zeroValue181
 t233 := Tryz.underlying182
 a233 := Tryz.isAgg182
 z233 := Tryz.sizeOf182
 v233 := Tryz.zeroValue182
 g17 := by kernel_rfl
 g18 := by kernel_rfl
 g19 := by kernel_rfl
 i0 := by kernel_rfl
 i2 := by kernel_rfl
 i3 := by kernel_rfl
 i4 := by kernel_rfl
 i5 := by kernel_rfl
 i9 := by kernel_rfl
 i20 := by kernel_rfl
 i37 := by kernel_rfl
 i46 := by kernel_rfl
 i51 := by kernel_rfl
 i53 := by kernel_rfl
 i171 := by kernel_rfl
 i173 := by kernel_rfl
 i212 := by kernel_rfl
 i232 := by kernel_rfl
 i233 := by kernel_rfl
 m17 := by kernel_rfl
 m18 := by kernel_rfl
 m19 := by kernel_rfl }
end Go.Proofs
namespace Go.Proofs.YtfopelegobhegaaGreatDoor
open Go.RowKit
def Pow (w : World) : Prop := Lib.TabIs Tryz.prog w "internal/strconv.uint64pow10" .u64 Lib.pow10Tab
theorem Pow.below {w w' : World} (h : Pow w) (hb : Below w.heap.size w w') : Pow w' := by
 have hg : Tryz.prog.globalNamed "internal/strconv.uint64pow10" = some 3 := by kernel_rfl
 have h' : World.var? Tryz.prog w "internal/strconv.uint64pow10" = _ := h
 show World.var? Tryz.prog w' "internal/strconv.uint64pow10" = _
 unfold World.var? at h' ⊢
 rw [hg] at h' ⊢
 simp only [Option.bind_some] at h' ⊢
 have hlt : 3 < w.heap.size := by
   rcases Nat.lt_or_ge 3 w.heap.size with h1 | h1
   · exact h1
   · rw [Array.getElem?_eq_none h1] at h'
     cases h'
 rw [hb.block _ hlt]
 exact h'
def itoaB (n : Int) : ByteArray := ⟨(Lib.itoa n).toArray⟩
theorem below_grow (w : World) (k : Nat) (os : Array Obj) : Below w.heap.size w (Go.Sort.grow (w.drewN k) os) :=
 ⟨rfl, rfl, rfl, by simp [Go.Sort.grow, World.drewN], fun j hj => by simp [Go.Sort.grow, World.drewN, Array.getElem?_append, hj]⟩
theorem itoa_full (n : Int) (h0 : -9223372036854775808 ≤ n) (h1 : n ≤ 9223372036854775807) (w : World) (hp : Pow w) :
   Calls Tryz.prog 61 #[.int .i64 n] w fun e w' => e = .returned (.string (itoaB n)) ∧ Below w.heap.size w w' := by
 have H : Calls Tryz.prog 61 #[.int .i64 n] w fun e w' => e = .returned (.string ⟨(Lib.itoa n).toArray⟩) ∧ ∃ k os, w' = Go.Sort.grow (w.drewN k) os := Any.strconv_Itoa Tryz.laysM171 n h0 h1 w hp
 refine H.mono ?_
 rintro _ w' ⟨rfl, k, os, rfl⟩
 exact ⟨rfl, below_grow _ _ _⟩
end Go.Proofs.YtfopelegobhegaaGreatDoor
namespace Go.Proofs
open Go.Shelf
def Tryz.laysC172_ren : Go.Shelf.Ren := ⟨fun | 172 => 34 | 244 => 59 | 245 => 60 | 247 => 76 | 279 => 77 | 280 => 78 | 281 => 79 | 282 => 80 | 287 => 100 | 316 => 46 | 171 => 61 | 205 => 101 | 321 => 116 | 322 => 117 | 243 => 81 | 246 => 102 | 283 => 118 | 284 => 119 | 285 => 120 | 286 => 121 | 129 => 133 | 317 => 132 | 318 => 134 | 319 => 135 | 320 => 136 | 337 => 142 | 338 => 143 | n => n, fun | 9 => 9 | 3 => 3 | 75 => 75 | 76 => 76 | 4 => 4 | 5 => 5 | 167 => 114 | 37 => 109 | 0 => 0 | 85 => 115 | 2 => 2 | 168 => 117 | 53 => 91 | 175 => 129 | 46 => 101 | 210 => 132 | 127 => 110 | 145 => 149 | 143 => 147 | 21 => 21 | 171 => 150 | 173 => 153 | 212 => 169 | 51 => 155 | 20 => 20 | 213 => 170 | 232 => 181 | 233 => 182 | 80 => 183 | n => n, fun | 15 => 1 | 16 => 2 | 17 => 3 | 18 => 4 | 19 => 5 | n => n⟩
theorem Tryz.laysC172 : Go.Proofs.LaysC.n172 Tryz.prog Tryz.laysC172_ren := {
 mixed := by kernel_rfl
 f129 := Tryz.func133.trans (congrArg some (by kernel_rfl))
 f171 := Tryz.func61.trans (congrArg some (by kernel_rfl))
 f172 := Tryz.func34.trans (congrArg some (by kernel_rfl))
 f205 := Tryz.func101.trans (congrArg some (by kernel_rfl))
 f243 := Tryz.func81.trans (congrArg some (by kernel_rfl))
 f244 := Tryz.func59.trans (congrArg some (by kernel_rfl))
 f245 := Tryz.func60.trans (congrArg some (by kernel_rfl))
 f246 := Tryz.func102.trans (congrArg some (by kernel_rfl))
 f247 := Tryz.func76.trans (congrArg some (by kernel_rfl))
 f279 := Tryz.func77.trans (congrArg some (by kernel_rfl))
 f280 := Tryz.func78.trans (congrArg some (by kernel_rfl))
 f281 := Tryz.func79.trans (congrArg some (by kernel_rfl))
 f282 := Tryz.func80.trans (congrArg some (by kernel_rfl))
 f283 := Tryz.func118.trans (congrArg some (by kernel_rfl))
 f284 := Tryz.func119.trans (congrArg some (by kernel_rfl))
 f285 := Tryz.func120.trans (congrArg some (by kernel_rfl))
 f286 := Tryz.func121.trans (congrArg some (by kernel_rfl))
 f287 := Tryz.func100.trans (congrArg some (by kernel_rfl))
 f316 := Tryz.func46.trans (congrArg some (by kernel_rfl))
 f317 := Tryz.func132.trans (congrArg some (by kernel_rfl))
 f318 := Tryz.func134.trans (congrArg some (by kernel_rfl))
 f319 := Tryz.func135.trans (congrArg some (by kernel_rfl))
 f320 := Tryz.func136.trans (congrArg some (by kernel_rfl))
 f321 := Tryz.func116.trans (congrArg some (by kernel_rfl))
 f322 := Tryz.func117.trans (congrArg some (by kernel_rfl))
 f337 := Tryz.func142.trans (congrArg some (by kernel_rfl))
 f338 := Tryz.func143.trans (congrArg some (by kernel_rfl))
 t0 := Tryz.underlying0
 a0 := Tryz.isAgg0
 z0 := Tryz.sizeOf0
 v0 := Tryz.zeroValue0
 t2 := Tryz.underlying2
 a2 := Tryz.isAgg2
 z2 := Tryz.sizeOf2
 v2 := Tryz.zeroValue2
 t3 := Tryz.underlying3
 a3 := Tryz.isAgg3
 z3 := Tryz.sizeOf3
 v3 := Tryz.zeroValue3
 t4 := Tryz.underlying4
 a4 := Tryz.isAgg4
 z4 := Tryz.sizeOf4
 v4 := Tryz.zeroValue4
 t5 := Tryz.underlying5
 a5 := Tryz.isAgg5
 z5 := Tryz.sizeOf5
 v5 := Tryz.zeroValue5
 t9 := Tryz.underlying9
 a9 := Tryz.isAgg9
 z9 := Tryz.sizeOf9
 v9 := Tryz.zeroValue9
 t20 := Tryz.underlying20
 a20 := Tryz.isAgg20
 z20 := Tryz.sizeOf20
 v20 := Tryz.zeroValue20
 t21 := Tryz.underlying21
 a21 := Tryz.isAgg21
 z21 := Tryz.sizeOf21
 v21 := Tryz.zeroValue21
 t37 := Tryz.underlying109
 a37 := Tryz.isAgg109
 z37 := Tryz.sizeOf109
 v37 := Tryz.zeroValue109
 t46 := Tryz.underlying101
 a46 := Tryz.isAgg101
 z46 := Tryz.sizeOf101
 v46 := Tryz.zeroValue101
 t51 := Tryz.underlying155
 a51 := Tryz.isAgg155
 z51 := Tryz.sizeOf155
 v51 := Tryz.zeroValue155
 t53 := Tryz.underlying91
 a53 := Tryz.isAgg91
 z53 := Tryz.sizeOf91
 v53 := Tryz.zeroValue91
 t75 := Tryz.underlying75
 a75 := Tryz.isAgg75
 z75 := Tryz.sizeOf75
 v75 := Tryz.zeroValue75
 t76 := Tryz.underlying76
 a76 := Tryz.isAgg76
 z76 := Tryz.sizeOf76
 v76 := Tryz.zeroValue76
 t85 := Tryz.underlying115
 a85 := Tryz.isAgg115
 z85 := Tryz.sizeOf115
 v85 := Tryz.zeroValue115
 t127 := Tryz.underlying110
 a127 := Tryz.isAgg110
 z127 := Tryz.sizeOf110
 v127 := Tryz.zeroValue110
 t143 := Tryz.underlying147
 a143 := Tryz.isAgg147
 z143 := Tryz.sizeOf147
 v143 := Tryz.zeroValue147
 t145 := Tryz.underlying149
 a145 := Tryz.isAgg149
 z145 := Tryz.sizeOf149
 v145 := Tryz.zeroValue149
 t167 := Tryz.underlying114
 a167 := Tryz.isAgg114
 z167 := Tryz.sizeOf114
 v167 := Tryz.zeroValue114
 t168 := Tryz.underlying117
 a168 := Tryz.isAgg117
 z168 := Tryz.sizeOf117
 v168 := Tryz.zeroValue117
 t171 := Tryz.underlying150
 a171 := Tryz.isAgg150
 z171 := Tryz.sizeOf150
 v171 := Tryz.zeroValue150
 t173 := Tryz.underlying153
 a173 := Tryz.isAgg153
 z173 := Tryz.sizeOf153
 v173 := Tryz.zeroValue153
 t175 := Tryz.underlying129
 a175 := Tryz.isAgg129
 z175 := Tryz.sizeOf129
 v175 := Tryz.zeroValue129
 t210 := Tryz.underlying132
 a210 := Tryz.isAgg132
 z210 := Tryz.sizeOf132
 v210 := Tryz.zeroValue132
 t212 := Tryz.underlying169
 a212 := Tryz.isAgg169
 z212 := Tryz.sizeOf169
 v212 := Tryz.zeroValue169
 t213 := Tryz.underlying170
 a213 := Tryz.isAgg170
 z213 := Tryz.sizeOf170
 t232 := Tryz.underlying181
 a232 := Tryz.isAgg181
 z232 := Tryz.sizeOf181
 v232 := Tryz.zeroValue181
 t233 := Tryz.underlying182
 a233 := Tryz.isAgg182
 z233 := Tryz.sizeOf182
 v233 := Tryz.zeroValue182
 g15 := by kernel_rfl
 g16 := by kernel_rfl
 g17 := by kernel_rfl
 g18 := by kernel_rfl
 g19 := by kernel_rfl
 t80 := Tryz.underlying183
 a80 := Tryz.isAgg183
 z80 := Tryz.sizeOf183
 v80 := Tryz.zeroValue183
 i0 := by kernel_rfl
 i2 := by kernel_rfl
 i3 := by kernel_rfl
 i4 := by kernel_rfl
 i5 := by kernel_rfl
 i9 := by kernel_rfl
 i20 := by kernel_rfl
 i21 := by kernel_rfl
 i37 := by kernel_rfl
 i46 := by kernel_rfl
 i51 := by kernel_rfl
 i53 := by kernel_rfl
 i75 := by kernel_rfl
 i76 := by kernel_rfl
 i80 := by kernel_rfl
 i85 := by kernel_rfl
 i127 := by kernel_rfl
 i143 := by kernel_rfl
 i145 := by kernel_rfl
 i167 := by kernel_rfl
 i168 := by kernel_rfl
 i171 := by kernel_rfl
 i173 := by kernel_rfl
 i175 := by kernel_rfl
 i210 := by kernel_rfl
 i212 := by kernel_rfl
 i232 := by kernel_rfl
 i233 := by kernel_rfl
 m15 := by kernel_rfl
 m16 := by kernel_rfl
 m17 := by kernel_rfl
 m18 := by kernel_rfl
 m19 := by kernel_rfl
 c0 := by kernel_rfl
 c2 := by kernel_rfl
 c3 := by kernel_rfl
 c4 := by kernel_rfl
 c5 := by kernel_rfl
 c9 := by kernel_rfl
 c20 := by kernel_rfl
 c21 := by kernel_rfl
 c37 := by kernel_rfl
 c46 := by kernel_rfl
 c51 := by kernel_rfl
 c53 := by kernel_rfl
 c75 := by kernel_rfl
 c76 := by kernel_rfl
 c80 := by kernel_rfl
 c85 := by kernel_rfl
 c127 := by kernel_rfl
 c143 := by kernel_rfl
 c145 := by kernel_rfl
 c167 := by kernel_rfl
 c168 := by kernel_rfl
 c171 := by kernel_rfl
 c173 := by kernel_rfl
 c175 := by kernel_rfl
 c210 := by kernel_rfl
 c212 := by kernel_rfl
 c213 := by kernel_rfl
 c232 := by kernel_rfl
 c233 := by kernel_rfl }
def Tryz.lays145_ren : Go.Shelf.Ren := ⟨fun | 145 => 36 | 220 => 62 | 219 => 82 | 217 => 75 | 225 => 58 | 224 => 57 | 267 => 103 | 266 => 99 | 314 => 122 | n => n, fun | 9 => 9 | 4 => 4 | 59 => 45 | 3 => 3 | 5 => 5 | 46 => 101 | 146 => 156 | 51 => 155 | n => n, fun | 1 => 0 | n => n⟩
theorem Tryz.lays145 : Go.Proofs.Lays.n145 Tryz.prog Tryz.lays145_ren := {
 mixed := by kernel_rfl
 f145 := Tryz.func36.trans (congrArg some (by kernel_rfl))
 f217 := Tryz.func75.trans (congrArg some (by kernel_rfl))
 f219 := Tryz.func82.trans (congrArg some (by kernel_rfl))
 f220 := Tryz.func62.trans (congrArg some (by kernel_rfl))
 f224 := Tryz.func57.trans (congrArg some (by kernel_rfl))
 f225 := Tryz.func58.trans (congrArg some (by kernel_rfl))
 f266 := Tryz.func99.trans (congrArg some (by kernel_rfl))
 f267 := Tryz.func103.trans (congrArg some (by kernel_rfl))
 f314 := Tryz.func122.trans (congrArg some (by kernel_rfl))
 t3 := Tryz.underlying3
 a3 := Tryz.isAgg3
 z3 := Tryz.sizeOf3
 v3 := Tryz.zeroValue3
 t4 := Tryz.underlying4
 a4 := Tryz.isAgg4
 z4 := Tryz.sizeOf4
 v4 := Tryz.zeroValue4
 t5 := Tryz.underlying5
 a5 := Tryz.isAgg5
 z5 := Tryz.sizeOf5
 v5 := Tryz.zeroValue5
 t9 := Tryz.underlying9
 a9 := Tryz.isAgg9
 z9 := Tryz.sizeOf9
 v9 := Tryz.zeroValue9
 t46 := Tryz.underlying101
 a46 := Tryz.isAgg101
 z46 := Tryz.sizeOf101
 v46 := Tryz.zeroValue101
 t51 := Tryz.underlying155
 a51 := Tryz.isAgg155
 z51 := Tryz.sizeOf155
 v51 := Tryz.zeroValue155
 t59 := Tryz.underlying45
 a59 := Tryz.isAgg45
 z59 := Tryz.sizeOf45
 v59 := Tryz.zeroValue45
 t146 := Tryz.underlying156
 a146 := Tryz.isAgg156
 z146 := Tryz.sizeOf156
 v146 := Tryz.zeroValue156
 g1 := by kernel_rfl }
end Go.Proofs
namespace Go.Proofs.YtfopelegobhegaaGreatDoor
open Go.RowKit
structure Glob (w : World) : Prop where
 pow : Pow w
 syn : ∃ tp p, w.var? Tryz.prog "strconv.ErrSyntax" = some #[.iface tp p]
 ran : ∃ tp p, w.var? Tryz.prog "strconv.ErrRange" = some #[.iface tp p]
 max : ∃ m, w.cell? ⟨0, 0, none⟩ = some (.int .i64 m)
theorem var_below {w w' : World} {n : String} {g : Nat} {x : Array Value} (hg : Tryz.prog.globalNamed n = some g) (h : w.var? Tryz.prog n = some x) (hb : Below w.heap.size w w') : w'.var? Tryz.prog n = some x := by
 unfold World.var? at h ⊢
 rw [hg] at h ⊢
 simp only [Option.bind_some] at h ⊢
 have hlt : g < w.heap.size := by
   rcases Nat.lt_or_ge g w.heap.size with h1 | h1
   · exact h1
   · rw [Array.getElem?_eq_none h1] at h
     cases h
 rw [hb.block _ hlt]
 exact h
theorem Glob.below {w w' : World} (h : Glob w) (hb : Below w.heap.size w w') : Glob w' := by
 obtain ⟨h1, ⟨t, p, h2⟩, ⟨t', p', h3⟩, ⟨m, h4⟩⟩ := h
 exact ⟨h1.below hb, ⟨t, p, var_below (g := 1) (by kernel_rfl) h2 hb⟩, ⟨t', p', var_below (g := 2) (by kernel_rfl) h3 hb⟩, ⟨m, (hb.cell (World.block_lt_of_cell? w ⟨_, 0, none⟩ h4)).trans h4⟩⟩
def AtP (s : ByteArray) (w : World) (e : Ending) (w' : World) : Prop :=
 ((∃ v, Lib.atoiAll s.data.toList = .ok v ∧ e = .returned (.tuple #[.int .i64 v, .nilIface])) ∨ ∃ (x : Int) (t : TypeId) (p : Value), (∀ v, Lib.atoiAll s.data.toList ≠ .ok v) ∧ e = .returned (.tuple #[.int .i64 x, .iface t p])) ∧ Below w.heap.size w w'
theorem atoi_any (s : ByteArray) (hs : s.size ≤ 281474976710656) (w : World) (h : Glob w) : Calls Tryz.prog 34 #[.string s] w (AtP s w) := by
 obtain ⟨_, ⟨t, p, h2⟩, ⟨t', p', h3⟩, _⟩ := h
 cases ha : Lib.atoiAll s.data.toList
 · rename_i v
   refine (Any.strconv_Atoi_ok Tryz.laysC172 s (by omega) v ha w).mono ?_
   rintro e w' ⟨rfl, hw⟩
   refine ⟨.inl ⟨v, ha, rfl⟩, ?_⟩
   rcases hw with rfl | ⟨x, rfl⟩
   · exact Below.refl _ _
   · exact Lib.bytesWorld_below w _ x
 · refine (Any.strconv_Atoi_syntax_var Tryz.laysC172 s hs ha t p w h2).mono ?_
   rintro e w' ⟨N, rfl, _, _, hb⟩
   exact ⟨.inr ⟨_, _, _, fun v hv => (nomatch ha.symm.trans hv), rfl⟩, hb⟩
 · refine (Any.strconv_Atoi_range_var Tryz.laysC172 s hs ha t' p' w h3).mono ?_
   rintro e w' ⟨N, rfl, _, _, hb⟩
   exact ⟨.inr ⟨_, _, _, fun v hv => (nomatch ha.symm.trans hv), rfl⟩, hb⟩
theorem strcut_any (s : ByteArray) (hs : s.size < 4294967281) (w : World) (h : Glob w) : Calls Tryz.prog 36 #[.string s, .string ⟨#[32]⟩] w fun e w' => e = .returned (.tuple #[.string (In.head s), .string (In.tail s), .bool (In.more s)]) ∧ Below w.heap.size w w' := by
 obtain ⟨_, _, _, ⟨m, h4⟩⟩ := h
 obtain ⟨e1, e2, e3⟩ := In.cut_blank s
 have H := Any.strings_Cut Tryz.lays145 s ⟨#[32]⟩ m w hs h4
 rw [show (⟨#[32]⟩ : ByteArray).data.toList = [32] from rfl, e1, e2, e3] at H
 refine Calls.mono H ?_
 rintro e w' ⟨rfl, n, rfl⟩
 exact ⟨rfl, rfl, rfl, rfl, Nat.le_refl _, fun _ _ => rfl⟩
end Go.Proofs.YtfopelegobhegaaGreatDoor
namespace Go.Proofs.YtfopelegobhegaaGreatDoor
open Go.RowKit
theorem retStr {a b : ByteArray} (h : a = b) : Ending.returned (.string a) = .returned (.string b) := by rw [h]
def decB (u : Nat) : ByteArray := ⟨(Lib.decDigits u).toArray⟩
theorem decB_of (x : ByteArray) (u : Nat) (h : x.data.toList = Lib.decDigits u) : x = decB u := by
 unfold decB
 rw [← h]
theorem decB_big {u : Nat} (h : ¬ u < 10) : decB (u / 10) ++ decB (u % 10) = decB u := by
 apply decB_of
 rw [In.dec_big h]
 simp only [decB, Lib.decDigits_one (show u % 10 < 10 by omega)]
 simp
theorem decB_list (u : Nat) : (decB u).data.toList = Lib.decDigits u := by simp [decB]
theorem decB_size (u : Nat) (h : u < 18446744073709551616) : (decB u).size ≤ 21 := by
 rw [Lib.size_eq, decB_list]
 by_cases hs : u ≤ 9223372036854775807
 · have := Lib.itoa_length_le (u : Int) (by omega) (by omega)
   unfold Lib.itoa at this
   rw [if_neg (by omega)] at this
   simpa using this
 · have hb : ¬ u < 10 := by omega
   rw [In.dec_big hb, List.length_append]
   have := Lib.itoa_length_le ((u / 10 : Nat) : Int) (by omega) (by omega)
   unfold Lib.itoa at this
   rw [if_neg (by omega)] at this
   have e : (((u / 10 : Nat) : Int)).toNat = u / 10 := by omega
   rw [e] at this
   have : (Lib.decDigits (u / 10)).length ≤ 20 := by
     rw [Lib.decDigits_length]
     have h1 : 10 ^ 20 ≥ 18446744073709551616 := by decide
     rcases Nat.lt_or_ge 20 (Lib.nDigits (u / 10)) with h2 | h2
     · exfalso
       have h3 := Lib.lt_pow_nDigits (u / 10)
       have h4 : ∀ k v : Nat, v < 10 ^ (k + 1) → Lib.nDigits v ≤ k + 1 := by
         intro k
         induction k with
         | zero => intro v hv; rw [Lib.nDigits_small (by simpa using hv)]; omega
         | succ k ih =>
           intro v hv
           by_cases hv10 : v < 10
           · rw [Lib.nDigits_small hv10]; omega
           · rw [Lib.nDigits_big hv10]
             have := ih (v / 10) (by rw [Nat.pow_succ] at hv; omega)
             omega
       have := h4 19 (u / 10) (by omega)
       omega
     · omega
   simp
   omega
theorem conv_dig (i : Nat) (h : i < 10) (w : World) : (convert 109 9 (.slice (some ⟨w.heap.size, 0, none⟩) 1 1)).run Tryz.prog (w.alloc (.cells #[.int .u8 (48 + (i : Int))] 5)) = .ok (.string (decB i)) (w.alloc (.cells #[.int .u8 (48 + (i : Int))] 5)) := by
 have hb : (w.alloc (.cells #[.int .u8 (48 + (i : Int))] 5)).heap[w.heap.size]? = some (.cells #[.int .u8 (48 + (i : Int))] 5 (0, 0)) := heap_alloc_new w _
 have h0 := run_convert_bytes_arg (P := Tryz.prog) (w.alloc (.cells #[.int .u8 (48 + (i : Int))] 5)) 109 5 Tryz.underlying109 Tryz.underlying5 w.heap.size 0 1 1 [48 + (i : Int)] rfl (fun j hj => by
   obtain rfl : j = 0 := by omega
   exact cell_of_row _ _ 0 _ _ _ hb) 9 Tryz.underlying9
 have e0 : strOfNums [48 + (i : Int)] = decB i := by
   apply decB_of
   rw [Lib.decDigits_one h]
   have e : ((48 : Int) + (i : Int)).toNat = 48 + i := by omega
   simp [strOfNums, e]
 rw [e0] at h0
 exact h0
set_option maxHeartbeats 1000000 in
theorem dig_any (i : Nat) (h : i < 10) (w : World) :
   Calls Tryz.prog 67 #[.int .i64 (i : Int)] w fun e w' => e = .returned (.string (decB i)) ∧ Below w.heap.size w w' := by
 have hcv := conv_dig i h w
 go_enter Tryz.func67, Tryz.ntmps67
 go_wp2
 go_ret
 exact ⟨rfl, (Below.refl _ _).alloc (Nat.le_refl _) _⟩
set_option maxHeartbeats 1000000 in
theorem decs_any (u : Nat) : ∀ (w : World), u ≤ 9223372036854775807 →
   Calls Tryz.prog 67 #[.int .i64 (u : Int)] w fun e w' => e = .returned (.string (decB u)) ∧ Below w.heap.size w w' := by
 induction u using Nat.strongRecOn with
 | ind u ih =>
   intro w hu
   by_cases h10 : u < 10
   · exact dig_any u h10 w
   have HA := ih (u / 10) (by omega) w (by omega)
   have HB := Lib.hid (fun W => dig_any (u % 10) (by omega) W)
   rw [show ((u / 10 : Nat) : Int) = (u : Int) / 10 by omega] at HA
   rw [show ((u % 10 : Nat) : Int) = (u : Int) % 10 by omega] at HB
   have HD : Hid (decB (u / 10) ++ decB (u % 10) = decB u) := Lib.hid (decB_big h10)
   have hs1 : (decB (u / 10)).size ≤ 21 := decB_size _ (by omega)
   have hs2 : (decB (u % 10)).size ≤ 21 := decB_size _ (by omega)
   clear ih
   generalize decB (u / 10) = x at *
   generalize decB (u % 10) = y at *
   go_enter Tryz.func67, Tryz.ntmps67
   go_wp2_with (first
     | (go_at_call 67; with_reducible refine HA.mono ?_; rintro _ w1 ⟨rfl, b1⟩; clear HA)
     | (go_at_call 67; refine (HB.out w1).mono ?_; rintro _ w2 ⟨rfl, b2⟩))
   go_ret
   exact ⟨retStr HD.out, b1.trans (b2.mono b1.size)⟩
theorem txt_pos {n : Int} (h : 0 ≤ n) : In.txt n = decB n.toNat := by
 unfold In.txt Lib.itoa decB
 rw [if_neg (by omega)]
theorem txt_neg {n : Int} (h : n < 0) : In.txt n = ⟨#[45]⟩ ++ decB n.natAbs := by
 apply In.list_ext
 unfold In.txt Lib.itoa decB
 rw [if_pos h]
 simp
set_option maxHeartbeats 1000000 in
theorem rdigits_any (n : Int) (h0 : -9223372036854775808 ≤ n) (h1 : n ≤ 9223372036854775807) (w : World) :
   Calls Tryz.prog 40 #[.int .i64 n] w fun e w' => e = .returned (.string (In.txt n)) ∧ Below w.heap.size w w' := by
 by_cases hn : 0 ≤ n
 · obtain ⟨u, rfl⟩ := Int.eq_ofNat_of_zero_le hn
   rw [txt_pos hn]
   have H := decs_any u w (by omega)
   simp only [Int.toNat_natCast]
   have hge : decide (0 ≤ (u : Int)) = true := decide_eq_true hn
   go_enter Tryz.func40, Tryz.ntmps40
   go_wp2_with (go_at_call 67; refine H.mono ?_; rintro _ w1 ⟨rfl, b1⟩)
   go_ret
   exact ⟨rfl, b1⟩
 · obtain ⟨u, hu⟩ : ∃ u : Nat, n = -(u : Int) := ⟨n.natAbs, by omega⟩
   have hge : decide (0 ≤ n) = false := decide_eq_false hn
   have hq : n.tdiv 10 = -((u / 10 : Nat) : Int) := by subst hu; rw [Int.neg_tdiv]; rfl
   have hr : n.tmod 10 = -((u % 10 : Nat) : Int) := by subst hu; rw [Int.neg_tmod]; rfl
   rw [txt_neg (by omega), show n.natAbs = u by omega]
   by_cases h10 : u < 10
   · have H := decs_any u w (by omega)
     have hz : n.tdiv 10 = 0 := by rw [hq]; omega
     have hs1 : (decB u).size ≤ 21 := decB_size _ (by omega)
     have hneg : wrap64 (-n) = (u : Int) := by unfold wrap64; omega
     have HX := Lib.hid (And.intro hq (And.intro hr (And.intro h0 hu)))
     clear hq hr h0 hu
     generalize decB u = x at *
     go_enter Tryz.func40, Tryz.ntmps40
     go_wp2_with (go_at_call 67; refine H.mono ?_; rintro _ w1 ⟨rfl, b1⟩)
     go_ret
     exact ⟨rfl, b1⟩
   · have HA := decs_any (u / 10) w (by omega)
     have HB := Lib.hid (fun W => decs_any (u % 10) W (by omega))
     have HD : Hid (decB (u / 10) ++ decB (u % 10) = decB u) := Lib.hid (decB_big h10)
     have hs1 : (decB (u / 10)).size ≤ 21 := decB_size _ (by omega)
     have hs2 : (decB (u % 10)).size ≤ 21 := decB_size _ (by omega)
     generalize decB (u / 10) = x at *
     generalize decB (u % 10) = y at *
     have hz : (wrap64 (n.tdiv 10) == 0) = false := by rw [hq, beq_eq_false_iff_ne]; unfold wrap64; omega
     have hneg1 : wrap64 (-(wrap64 (n.tdiv 10))) = (u : Int) / 10 := by rw [hq]; unfold wrap64; omega
     have hneg2 : wrap64 (-(n.tmod 10)) = (u : Int) % 10 := by rw [hr]; unfold wrap64; omega
     rw [show ((u / 10 : Nat) : Int) = (u : Int) / 10 by omega] at HA
     rw [show ((u % 10 : Nat) : Int) = (u : Int) % 10 by omega] at HB
     have HX := Lib.hid (And.intro hq (And.intro hr (And.intro h0 hu)))
     clear hq hr h0 hu
     go_enter Tryz.func40, Tryz.ntmps40
     go_wp2_with (first
       | (go_at_call 67; with_reducible refine HA.mono ?_; rintro _ w1 ⟨rfl, b1⟩; clear HA)
       | (go_at_call 67; refine (HB.out w1).mono ?_; rintro _ w2 ⟨rfl, b2⟩))
     go_ret
     exact ⟨retStr (by rw [← HD.out]; apply In.list_ext; simp), b1.trans (b2.mono b1.size)⟩
theorem indigits_pow (n : Int) (h0 : -9223372036854775808 ≤ n) (h1 : n ≤ 9223372036854775807) (w : World) (h : Pow w) :
   Calls Tryz.prog 35 #[.int .i64 n] w fun e w' => e = .returned (.string (In.txt n)) ∧ Below w.heap.size w w' := by
 have H : Calls Tryz.prog 61 #[.int .i64 n] w fun e w' => e = .returned (.string (In.txt n)) ∧ Below w.heap.size w w' := itoa_full n h0 h1 w h
 clear h h0 h1
 go_enter Tryz.func35, Tryz.ntmps35
 go_wp2_with (go_at_call 61; refine H.mono ?_; rintro _ w1 ⟨rfl, b1⟩)
 go_ret
 exact ⟨rfl, b1⟩
end Go.Proofs.YtfopelegobhegaaGreatDoor
namespace Go.Proofs.YtfopelegobhegaaGreatDoor
open Go.RowKit
theorem indigits_any (n : Int) (h0 : -9223372036854775808 ≤ n) (h1 : n ≤ 9223372036854775807) (w : World) (h : Glob w) :
   Calls Tryz.prog 35 #[.int .i64 n] w fun e w' => e = .returned (.string (In.txt n)) ∧ Below w.heap.size w w' := indigits_pow n h0 h1 w h.pow
end Go.Proofs.YtfopelegobhegaaGreatDoor
namespace Go.Proofs.YtfopelegobhegaaGreatDoor
open Go.RowKit
theorem retNum {s : ByteArray} {a b : Int} {e : Nat} (h : In.num s = (a, e)) (hb : b = (e : Int) := by rfl) : Ending.returned (.tuple #[.int .i64 a, .int .i64 b]) = .returned (.tuple #[.int .i64 (In.num s).1, .int .i64 ((In.num s).2 : Int)]) := by rw [h, hb]
def NumP (s : ByteArray) (w : World) (e : Ending) (w' : World) : Prop := e = .returned (.tuple #[.int .i64 (In.num s).1, .int .i64 ((In.num s).2 : Int)]) ∧ Below w.heap.size w w'
theorem num_of_ok {s : ByteArray} {v : Int} (h : Lib.atoiAll s.data.toList = .ok v) : In.num s = if In.txt v = s then (v, 0) else (0, 5) := by
 unfold In.num
 rw [h]
theorem num_of_err {s : ByteArray} (h : ∀ v, Lib.atoiAll s.data.toList ≠ .ok v) : In.num s = (0, 5) := by
 unfold In.num
 split
 · rename_i v hv; exact absurd hv (h v)
 · rfl
set_option maxHeartbeats 1000000 in
theorem innumber_any (s : ByteArray) (hs : s.size ≤ 281474976710656) (w : World) (h : Glob w) : Calls Tryz.prog 12 #[.string s] w (NumP s w) := by
 have HA := atoi_any s hs w h
 have HGl := Lib.hid h
 clear h hs
 go_enter Tryz.func12, Tryz.ntmps12
 go_wp2_with fail
 refine HA.mono ?_
 rintro _ w1 ⟨⟨v, hv, rfl⟩ | ⟨x, t, p, hv, rfl⟩, b1⟩
 · have hb := Lib.atoiAll_bounds hv
   have HD := fun W hW => indigits_any v hb.1 hb.2 W hW
   have HN := Lib.hid (num_of_ok hv)
   have HG1 := Lib.hid (HGl.out.below b1)
   clear hv hb HA
   generalize hdd : In.txt v = d at HD HN
   have HDD := Lib.hid hdd
   clear hdd
   by_cases he : d = s
   · have hc1 : (d.toList == s.toList) = true := by rw [he]; exact beq_self_eq_true _
     have hc2 : (d.toList != s.toList) = false := by rw [he]; exact bne_self_eq_false _
     have HB := Lib.hid (HN.out.trans (if_pos he))
     clear HN he
     go_wp2_with (go_at_call 35; refine (HD _ HG1.out).mono ?_; rintro _ w2 ⟨rfl, b2⟩)
     go_ret2
     exact ⟨retNum HB.out, below_self b1 b2⟩
   · have hc1 : (d.toList == s.toList) = false := (Lib.bytes_beq_false_iff _ _).2 he
     have hc2 : (d.toList != s.toList) = true := by unfold bne; rw [hc1]; rfl
     have HB := Lib.hid (HN.out.trans (if_neg he))
     clear HN he
     go_wp2_with (go_at_call 35; refine (HD _ HG1.out).mono ?_; rintro _ w2 ⟨rfl, b2⟩)
     go_ret2
     exact ⟨retNum HB.out, below_self b1 b2⟩
 · have HB := Lib.hid (num_of_err hv)
   clear hv HA
   go_wp2
   go_ret2
   exact ⟨retNum HB.out, b1⟩
theorem dfold_next (b : Bool) (f : Nat) (s : ByteArray) (p : Nat) (hp : p < s.size) (hf : f ≤ p) :
   wrap64 (wrap64 (10 * In.dfold b ((s.data.toList.take p).drop f)) + (if b then -((s[p].toNat : Int) - 48) else (s[p].toNat : Int) - 48)) = In.dfold b ((s.data.toList.take (p + 1)).drop f) := by
 have hp' : p < s.data.toList.length := by rw [← Lib.size_eq]; exact hp
 rw [List.take_succ_eq_append_getElem hp', List.drop_append_of_le_length (by rw [List.length_take]; omega), In.dfold_snoc]
 rfl
theorem dfold_nextT (f : Nat) (s : ByteArray) (p : Nat) (hp : p < s.size) (hf : f ≤ p) :
   wrap64 (wrap64 (10 * In.dfold true ((s.data.toList.take p).drop f)) - ((s[p].toNat : Int) - 48)) = In.dfold true ((s.data.toList.take (p + 1)).drop f) := by
 rw [Int.sub_eq_add_neg]
 exact dfold_next true f s p hp hf
theorem dfold_nextF (f : Nat) (s : ByteArray) (p : Nat) (hp : p < s.size) (hf : f ≤ p) :
   wrap64 (wrap64 (10 * In.dfold false ((s.data.toList.take p).drop f)) + ((s[p].toNat : Int) - 48)) = In.dfold false ((s.data.toList.take (p + 1)).drop f) := dfold_next false f s p hp hf
theorem take_22 {s : ByteArray} {p : Nat} (h1 : p ≤ s.size) (h2 : p ≤ 22) (h3 : s.size ≤ p ∨ 22 ≤ p) : s.data.toList.take p = s.data.toList.take 22 := by
 rcases h3 with h | h
 · rw [List.take_of_length_le (by rw [← Lib.size_eq]; exact h), List.take_of_length_le (by rw [← Lib.size_eq]; omega)]
 · rw [show p = 22 by omega]
theorem neg_at {s : ByteArray} (h : 0 < s.size) : In.neg s.data.toList = decide (s[0].toNat = 45) := by
 have h' : 0 < s.data.toList.length := by rw [← Lib.size_eq]; exact h
 unfold In.neg
 rw [List.head?_eq_getElem?, List.getElem?_eq_getElem h']
 have e : s.data.toList[0] = s[0] := rfl
 rw [e, Bool.eq_iff_iff]
 simp only [beq_iff_eq, Option.some.injEq, decide_eq_true_eq]
 constructor
 · intro h; rw [h]; rfl
 · intro h; exact UInt8.toNat_inj.1 h
set_option maxHeartbeats 4000000 in
theorem rnumber_any (s : ByteArray) (hs : s.size ≤ 9223372036854775807) (w : World) : Calls Tryz.prog 14 #[.string s] w (NumP s w) := by
 by_cases h0 : s.size = 0
 · have hd0 : decide (0 < (s.size : Int)) = false := decide_eq_false (by omega)
   have hq : ((s.size : Int) == 0) = true := by rw [beq_iff_eq]; omega
   have HB : Hid (In.num s = (0, 5)) := Lib.hid (In.num_short (by
     have : s.data.toList = [] := List.eq_nil_of_length_eq_zero (by rw [← Lib.size_eq]; exact h0)
     rw [this]
     rfl))
   clear h0
   go_enter Tryz.func14, Tryz.ntmps14
   go_wp2
   go_loopw [4, 6] (fun n i wr => n = .int .i64 0 ∧ i = .int .i64 0 ∧ wr = w) (fun _ _ _ => 0)
   case atStart => exact ⟨rfl, rfl, rfl⟩
   case round =>
     obtain ⟨rfl, rfl, rfl⟩ := hrel
     go_wp2
     go_ret2
     exact ⟨retNum HB.out, Below.refl _ _⟩
 have hd0 : 0 < (s.size : Int) := by omega
 have hn := neg_at (s := s) (by omega)
 by_cases h45 : s[0].toNat = 45
 · have hm : ((s[0].toNat : Int) == 45) = true := by rw [h45]; rfl
   have HG : Hid (In.neg s.data.toList = true) := Lib.hid (by rw [hn, h45]; rfl)
   have HF : Hid (In.from_ s.data.toList = 1) := Lib.hid (by unfold In.from_; rw [HG.out]; rfl)
   clear hn h45
   go_enter Tryz.func14, Tryz.ntmps14
   go_wp2
   go_loopw [4, 6] (fun n i wr => ∃ (p : Nat) (z : Int), 1 ≤ p ∧ p ≤ s.size ∧ p ≤ 22 ∧ n = .int .i64 z ∧ i = .int .i64 (p : Int) ∧ Hid (z = In.dfold true ((s.data.toList.take p).drop 1)) ∧ wr = w) (fun _ i _ => 22 - (intOf i).toNat)
   case atStart => exact ⟨1, 0, by omega, by omega, by omega, rfl, rfl, Lib.hid (by cases s.data.toList <;> rfl), rfl⟩
   case round =>
     obtain ⟨p, z, hp1, hp2, hp3, rfl, rfl, HZ, rfl⟩ := hrel
     by_cases hend : p < s.size ∧ p < 22
     · obtain ⟨hl, h22⟩ := hend
       have hl1 : (p : Int) < (s.size : Int) := by omega
       have h221 : (p : Int) < 22 := by omega
       have hby := Op.byte_eq s p hl
       have HY := Lib.hid hby
       clear hby
       by_cases hdig : 48 ≤ s[p].toNat ∧ s[p].toNat ≤ 57
       · have h48 : decide ((s[p].toNat : Int) < 48) = false := decide_eq_false (by omega)
         have h57 : decide (57 < (s[p].toNat : Int)) = false := decide_eq_false (by omega)
         have g1 : 48 ≤ (s[p].toNat : Int) := by omega
         have g2 : (s[p].toNat : Int) ≤ 57 := by omega
         have HS := Lib.hid (dfold_nextT 1 s p hl hp1)
         rw [← HZ.out] at HS
         clear hdig HY
         go_wp2
         go_roundw
         case rel => exact ⟨p + 1, _, by omega, by omega, by omega, rfl, by go_num, HS, trivial⟩
         case measure => simp [intOf]; omega
       · have HB : Hid (In.num s = (0, 5)) := Lib.hid (In.num_bad (i := p) (by rw [HF.out]; omega) (by rw [← Lib.size_eq]; exact hl) (by have := HY.out; unfold Op.byte at this; omega))
         clear HY HZ
         by_cases hlo : s[p].toNat < 48
         · have h48 : (s[p].toNat : Int) < 48 := by omega
           clear hdig
           go_wp2
           go_ret2
           exact ⟨retNum HB.out, Below.refl _ _⟩
         · have h48 : decide ((s[p].toNat : Int) < 48) = false := decide_eq_false (by omega)
           have h57 : 57 < (s[p].toNat : Int) := by omega
           clear hdig
           go_wp2
           go_ret2
           exact ⟨retNum HB.out, Below.refl _ _⟩
     · have HE : Hid (z = In.dfold (In.neg s.data.toList) ((s.data.toList.take 22).drop (In.from_ s.data.toList))) := Lib.hid (by
         rw [HZ.out, HG.out, HF.out, take_22 (p := p) (s := s) (by omega) (by omega) (by omega)])
       have hz := In.dfold_in (In.neg s.data.toList) ((s.data.toList.take 22).drop (In.from_ s.data.toList))
       rw [← HE.out] at hz
       have hd1 : (decide ((p : Int) < (s.size : Int)) && decide ((p : Int) < 22)) = false := by
         rw [Bool.eq_false_iff]
         intro h
         rw [Bool.and_eq_true] at h
         have h1 := of_decide_eq_true h.1
         have h2 := of_decide_eq_true h.2
         exact hend ⟨by omega, by omega⟩
       have HD := fun W => rdigits_any z hz.1 hz.2 W
       have HN := Lib.hid (In.num_fold HE.out)
       have HSh : Hid (s.size = 1 → In.num s = (0, 5)) := Lib.hid (fun h => In.num_short (by rw [← Lib.size_eq, HF.out]; exact h))
       clear HE HZ hz
       by_cases hsz : s.size = 1
       · have hq : ((s.size : Int) == 1) = true := by rw [beq_iff_eq]; omega
         have HB := Lib.hid (HSh.out hsz)
         by_cases hpl : (p : Int) < (s.size : Int)
         · have h22 : decide ((p : Int) < 22) = false := decide_eq_false (by omega)
           have hplN : p < s.size := by omega
           clear hsz hend hd1
           go_wp2
           go_ret2
           exact ⟨retNum HB.out, Below.refl _ _⟩
         · have hpl' : decide ((p : Int) < (s.size : Int)) = false := decide_eq_false hpl
           have hplN : decide (p < s.size) = false := decide_eq_false (by omega)
           clear hsz hend hd1 hpl
           go_wp2
           go_ret2
           exact ⟨retNum HB.out, Below.refl _ _⟩
       · have hq : ((s.size : Int) == 1) = false := by rw [beq_eq_false_iff_ne]; omega
         have hlt : p < s.size ∧ decide ((p : Int) < 22) = false ∨ decide (p < s.size) = false := by
           by_cases h : p < s.size
           · exact .inl ⟨h, decide_eq_false (by omega)⟩
           · exact .inr (decide_eq_false h)
         clear hsz HSh hend hd1
         generalize hdd : In.txt z = d at HD HN
         have HDD := Lib.hid hdd
         clear hdd
         by_cases he : d = s
         · have hc1 : (d.toList == s.toList) = true := by rw [he]; exact beq_self_eq_true _
           have hc2 : (d.toList != s.toList) = false := by rw [he]; exact bne_self_eq_false _
           have HB := Lib.hid (HN.out.trans (if_pos he))
           clear HN he
           rcases hlt with ⟨ha, hb⟩ | ha
           all_goals
             go_wp2_with (go_at_call 40; refine (HD _).mono ?_; rintro _ w1 ⟨rfl, b1⟩)
             go_ret2
             exact ⟨retNum HB.out, b1⟩
         · have hc1 : (d.toList == s.toList) = false := (Lib.bytes_beq_false_iff _ _).2 he
           have hc2 : (d.toList != s.toList) = true := by unfold bne; rw [hc1]; rfl
           have HB := Lib.hid (HN.out.trans (if_neg he))
           clear HN he
           rcases hlt with ⟨ha, hb⟩ | ha
           all_goals
             go_wp2_with (go_at_call 40; refine (HD _).mono ?_; rintro _ w1 ⟨rfl, b1⟩)
             go_ret2
             exact ⟨retNum HB.out, b1⟩
 · have hm : ((s[0].toNat : Int) == 45) = false := by rw [beq_eq_false_iff_ne]; omega
   have HG : Hid (In.neg s.data.toList = false) := Lib.hid (by rw [hn]; exact decide_eq_false h45)
   have HF : Hid (In.from_ s.data.toList = 0) := Lib.hid (by unfold In.from_; rw [HG.out]; rfl)
   clear hn h45
   go_enter Tryz.func14, Tryz.ntmps14
   go_wp2
   go_loopw [4, 6] (fun n i wr => ∃ (p : Nat) (z : Int), 0 ≤ p ∧ p ≤ s.size ∧ p ≤ 22 ∧ n = .int .i64 z ∧ i = .int .i64 (p : Int) ∧ Hid (z = In.dfold false ((s.data.toList.take p).drop 0)) ∧ wr = w) (fun _ i _ => 22 - (intOf i).toNat)
   case atStart => exact ⟨0, 0, by omega, by omega, by omega, rfl, rfl, Lib.hid (by rfl), rfl⟩
   case round =>
     obtain ⟨p, z, hp1, hp2, hp3, rfl, rfl, HZ, rfl⟩ := hrel
     by_cases hend : p < s.size ∧ p < 22
     · obtain ⟨hl, h22⟩ := hend
       have hl1 : (p : Int) < (s.size : Int) := by omega
       have h221 : (p : Int) < 22 := by omega
       have hby := Op.byte_eq s p hl
       have HY := Lib.hid hby
       clear hby
       by_cases hdig : 48 ≤ s[p].toNat ∧ s[p].toNat ≤ 57
       · have h48 : decide ((s[p].toNat : Int) < 48) = false := decide_eq_false (by omega)
         have h57 : decide (57 < (s[p].toNat : Int)) = false := decide_eq_false (by omega)
         have g1 : 48 ≤ (s[p].toNat : Int) := by omega
         have g2 : (s[p].toNat : Int) ≤ 57 := by omega
         have HS := Lib.hid (dfold_nextF 0 s p hl hp1)
         rw [← HZ.out] at HS
         clear hdig HY
         go_wp2
         go_roundw
         case rel => exact ⟨p + 1, _, by omega, by omega, by omega, rfl, by go_num, HS, trivial⟩
         case measure => simp [intOf]; omega
       · have HB : Hid (In.num s = (0, 5)) := Lib.hid (In.num_bad (i := p) (by rw [HF.out]; omega) (by rw [← Lib.size_eq]; exact hl) (by have := HY.out; unfold Op.byte at this; omega))
         clear HY HZ
         by_cases hlo : s[p].toNat < 48
         · have h48 : (s[p].toNat : Int) < 48 := by omega
           clear hdig
           go_wp2
           go_ret2
           exact ⟨retNum HB.out, Below.refl _ _⟩
         · have h48 : decide ((s[p].toNat : Int) < 48) = false := decide_eq_false (by omega)
           have h57 : 57 < (s[p].toNat : Int) := by omega
           clear hdig
           go_wp2
           go_ret2
           exact ⟨retNum HB.out, Below.refl _ _⟩
     · have HE : Hid (z = In.dfold (In.neg s.data.toList) ((s.data.toList.take 22).drop (In.from_ s.data.toList))) := Lib.hid (by
         rw [HZ.out, HG.out, HF.out, take_22 (p := p) (s := s) (by omega) (by omega) (by omega)])
       have hz := In.dfold_in (In.neg s.data.toList) ((s.data.toList.take 22).drop (In.from_ s.data.toList))
       rw [← HE.out] at hz
       have hd1 : (decide ((p : Int) < (s.size : Int)) && decide ((p : Int) < 22)) = false := by
         rw [Bool.eq_false_iff]
         intro h
         rw [Bool.and_eq_true] at h
         have h1 := of_decide_eq_true h.1
         have h2 := of_decide_eq_true h.2
         exact hend ⟨by omega, by omega⟩
       have HD := fun W => rdigits_any z hz.1 hz.2 W
       have HN := Lib.hid (In.num_fold HE.out)
       have HSh : Hid (s.size = 0 → In.num s = (0, 5)) := Lib.hid (fun h => In.num_short (by rw [← Lib.size_eq, HF.out]; exact h))
       clear HE HZ hz
       by_cases hsz : s.size = 0
       · have hq : ((s.size : Int) == 0) = true := by rw [beq_iff_eq]; omega
         have HB := Lib.hid (HSh.out hsz)
         by_cases hpl : (p : Int) < (s.size : Int)
         · have h22 : decide ((p : Int) < 22) = false := decide_eq_false (by omega)
           have hplN : p < s.size := by omega
           clear hsz hend hd1
           go_wp2
           go_ret2
           exact ⟨retNum HB.out, Below.refl _ _⟩
         · have hpl' : decide ((p : Int) < (s.size : Int)) = false := decide_eq_false hpl
           have hplN : decide (p < s.size) = false := decide_eq_false (by omega)
           clear hsz hend hd1 hpl
           go_wp2
           go_ret2
           exact ⟨retNum HB.out, Below.refl _ _⟩
       · have hq : ((s.size : Int) == 0) = false := by rw [beq_eq_false_iff_ne]; omega
         have hlt : p < s.size ∧ decide ((p : Int) < 22) = false ∨ decide (p < s.size) = false := by
           by_cases h : p < s.size
           · exact .inl ⟨h, decide_eq_false (by omega)⟩
           · exact .inr (decide_eq_false h)
         clear hsz HSh hend hd1
         generalize hdd : In.txt z = d at HD HN
         have HDD := Lib.hid hdd
         clear hdd
         by_cases he : d = s
         · have hc1 : (d.toList == s.toList) = true := by rw [he]; exact beq_self_eq_true _
           have hc2 : (d.toList != s.toList) = false := by rw [he]; exact bne_self_eq_false _
           have HB := Lib.hid (HN.out.trans (if_pos he))
           clear HN he
           rcases hlt with ⟨ha, hb⟩ | ha
           all_goals
             go_wp2_with (go_at_call 40; refine (HD _).mono ?_; rintro _ w1 ⟨rfl, b1⟩)
             go_ret2
             exact ⟨retNum HB.out, b1⟩
         · have hc1 : (d.toList == s.toList) = false := (Lib.bytes_beq_false_iff _ _).2 he
           have hc2 : (d.toList != s.toList) = true := by unfold bne; rw [hc1]; rfl
           have HB := Lib.hid (HN.out.trans (if_neg he))
           clear HN he
           rcases hlt with ⟨ha, hb⟩ | ha
           all_goals
             go_wp2_with (go_at_call 40; refine (HD _).mono ?_; rintro _ w1 ⟨rfl, b1⟩)
             go_ret2
             exact ⟨retNum HB.out, b1⟩
end Go.Proofs.YtfopelegobhegaaGreatDoor
