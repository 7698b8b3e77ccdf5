/-
 The contract of strconv.Itoa laid at this translation, in plain words, and what it answers of any number. Conditions: the library's table of powers of ten is laid.
-/
import Derived.Shelf.Strconv.Itoa3
import Derived.Shelf.Strconv.ErrVarAll
import Derived.Shelf.Strings.Cut
import Derived.Lib.ConvBytes
import Derived.Laws.BytesArg
import Derived.Laws.Concat
import Derived.Test.YtmhmlhlplfkpaaaGreatDoorSiOp
set_option maxRecDepth 100000
namespace Go.Proofs
open Go.Shelf
def Tryz.laysM171_ren : Go.Shelf.Ren := ⟨fun | 171 => 91 | 243 => 112 | 246 => 137 | 283 => 166 | 284 => 167 | 285 => 168 | 286 => 169 | 129 => 186 | 317 => 185 | 318 => 187 | 319 => 188 | 320 => 189 | 337 => 200 | 338 => 93 | n => n, fun | 3 => 3 | 9 => 9 | 2 => 2 | 4 => 4 | 171 => 191 | 0 => 0 | 53 => 68 | 37 => 53 | 5 => 5 | 173 => 193 | 212 => 205 | 51 => 145 | 20 => 20 | 213 => 206 | 46 => 126 | 232 => 224 | 233 => 154 | n => n, fun | 17 => 2 | 18 => 5 | 19 => 0 | n => n⟩
theorem Tryz.laysM171 : Go.Proofs.LaysM.n171 Tryz.prog Tryz.laysM171_ren := {
 mixed := by kernel_rfl
 f129 := Tryz.func186.trans (congrArg some (by kernel_rfl))
 f171 := Tryz.func91.trans (congrArg some (by kernel_rfl))
 f243 := Tryz.func112.trans (congrArg some (by kernel_rfl))
 f246 := Tryz.func137.trans (congrArg some (by kernel_rfl))
 f283 := Tryz.func166.trans (congrArg some (by kernel_rfl))
 f284 := Tryz.func167.trans (congrArg some (by kernel_rfl))
 f285 := Tryz.func168.trans (congrArg some (by kernel_rfl))
 f286 := Tryz.func169.trans (congrArg some (by kernel_rfl))
 f317 := Tryz.func185.trans (congrArg some (by kernel_rfl))
 f318 := Tryz.func187.trans (congrArg some (by kernel_rfl))
 f319 := Tryz.func188.trans (congrArg some (by kernel_rfl))
 f320 := Tryz.func189.trans (congrArg some (by kernel_rfl))
 f337 := Tryz.func200.trans (congrArg some (by kernel_rfl))
 f338 := Tryz.func93.trans (congrArg some (by kernel_rfl))
 t0 := Tryz.underlying0
 a0 := Tryz.isAgg0
 z0 := Tryz.sizeOf0
 v0 := Tryz.zeroValue0
 t2 := Tryz.underlying2
 a2 := Tryz.isAgg2
 z2 := Tryz.sizeOf2
 v2 := Tryz.zeroValue2
 t3 := Tryz.underlying3
 a3 := Tryz.isAgg3
 z3 := Tryz.sizeOf3
 v3 := Tryz.zeroValue3
 t4 := Tryz.underlying4
 a4 := Tryz.isAgg4
 z4 := Tryz.sizeOf4
 v4 := Tryz.zeroValue4
 t5 := Tryz.underlying5
 a5 := Tryz.isAgg5
 z5 := Tryz.sizeOf5
 v5 := Tryz.zeroValue5
 t9 := Tryz.underlying9
 a9 := Tryz.isAgg9
 z9 := Tryz.sizeOf9
 v9 := Tryz.zeroValue9
 t20 := Tryz.underlying20
 a20 := Tryz.isAgg20
 z20 := Tryz.sizeOf20
 v20 := Tryz.zeroValue20
 t37 := Tryz.underlying53
 a37 := Tryz.isAgg53
 z37 := Tryz.sizeOf53
 v37 := Tryz.zeroValue53
 t46 := Tryz.underlying126
 a46 := Tryz.isAgg126
 z46 := Tryz.sizeOf126
 v46 := Tryz.zeroValue126
 t51 := Tryz.underlying145
 a51 := Tryz.isAgg145
 z51 := Tryz.sizeOf145
 v51 := Tryz.zeroValue145
 t53 := Tryz.underlying68
 a53 := Tryz.isAgg68
 z53 := Tryz.sizeOf68
 v53 := Tryz.zeroValue68
 t171 := Tryz.underlying191
 a171 := Tryz.isAgg191
 z171 := Tryz.sizeOf191
 v171 := Tryz.zeroValue191
 t173 := Tryz.underlying193
 a173 := Tryz.isAgg193
 z173 := Tryz.sizeOf193
 v173 := Tryz.zeroValue193
 t212 := Tryz.underlying205
 a212 := Tryz.isAgg205
 z212 := Tryz.sizeOf205
 v212 := Tryz.zeroValue205
 t213 := Tryz.underlying206
 a213 := Tryz.isAgg206
 z213 := Tryz.sizeOf206
 t232 := Tryz.underlying224
 a232 := Tryz.isAgg224
 z232 := Tryz.sizeOf224
 v232 := Tryz.zeroValue224
 t233 := Tryz.underlying154
 a233 := Tryz.isAgg154
 z233 := Tryz.sizeOf154
 v233 := Tryz.zeroValue154
 g17 := by kernel_rfl
 g18 := by kernel_rfl
 g19 := by kernel_rfl
 i0 := by kernel_rfl
 i2 := by kernel_rfl
 i3 := by kernel_rfl
 i4 := by kernel_rfl
 i5 := by kernel_rfl
 i9 := by kernel_rfl
 i20 := by kernel_rfl
 i37 := by kernel_rfl
 i46 := by kernel_rfl
 i51 := by kernel_rfl
 i53 := by kernel_rfl
 i171 := by kernel_rfl
 i173 := by kernel_rfl
 i212 := by kernel_rfl
 i232 := by kernel_rfl
 i233 := by kernel_rfl
 m17 := by kernel_rfl
 m18 := by kernel_rfl
 m19 := by kernel_rfl }
end Go.Proofs
namespace Go.Proofs.YtmhmlhlplfkpaaaGreatDoor
open Go.RowKit
def Pow (w : World) : Prop := Lib.TabIs Tryz.prog w "internal/strconv.uint64pow10" .u64 Lib.pow10Tab
theorem Pow.below {w w' : World} (h : Pow w) (hb : Below w.heap.size w w') : Pow w' := by
 have hg : Tryz.prog.globalNamed "internal/strconv.uint64pow10" = some 2 := by kernel_rfl
 have h' : World.var? Tryz.prog w "internal/strconv.uint64pow10" = _ := h
 show World.var? Tryz.prog w' "internal/strconv.uint64pow10" = _
 unfold World.var? at h' ⊢
 rw [hg] at h' ⊢
 simp only [Option.bind_some] at h' ⊢
 have hlt : 2 < w.heap.size := by
   rcases Nat.lt_or_ge 2 w.heap.size with h1 | h1
   · exact h1
   · rw [Array.getElem?_eq_none h1] at h'
     cases h'
 rw [hb.block _ hlt]
 exact h'
def itoaB (n : Int) : ByteArray := ⟨(Lib.itoa n).toArray⟩
theorem below_grow (w : World) (k : Nat) (os : Array Obj) : Below w.heap.size w (Go.Sort.grow (w.drewN k) os) :=
 ⟨rfl, rfl, rfl, by simp [Go.Sort.grow, World.drewN], fun j hj => by simp [Go.Sort.grow, World.drewN, Array.getElem?_append, hj]⟩
theorem itoa_full (n : Int) (h0 : -9223372036854775808 ≤ n) (h1 : n ≤ 9223372036854775807) (w : World) (hp : Pow w) :
   Calls Tryz.prog 91 #[.int .i64 n] w fun e w' => e = .returned (.string (itoaB n)) ∧ Below w.heap.size w w' := by
 have H : Calls Tryz.prog 91 #[.int .i64 n] w fun e w' => e = .returned (.string ⟨(Lib.itoa n).toArray⟩) ∧ ∃ k os, w' = Go.Sort.grow (w.drewN k) os := Any.strconv_Itoa Tryz.laysM171 n h0 h1 w hp
 refine H.mono ?_
 rintro _ w' ⟨rfl, k, os, rfl⟩
 exact ⟨rfl, below_grow _ _ _⟩
end Go.Proofs.YtmhmlhlplfkpaaaGreatDoor
namespace Go.Proofs
open Go.Shelf
def Tryz.laysC172_ren : Go.Shelf.Ren := ⟨fun | 172 => 152 | 244 => 173 | 245 => 174 | 247 => 190 | 279 => 191 | 280 => 192 | 281 => 193 | 282 => 194 | 287 => 201 | 316 => 149 | 171 => 91 | 205 => 202 | 321 => 204 | 322 => 205 | 243 => 112 | 246 => 137 | 283 => 166 | 284 => 167 | 285 => 168 | 286 => 169 | 129 => 186 | 317 => 185 | 318 => 187 | 319 => 188 | 320 => 189 | 337 => 200 | 338 => 93 | n => n, fun | 9 => 9 | 3 => 3 | 75 => 59 | 76 => 60 | 4 => 4 | 5 => 5 | 167 => 208 | 37 => 53 | 0 => 0 | 85 => 209 | 2 => 2 | 168 => 211 | 53 => 68 | 175 => 218 | 46 => 126 | 210 => 221 | 127 => 102 | 145 => 228 | 143 => 226 | 21 => 21 | 171 => 191 | 173 => 193 | 212 => 205 | 51 => 145 | 20 => 20 | 213 => 206 | 232 => 224 | 233 => 154 | 80 => 65 | n => n, fun | 15 => 3 | 16 => 4 | 17 => 2 | 18 => 5 | 19 => 0 | n => n⟩
theorem Tryz.laysC172 : Go.Proofs.LaysC.n172 Tryz.prog Tryz.laysC172_ren := {
 mixed := by kernel_rfl
 f129 := Tryz.func186.trans (congrArg some (by kernel_rfl))
 f171 := Tryz.func91.trans (congrArg some (by kernel_rfl))
 f172 := Tryz.func152.trans (congrArg some (by kernel_rfl))
 f205 := Tryz.func202.trans (congrArg some (by kernel_rfl))
 f243 := Tryz.func112.trans (congrArg some (by kernel_rfl))
 f244 := Tryz.func173.trans (congrArg some (by kernel_rfl))
 f245 := Tryz.func174.trans (congrArg some (by kernel_rfl))
 f246 := Tryz.func137.trans (congrArg some (by kernel_rfl))
 f247 := Tryz.func190.trans (congrArg some (by kernel_rfl))
 f279 := Tryz.func191.trans (congrArg some (by kernel_rfl))
 f280 := Tryz.func192.trans (congrArg some (by kernel_rfl))
 f281 := Tryz.func193.trans (congrArg some (by kernel_rfl))
 f282 := Tryz.func194.trans (congrArg some (by kernel_rfl))
 f283 := Tryz.func166.trans (congrArg some (by kernel_rfl))
 f284 := Tryz.func167.trans (congrArg some (by kernel_rfl))
 f285 := Tryz.func168.trans (congrArg some (by kernel_rfl))
 f286 := Tryz.func169.trans (congrArg some (by kernel_rfl))
 f287 := Tryz.func201.trans (congrArg some (by kernel_rfl))
 f316 := Tryz.func149.trans (congrArg some (by kernel_rfl))
 f317 := Tryz.func185.trans (congrArg some (by kernel_rfl))
 f318 := Tryz.func187.trans (congrArg some (by kernel_rfl))
 f319 := Tryz.func188.trans (congrArg some (by kernel_rfl))
 f320 := Tryz.func189.trans (congrArg some (by kernel_rfl))
 f321 := Tryz.func204.trans (congrArg some (by kernel_rfl))
 f322 := Tryz.func205.trans (congrArg some (by kernel_rfl))
 f337 := Tryz.func200.trans (congrArg some (by kernel_rfl))
 f338 := Tryz.func93.trans (congrArg some (by kernel_rfl))
 t0 := Tryz.underlying0
 a0 := Tryz.isAgg0
 z0 := Tryz.sizeOf0
 v0 := Tryz.zeroValue0
 t2 := Tryz.underlying2
 a2 := Tryz.isAgg2
 z2 := Tryz.sizeOf2
 v2 := Tryz.zeroValue2
 t3 := Tryz.underlying3
 a3 := Tryz.isAgg3
 z3 := Tryz.sizeOf3
 v3 := Tryz.zeroValue3
 t4 := Tryz.underlying4
 a4 := Tryz.isAgg4
 z4 := Tryz.sizeOf4
 v4 := Tryz.zeroValue4
 t5 := Tryz.underlying5
 a5 := Tryz.isAgg5
 z5 := Tryz.sizeOf5
 v5 := Tryz.zeroValue5
 t9 := Tryz.underlying9
 a9 := Tryz.isAgg9
 z9 := Tryz.sizeOf9
 v9 := Tryz.zeroValue9
 t20 := Tryz.underlying20
 a20 := Tryz.isAgg20
 z20 := Tryz.sizeOf20
 v20 := Tryz.zeroValue20
 t21 := Tryz.underlying21
 a21 := Tryz.isAgg21
 z21 := Tryz.sizeOf21
 v21 := Tryz.zeroValue21
 t37 := Tryz.underlying53
 a37 := Tryz.isAgg53
 z37 := Tryz.sizeOf53
 v37 := Tryz.zeroValue53
 t46 := Tryz.underlying126
 a46 := Tryz.isAgg126
 z46 := Tryz.sizeOf126
 v46 := Tryz.zeroValue126
 t51 := Tryz.underlying145
 a51 := Tryz.isAgg145
 z51 := Tryz.sizeOf145
 v51 := Tryz.zeroValue145
 t53 := Tryz.underlying68
 a53 := Tryz.isAgg68
 z53 := Tryz.sizeOf68
 v53 := Tryz.zeroValue68
 t75 := Tryz.underlying59
 a75 := Tryz.isAgg59
 z75 := Tryz.sizeOf59
 v75 := Tryz.zeroValue59
 t76 := Tryz.underlying60
 a76 := Tryz.isAgg60
 z76 := Tryz.sizeOf60
 v76 := Tryz.zeroValue60
 t85 := Tryz.underlying209
 a85 := Tryz.isAgg209
 z85 := Tryz.sizeOf209
 v85 := Tryz.zeroValue209
 t127 := Tryz.underlying102
 a127 := Tryz.isAgg102
 z127 := Tryz.sizeOf102
 v127 := Tryz.zeroValue102
 t143 := Tryz.underlying226
 a143 := Tryz.isAgg226
 z143 := Tryz.sizeOf226
 v143 := Tryz.zeroValue226
 t145 := Tryz.underlying228
 a145 := Tryz.isAgg228
 z145 := Tryz.sizeOf228
 v145 := Tryz.zeroValue228
 t167 := Tryz.underlying208
 a167 := Tryz.isAgg208
 z167 := Tryz.sizeOf208
 v167 := Tryz.zeroValue208
 t168 := Tryz.underlying211
 a168 := Tryz.isAgg211
 z168 := Tryz.sizeOf211
 v168 := Tryz.zeroValue211
 t171 := Tryz.underlying191
 a171 := Tryz.isAgg191
 z171 := Tryz.sizeOf191
 v171 := Tryz.zeroValue191
 t173 := Tryz.underlying193
 a173 := Tryz.isAgg193
 z173 := Tryz.sizeOf193
 v173 := Tryz.zeroValue193
 t175 := Tryz.underlying218
 a175 := Tryz.isAgg218
 z175 := Tryz.sizeOf218
 v175 := Tryz.zeroValue218
 t210 := Tryz.underlying221
 a210 := Tryz.isAgg221
 z210 := Tryz.sizeOf221
 v210 := Tryz.zeroValue221
 t212 := Tryz.underlying205
 a212 := Tryz.isAgg205
 z212 := Tryz.sizeOf205
 v212 := Tryz.zeroValue205
 t213 := Tryz.underlying206
 a213 := Tryz.isAgg206
 z213 := Tryz.sizeOf206
 t232 := Tryz.underlying224
 a232 := Tryz.isAgg224
 z232 := Tryz.sizeOf224
 v232 := Tryz.zeroValue224
 t233 := Tryz.underlying154
 a233 := Tryz.isAgg154
 z233 := Tryz.sizeOf154
 v233 := Tryz.zeroValue154
 g15 := by kernel_rfl
 g16 := by kernel_rfl
 g17 := by kernel_rfl
 g18 := by kernel_rfl
 g19 := by kernel_rfl
 t80 := Tryz.underlying65
 a80 := Tryz.isAgg65
 z80 := Tryz.sizeOf65
 v80 := Tryz.zeroValue65
 i0 := by kernel_rfl
 i2 := by kernel_rfl
 i3 := by kernel_rfl
 i4 := by kernel_rfl
 i5 := by kernel_rfl
 i9 := by kernel_rfl
 i20 := by kernel_rfl
 i21 := by kernel_rfl
 i37 := by kernel_rfl
 i46 := by kernel_rfl
 i51 := by kernel_rfl
 i53 := by kernel_rfl
 i75 := by kernel_rfl
 i76 := by kernel_rfl
 i80 := by kernel_rfl
 i85 := by kernel_rfl
 i127 := by kernel_rfl
 i143 := by kernel_rfl
 i145 := by kernel_rfl
 i167 := by kernel_rfl
 i168 := by kernel_rfl
 i171 := by kernel_rfl
 i173 := by kernel_rfl
 i175 := by kernel_rfl
 i210 := by kernel_rfl
 i212 := by kernel_rfl
 i232 := by kernel_rfl
 i233 := by kernel_rfl
 m15 := by kernel_rfl
 m16 := by kernel_rfl
 m17 := by kernel_rfl
 m18 := by kernel_rfl
 m19 := by kernel_rfl
 c0 := by kernel_rfl
 c2 := by kernel_rfl
 c3 := by kernel_rfl
 c4 := by kernel_rfl
 c5 := by kernel_rfl
 c9 := by kernel_rfl
 c20 := by kernel_rfl
 c21 := by kernel_rfl
 c37 := by kernel_rfl
 c46 := by kernel_rfl
 c51 := by kernel_rfl
 c53 := by kernel_rfl
 c75 := by kernel_rfl
 c76 := by kernel_rfl
 c80 := by kernel_rfl
 c85 := by kernel_rfl
 c127 := by kernel_rfl
 c143 := by kernel_rfl
 c145 := by kernel_rfl
 c167 := by kernel_rfl
 c168 := by kernel_rfl
 c171 := by kernel_rfl
 c173 := by kernel_rfl
 c175 := by kernel_rfl
 c210 := by kernel_rfl
 c212 := by kernel_rfl
 c213 := by kernel_rfl
 c232 := by kernel_rfl
 c233 := by kernel_rfl }
def Tryz.lays145_ren : Go.Shelf.Ren := ⟨fun | 145 => 153 | 220 => 175 | 219 => 195 | 217 => 146 | 225 => 121 | 224 => 120 | 267 => 203 | 266 => 171 | 314 => 206 | n => n, fun | 9 => 9 | 4 => 4 | 59 => 111 | 3 => 3 | 5 => 5 | 46 => 126 | 146 => 146 | 51 => 145 | n => n, fun | 1 => 1 | n => n⟩
theorem Tryz.lays145 : Go.Proofs.Lays.n145 Tryz.prog Tryz.lays145_ren := {
 mixed := by kernel_rfl
 f145 := Tryz.func153.trans (congrArg some (by kernel_rfl))
 f217 := Tryz.func146.trans (congrArg some (by kernel_rfl))
 f219 := Tryz.func195.trans (congrArg some (by kernel_rfl))
 f220 := Tryz.func175.trans (congrArg some (by kernel_rfl))
 f224 := Tryz.func120.trans (congrArg some (by kernel_rfl))
 f225 := Tryz.func121.trans (congrArg some (by kernel_rfl))
 f266 := Tryz.func171.trans (congrArg some (by kernel_rfl))
 f267 := Tryz.func203.trans (congrArg some (by kernel_rfl))
 f314 := Tryz.func206.trans (congrArg some (by kernel_rfl))
 t3 := Tryz.underlying3
 a3 := Tryz.isAgg3
 z3 := Tryz.sizeOf3
 v3 := Tryz.zeroValue3
 t4 := Tryz.underlying4
 a4 := Tryz.isAgg4
 z4 := Tryz.sizeOf4
 v4 := Tryz.zeroValue4
 t5 := Tryz.underlying5
 a5 := Tryz.isAgg5
 z5 := Tryz.sizeOf5
 v5 := Tryz.zeroValue5
 t9 := Tryz.underlying9
 a9 := Tryz.isAgg9
 z9 := Tryz.sizeOf9
 v9 := Tryz.zeroValue9
 t46 := Tryz.underlying126
 a46 := Tryz.isAgg126
 z46 := Tryz.sizeOf126
 v46 := Tryz.zeroValue126
 t51 := Tryz.underlying145
 a51 := Tryz.isAgg145
 z51 := Tryz.sizeOf145
 v51 := Tryz.zeroValue145
 t59 := Tryz.underlying111
 a59 := Tryz.isAgg111
 z59 := Tryz.sizeOf111
 v59 := Tryz.zeroValue111
 t146 := Tryz.underlying146
 a146 := Tryz.isAgg146
 z146 := Tryz.sizeOf146
 v146 := Tryz.zeroValue146
 g1 := by kernel_rfl }
end Go.Proofs
namespace Go.Proofs.YtmhmlhlplfkpaaaGreatDoor
open Go.RowKit
structure Glob (w : World) : Prop where
 pow : Pow w
 syn : ∃ tp p, w.var? Tryz.prog "strconv.ErrSyntax" = some #[.iface tp p]
 ran : ∃ tp p, w.var? Tryz.prog "strconv.ErrRange" = some #[.iface tp p]
 max : ∃ m, w.cell? ⟨1, 0, none⟩ = some (.int .i64 m)
theorem var_below {w w' : World} {n : String} {g : Nat} {x : Array Value} (hg : Tryz.prog.globalNamed n = some g) (h : w.var? Tryz.prog n = some x) (hb : Below w.heap.size w w') : w'.var? Tryz.prog n = some x := by
 unfold World.var? at h ⊢
 rw [hg] at h ⊢
 simp only [Option.bind_some] at h ⊢
 have hlt : g < w.heap.size := by
   rcases Nat.lt_or_ge g w.heap.size with h1 | h1
   · exact h1
   · rw [Array.getElem?_eq_none h1] at h
     cases h
 rw [hb.block _ hlt]
 exact h
theorem Glob.below {w w' : World} (h : Glob w) (hb : Below w.heap.size w w') : Glob w' := by
 obtain ⟨h1, ⟨t, p, h2⟩, ⟨t', p', h3⟩, ⟨m, h4⟩⟩ := h
 exact ⟨h1.below hb, ⟨t, p, var_below (g := 3) (by kernel_rfl) h2 hb⟩, ⟨t', p', var_below (g := 4) (by kernel_rfl) h3 hb⟩, ⟨m, (hb.cell (World.block_lt_of_cell? w ⟨_, 0, none⟩ h4)).trans h4⟩⟩
def AtP (s : ByteArray) (w : World) (e : Ending) (w' : World) : Prop :=
 ((∃ v, Lib.atoiAll s.data.toList = .ok v ∧ e = .returned (.tuple #[.int .i64 v, .nilIface])) ∨ ∃ (x : Int) (t : TypeId) (p : Value), (∀ v, Lib.atoiAll s.data.toList ≠ .ok v) ∧ e = .returned (.tuple #[.int .i64 x, .iface t p])) ∧ Below w.heap.size w w'
theorem atoi_any (s : ByteArray) (hs : s.size ≤ 281474976710656) (w : World) (h : Glob w) : Calls Tryz.prog 152 #[.string s] w (AtP s w) := by
 obtain ⟨_, ⟨t, p, h2⟩, ⟨t', p', h3⟩, _⟩ := h
 cases ha : Lib.atoiAll s.data.toList
 · rename_i v
   refine (Any.strconv_Atoi_ok Tryz.laysC172 s (by omega) v ha w).mono ?_
   rintro e w' ⟨rfl, hw⟩
   refine ⟨.inl ⟨v, ha, rfl⟩, ?_⟩
   rcases hw with rfl | ⟨x, rfl⟩
   · exact Below.refl _ _
   · exact Lib.bytesWorld_below w _ x
 · refine (Any.strconv_Atoi_syntax_var Tryz.laysC172 s hs ha t p w h2).mono ?_
   rintro e w' ⟨N, rfl, _, _, hb⟩
   exact ⟨.inr ⟨_, _, _, fun v hv => (nomatch ha.symm.trans hv), rfl⟩, hb⟩
 · refine (Any.strconv_Atoi_range_var Tryz.laysC172 s hs ha t' p' w h3).mono ?_
   rintro e w' ⟨N, rfl, _, _, hb⟩
   exact ⟨.inr ⟨_, _, _, fun v hv => (nomatch ha.symm.trans hv), rfl⟩, hb⟩
theorem strcut_any (s : ByteArray) (hs : s.size < 4294967281) (w : World) (h : Glob w) : Calls Tryz.prog 153 #[.string s, .string ⟨#[32]⟩] w fun e w' => e = .returned (.tuple #[.string (In.head s), .string (In.tail s), .bool (In.more s)]) ∧ Below w.heap.size w w' := by
 obtain ⟨_, _, _, ⟨m, h4⟩⟩ := h
 obtain ⟨e1, e2, e3⟩ := In.cut_blank s
 have H := Any.strings_Cut Tryz.lays145 s ⟨#[32]⟩ m w hs h4
 rw [show (⟨#[32]⟩ : ByteArray).data.toList = [32] from rfl, e1, e2, e3] at H
 refine Calls.mono H ?_
 rintro e w' ⟨rfl, n, rfl⟩
 exact ⟨rfl, rfl, rfl, rfl, Nat.le_refl _, fun _ _ => rfl⟩
end Go.Proofs.YtmhmlhlplfkpaaaGreatDoor
namespace Go.Proofs.YtmhmlhlplfkpaaaGreatDoor
open Go.RowKit
theorem txt_size (n : Int) (h0 : -9223372036854775808 ≤ n) (h1 : n ≤ 9223372036854775807) : (In.txt n).size ≤ 21 := by
 rw [Lib.size_eq]
 have := Lib.itoa_length_le n h0 h1
 simpa [In.txt] using this
theorem retStr {a b : ByteArray} (h : a = b) : Ending.returned (.string a) = .returned (.string b) := by rw [h]
def decB (u : Nat) : ByteArray := ⟨(Lib.decDigits u).toArray⟩
theorem decB_of (x : ByteArray) (u : Nat) (h : x.data.toList = Lib.decDigits u) : x = decB u := by
 unfold decB
 rw [← h]
theorem decB_big {u : Nat} (h : ¬ u < 10) : decB (u / 10) ++ decB (u % 10) = decB u := by
 apply decB_of
 rw [In.dec_big h]
 simp only [decB, Lib.decDigits_one (show u % 10 < 10 by omega)]
 simp
theorem decB_list (u : Nat) : (decB u).data.toList = Lib.decDigits u := by simp [decB]
theorem decB_size (u : Nat) (h : u < 18446744073709551616) : (decB u).size ≤ 21 := by
 rw [Lib.size_eq, decB_list]
 by_cases hs : u ≤ 9223372036854775807
 · have := Lib.itoa_length_le (u : Int) (by omega) (by omega)
   unfold Lib.itoa at this
   rw [if_neg (by omega)] at this
   simpa using this
 · have hb : ¬ u < 10 := by omega
   rw [In.dec_big hb, List.length_append]
   have := Lib.itoa_length_le ((u / 10 : Nat) : Int) (by omega) (by omega)
   unfold Lib.itoa at this
   rw [if_neg (by omega)] at this
   have e : (((u / 10 : Nat) : Int)).toNat = u / 10 := by omega
   rw [e] at this
   have : (Lib.decDigits (u / 10)).length ≤ 20 := by
     rw [Lib.decDigits_length]
     have h1 : 10 ^ 20 ≥ 18446744073709551616 := by decide
     rcases Nat.lt_or_ge 20 (Lib.nDigits (u / 10)) with h2 | h2
     · exfalso
       have h3 := Lib.lt_pow_nDigits (u / 10)
       have h4 : ∀ k v : Nat, v < 10 ^ (k + 1) → Lib.nDigits v ≤ k + 1 := by
         intro k
         induction k with
         | zero => intro v hv; rw [Lib.nDigits_small (by simpa using hv)]; omega
         | succ k ih =>
           intro v hv
           by_cases hv10 : v < 10
           · rw [Lib.nDigits_small hv10]; omega
           · rw [Lib.nDigits_big hv10]
             have := ih (v / 10) (by rw [Nat.pow_succ] at hv; omega)
             omega
       have := h4 19 (u / 10) (by omega)
       omega
     · omega
   simp
   omega
theorem conv_dig (i : Nat) (h : i < 10) (w : World) : (convert 53 9 (.slice (some ⟨w.heap.size, 0, none⟩) 1 1)).run Tryz.prog (w.alloc (.cells #[.int .u8 (48 + (i : Int))] 5)) = .ok (.string (decB i)) (w.alloc (.cells #[.int .u8 (48 + (i : Int))] 5)) := by
 have hb : (w.alloc (.cells #[.int .u8 (48 + (i : Int))] 5)).heap[w.heap.size]? = some (.cells #[.int .u8 (48 + (i : Int))] 5 (0, 0)) := heap_alloc_new w _
 have h0 := run_convert_bytes_arg (P := Tryz.prog) (w.alloc (.cells #[.int .u8 (48 + (i : Int))] 5)) 53 5 Tryz.underlying53 Tryz.underlying5 w.heap.size 0 1 1 [48 + (i : Int)] rfl (fun j hj => by
   obtain rfl : j = 0 := by omega
   exact cell_of_row _ _ 0 _ _ _ hb) 9 Tryz.underlying9
 have e0 : strOfNums [48 + (i : Int)] = decB i := by
   apply decB_of
   rw [Lib.decDigits_one h]
   have e : ((48 : Int) + (i : Int)).toNat = 48 + i := by omega
   simp [strOfNums, e]
 rw [e0] at h0
 exact h0
set_option maxHeartbeats 1000000 in
theorem dig_any (i : Nat) (h : i < 10) (w : World) :
   Calls Tryz.prog 62 #[.int .i64 (i : Int)] w fun e w' => e = .returned (.string (decB i)) ∧ Below w.heap.size w w' := by
 have hcv := conv_dig i h w
 go_enter Tryz.func62, Tryz.ntmps62
 go_wp2
 go_ret
 exact ⟨rfl, (Below.refl _ _).alloc (Nat.le_refl _) _⟩
set_option maxHeartbeats 1000000 in
theorem decs_any (u : Nat) : ∀ (w : World), u ≤ 9223372036854775807 →
   Calls Tryz.prog 62 #[.int .i64 (u : Int)] w fun e w' => e = .returned (.string (decB u)) ∧ Below w.heap.size w w' := by
 induction u using Nat.strongRecOn with
 | ind u ih =>
   intro w hu
   by_cases h10 : u < 10
   · exact dig_any u h10 w
   have HA := ih (u / 10) (by omega) w (by omega)
   have HB := Lib.hid (fun W => dig_any (u % 10) (by omega) W)
   rw [show ((u / 10 : Nat) : Int) = (u : Int) / 10 by omega] at HA
   rw [show ((u % 10 : Nat) : Int) = (u : Int) % 10 by omega] at HB
   have HD : Hid (decB (u / 10) ++ decB (u % 10) = decB u) := Lib.hid (decB_big h10)
   have hs1 : (decB (u / 10)).size ≤ 21 := decB_size _ (by omega)
   have hs2 : (decB (u % 10)).size ≤ 21 := decB_size _ (by omega)
   clear ih
   generalize decB (u / 10) = x at *
   generalize decB (u % 10) = y at *
   go_enter Tryz.func62, Tryz.ntmps62
   go_wp2_with (first
     | (go_at_call 62; with_reducible refine HA.mono ?_; rintro _ w1 ⟨rfl, b1⟩; clear HA)
     | (go_at_call 62; refine (HB.out w1).mono ?_; rintro _ w2 ⟨rfl, b2⟩))
   go_ret
   exact ⟨retStr HD.out, b1.trans (b2.mono b1.size)⟩
theorem txt_pos {n : Int} (h : 0 ≤ n) : In.txt n = decB n.toNat := by
 unfold In.txt Lib.itoa decB
 rw [if_neg (by omega)]
theorem txt_neg {n : Int} (h : n < 0) : In.txt n = ⟨#[45]⟩ ++ decB n.natAbs := by
 apply In.list_ext
 unfold In.txt Lib.itoa decB
 rw [if_pos h]
 simp
set_option maxHeartbeats 1000000 in
theorem rdigits_any (n : Int) (h0 : -9223372036854775808 ≤ n) (h1 : n ≤ 9223372036854775807) (w : World) :
   Calls Tryz.prog 33 #[.int .i64 n] w fun e w' => e = .returned (.string (In.txt n)) ∧ Below w.heap.size w w' := by
 by_cases hn : 0 ≤ n
 · obtain ⟨u, rfl⟩ := Int.eq_ofNat_of_zero_le hn
   rw [txt_pos hn]
   have H := decs_any u w (by omega)
   simp only [Int.toNat_natCast]
   have hge : decide (0 ≤ (u : Int)) = true := decide_eq_true hn
   go_enter Tryz.func33, Tryz.ntmps33
   go_wp2_with (go_at_call 62; refine H.mono ?_; rintro _ w1 ⟨rfl, b1⟩)
   go_ret
   exact ⟨rfl, b1⟩
 · obtain ⟨u, hu⟩ : ∃ u : Nat, n = -(u : Int) := ⟨n.natAbs, by omega⟩
   have hge : decide (0 ≤ n) = false := decide_eq_false hn
   have hq : n.tdiv 10 = -((u / 10 : Nat) : Int) := by subst hu; rw [Int.neg_tdiv]; rfl
   have hr : n.tmod 10 = -((u % 10 : Nat) : Int) := by subst hu; rw [Int.neg_tmod]; rfl
   rw [txt_neg (by omega), show n.natAbs = u by omega]
   by_cases h10 : u < 10
   · have H := decs_any u w (by omega)
     have hz : n.tdiv 10 = 0 := by rw [hq]; omega
     have hs1 : (decB u).size ≤ 21 := decB_size _ (by omega)
     have hneg : wrap64 (-n) = (u : Int) := by unfold wrap64; omega
     have HX := Lib.hid (And.intro hq (And.intro hr (And.intro h0 hu)))
     clear hq hr h0 hu
     generalize decB u = x at *
     go_enter Tryz.func33, Tryz.ntmps33
     go_wp2_with (go_at_call 62; refine H.mono ?_; rintro _ w1 ⟨rfl, b1⟩)
     go_ret
     exact ⟨rfl, b1⟩
   · have HA := decs_any (u / 10) w (by omega)
     have HB := Lib.hid (fun W => decs_any (u % 10) W (by omega))
     have HD : Hid (decB (u / 10) ++ decB (u % 10) = decB u) := Lib.hid (decB_big h10)
     have hs1 : (decB (u / 10)).size ≤ 21 := decB_size _ (by omega)
     have hs2 : (decB (u % 10)).size ≤ 21 := decB_size _ (by omega)
     generalize decB (u / 10) = x at *
     generalize decB (u % 10) = y at *
     have hz : (wrap64 (n.tdiv 10) == 0) = false := by rw [hq, beq_eq_false_iff_ne]; unfold wrap64; omega
     have hneg1 : wrap64 (-(wrap64 (n.tdiv 10))) = (u : Int) / 10 := by rw [hq]; unfold wrap64; omega
     have hneg2 : wrap64 (-(n.tmod 10)) = (u : Int) % 10 := by rw [hr]; unfold wrap64; omega
     rw [show ((u / 10 : Nat) : Int) = (u : Int) / 10 by omega] at HA
     rw [show ((u % 10 : Nat) : Int) = (u : Int) % 10 by omega] at HB
     have HX := Lib.hid (And.intro hq (And.intro hr (And.intro h0 hu)))
     clear hq hr h0 hu
     go_enter Tryz.func33, Tryz.ntmps33
     go_wp2_with (first
       | (go_at_call 62; with_reducible refine HA.mono ?_; rintro _ w1 ⟨rfl, b1⟩; clear HA)
       | (go_at_call 62; refine (HB.out w1).mono ?_; rintro _ w2 ⟨rfl, b2⟩))
     go_ret
     exact ⟨retStr (by rw [← HD.out]; apply In.list_ext; simp), b1.trans (b2.mono b1.size)⟩
theorem indigits_pow (n : Int) (h0 : -9223372036854775808 ≤ n) (h1 : n ≤ 9223372036854775807) (w : World) (h : Pow w) :
   Calls Tryz.prog 57 #[.int .i64 n] w fun e w' => e = .returned (.string (In.txt n)) ∧ Below w.heap.size w w' := by
 have H : Calls Tryz.prog 91 #[.int .i64 n] w fun e w' => e = .returned (.string (In.txt n)) ∧ Below w.heap.size w w' := itoa_full n h0 h1 w h
 clear h h0 h1
 go_enter Tryz.func57, Tryz.ntmps57
 go_wp2_with (go_at_call 91; refine H.mono ?_; rintro _ w1 ⟨rfl, b1⟩)
 go_ret
 exact ⟨rfl, b1⟩
end Go.Proofs.YtmhmlhlplfkpaaaGreatDoor
namespace Go.Proofs.YtmhmlhlplfkpaaaGreatDoor
open Go.RowKit
theorem indigits_any (n : Int) (h0 : -9223372036854775808 ≤ n) (h1 : n ≤ 9223372036854775807) (w : World) (h : Glob w) :
   Calls Tryz.prog 57 #[.int .i64 n] w fun e w' => e = .returned (.string (In.txt n)) ∧ Below w.heap.size w w' := indigits_pow n h0 h1 w h.pow
end Go.Proofs.YtmhmlhlplfkpaaaGreatDoor
namespace Go.Proofs.YtmhmlhlplfkpaaaGreatDoor
open Go.RowKit
theorem retNum {s : ByteArray} {a b : Int} {e : Nat} (h : In.num s = (a, e)) (hb : b = (e : Int) := by rfl) : Ending.returned (.tuple #[.int .i64 a, .int .i64 b]) = .returned (.tuple #[.int .i64 (In.num s).1, .int .i64 ((In.num s).2 : Int)]) := by rw [h, hb]
def NumP (s : ByteArray) (w : World) (e : Ending) (w' : World) : Prop := e = .returned (.tuple #[.int .i64 (In.num s).1, .int .i64 ((In.num s).2 : Int)]) ∧ Below w.heap.size w w'
theorem num_of_ok {s : ByteArray} {v : Int} (h : Lib.atoiAll s.data.toList = .ok v) : In.num s = if In.txt v = s then (v, 0) else (0, 5) := by
 unfold In.num
 rw [h]
theorem num_of_err {s : ByteArray} (h : ∀ v, Lib.atoiAll s.data.toList ≠ .ok v) : In.num s = (0, 5) := by
 unfold In.num
 split
 · rename_i v hv; exact absurd hv (h v)
 · rfl
set_option maxHeartbeats 1000000 in
theorem innumber_any (s : ByteArray) (hs : s.size ≤ 281474976710656) (w : World) (h : Glob w) : Calls Tryz.prog 126 #[.string s] w (NumP s w) := by
 have HA := atoi_any s hs w h
 have HGl := Lib.hid h
 clear h hs
 go_enter Tryz.func126, Tryz.ntmps126
 go_wp2_with fail
 refine HA.mono ?_
 rintro _ w1 ⟨⟨v, hv, rfl⟩ | ⟨x, t, p, hv, rfl⟩, b1⟩
 · have hb := Lib.atoiAll_bounds hv
   have HD := fun W hW => indigits_any v hb.1 hb.2 W hW
   have HN := Lib.hid (num_of_ok hv)
   have HG1 := Lib.hid (HGl.out.below b1)
   clear hv hb HA
   generalize hdd : In.txt v = d at HD HN
   have HDD := Lib.hid hdd
   clear hdd
   by_cases he : d = s
   · have hc1 : (d.toList == s.toList) = true := by rw [he]; exact beq_self_eq_true _
     have hc2 : (d.toList != s.toList) = false := by rw [he]; exact bne_self_eq_false _
     have HB := Lib.hid (HN.out.trans (if_pos he))
     clear HN he
     go_wp2_with (go_at_call 57; refine (HD _ HG1.out).mono ?_; rintro _ w2 ⟨rfl, b2⟩)
     go_ret2
     exact ⟨retNum HB.out, below_self b1 b2⟩
   · have hc1 : (d.toList == s.toList) = false := (Lib.bytes_beq_false_iff _ _).2 he
     have hc2 : (d.toList != s.toList) = true := by unfold bne; rw [hc1]; rfl
     have HB := Lib.hid (HN.out.trans (if_neg he))
     clear HN he
     go_wp2_with (go_at_call 57; refine (HD _ HG1.out).mono ?_; rintro _ w2 ⟨rfl, b2⟩)
     go_ret2
     exact ⟨retNum HB.out, below_self b1 b2⟩
 · have HB := Lib.hid (num_of_err hv)
   clear hv HA
   go_wp2
   go_ret2
   exact ⟨retNum HB.out, b1⟩
end Go.Proofs.YtmhmlhlplfkpaaaGreatDoor
