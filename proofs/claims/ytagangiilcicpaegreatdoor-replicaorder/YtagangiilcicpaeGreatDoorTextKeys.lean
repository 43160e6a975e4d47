/-
  The library's functions that the program calls are those whose contracts are known.
  The three ways of cutting a text at a text, told of both cuts at once.
  The library's Split and Join are the cuts and the joins of a deed's text.
  The library's functions that a deed's text is made and read by, and what the program and the document make of a number and of a register.
  An instruction in a block of its own: its five places, kept, and turned one by one.
  The program's way from an instruction's words to the instruction.
  The program's way from a part of a text to keys, and to an instruction.
-/
import Derived.Shelf.Small.Wraps
import Derived.Shelf.Strings.Split
import Derived.Shelf.LaysM
import Derived.Shelf.LaysC
import Derived.Shelf.Strconv.Itoa3
import Derived.Shelf.Strconv.AtoiAll
import Derived.Shelf.Strconv.ErrVarAll
import Derived.Shelf.Strings.OnBuilder
import Derived.Test.YtagangiilcicpaeGreatDoorProg
import Derived.Test.YtagangiilcicpaeGreatDoorTextBack
import Derived.Lib.SplitLaws
import Derived.Lib.Join
import Derived.Test.YtagangiilcicpaeGreatDoorDoMath
import Derived.Test.YtagangiilcicpaeGreatDoorEndsAt
import Derived.Lib.AppendIntMem
import Derived.Lib.AtoiErrMem
import Derived.BigQuiet
namespace Go.Proofs.YtagangiilcicpaeGreatDoor
open Go.Shelf
def lays103_ren : Go.Shelf.Ren := ⟨fun | 103 => 188 | 210 => 208 | 206 => 218 | n => n, fun | 9 => 9 | 4 => 4 | 24 => 224 | 3 => 3 | n => n, fun | n => n⟩
theorem lays103 : Go.Proofs.Lays.n103 Tryz.prog lays103_ren := {
  mixed := by kernel_rfl
  f103 := Tryz.func188.trans (congrArg some (by kernel_rfl))
  f206 := Tryz.func218.trans (congrArg some (by kernel_rfl))
  f210 := Tryz.func208.trans (congrArg some (by kernel_rfl))
  t3 := Tryz.underlying3
  a3 := Tryz.isAgg3
  z3 := Tryz.sizeOf3
  v3 := Tryz.zeroValue3
  t4 := Tryz.underlying4
  a4 := Tryz.isAgg4
  z4 := Tryz.sizeOf4
  v4 := Tryz.zeroValue4
  t9 := Tryz.underlying9
  a9 := Tryz.isAgg9
  z9 := Tryz.sizeOf9
  v9 := Tryz.zeroValue9
  t24 := Tryz.underlying224
  a24 := Tryz.isAgg224
  z24 := Tryz.sizeOf224
  v24 := Tryz.zeroValue224 }
def lays146_ren : Go.Shelf.Ren := ⟨fun | 146 => 96 | 221 => 120 | 268 => 143 | 138 => 144 | 143 => 145 | 195 => 170 | 197 => 171 | 218 => 172 | 219 => 119 | 260 => 187 | 217 => 139 | 225 => 140 | 224 => 141 | 267 => 142 | 266 => 168 | 314 => 169 | n => n, fun | 9 => 9 | 31 => 56 | 3 => 3 | 4 => 4 | 0 => 0 | 105 => 207 | 21 => 21 | 5 => 5 | 46 => 93 | 119 => 243 | 139 => 246 | 138 => 245 | 146 => 205 | 51 => 204 | n => n, fun | 1 => 1 | 3 => 5 | 4 => 6 | n => n⟩
theorem lays146 : Go.Proofs.Lays.n146 Tryz.prog lays146_ren := {
  mixed := by kernel_rfl
  f138 := Tryz.func144.trans (congrArg some (by kernel_rfl))
  f143 := Tryz.func145.trans (congrArg some (by kernel_rfl))
  f146 := Tryz.func96.trans (congrArg some (by kernel_rfl))
  f195 := Tryz.func170.trans (congrArg some (by kernel_rfl))
  f197 := Tryz.func171.trans (congrArg some (by kernel_rfl))
  f217 := Tryz.func139.trans (congrArg some (by kernel_rfl))
  f218 := Tryz.func172.trans (congrArg some (by kernel_rfl))
  f219 := Tryz.func119.trans (congrArg some (by kernel_rfl))
  f221 := Tryz.func120.trans (congrArg some (by kernel_rfl))
  f224 := Tryz.func141.trans (congrArg some (by kernel_rfl))
  f225 := Tryz.func140.trans (congrArg some (by kernel_rfl))
  f260 := Tryz.func187.trans (congrArg some (by kernel_rfl))
  f266 := Tryz.func168.trans (congrArg some (by kernel_rfl))
  f267 := Tryz.func142.trans (congrArg some (by kernel_rfl))
  f268 := Tryz.func143.trans (congrArg some (by kernel_rfl))
  f314 := Tryz.func169.trans (congrArg some (by kernel_rfl))
  t0 := Tryz.underlying0
  a0 := Tryz.isAgg0
  z0 := Tryz.sizeOf0
  v0 := Tryz.zeroValue0
  t3 := Tryz.underlying3
  a3 := Tryz.isAgg3
  z3 := Tryz.sizeOf3
  v3 := Tryz.zeroValue3
  t4 := Tryz.underlying4
  a4 := Tryz.isAgg4
  z4 := Tryz.sizeOf4
  v4 := Tryz.zeroValue4
  t5 := Tryz.underlying5
  a5 := Tryz.isAgg5
  z5 := Tryz.sizeOf5
  v5 := Tryz.zeroValue5
  t9 := Tryz.underlying9
  a9 := Tryz.isAgg9
  z9 := Tryz.sizeOf9
  v9 := Tryz.zeroValue9
  t21 := Tryz.underlying21
  a21 := Tryz.isAgg21
  z21 := Tryz.sizeOf21
  v21 := Tryz.zeroValue21
  t31 := Tryz.underlying56
  a31 := Tryz.isAgg56
  z31 := Tryz.sizeOf56
  v31 := Tryz.zeroValue56
  t46 := Tryz.underlying93
  a46 := Tryz.isAgg93
  z46 := Tryz.sizeOf93
  v46 := Tryz.zeroValue93
  t51 := Tryz.underlying204
  a51 := Tryz.isAgg204
  z51 := Tryz.sizeOf204
  v51 := Tryz.zeroValue204
  t105 := Tryz.underlying207
  a105 := Tryz.isAgg207
  z105 := Tryz.sizeOf207
  v105 := Tryz.zeroValue207
  t119 := Tryz.underlying243
  a119 := Tryz.isAgg243
  z119 := Tryz.sizeOf243
  t138 := Tryz.underlying245
  a138 := Tryz.isAgg245
  z138 := Tryz.sizeOf245
  v138 := Tryz.zeroValue245
  t139 := Tryz.underlying246
  a139 := Tryz.isAgg246
  z139 := Tryz.sizeOf246
  v139 := Tryz.zeroValue246
  t146 := Tryz.underlying205
  a146 := Tryz.isAgg205
  z146 := Tryz.sizeOf205
  v146 := Tryz.zeroValue205
  g1 := by kernel_rfl
  g3 := by kernel_rfl
  g4 := by kernel_rfl }
def laysM171_ren : Go.Shelf.Ren := ⟨fun | 171 => 98 | 243 => 123 | 246 => 147 | 283 => 175 | 284 => 176 | 285 => 177 | 286 => 178 | 129 => 190 | 317 => 189 | 318 => 191 | 319 => 192 | 320 => 193 | 337 => 209 | 338 => 210 | n => n, fun | 3 => 3 | 9 => 9 | 2 => 2 | 4 => 4 | 171 => 209 | 0 => 0 | 53 => 210 | 37 => 25 | 5 => 5 | 173 => 213 | 212 => 227 | 51 => 204 | 20 => 20 | 213 => 228 | 46 => 93 | 232 => 253 | 233 => 254 | n => n, fun | 17 => 4 | 18 => 7 | 19 => 8 | n => n⟩
theorem laysM171 : Go.Proofs.LaysM.n171 Tryz.prog laysM171_ren := {
  mixed := by kernel_rfl
  f129 := Tryz.func190.trans (congrArg some (by kernel_rfl))
  f171 := Tryz.func98.trans (congrArg some (by kernel_rfl))
  f243 := Tryz.func123.trans (congrArg some (by kernel_rfl))
  f246 := Tryz.func147.trans (congrArg some (by kernel_rfl))
  f283 := Tryz.func175.trans (congrArg some (by kernel_rfl))
  f284 := Tryz.func176.trans (congrArg some (by kernel_rfl))
  f285 := Tryz.func177.trans (congrArg some (by kernel_rfl))
  f286 := Tryz.func178.trans (congrArg some (by kernel_rfl))
  f317 := Tryz.func189.trans (congrArg some (by kernel_rfl))
  f318 := Tryz.func191.trans (congrArg some (by kernel_rfl))
  f319 := Tryz.func192.trans (congrArg some (by kernel_rfl))
  f320 := Tryz.func193.trans (congrArg some (by kernel_rfl))
  f337 := Tryz.func209.trans (congrArg some (by kernel_rfl))
  f338 := Tryz.func210.trans (congrArg some (by kernel_rfl))
  t0 := Tryz.underlying0
  a0 := Tryz.isAgg0
  z0 := Tryz.sizeOf0
  v0 := Tryz.zeroValue0
  t2 := Tryz.underlying2
  a2 := Tryz.isAgg2
  z2 := Tryz.sizeOf2
  v2 := Tryz.zeroValue2
  t3 := Tryz.underlying3
  a3 := Tryz.isAgg3
  z3 := Tryz.sizeOf3
  v3 := Tryz.zeroValue3
  t4 := Tryz.underlying4
  a4 := Tryz.isAgg4
  z4 := Tryz.sizeOf4
  v4 := Tryz.zeroValue4
  t5 := Tryz.underlying5
  a5 := Tryz.isAgg5
  z5 := Tryz.sizeOf5
  v5 := Tryz.zeroValue5
  t9 := Tryz.underlying9
  a9 := Tryz.isAgg9
  z9 := Tryz.sizeOf9
  v9 := Tryz.zeroValue9
  t20 := Tryz.underlying20
  a20 := Tryz.isAgg20
  z20 := Tryz.sizeOf20
  v20 := Tryz.zeroValue20
  t37 := Tryz.underlying25
  a37 := Tryz.isAgg25
  z37 := Tryz.sizeOf25
  v37 := Tryz.zeroValue25
  t46 := Tryz.underlying93
  a46 := Tryz.isAgg93
  z46 := Tryz.sizeOf93
  v46 := Tryz.zeroValue93
  t51 := Tryz.underlying204
  a51 := Tryz.isAgg204
  z51 := Tryz.sizeOf204
  v51 := Tryz.zeroValue204
  t53 := Tryz.underlying210
  a53 := Tryz.isAgg210
  z53 := Tryz.sizeOf210
  v53 := Tryz.zeroValue210
  t171 := Tryz.underlying209
  a171 := Tryz.isAgg209
  z171 := Tryz.sizeOf209
  v171 := Tryz.zeroValue209
  t173 := Tryz.underlying213
  a173 := Tryz.isAgg213
  z173 := Tryz.sizeOf213
  v173 := Tryz.zeroValue213
  t212 := Tryz.underlying227
  a212 := Tryz.isAgg227
  z212 := Tryz.sizeOf227
  v212 := Tryz.zeroValue227
  t213 := Tryz.underlying228
  a213 := Tryz.isAgg228
  z213 := Tryz.sizeOf228
  t232 := Tryz.underlying253
  a232 := Tryz.isAgg253
  z232 := Tryz.sizeOf253
  v232 := Tryz.zeroValue253
  t233 := Tryz.underlying254
  a233 := Tryz.isAgg254
  z233 := Tryz.sizeOf254
  v233 := Tryz.zeroValue254
  g17 := by kernel_rfl
  g18 := by kernel_rfl
  g19 := by kernel_rfl
  i0 := by kernel_rfl
  i2 := by kernel_rfl
  i3 := by kernel_rfl
  i4 := by kernel_rfl
  i5 := by kernel_rfl
  i9 := by kernel_rfl
  i20 := by kernel_rfl
  i37 := by kernel_rfl
  i46 := by kernel_rfl
  i51 := by kernel_rfl
  i53 := by kernel_rfl
  i171 := by kernel_rfl
  i173 := by kernel_rfl
  i212 := by kernel_rfl
  i232 := by kernel_rfl
  i233 := by kernel_rfl
  m17 := by kernel_rfl
  m18 := by kernel_rfl
  m19 := by kernel_rfl }
def laysC172_ren : Go.Shelf.Ren := ⟨fun | 172 => 118 | 244 => 137 | 245 => 138 | 247 => 163 | 279 => 164 | 280 => 165 | 281 => 166 | 282 => 167 | 287 => 184 | 316 => 185 | 171 => 98 | 205 => 186 | 321 => 206 | 322 => 207 | 243 => 123 | 246 => 147 | 283 => 175 | 284 => 176 | 285 => 177 | 286 => 178 | 129 => 190 | 317 => 189 | 318 => 191 | 319 => 192 | 320 => 193 | 337 => 209 | 338 => 210 | n => n, fun | 9 => 9 | 3 => 3 | 75 => 143 | 76 => 144 | 4 => 4 | 5 => 5 | 167 => 198 | 37 => 25 | 0 => 0 | 85 => 199 | 2 => 2 | 168 => 201 | 53 => 210 | 175 => 218 | 46 => 93 | 210 => 222 | 127 => 169 | 145 => 242 | 143 => 240 | 21 => 21 | 171 => 209 | 173 => 213 | 212 => 227 | 51 => 204 | 20 => 20 | 213 => 228 | 232 => 253 | 233 => 254 | 80 => 146 | n => n, fun | 15 => 2 | 16 => 3 | 17 => 4 | 18 => 7 | 19 => 8 | n => n⟩
theorem laysC172 : Go.Proofs.LaysC.n172 Tryz.prog laysC172_ren := {
  mixed := by kernel_rfl
  f129 := Tryz.func190.trans (congrArg some (by kernel_rfl))
  f171 := Tryz.func98.trans (congrArg some (by kernel_rfl))
  f172 := Tryz.func118.trans (congrArg some (by kernel_rfl))
  f205 := Tryz.func186.trans (congrArg some (by kernel_rfl))
  f243 := Tryz.func123.trans (congrArg some (by kernel_rfl))
  f244 := Tryz.func137.trans (congrArg some (by kernel_rfl))
  f245 := Tryz.func138.trans (congrArg some (by kernel_rfl))
  f246 := Tryz.func147.trans (congrArg some (by kernel_rfl))
  f247 := Tryz.func163.trans (congrArg some (by kernel_rfl))
  f279 := Tryz.func164.trans (congrArg some (by kernel_rfl))
  f280 := Tryz.func165.trans (congrArg some (by kernel_rfl))
  f281 := Tryz.func166.trans (congrArg some (by kernel_rfl))
  f282 := Tryz.func167.trans (congrArg some (by kernel_rfl))
  f283 := Tryz.func175.trans (congrArg some (by kernel_rfl))
  f284 := Tryz.func176.trans (congrArg some (by kernel_rfl))
  f285 := Tryz.func177.trans (congrArg some (by kernel_rfl))
  f286 := Tryz.func178.trans (congrArg some (by kernel_rfl))
  f287 := Tryz.func184.trans (congrArg some (by kernel_rfl))
  f316 := Tryz.func185.trans (congrArg some (by kernel_rfl))
  f317 := Tryz.func189.trans (congrArg some (by kernel_rfl))
  f318 := Tryz.func191.trans (congrArg some (by kernel_rfl))
  f319 := Tryz.func192.trans (congrArg some (by kernel_rfl))
  f320 := Tryz.func193.trans (congrArg some (by kernel_rfl))
  f321 := Tryz.func206.trans (congrArg some (by kernel_rfl))
  f322 := Tryz.func207.trans (congrArg some (by kernel_rfl))
  f337 := Tryz.func209.trans (congrArg some (by kernel_rfl))
  f338 := Tryz.func210.trans (congrArg some (by kernel_rfl))
  t0 := Tryz.underlying0
  a0 := Tryz.isAgg0
  z0 := Tryz.sizeOf0
  v0 := Tryz.zeroValue0
  t2 := Tryz.underlying2
  a2 := Tryz.isAgg2
  z2 := Tryz.sizeOf2
  v2 := Tryz.zeroValue2
  t3 := Tryz.underlying3
  a3 := Tryz.isAgg3
  z3 := Tryz.sizeOf3
  v3 := Tryz.zeroValue3
  t4 := Tryz.underlying4
  a4 := Tryz.isAgg4
  z4 := Tryz.sizeOf4
  v4 := Tryz.zeroValue4
  t5 := Tryz.underlying5
  a5 := Tryz.isAgg5
  z5 := Tryz.sizeOf5
  v5 := Tryz.zeroValue5
  t9 := Tryz.underlying9
  a9 := Tryz.isAgg9
  z9 := Tryz.sizeOf9
  v9 := Tryz.zeroValue9
  t20 := Tryz.underlying20
  a20 := Tryz.isAgg20
  z20 := Tryz.sizeOf20
  v20 := Tryz.zeroValue20
  t21 := Tryz.underlying21
  a21 := Tryz.isAgg21
  z21 := Tryz.sizeOf21
  v21 := Tryz.zeroValue21
  t37 := Tryz.underlying25
  a37 := Tryz.isAgg25
  z37 := Tryz.sizeOf25
  v37 := Tryz.zeroValue25
  t46 := Tryz.underlying93
  a46 := Tryz.isAgg93
  z46 := Tryz.sizeOf93
  v46 := Tryz.zeroValue93
  t51 := Tryz.underlying204
  a51 := Tryz.isAgg204
  z51 := Tryz.sizeOf204
  v51 := Tryz.zeroValue204
  t53 := Tryz.underlying210
  a53 := Tryz.isAgg210
  z53 := Tryz.sizeOf210
  v53 := Tryz.zeroValue210
  t75 := Tryz.underlying143
  a75 := Tryz.isAgg143
  z75 := Tryz.sizeOf143
  v75 := Tryz.zeroValue143
  t76 := Tryz.underlying144
  a76 := Tryz.isAgg144
  z76 := Tryz.sizeOf144
  v76 := Tryz.zeroValue144
  t85 := Tryz.underlying199
  a85 := Tryz.isAgg199
  z85 := Tryz.sizeOf199
  v85 := Tryz.zeroValue199
  t127 := Tryz.underlying169
  a127 := Tryz.isAgg169
  z127 := Tryz.sizeOf169
  v127 := Tryz.zeroValue169
  t143 := Tryz.underlying240
  a143 := Tryz.isAgg240
  z143 := Tryz.sizeOf240
  v143 := Tryz.zeroValue240
  t145 := Tryz.underlying242
  a145 := Tryz.isAgg242
  z145 := Tryz.sizeOf242
  v145 := Tryz.zeroValue242
  t167 := Tryz.underlying198
  a167 := Tryz.isAgg198
  z167 := Tryz.sizeOf198
  v167 := Tryz.zeroValue198
  t168 := Tryz.underlying201
  a168 := Tryz.isAgg201
  z168 := Tryz.sizeOf201
  v168 := Tryz.zeroValue201
  t171 := Tryz.underlying209
  a171 := Tryz.isAgg209
  z171 := Tryz.sizeOf209
  v171 := Tryz.zeroValue209
  t173 := Tryz.underlying213
  a173 := Tryz.isAgg213
  z173 := Tryz.sizeOf213
  v173 := Tryz.zeroValue213
  t175 := Tryz.underlying218
  a175 := Tryz.isAgg218
  z175 := Tryz.sizeOf218
  v175 := Tryz.zeroValue218
  t210 := Tryz.underlying222
  a210 := Tryz.isAgg222
  z210 := Tryz.sizeOf222
  v210 := Tryz.zeroValue222
  t212 := Tryz.underlying227
  a212 := Tryz.isAgg227
  z212 := Tryz.sizeOf227
  v212 := Tryz.zeroValue227
  t213 := Tryz.underlying228
  a213 := Tryz.isAgg228
  z213 := Tryz.sizeOf228
  t232 := Tryz.underlying253
  a232 := Tryz.isAgg253
  z232 := Tryz.sizeOf253
  v232 := Tryz.zeroValue253
  t233 := Tryz.underlying254
  a233 := Tryz.isAgg254
  z233 := Tryz.sizeOf254
  v233 := Tryz.zeroValue254
  g15 := by kernel_rfl
  g16 := by kernel_rfl
  g17 := by kernel_rfl
  g18 := by kernel_rfl
  g19 := by kernel_rfl
  t80 := Tryz.underlying146
  a80 := Tryz.isAgg146
  z80 := Tryz.sizeOf146
  v80 := Tryz.zeroValue146
  i0 := by kernel_rfl
  i2 := by kernel_rfl
  i3 := by kernel_rfl
  i4 := by kernel_rfl
  i5 := by kernel_rfl
  i9 := by kernel_rfl
  i20 := by kernel_rfl
  i21 := by kernel_rfl
  i37 := by kernel_rfl
  i46 := by kernel_rfl
  i51 := by kernel_rfl
  i53 := by kernel_rfl
  i75 := by kernel_rfl
  i76 := by kernel_rfl
  i80 := by kernel_rfl
  i85 := by kernel_rfl
  i127 := by kernel_rfl
  i143 := by kernel_rfl
  i145 := by kernel_rfl
  i167 := by kernel_rfl
  i168 := by kernel_rfl
  i171 := by kernel_rfl
  i173 := by kernel_rfl
  i175 := by kernel_rfl
  i210 := by kernel_rfl
  i212 := by kernel_rfl
  i232 := by kernel_rfl
  i233 := by kernel_rfl
  m15 := by kernel_rfl
  m16 := by kernel_rfl
  m17 := by kernel_rfl
  m18 := by kernel_rfl
  m19 := by kernel_rfl
  c0 := by kernel_rfl
  c2 := by kernel_rfl
  c3 := by kernel_rfl
  c4 := by kernel_rfl
  c5 := by kernel_rfl
  c9 := by kernel_rfl
  c20 := by kernel_rfl
  c21 := by kernel_rfl
  c37 := by kernel_rfl
  c46 := by kernel_rfl
  c51 := by kernel_rfl
  c53 := by kernel_rfl
  c75 := by kernel_rfl
  c76 := by kernel_rfl
  c80 := by kernel_rfl
  c85 := by kernel_rfl
  c127 := by kernel_rfl
  c143 := by kernel_rfl
  c145 := by kernel_rfl
  c167 := by kernel_rfl
  c168 := by kernel_rfl
  c171 := by kernel_rfl
  c173 := by kernel_rfl
  c175 := by kernel_rfl
  c210 := by kernel_rfl
  c212 := by kernel_rfl
  c213 := by kernel_rfl
  c232 := by kernel_rfl
  c233 := by kernel_rfl }
def lays156_ren : Go.Shelf.Ren := ⟨fun | 156 => 60 | 165 => 99 | 166 => 100 | 169 => 101 | 240 => 124 | 241 => 125 | 276 => 148 | 277 => 149 | n => n, fun | 31 => 56 | 9 => 9 | 3 => 3 | 4 => 4 | 0 => 0 | 20 => 20 | 72 => 140 | 76 => 144 | 70 => 138 | 37 => 25 | 75 => 143 | 127 => 169 | 164 => 182 | 5 => 5 | 80 => 146 | n => n, fun | n => n⟩
theorem lays156 : Go.Proofs.Lays.n156 Tryz.prog lays156_ren := {
  mixed := by kernel_rfl
  f156 := Tryz.func60.trans (congrArg some (by kernel_rfl))
  f165 := Tryz.func99.trans (congrArg some (by kernel_rfl))
  f166 := Tryz.func100.trans (congrArg some (by kernel_rfl))
  f169 := Tryz.func101.trans (congrArg some (by kernel_rfl))
  f240 := Tryz.func124.trans (congrArg some (by kernel_rfl))
  f241 := Tryz.func125.trans (congrArg some (by kernel_rfl))
  f276 := Tryz.func148.trans (congrArg some (by kernel_rfl))
  f277 := Tryz.func149.trans (congrArg some (by kernel_rfl))
  t0 := Tryz.underlying0
  a0 := Tryz.isAgg0
  z0 := Tryz.sizeOf0
  v0 := Tryz.zeroValue0
  t3 := Tryz.underlying3
  a3 := Tryz.isAgg3
  z3 := Tryz.sizeOf3
  v3 := Tryz.zeroValue3
  t4 := Tryz.underlying4
  a4 := Tryz.isAgg4
  z4 := Tryz.sizeOf4
  v4 := Tryz.zeroValue4
  t9 := Tryz.underlying9
  a9 := Tryz.isAgg9
  z9 := Tryz.sizeOf9
  v9 := Tryz.zeroValue9
  t20 := Tryz.underlying20
  a20 := Tryz.isAgg20
  z20 := Tryz.sizeOf20
  v20 := Tryz.zeroValue20
  t31 := Tryz.underlying56
  a31 := Tryz.isAgg56
  z31 := Tryz.sizeOf56
  v31 := Tryz.zeroValue56
  t37 := Tryz.underlying25
  a37 := Tryz.isAgg25
  z37 := Tryz.sizeOf25
  v37 := Tryz.zeroValue25
  t70 := Tryz.underlying138
  a70 := Tryz.isAgg138
  z70 := Tryz.sizeOf138
  v70 := Tryz.zeroValue138
  t72 := Tryz.underlying140
  a72 := Tryz.isAgg140
  z72 := Tryz.sizeOf140
  v72 := Tryz.zeroValue140
  t75 := Tryz.underlying143
  a75 := Tryz.isAgg143
  z75 := Tryz.sizeOf143
  v75 := Tryz.zeroValue143
  t76 := Tryz.underlying144
  a76 := Tryz.isAgg144
  z76 := Tryz.sizeOf144
  v76 := Tryz.zeroValue144
  t127 := Tryz.underlying169
  a127 := Tryz.isAgg169
  z127 := Tryz.sizeOf169
  v127 := Tryz.zeroValue169
  t164 := Tryz.underlying182
  a164 := Tryz.isAgg182
  z164 := Tryz.sizeOf182
  v164 := Tryz.zeroValue182 }
theorem builder_Extra_156 : Builder.Extra Tryz.prog lays156_ren := {
  sizeBuilder := by kernel_rfl
  liesBuilder := by kernel_rfl
  t5 := Tryz.underlying5
  a5 := Tryz.isAgg5
  z5 := Tryz.sizeOf5
  v5 := Tryz.zeroValue5
  infoByte := by kernel_rfl
  cellsByte := by kernel_rfl
  sizeByte := by kernel_rfl
  neB5 := by decide }
end Go.Proofs.YtagangiilcicpaeGreatDoor

namespace Go.Proofs.YtagangiilcicpaeGreatDoor

/-- What cuts a text at a text does, step by step: sep is the text at which it is cut, spl what comes of it behind the signs cur. -/
structure Cuts (sep : T) (spl : T → T → List T) : Prop where
  pos : 0 < sep.length
  hit : ∀ cur rest, spl cur (sep ++ rest) = cur :: spl [] rest
  miss : ∀ cur c rest, sep.length ≤ rest.length + 1 → (c :: rest).take sep.length ≠ sep → spl cur (c :: rest) = spl (cur ++ [c]) rest
  fin : ∀ cur rest, rest.length < sep.length → spl cur rest = [cur ++ rest]
theorem cuts1 : Cuts [32] spl1 := by
  refine ⟨by decide, fun cur rest => ?_, fun cur c rest _ h => ?_, fun cur rest h => ?_⟩
  · show spl1 cur (32 :: rest) = _
    rw [spl1, if_pos rfl]
  · rw [spl1, if_neg (fun e => h (by rw [e]; rfl))]
  · have : rest = [] := List.eq_nil_of_length_eq_zero (by simpa using h)
    rw [this]; simp [spl1]
theorem cuts2 : Cuts [59, 32] spl2 := by
  refine ⟨by decide, fun cur rest => ?_, fun cur c rest hl h => ?_, fun cur rest h => ?_⟩
  · show spl2 cur (59 :: 32 :: rest) = _
    rw [spl2, if_pos ⟨rfl, rfl⟩]
  · cases rest with
    | nil => simp at hl
    | cons d rest => rw [spl2, if_neg (fun e => h (by rw [e.1, e.2]; rfl))]
  · cases rest with
    | nil => simp [spl2]
    | cons c rest =>
      have : rest = [] := List.eq_nil_of_length_eq_zero (by simp at h; omega)
      rw [this]; simp [spl2]
/-- At place i, with the signs from the place k on still to be told. -/
theorem Cuts.at_hit {sep : T} {spl : T → T → List T} (h : Cuts sep spl) {s : T} {k i : Nat} (hm : (s.drop i).take sep.length = sep) : spl ((s.take i).drop k) (s.drop i) = (s.take i).drop k :: spl [] (s.drop (i + sep.length)) := by
  have e : s.drop i = sep ++ s.drop (i + sep.length) := by
    have := List.take_append_drop sep.length (s.drop i)
    rw [hm, List.drop_drop] at this
    exact this.symm
  rw [e, h.hit]
theorem Cuts.at_miss {sep : T} {spl : T → T → List T} (h : Cuts sep spl) {s : T} {k i : Nat} (hk : k ≤ i) (hl : i + sep.length ≤ s.length) (hm : (s.drop i).take sep.length ≠ sep) : spl ((s.take i).drop k) (s.drop i) = spl ((s.take (i + 1)).drop k) (s.drop (i + 1)) := by
  have hp := h.pos
  have hi : i < s.length := by omega
  have e : s.drop i = s[i] :: s.drop (i + 1) := List.drop_eq_getElem_cons hi
  have e2 : (s.take (i + 1)).drop k = (s.take i).drop k ++ [s[i]] := by
    rw [List.take_succ_eq_append_getElem hi, List.drop_append_of_le_length (by simp; omega)]
  rw [e] at hm ⊢
  rw [e2, h.miss _ _ _ (by simp; omega) hm]
theorem Cuts.at_end {sep : T} {spl : T → T → List T} (h : Cuts sep spl) {s : T} {k i : Nat} (hk : k ≤ i) (hi : i ≤ s.length) (hl : s.length < i + sep.length) : spl ((s.take i).drop k) (s.drop i) = [s.drop k] := by
  rw [h.fin _ _ (by simp; omega)]
  congr 1
  have : s.drop k = (s.take i ++ s.drop i).drop k := by rw [List.take_append_drop]
  rw [this, List.drop_append_of_le_length (by simp; omega)]
end Go.Proofs.YtagangiilcicpaeGreatDoor

namespace Go.Proofs.YtagangiilcicpaeGreatDoor
open Go.Lib

end Go.Proofs.YtagangiilcicpaeGreatDoor

namespace Go.Proofs.YtagangiilcicpaeGreatDoor
open Go.RowKit Go.Shelf

/-- What a call of Split leaves. -/
structure Pieces (w w' : World) (l : List ByteArray) : Prop where
  is : w' = w.alloc (.cells (strs l).toArray 9)
theorem Pieces.below {w w' : World} {l : List ByteArray} (h : Pieces w w' l) : Below w.heap.size w w' := by rw [h.is]; exact grew _ _
theorem itoa_calls (n : Int) (w : World) (hG : GroundN w) (h0 : -9223372036854775808 ≤ n) (h1 : n ≤ 9223372036854775807) :
    Calls Tryz.prog 98 #[.int .i64 n] w fun e w' => e = .returned (.string (ofT (Lib.itoa n))) ∧ Below w.heap.size w w' := by
  refine (Any.strconv_Itoa laysM171 n h0 h1 w hG.tab).mono ?_
  rintro e w' ⟨rfl, k, os, rfl⟩
  exact ⟨rfl, Lib.below_grow _ _ (Nat.le_refl _) _ _⟩

/-- How Atoi ends. -/
theorem atoi_calls (s : ByteArray) (w : World) (hG : GroundN w) (hs : s.size ≤ 100000) :
    Calls Tryz.prog 118 #[.string s] w fun e w' => ((∃ v, Lib.atoiAll (keyT s) = .ok v ∧ e = .returned (.tuple #[.int .i64 v, .nilIface])) ∨ (∃ v t p, (∀ u, Lib.atoiAll (keyT s) ≠ .ok u) ∧ e = .returned (.tuple #[.int .i64 v, .iface t (.pointer (some p))]))) ∧ Below w.heap.size w w' := by
  cases h : Lib.atoiAll (keyT s) with
  | ok v =>
    refine (Any.strconv_Atoi_ok laysC172 s (by omega) v h w).mono ?_
    rintro e w' ⟨rfl, hw⟩
    refine ⟨.inl ⟨v, rfl, rfl⟩, ?_⟩
    rcases hw with rfl | ⟨t, rfl⟩
    · exact Below.refl _ _
    · exact Lib.bytesWorld_below _ _ _
  | «syntax» =>
    obtain ⟨tp, p, hv⟩ := hG.syn
    refine (Any.strconv_Atoi_syntax_var laysC172 s (by omega) h tp p w hv).mono ?_
    rintro e w' ⟨N, rfl, _, _, hb⟩
    exact ⟨.inr ⟨_, _, _, (fun u h => by cases h), rfl⟩, hb⟩
  | range =>
    obtain ⟨tp, p, hv⟩ := hG.rng
    refine (Any.strconv_Atoi_range_var laysC172 s (by omega) h tp p w hv).mono ?_
    rintro e w' ⟨N, rfl, _, _, hb⟩
    exact ⟨.inr ⟨_, _, _, (fun u h => by cases h), rfl⟩, hb⟩

/-- A number, as it is told: whether it is one, and then which. -/
def Told (o : Option Int) (e : Ending) : Prop := ∃ v : Int, e = .returned (.tuple #[.int .i64 v, .bool o.isSome]) ∧ ∀ u, o = some u → v = u
theorem keyT_eq {a b : ByteArray} (h : keyT a = keyT b) : a = b := by
  have := congrArg ofT h
  rwa [ofT_keyT, ofT_keyT] at this

/-- A number and whether its own text is the text, put together. -/
theorem told_ok {s : ByteArray} {v : Int} (h : Lib.atoiAll (keyT s) = .ok v) : (Lib.itoa v = keyT s → numOf (keyT s) = some v) ∧ (Lib.itoa v ≠ keyT s → numOf (keyT s) = none) := by
  unfold numOf; rw [h]
  exact ⟨fun e => if_pos e, fun e => if_neg e⟩
theorem told_no {s : ByteArray} (h : ∀ u, Lib.atoiAll (keyT s) ≠ .ok u) : numOf (keyT s) = none := by
  unfold numOf
  split
  · rename_i v e; exact absurd e (h v)
  · rfl
theorem itoa_eq {s : ByteArray} {v : Int} (h : Lib.itoa v = keyT s) : ofT (Lib.itoa v) = s := by rw [h, ofT_keyT]
theorem itoa_ne {s : ByteArray} {v : Int} (h : Lib.itoa v ≠ keyT s) : ofT (Lib.itoa v) ≠ s := fun e => h (by rw [← e, keyT_ofT])

theorem keyT_len (s : ByteArray) : (keyT s).length = s.size := Array.length_toList
theorem ofT_size (t : T) : (ofT t).size = t.length := by simp [ofT, ByteArray.size]
end Go.Proofs.YtagangiilcicpaeGreatDoor

namespace Go.Proofs.YtagangiilcicpaeGreatDoor
open Go.RowKit

structure InsAt (w : World) (b : Nat) (i : Ins) : Prop where
  c0 : w.cell? ⟨b, 0, none⟩ = some (.int .i64 i.kind)
  c1 : w.cell? ⟨b, 1, none⟩ = some (.int .i64 i.a)
  c2 : w.cell? ⟨b, 2, none⟩ = some (.int .i64 i.b)
  c3 : w.cell? ⟨b, 3, none⟩ = some (.int .i64 i.n)
  c4 : w.cell? ⟨b, 4, none⟩ = some (.string i.key)
  free : ∀ j, w.frozen? ⟨b, j, none⟩ = false
theorem InsAt.lt {w : World} {b : Nat} {i : Ins} (h : InsAt w b i) : b < w.heap.size := World.block_lt_of_cell? _ _ h.c0
theorem InsAt.below {w w' : World} {b : Nat} {i : Ins} (h : InsAt w b i) (hb : Below w.heap.size w w') : InsAt w' b i :=
  ⟨kept_cell hb h.c0, kept_cell hb h.c1, kept_cell hb h.c2, kept_cell hb h.c3, kept_cell hb h.c4, fun j => kept_free hb ⟨h.lt, h.free j⟩⟩
theorem free_set {w : World} {a p : Addr} {v : Value} : (w.setCell p v).frozen? a = w.frozen? a := World.frozen?_setCell _ _ _ _
theorem InsAt.put0 {w : World} {b : Nat} {i : Ins} (h : InsAt w b i) (x : Int) : InsAt (w.setCell ⟨b, 0, none⟩ (.int .i64 x)) b (x, i.a, i.b, i.n, i.key) :=
  ⟨World.cell?_setCell_same _ _ _ h.c0, by rw [set_off (by decide)]; exact h.c1, by rw [set_off (by decide)]; exact h.c2, by rw [set_off (by decide)]; exact h.c3, by rw [set_off (by decide)]; exact h.c4, fun j => by rw [free_set]; exact h.free j⟩
theorem InsAt.put1 {w : World} {b : Nat} {i : Ins} (h : InsAt w b i) (x : Int) : InsAt (w.setCell ⟨b, 1, none⟩ (.int .i64 x)) b (i.kind, x, i.b, i.n, i.key) :=
  ⟨by rw [set_off (by decide)]; exact h.c0, World.cell?_setCell_same _ _ _ h.c1, by rw [set_off (by decide)]; exact h.c2, by rw [set_off (by decide)]; exact h.c3, by rw [set_off (by decide)]; exact h.c4, fun j => by rw [free_set]; exact h.free j⟩
theorem InsAt.put2 {w : World} {b : Nat} {i : Ins} (h : InsAt w b i) (x : Int) : InsAt (w.setCell ⟨b, 2, none⟩ (.int .i64 x)) b (i.kind, i.a, x, i.n, i.key) :=
  ⟨by rw [set_off (by decide)]; exact h.c0, by rw [set_off (by decide)]; exact h.c1, World.cell?_setCell_same _ _ _ h.c2, by rw [set_off (by decide)]; exact h.c3, by rw [set_off (by decide)]; exact h.c4, fun j => by rw [free_set]; exact h.free j⟩
theorem InsAt.put3 {w : World} {b : Nat} {i : Ins} (h : InsAt w b i) (x : Int) : InsAt (w.setCell ⟨b, 3, none⟩ (.int .i64 x)) b (i.kind, i.a, i.b, x, i.key) :=
  ⟨by rw [set_off (by decide)]; exact h.c0, by rw [set_off (by decide)]; exact h.c1, by rw [set_off (by decide)]; exact h.c2, World.cell?_setCell_same _ _ _ h.c3, by rw [set_off (by decide)]; exact h.c4, fun j => by rw [free_set]; exact h.free j⟩
theorem InsAt.put4 {w : World} {b : Nat} {i : Ins} (h : InsAt w b i) (s : ByteArray) : InsAt (w.setCell ⟨b, 4, none⟩ (.string s)) b (i.kind, i.a, i.b, i.n, s) :=
  ⟨by rw [set_off (by decide)]; exact h.c0, by rw [set_off (by decide)]; exact h.c1, by rw [set_off (by decide)]; exact h.c2, by rw [set_off (by decide)]; exact h.c3, World.cell?_setCell_same _ _ _ h.c4, fun j => by rw [free_set]; exact h.free j⟩
theorem five_new (w : World) (i : Ins) (t : TypeId) : InsAt (w.alloc (.cells #[.int .i64 i.kind, .int .i64 i.a, .int .i64 i.b, .int .i64 i.n, .string i.key] t)) w.heap.size i :=
  ⟨box_cell _ _ _ _ _ rfl, box_cell _ _ _ _ _ rfl, box_cell _ _ _ _ _ rfl, box_cell _ _ _ _ _ rfl, box_cell _ _ _ _ _ rfl, fun _ => World.frozen?_alloc_at _ _ _ _ rfl⟩
end Go.Proofs.YtagangiilcicpaeGreatDoor

namespace Go.Proofs.YtagangiilcicpaeGreatDoor
open Go.RowKit

def ins00 : Ins := (0, 0, 0, 0, ⟨#[]⟩)
theorem text_eq (p q : T) : ((ofT p).toList == q) = decide (p = q) := by
  rw [ByteArray.toList_eq]
  show ((ofT p).data.toList == q) = _
  rw [show (ofT p).data.toList = p from keyT_ofT p]
  by_cases h : p = q
  · simp [h]
  · simp [h]
theorem getD_map_ofT {l : List T} {j : Nat} (h : j < l.length) : (l.map ofT).getD j default = ofT (l.getD j []) := by
  simp [List.getD, h]
theorem drop_getD {l : List T} {j : Nat} (h : j < l.length) : l.drop j = l.getD j [] :: l.drop (j + 1) := by
  rw [List.drop_eq_getElem_cons h]
  simp [List.getD, h]
end Go.Proofs.YtagangiilcicpaeGreatDoor

namespace Go.Proofs.YtagangiilcicpaeGreatDoor
open Go.RowKit

/-- The pieces of a text, told by how many there are. -/
theorem pieces_cell {w w' : World} {l : List ByteArray} (h : Pieces w w' l) {j : Nat} (hj : j < l.length) : w'.cell? ⟨w.heap.size, j, none⟩ = some (.string (l.getD j default)) := by
  rw [h.is]
  refine box_cell _ _ _ _ _ ?_
  have := strs_at hj
  simpa using this
theorem spl1_len_le : ∀ (s cur : T), (spl1 cur s).length ≤ s.length + 1
  | [], cur => by simp [spl1]
  | c :: s, cur => by
    rw [spl1]
    split
    · have := spl1_len_le s []; simp; omega
    · have := spl1_len_le s (cur ++ [c]); simp; omega
theorem spl1_small : ∀ (s cur : T), ∀ x ∈ spl1 cur s, x.length ≤ cur.length + s.length
  | [], cur, x, h => by simp [spl1] at h; rw [h]; simp
  | c :: s, cur, x, h => by
    rw [spl1] at h
    split at h
    · rcases List.mem_cons.1 h with rfl | h
      · simp
      · have := spl1_small s [] x h; simp at this ⊢; omega
    · have := spl1_small s (cur ++ [c]) x h; simp at this ⊢; omega
theorem spl2_small : ∀ (s cur : T), ∀ x ∈ spl2 cur s, x.length ≤ cur.length + s.length
  | [], cur, x, h => by simp [spl2] at h; rw [h]; simp
  | [c], cur, x, h => by simp [spl2] at h; rw [h]; simp
  | c :: d :: s, cur, x, h => by
    rw [spl2] at h
    split at h
    · rcases List.mem_cons.1 h with rfl | h
      · simp
      · have := spl2_small s [] x h; simp at this ⊢; omega
    · have := spl2_small (d :: s) (cur ++ [c]) x h; simp at this ⊢; omega
theorem spl2_len_le : ∀ (s cur : T), (spl2 cur s).length ≤ s.length + 1
  | [], cur => by simp [spl2]
  | [c], cur => by simp [spl2]
  | c :: d :: s, cur => by
    rw [spl2]
    split
    · have := spl2_len_le s []; simp; omega
    · have := spl2_len_le (d :: s) (cur ++ [c]); simp at this ⊢; omega
theorem bytes_eq (a b : ByteArray) : (a.toList == b.toList) = decide (a = b) := by
  by_cases h : a = b
  · rw [streq_true h]; simp [h]
  · rw [streq_false h]; simp [h]

theorem text_same (a b : T) : ((ofT a).toList == (ofT b).toList) = decide (a = b) := by
  rw [bytes_eq]
  by_cases e : a = b
  · simp [e]
  · rw [decide_eq_false e, decide_eq_false (fun e' => e (by rw [← keyT_ofT a, e', keyT_ofT]))]

end Go.Proofs.YtagangiilcicpaeGreatDoor
