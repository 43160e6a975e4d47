/-
  The library's functions that the program calls are those whose contracts are known.
  The three ways of cutting a text at a text, told of both cuts at once.
  The library's Split and Join are the cuts and the joins of a deed's text.
  The library's functions that a deed's text is made and read by, and what the program and the document make of a number and of a register.
  An instruction in a block of its own: its five places, kept, and turned one by one.
  The program's way from an instruction's words to the instruction.
  The program's way from a part of a text to keys, and to an instruction.
-/
import Derived.Shelf.Small.Wraps
import Derived.Shelf.Strings.Split
import Derived.Shelf.LaysM
import Derived.Shelf.LaysC
import Derived.Shelf.Strconv.Itoa3
import Derived.Shelf.Strconv.AtoiAll
import Derived.Shelf.Strconv.ErrVarAll
import Derived.Shelf.Strings.OnBuilder
import Derived.Test.YtlhaeeenkgkdaaaGreatDoorProg
import Derived.Test.YtlhaeeenkgkdaaaGreatDoorTextMath
import Derived.Lib.SplitLaws
import Derived.Lib.Join
import Derived.Test.YtlhaeeenkgkdaaaGreatDoorOpen
import Derived.Test.YtlhaeeenkgkdaaaGreatDoorRefPut
import Derived.Lib.AppendIntMem
import Derived.Lib.AtoiErrMem
import Derived.BigQuiet
namespace Go.Proofs.YtlhaeeenkgkdaaaGreatDoor
open Go.Shelf
def laysM171_ren : Go.Shelf.Ren := ⟨fun | 171 => 78 | 243 => 96 | 246 => 119 | 283 => 131 | 284 => 132 | 285 => 133 | 286 => 134 | 129 => 145 | 317 => 150 | 318 => 151 | 319 => 152 | 320 => 153 | 337 => 161 | 338 => 162 | n => n, fun | 3 => 3 | 9 => 9 | 2 => 2 | 4 => 4 | 171 => 175 | 0 => 0 | 53 => 168 | 37 => 154 | 5 => 5 | 173 => 178 | 212 => 197 | 51 => 189 | 20 => 20 | 213 => 198 | 46 => 163 | 232 => 209 | 233 => 210 | n => n, fun | 17 => 2 | 18 => 3 | 19 => 4 | n => n⟩
theorem laysM171 : Go.Proofs.LaysM.n171 Tryz.prog laysM171_ren := {
  mixed := by kernel_rfl
  f129 := Tryz.func145.trans (congrArg some (by kernel_rfl))
  f171 := Tryz.func78.trans (congrArg some (by kernel_rfl))
  f243 := Tryz.func96.trans (congrArg some (by kernel_rfl))
  f246 := Tryz.func119.trans (congrArg some (by kernel_rfl))
  f283 := Tryz.func131.trans (congrArg some (by kernel_rfl))
  f284 := Tryz.func132.trans (congrArg some (by kernel_rfl))
  f285 := Tryz.func133.trans (congrArg some (by kernel_rfl))
  f286 := Tryz.func134.trans (congrArg some (by kernel_rfl))
  f317 := Tryz.func150.trans (congrArg some (by kernel_rfl))
  f318 := Tryz.func151.trans (congrArg some (by kernel_rfl))
  f319 := Tryz.func152.trans (congrArg some (by kernel_rfl))
  f320 := Tryz.func153.trans (congrArg some (by kernel_rfl))
  f337 := Tryz.func161.trans (congrArg some (by kernel_rfl))
  f338 := Tryz.func162.trans (congrArg some (by kernel_rfl))
  t0 := Tryz.underlying0
  a0 := Tryz.isAgg0
  z0 := Tryz.sizeOf0
  v0 := Tryz.zeroValue0
  t2 := Tryz.underlying2
  a2 := Tryz.isAgg2
  z2 := Tryz.sizeOf2
  v2 := Tryz.zeroValue2
  t3 := Tryz.underlying3
  a3 := Tryz.isAgg3
  z3 := Tryz.sizeOf3
  v3 := Tryz.zeroValue3
  t4 := Tryz.underlying4
  a4 := Tryz.isAgg4
  z4 := Tryz.sizeOf4
  v4 := Tryz.zeroValue4
  t5 := Tryz.underlying5
  a5 := Tryz.isAgg5
  z5 := Tryz.sizeOf5
  v5 := Tryz.zeroValue5
  t9 := Tryz.underlying9
  a9 := Tryz.isAgg9
  z9 := Tryz.sizeOf9
  v9 := Tryz.zeroValue9
  t20 := Tryz.underlying20
  a20 := Tryz.isAgg20
  z20 := Tryz.sizeOf20
  v20 := Tryz.zeroValue20
  t37 := Tryz.underlying154
  a37 := Tryz.isAgg154
  z37 := Tryz.sizeOf154
  v37 := Tryz.zeroValue154
  t46 := Tryz.underlying163
  a46 := Tryz.isAgg163
  z46 := Tryz.sizeOf163
  v46 := Tryz.zeroValue163
  t51 := Tryz.underlying189
  a51 := Tryz.isAgg189
  z51 := Tryz.sizeOf189
  v51 := Tryz.zeroValue189
  t53 := Tryz.underlying168
  a53 := Tryz.isAgg168
  z53 := Tryz.sizeOf168
  v53 := Tryz.zeroValue168
  t171 := Tryz.underlying175
  a171 := Tryz.isAgg175
  z171 := Tryz.sizeOf175
  v171 := Tryz.zeroValue175
  t173 := Tryz.underlying178
  a173 := Tryz.isAgg178
  z173 := Tryz.sizeOf178
  v173 := Tryz.zeroValue178
  t212 := Tryz.underlying197
  a212 := Tryz.isAgg197
  z212 := Tryz.sizeOf197
  v212 := Tryz.zeroValue197
  t213 := Tryz.underlying198
  a213 := Tryz.isAgg198
  z213 := Tryz.sizeOf198
  t232 := Tryz.underlying209
  a232 := Tryz.isAgg209
  z232 := Tryz.sizeOf209
  v232 := Tryz.zeroValue209
  t233 := Tryz.underlying210
  a233 := Tryz.isAgg210
  z233 := Tryz.sizeOf210
  v233 := Tryz.zeroValue210
  g17 := by kernel_rfl
  g18 := by kernel_rfl
  g19 := by kernel_rfl
  i0 := by kernel_rfl
  i2 := by kernel_rfl
  i3 := by kernel_rfl
  i4 := by kernel_rfl
  i5 := by kernel_rfl
  i9 := by kernel_rfl
  i20 := by kernel_rfl
  i37 := by kernel_rfl
  i46 := by kernel_rfl
  i51 := by kernel_rfl
  i53 := by kernel_rfl
  i171 := by kernel_rfl
  i173 := by kernel_rfl
  i212 := by kernel_rfl
  i232 := by kernel_rfl
  i233 := by kernel_rfl
  m17 := by kernel_rfl
  m18 := by kernel_rfl
  m19 := by kernel_rfl }
def laysC172_ren : Go.Shelf.Ren := ⟨fun | 172 => 77 | 244 => 94 | 245 => 95 | 247 => 114 | 279 => 115 | 280 => 116 | 281 => 117 | 282 => 118 | 287 => 128 | 316 => 129 | 171 => 78 | 205 => 130 | 321 => 148 | 322 => 149 | 243 => 96 | 246 => 119 | 283 => 131 | 284 => 132 | 285 => 133 | 286 => 134 | 129 => 145 | 317 => 150 | 318 => 151 | 319 => 152 | 320 => 153 | 337 => 161 | 338 => 162 | n => n, fun | 9 => 9 | 3 => 3 | 75 => 123 | 76 => 124 | 4 => 4 | 5 => 5 | 167 => 153 | 37 => 154 | 0 => 0 | 85 => 155 | 2 => 2 | 168 => 157 | 53 => 168 | 175 => 169 | 46 => 163 | 210 => 173 | 127 => 192 | 145 => 195 | 143 => 193 | 21 => 21 | 171 => 175 | 173 => 178 | 212 => 197 | 51 => 189 | 20 => 20 | 213 => 198 | 232 => 209 | 233 => 210 | 80 => 211 | n => n, fun | 15 => 0 | 16 => 1 | 17 => 2 | 18 => 3 | 19 => 4 | n => n⟩
theorem laysC172 : Go.Proofs.LaysC.n172 Tryz.prog laysC172_ren := {
  mixed := by kernel_rfl
  f129 := Tryz.func145.trans (congrArg some (by kernel_rfl))
  f171 := Tryz.func78.trans (congrArg some (by kernel_rfl))
  f172 := Tryz.func77.trans (congrArg some (by kernel_rfl))
  f205 := Tryz.func130.trans (congrArg some (by kernel_rfl))
  f243 := Tryz.func96.trans (congrArg some (by kernel_rfl))
  f244 := Tryz.func94.trans (congrArg some (by kernel_rfl))
  f245 := Tryz.func95.trans (congrArg some (by kernel_rfl))
  f246 := Tryz.func119.trans (congrArg some (by kernel_rfl))
  f247 := Tryz.func114.trans (congrArg some (by kernel_rfl))
  f279 := Tryz.func115.trans (congrArg some (by kernel_rfl))
  f280 := Tryz.func116.trans (congrArg some (by kernel_rfl))
  f281 := Tryz.func117.trans (congrArg some (by kernel_rfl))
  f282 := Tryz.func118.trans (congrArg some (by kernel_rfl))
  f283 := Tryz.func131.trans (congrArg some (by kernel_rfl))
  f284 := Tryz.func132.trans (congrArg some (by kernel_rfl))
  f285 := Tryz.func133.trans (congrArg some (by kernel_rfl))
  f286 := Tryz.func134.trans (congrArg some (by kernel_rfl))
  f287 := Tryz.func128.trans (congrArg some (by kernel_rfl))
  f316 := Tryz.func129.trans (congrArg some (by kernel_rfl))
  f317 := Tryz.func150.trans (congrArg some (by kernel_rfl))
  f318 := Tryz.func151.trans (congrArg some (by kernel_rfl))
  f319 := Tryz.func152.trans (congrArg some (by kernel_rfl))
  f320 := Tryz.func153.trans (congrArg some (by kernel_rfl))
  f321 := Tryz.func148.trans (congrArg some (by kernel_rfl))
  f322 := Tryz.func149.trans (congrArg some (by kernel_rfl))
  f337 := Tryz.func161.trans (congrArg some (by kernel_rfl))
  f338 := Tryz.func162.trans (congrArg some (by kernel_rfl))
  t0 := Tryz.underlying0
  a0 := Tryz.isAgg0
  z0 := Tryz.sizeOf0
  v0 := Tryz.zeroValue0
  t2 := Tryz.underlying2
  a2 := Tryz.isAgg2
  z2 := Tryz.sizeOf2
  v2 := Tryz.zeroValue2
  t3 := Tryz.underlying3
  a3 := Tryz.isAgg3
  z3 := Tryz.sizeOf3
  v3 := Tryz.zeroValue3
  t4 := Tryz.underlying4
  a4 := Tryz.isAgg4
  z4 := Tryz.sizeOf4
  v4 := Tryz.zeroValue4
  t5 := Tryz.underlying5
  a5 := Tryz.isAgg5
  z5 := Tryz.sizeOf5
  v5 := Tryz.zeroValue5
  t9 := Tryz.underlying9
  a9 := Tryz.isAgg9
  z9 := Tryz.sizeOf9
  v9 := Tryz.zeroValue9
  t20 := Tryz.underlying20
  a20 := Tryz.isAgg20
  z20 := Tryz.sizeOf20
  v20 := Tryz.zeroValue20
  t21 := Tryz.underlying21
  a21 := Tryz.isAgg21
  z21 := Tryz.sizeOf21
  v21 := Tryz.zeroValue21
  t37 := Tryz.underlying154
  a37 := Tryz.isAgg154
  z37 := Tryz.sizeOf154
  v37 := Tryz.zeroValue154
  t46 := Tryz.underlying163
  a46 := Tryz.isAgg163
  z46 := Tryz.sizeOf163
  v46 := Tryz.zeroValue163
  t51 := Tryz.underlying189
  a51 := Tryz.isAgg189
  z51 := Tryz.sizeOf189
  v51 := Tryz.zeroValue189
  t53 := Tryz.underlying168
  a53 := Tryz.isAgg168
  z53 := Tryz.sizeOf168
  v53 := Tryz.zeroValue168
  t75 := Tryz.underlying123
  a75 := Tryz.isAgg123
  z75 := Tryz.sizeOf123
  v75 := Tryz.zeroValue123
  t76 := Tryz.underlying124
  a76 := Tryz.isAgg124
  z76 := Tryz.sizeOf124
  v76 := Tryz.zeroValue124
  t85 := Tryz.underlying155
  a85 := Tryz.isAgg155
  z85 := Tryz.sizeOf155
  v85 := Tryz.zeroValue155
  t127 := Tryz.underlying192
  a127 := Tryz.isAgg192
  z127 := Tryz.sizeOf192
  v127 := Tryz.zeroValue192
  t143 := Tryz.underlying193
  a143 := Tryz.isAgg193
  z143 := Tryz.sizeOf193
  v143 := Tryz.zeroValue193
  t145 := Tryz.underlying195
  a145 := Tryz.isAgg195
  z145 := Tryz.sizeOf195
  v145 := Tryz.zeroValue195
  t167 := Tryz.underlying153
  a167 := Tryz.isAgg153
  z167 := Tryz.sizeOf153
  v167 := Tryz.zeroValue153
  t168 := Tryz.underlying157
  a168 := Tryz.isAgg157
  z168 := Tryz.sizeOf157
  v168 := Tryz.zeroValue157
  t171 := Tryz.underlying175
  a171 := Tryz.isAgg175
  z171 := Tryz.sizeOf175
  v171 := Tryz.zeroValue175
  t173 := Tryz.underlying178
  a173 := Tryz.isAgg178
  z173 := Tryz.sizeOf178
  v173 := Tryz.zeroValue178
  t175 := Tryz.underlying169
  a175 := Tryz.isAgg169
  z175 := Tryz.sizeOf169
  v175 := Tryz.zeroValue169
  t210 := Tryz.underlying173
  a210 := Tryz.isAgg173
  z210 := Tryz.sizeOf173
  v210 := Tryz.zeroValue173
  t212 := Tryz.underlying197
  a212 := Tryz.isAgg197
  z212 := Tryz.sizeOf197
  v212 := Tryz.zeroValue197
  t213 := Tryz.underlying198
  a213 := Tryz.isAgg198
  z213 := Tryz.sizeOf198
  t232 := Tryz.underlying209
  a232 := Tryz.isAgg209
  z232 := Tryz.sizeOf209
  v232 := Tryz.zeroValue209
  t233 := Tryz.underlying210
  a233 := Tryz.isAgg210
  z233 := Tryz.sizeOf210
  v233 := Tryz.zeroValue210
  g15 := by kernel_rfl
  g16 := by kernel_rfl
  g17 := by kernel_rfl
  g18 := by kernel_rfl
  g19 := by kernel_rfl
  t80 := Tryz.underlying211
  a80 := Tryz.isAgg211
  z80 := Tryz.sizeOf211
  v80 := Tryz.zeroValue211
  i0 := by kernel_rfl
  i2 := by kernel_rfl
  i3 := by kernel_rfl
  i4 := by kernel_rfl
  i5 := by kernel_rfl
  i9 := by kernel_rfl
  i20 := by kernel_rfl
  i21 := by kernel_rfl
  i37 := by kernel_rfl
  i46 := by kernel_rfl
  i51 := by kernel_rfl
  i53 := by kernel_rfl
  i75 := by kernel_rfl
  i76 := by kernel_rfl
  i80 := by kernel_rfl
  i85 := by kernel_rfl
  i127 := by kernel_rfl
  i143 := by kernel_rfl
  i145 := by kernel_rfl
  i167 := by kernel_rfl
  i168 := by kernel_rfl
  i171 := by kernel_rfl
  i173 := by kernel_rfl
  i175 := by kernel_rfl
  i210 := by kernel_rfl
  i212 := by kernel_rfl
  i232 := by kernel_rfl
  i233 := by kernel_rfl
  m15 := by kernel_rfl
  m16 := by kernel_rfl
  m17 := by kernel_rfl
  m18 := by kernel_rfl
  m19 := by kernel_rfl
  c0 := by kernel_rfl
  c2 := by kernel_rfl
  c3 := by kernel_rfl
  c4 := by kernel_rfl
  c5 := by kernel_rfl
  c9 := by kernel_rfl
  c20 := by kernel_rfl
  c21 := by kernel_rfl
  c37 := by kernel_rfl
  c46 := by kernel_rfl
  c51 := by kernel_rfl
  c53 := by kernel_rfl
  c75 := by kernel_rfl
  c76 := by kernel_rfl
  c80 := by kernel_rfl
  c85 := by kernel_rfl
  c127 := by kernel_rfl
  c143 := by kernel_rfl
  c145 := by kernel_rfl
  c167 := by kernel_rfl
  c168 := by kernel_rfl
  c171 := by kernel_rfl
  c173 := by kernel_rfl
  c175 := by kernel_rfl
  c210 := by kernel_rfl
  c212 := by kernel_rfl
  c213 := by kernel_rfl
  c232 := by kernel_rfl
  c233 := by kernel_rfl }
end Go.Proofs.YtlhaeeenkgkdaaaGreatDoor

namespace Go.Proofs.YtlhaeeenkgkdaaaGreatDoor

structure Cuts (sep : T) (spl : T → T → List T) : Prop where
 pos : 0 < sep.length
 hit : ∀ cur rest, spl cur (sep ++ rest) = cur :: spl [] rest
 miss : ∀ cur c rest, sep.length ≤ rest.length + 1 → (c :: rest).take sep.length ≠ sep → spl cur (c :: rest) = spl (cur ++ [c]) rest
 fin : ∀ cur rest, rest.length < sep.length → spl cur rest = [cur ++ rest]
theorem cuts1 : Cuts [32] spl1 := by
 refine ⟨by decide, fun cur rest => ?_, fun cur c rest _ h => ?_, fun cur rest h => ?_⟩
 · show spl1 cur (32 :: rest) = _
   rw [spl1, if_pos rfl]
 · rw [spl1, if_neg (fun e => h (by rw [e]; rfl))]
 · have : rest = [] := List.eq_nil_of_length_eq_zero (by simpa using h)
   rw [this]; simp [spl1]
theorem cuts2 : Cuts [59, 32] spl2 := by
 refine ⟨by decide, fun cur rest => ?_, fun cur c rest hl h => ?_, fun cur rest h => ?_⟩
 · show spl2 cur (59 :: 32 :: rest) = _
   rw [spl2, if_pos ⟨rfl, rfl⟩]
 · cases rest with
   | nil => simp at hl
   | cons d rest => rw [spl2, if_neg (fun e => h (by rw [e.1, e.2]; rfl))]
 · cases rest with
   | nil => simp [spl2]
   | cons c rest =>
     have : rest = [] := List.eq_nil_of_length_eq_zero (by simp at h; omega)
     rw [this]; simp [spl2]
theorem Cuts.at_hit {sep : T} {spl : T → T → List T} (h : Cuts sep spl) {s : T} {k i : Nat} (hm : (s.drop i).take sep.length = sep) : spl ((s.take i).drop k) (s.drop i) = (s.take i).drop k :: spl [] (s.drop (i + sep.length)) := by
 have e : s.drop i = sep ++ s.drop (i + sep.length) := by
   have := List.take_append_drop sep.length (s.drop i)
   rw [hm, List.drop_drop] at this
   exact this.symm
 rw [e, h.hit]
theorem Cuts.at_miss {sep : T} {spl : T → T → List T} (h : Cuts sep spl) {s : T} {k i : Nat} (hk : k ≤ i) (hl : i + sep.length ≤ s.length) (hm : (s.drop i).take sep.length ≠ sep) : spl ((s.take i).drop k) (s.drop i) = spl ((s.take (i + 1)).drop k) (s.drop (i + 1)) := by
 have hp := h.pos
 have hi : i < s.length := by omega
 have e : s.drop i = s[i] :: s.drop (i + 1) := List.drop_eq_getElem_cons hi
 have e2 : (s.take (i + 1)).drop k = (s.take i).drop k ++ [s[i]] := by
   rw [List.take_succ_eq_append_getElem hi, List.drop_append_of_le_length (by simp; omega)]
 rw [e] at hm ⊢
 rw [e2, h.miss _ _ _ (by simp; omega) hm]
theorem Cuts.at_end {sep : T} {spl : T → T → List T} (h : Cuts sep spl) {s : T} {k i : Nat} (hk : k ≤ i) (hi : i ≤ s.length) (hl : s.length < i + sep.length) : spl ((s.take i).drop k) (s.drop i) = [s.drop k] := by
 rw [h.fin _ _ (by simp; omega)]
 congr 1
 have : s.drop k = (s.take i ++ s.drop i).drop k := by rw [List.take_append_drop]
 rw [this, List.drop_append_of_le_length (by simp; omega)]
end Go.Proofs.YtlhaeeenkgkdaaaGreatDoor

namespace Go.Proofs.YtlhaeeenkgkdaaaGreatDoor
open Go.Lib

end Go.Proofs.YtlhaeeenkgkdaaaGreatDoor

namespace Go.Proofs.YtlhaeeenkgkdaaaGreatDoor
open Go.RowKit Go.Shelf

structure Pieces (w w' : World) (l : List ByteArray) : Prop where
 is : w' = w.alloc (.cells (strs l).toArray 9)
theorem Pieces.below {w w' : World} {l : List ByteArray} (h : Pieces w w' l) : Below w.heap.size w w' := by rw [h.is]; exact grew _ _
theorem itoa_calls (n : Int) (w : World) (hG : GroundN w) (h0 : -9223372036854775808 ≤ n) (h1 : n ≤ 9223372036854775807) :
   Calls Tryz.prog 78 #[.int .i64 n] w fun e w' => e = .returned (.string (ofT (Lib.itoa n))) ∧ Below w.heap.size w w' := by
 refine (Any.strconv_Itoa laysM171 n h0 h1 w hG.tab).mono ?_
 rintro e w' ⟨rfl, k, os, rfl⟩
 exact ⟨rfl, Lib.below_grow _ _ (Nat.le_refl _) _ _⟩

theorem atoi_calls (s : ByteArray) (w : World) (hG : GroundN w) (hs : s.size ≤ 100000) :
   Calls Tryz.prog 77 #[.string s] w fun e w' => ((∃ v, Lib.atoiAll (keyT s) = .ok v ∧ e = .returned (.tuple #[.int .i64 v, .nilIface])) ∨ (∃ v t p, (∀ u, Lib.atoiAll (keyT s) ≠ .ok u) ∧ e = .returned (.tuple #[.int .i64 v, .iface t (.pointer (some p))]))) ∧ Below w.heap.size w w' := by
 cases h : Lib.atoiAll (keyT s) with
 | ok v =>
   refine (Any.strconv_Atoi_ok laysC172 s (by omega) v h w).mono ?_
   rintro e w' ⟨rfl, hw⟩
   refine ⟨.inl ⟨v, rfl, rfl⟩, ?_⟩
   rcases hw with rfl | ⟨t, rfl⟩
   · exact Below.refl _ _
   · exact Lib.bytesWorld_below _ _ _
 | «syntax» =>
   obtain ⟨tp, p, hv⟩ := hG.syn
   refine (Any.strconv_Atoi_syntax_var laysC172 s (by omega) h tp p w hv).mono ?_
   rintro e w' ⟨N, rfl, _, _, hb⟩
   exact ⟨.inr ⟨_, _, _, (fun u h => by cases h), rfl⟩, hb⟩
 | range =>
   obtain ⟨tp, p, hv⟩ := hG.rng
   refine (Any.strconv_Atoi_range_var laysC172 s (by omega) h tp p w hv).mono ?_
   rintro e w' ⟨N, rfl, _, _, hb⟩
   exact ⟨.inr ⟨_, _, _, (fun u h => by cases h), rfl⟩, hb⟩

def Told (o : Option Int) (e : Ending) : Prop := ∃ v : Int, e = .returned (.tuple #[.int .i64 v, .bool o.isSome]) ∧ ∀ u, o = some u → v = u
theorem keyT_eq {a b : ByteArray} (h : keyT a = keyT b) : a = b := by
 have := congrArg ofT h
 rwa [ofT_keyT, ofT_keyT] at this

theorem told_ok {s : ByteArray} {v : Int} (h : Lib.atoiAll (keyT s) = .ok v) : (Lib.itoa v = keyT s → numOf (keyT s) = some v) ∧ (Lib.itoa v ≠ keyT s → numOf (keyT s) = none) := by
 unfold numOf; rw [h]
 exact ⟨fun e => if_pos e, fun e => if_neg e⟩
theorem told_no {s : ByteArray} (h : ∀ u, Lib.atoiAll (keyT s) ≠ .ok u) : numOf (keyT s) = none := by
 unfold numOf
 split
 · rename_i v e; exact absurd e (h v)
 · rfl
theorem itoa_eq {s : ByteArray} {v : Int} (h : Lib.itoa v = keyT s) : ofT (Lib.itoa v) = s := by rw [h, ofT_keyT]
theorem itoa_ne {s : ByteArray} {v : Int} (h : Lib.itoa v ≠ keyT s) : ofT (Lib.itoa v) ≠ s := fun e => h (by rw [← e, keyT_ofT])

theorem keyT_len (s : ByteArray) : (keyT s).length = s.size := Array.length_toList
theorem ofT_size (t : T) : (ofT t).size = t.length := by simp [ofT, ByteArray.size]
end Go.Proofs.YtlhaeeenkgkdaaaGreatDoor

namespace Go.Proofs.YtlhaeeenkgkdaaaGreatDoor
open Go.RowKit

structure InsAt (w : World) (b : Nat) (i : Ins) : Prop where
 c0 : w.cell? ⟨b, 0, none⟩ = some (.int .i64 i.kind)
 c1 : w.cell? ⟨b, 1, none⟩ = some (.int .i64 i.a)
 c2 : w.cell? ⟨b, 2, none⟩ = some (.int .i64 i.b)
 c3 : w.cell? ⟨b, 3, none⟩ = some (.int .i64 i.n)
 c4 : w.cell? ⟨b, 4, none⟩ = some (.string i.key)
 free : ∀ j, w.frozen? ⟨b, j, none⟩ = false
theorem InsAt.lt {w : World} {b : Nat} {i : Ins} (h : InsAt w b i) : b < w.heap.size := World.block_lt_of_cell? _ _ h.c0
theorem InsAt.below {w w' : World} {b : Nat} {i : Ins} (h : InsAt w b i) (hb : Below w.heap.size w w') : InsAt w' b i :=
 ⟨kept_cell hb h.c0, kept_cell hb h.c1, kept_cell hb h.c2, kept_cell hb h.c3, kept_cell hb h.c4, fun j => kept_free hb ⟨h.lt, h.free j⟩⟩
theorem free_set {w : World} {a p : Addr} {v : Value} : (w.setCell p v).frozen? a = w.frozen? a := World.frozen?_setCell _ _ _ _
theorem InsAt.put0 {w : World} {b : Nat} {i : Ins} (h : InsAt w b i) (x : Int) : InsAt (w.setCell ⟨b, 0, none⟩ (.int .i64 x)) b (x, i.a, i.b, i.n, i.key) :=
 ⟨World.cell?_setCell_same _ _ _ h.c0, by rw [set_off (by decide)]; exact h.c1, by rw [set_off (by decide)]; exact h.c2, by rw [set_off (by decide)]; exact h.c3, by rw [set_off (by decide)]; exact h.c4, fun j => by rw [free_set]; exact h.free j⟩
theorem InsAt.put1 {w : World} {b : Nat} {i : Ins} (h : InsAt w b i) (x : Int) : InsAt (w.setCell ⟨b, 1, none⟩ (.int .i64 x)) b (i.kind, x, i.b, i.n, i.key) :=
 ⟨by rw [set_off (by decide)]; exact h.c0, World.cell?_setCell_same _ _ _ h.c1, by rw [set_off (by decide)]; exact h.c2, by rw [set_off (by decide)]; exact h.c3, by rw [set_off (by decide)]; exact h.c4, fun j => by rw [free_set]; exact h.free j⟩
theorem InsAt.put2 {w : World} {b : Nat} {i : Ins} (h : InsAt w b i) (x : Int) : InsAt (w.setCell ⟨b, 2, none⟩ (.int .i64 x)) b (i.kind, i.a, x, i.n, i.key) :=
 ⟨by rw [set_off (by decide)]; exact h.c0, by rw [set_off (by decide)]; exact h.c1, World.cell?_setCell_same _ _ _ h.c2, by rw [set_off (by decide)]; exact h.c3, by rw [set_off (by decide)]; exact h.c4, fun j => by rw [free_set]; exact h.free j⟩
theorem InsAt.put3 {w : World} {b : Nat} {i : Ins} (h : InsAt w b i) (x : Int) : InsAt (w.setCell ⟨b, 3, none⟩ (.int .i64 x)) b (i.kind, i.a, i.b, x, i.key) :=
 ⟨by rw [set_off (by decide)]; exact h.c0, by rw [set_off (by decide)]; exact h.c1, by rw [set_off (by decide)]; exact h.c2, World.cell?_setCell_same _ _ _ h.c3, by rw [set_off (by decide)]; exact h.c4, fun j => by rw [free_set]; exact h.free j⟩
theorem InsAt.put4 {w : World} {b : Nat} {i : Ins} (h : InsAt w b i) (s : ByteArray) : InsAt (w.setCell ⟨b, 4, none⟩ (.string s)) b (i.kind, i.a, i.b, i.n, s) :=
 ⟨by rw [set_off (by decide)]; exact h.c0, by rw [set_off (by decide)]; exact h.c1, by rw [set_off (by decide)]; exact h.c2, by rw [set_off (by decide)]; exact h.c3, World.cell?_setCell_same _ _ _ h.c4, fun j => by rw [free_set]; exact h.free j⟩
theorem five_new (w : World) (i : Ins) (t : TypeId) : InsAt (w.alloc (.cells #[.int .i64 i.kind, .int .i64 i.a, .int .i64 i.b, .int .i64 i.n, .string i.key] t)) w.heap.size i :=
 ⟨box_cell _ _ _ _ _ rfl, box_cell _ _ _ _ _ rfl, box_cell _ _ _ _ _ rfl, box_cell _ _ _ _ _ rfl, box_cell _ _ _ _ _ rfl, fun _ => World.frozen?_alloc_at _ _ _ _ rfl⟩
end Go.Proofs.YtlhaeeenkgkdaaaGreatDoor

namespace Go.Proofs.YtlhaeeenkgkdaaaGreatDoor
open Go.RowKit

def ins00 : Ins := (0, 0, 0, 0, ⟨#[]⟩)
theorem text_eq (p q : T) : ((ofT p).toList == q) = decide (p = q) := by
 rw [ByteArray.toList_eq]
 show ((ofT p).data.toList == q) = _
 rw [show (ofT p).data.toList = p from keyT_ofT p]
 by_cases h : p = q
 · simp [h]
 · simp [h]
theorem getD_map_ofT {l : List T} {j : Nat} (h : j < l.length) : (l.map ofT).getD j default = ofT (l.getD j []) := by
 simp [List.getD, h]
theorem drop_getD {l : List T} {j : Nat} (h : j < l.length) : l.drop j = l.getD j [] :: l.drop (j + 1) := by
 rw [List.drop_eq_getElem_cons h]
 simp [List.getD, h]
end Go.Proofs.YtlhaeeenkgkdaaaGreatDoor

namespace Go.Proofs.YtlhaeeenkgkdaaaGreatDoor
open Go.RowKit

theorem pieces_cell {w w' : World} {l : List ByteArray} (h : Pieces w w' l) {j : Nat} (hj : j < l.length) : w'.cell? ⟨w.heap.size, j, none⟩ = some (.string (l.getD j default)) := by
 rw [h.is]
 refine box_cell _ _ _ _ _ ?_
 have := strs_at hj
 simpa using this
theorem spl1_len_le : ∀ (s cur : T), (spl1 cur s).length ≤ s.length + 1
 | [], cur => by simp [spl1]
 | c :: s, cur => by
   rw [spl1]
   split
   · have := spl1_len_le s []; simp; omega
   · have := spl1_len_le s (cur ++ [c]); simp; omega
theorem spl1_small : ∀ (s cur : T), ∀ x ∈ spl1 cur s, x.length ≤ cur.length + s.length
 | [], cur, x, h => by simp [spl1] at h; rw [h]; simp
 | c :: s, cur, x, h => by
   rw [spl1] at h
   split at h
   · rcases List.mem_cons.1 h with rfl | h
     · simp
     · have := spl1_small s [] x h; simp at this ⊢; omega
   · have := spl1_small s (cur ++ [c]) x h; simp at this ⊢; omega
theorem spl2_small : ∀ (s cur : T), ∀ x ∈ spl2 cur s, x.length ≤ cur.length + s.length
 | [], cur, x, h => by simp [spl2] at h; rw [h]; simp
 | [c], cur, x, h => by simp [spl2] at h; rw [h]; simp
 | c :: d :: s, cur, x, h => by
   rw [spl2] at h
   split at h
   · rcases List.mem_cons.1 h with rfl | h
     · simp
     · have := spl2_small s [] x h; simp at this ⊢; omega
   · have := spl2_small (d :: s) (cur ++ [c]) x h; simp at this ⊢; omega
theorem spl2_len_le : ∀ (s cur : T), (spl2 cur s).length ≤ s.length + 1
 | [], cur => by simp [spl2]
 | [c], cur => by simp [spl2]
 | c :: d :: s, cur => by
   rw [spl2]
   split
   · have := spl2_len_le s []; simp; omega
   · have := spl2_len_le (d :: s) (cur ++ [c]); simp at this ⊢; omega
theorem bytes_eq (a b : ByteArray) : (a.toList == b.toList) = decide (a = b) := by
 by_cases h : a = b
 · rw [streq_true h]; simp [h]
 · rw [streq_false h]; simp [h]

theorem text_same (a b : T) : ((ofT a).toList == (ofT b).toList) = decide (a = b) := by
 rw [bytes_eq]
 by_cases e : a = b
 · simp [e]
 · rw [decide_eq_false e, decide_eq_false (fun e' => e (by rw [← keyT_ofT a, e', keyT_ofT]))]

end Go.Proofs.YtlhaeeenkgkdaaaGreatDoor
