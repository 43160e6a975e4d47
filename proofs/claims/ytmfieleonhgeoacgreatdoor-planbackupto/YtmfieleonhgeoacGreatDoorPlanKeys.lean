/-
  Plain mathematics of one deed that counts up: its text, and what it comes to.
  The closed fact that the statements of chapter 4 ask first is so.
  Plain mathematics of the two deeds that chapter 6 asks of first: their texts, and what is planned of them.
  The library's functions that the program calls are those whose contracts are known.
  The functions of package slices that plan calls: Contains over texts, Sort and Compact over a row of numbers that the call owns.
  New, Keys and Needs of the program's plans, walked.
-/
import Derived.Test.YtmfieleonhgeoacGreatDoorPlainMath
import Derived.Test.YtmfieleonhgeoacGreatDoorFillMath
import Derived.Test.YtmfieleonhgeoacGreatDoorDeedAll
import Derived.Test.YtmfieleonhgeoacGreatDoorRefParse
import Derived.Test.YtmfieleonhgeoacGreatDoorEngSet
import Derived.Test.YtmfieleonhgeoacGreatDoorPlanMath
import Derived.Shelf.Slices.Turned
import Derived.Shelf.Slices.CompactI
import Derived.Shelf.Sort.Plain
import Derived.Shelf.Slices.In.SortNone
import Derived.Test.YtmfieleonhgeoacGreatDoorProg
import Derived.Test.YtmfieleonhgeoacGreatDoorSearch
import Derived.Lib.OwnBridge
import Derived.Sort.OwnSortedInts
import Derived.Test.YtmfieleonhgeoacGreatDoorRefNeeds
import Derived.Test.YtmfieleonhgeoacGreatDoorRefNew
import Derived.Test.YtmfieleonhgeoacGreatDoorRefRight
import Derived.Deep.DeepCutAuto
import Derived.Deep.RegionWith
namespace Go.Proofs.YtmfieleonhgeoacGreatDoor
open Go.RowKit

def oneA : ByteArray := ⟨#[97]⟩
def oneE : ByteArray := ⟨#[]⟩
def oneI : List Ins := [(1, 0, 0, 0, oneA), (2, 1, 0, 1, oneE), (3, 0, 1, 0, oneE), (6, 0, 0, 0, oneA)]
def oneD : Deed3 := ([oneA], [oneA], oneI)
/-- reads a; writes a; load r0 a; const r1 1; add r0 r1; store r0 a -/
def oneT : T := [114, 101, 97, 100, 115, 32, 97, 59, 32, 119, 114, 105, 116, 101, 115, 32, 97, 59, 32, 108, 111, 97, 100, 32, 114, 48, 32, 97, 59, 32, 99, 111, 110, 115, 116, 32, 114, 49, 32, 49, 59, 32, 97, 100, 100, 32, 114, 48, 32, 114, 49, 59, 32, 115, 116, 111, 114, 101, 32, 114, 48, 32, 97]
theorem one_right : wDeed [oneA] [oneA] oneI = 0 := by decide
theorem one_digits {d : Nat} (h : d < 10) : Lib.decDigits d = [UInt8.ofNat (48 + d)] := by rw [Lib.decDigits, dif_pos h]
theorem one_itoa0 : Lib.itoa 0 = [48] := by
  have := Lib.itoa_nonneg 0
  rw [one_digits (by decide)] at this
  exact this
theorem one_itoa1 : Lib.itoa 1 = [49] := by
  have := Lib.itoa_nonneg 1
  rw [one_digits (by decide)] at this
  exact this
theorem one_text : printT [oneA] [oneA] oneI = oneT := by
  unfold printT partsOf oneI
  have h1 : insWords (1, 0, 0, 0, oneA) = [word 1, [114, 48], [97]] := by
    show [word 1, reg 0, keyT oneA] = _
    unfold reg; rw [one_itoa0]; rfl
  have h2 : insWords (2, 1, 0, 1, oneE) = [word 2, [114, 49], [49]] := by
    show [word 2, reg 1, Lib.itoa 1] = _
    unfold reg; rw [one_itoa1]
  have h3 : insWords (3, 0, 1, 0, oneE) = [word 3, [114, 48], [114, 49]] := by
    show [word 3, reg 0, reg 1] = _
    unfold reg; rw [one_itoa0, one_itoa1]
  have h4 : insWords (6, 0, 0, 0, oneA) = [word 6, [114, 48], [97]] := by
    show [word 6, reg 0, keyT oneA] = _
    unfold reg; rw [one_itoa0]; rfl
  simp only [List.map_cons, List.map_nil]
  rw [h1, h2, h3, h4]
  rfl
theorem one_read : readT oneT = (0, [oneA], [oneA], oneI) := by rw [← one_text]; exact read_print one_right
theorem one_small : SmallT [oneA] := by
  intro x hx; simp at hx; subst hx; decide
theorem oneRight : RightDD oneD := right_deed one_right

/-! ### What it comes to -/
theorem inc_ex (l : List Row) : exD l oneD = (setR (setR (setR zeroR 0 (num oneA l)) 1 1) 0 (rnd (num oneA l + 1)), setM zeroM oneA (some (rnd (num oneA l + 1))), false) := by
  show exec (fun k => num k l) oneI 0 zeroR zeroM = _
  generalize hn : num oneA l = n
  simp [oneI, exec, Ins.kind, Ins.a, Ins.b, Ins.n, Ins.key, look, zeroM, hn, setR]
theorem inc_do (l : List Row) : doD l oneD = ins oneA (rnd (num oneA l + 1)) l := by
  unfold doD
  rw [inc_ex]
  simp [oneD, vers, setM, putOne]
theorem inc_end (l : List Row) : (endD l oneD).1 = false ∧ (endD l oneD).2 0 = rnd (num oneA l + 1) := by
  unfold endD
  rw [inc_ex]
  exact ⟨rfl, by simp [setR]⟩
theorem one_num (n : Int) : num oneA [(oneA, n)] = n := by simp [num, less_irrefl]
theorem one_ins (n m : Int) : ins oneA m [(oneA, n)] = [(oneA, m)] := by simp [ins, less_irrefl]
theorem inc_none : doD [] oneD = [(oneA, 1)] := by
  rw [inc_do]
  show ins oneA (rnd (0 + 1)) [] = _
  rw [show rnd (0 + 1) = 1 from by decide +kernel]
  rfl
theorem inc_none_end : (endD [] oneD).2 0 = 1 := by
  rw [(inc_end []).2]
  show rnd (0 + 1) = 1
  decide +kernel
theorem inc_two : allD [(oneA, 1)] [oneD, oneD] = [(oneA, 3)] := by
  show doD (doD [(oneA, 1)] oneD) oneD = _
  rw [inc_do [(oneA, 1)], one_num, one_ins, inc_do, one_num, one_ins]
  rw [show rnd (rnd (1 + 1) + 1) = 3 from by decide +kernel]
end Go.Proofs.YtmfieleonhgeoacGreatDoor

namespace Go.Proofs.YtmfieleonhgeoacGreatDoor
open Go.RowKit

/-- How read ends, of a text that is a deed's. -/
def ReadTold (w w' : World) (d : Deed3) (e : Ending) : Prop :=
  ∃ rb rn rc wb wn wc cb cn cc, e = .returned (.agg #[.slice rb rn rc, .slice wb wn wc, .slice cb cn cc]) ∧ DeedIn w' rb rn rc wb wn wc cb cn cc d.1 d.2.1 d.2.2 ∧ Below w.heap.size w w'

/-- Two deeds in a slice that was just laid. -/
theorem deeds_two (w : World) (rb : Option Addr) (rn rc : Nat) (wb : Option Addr) (wn wc : Nat) (cb : Option Addr) (cn cc : Nat) (rb' : Option Addr) (rn' rc' : Nat) (wb' : Option Addr) (wn' wc' : Nat) (cb' : Option Addr) (cn' cc' : Nat) (d d' : Deed3)
    (h : DeedIn w rb rn rc wb wn wc cb cn cc d.1 d.2.1 d.2.2) (h' : DeedIn w rb' rn' rc' wb' wn' wc' cb' cn' cc' d'.1 d'.2.1 d'.2.2) (s : SmallT d.1 ∧ SmallT d.2.1) (s' : SmallT d'.1 ∧ SmallT d'.2.1) :
    DeedsIn (w.alloc (.cells #[.slice rb rn rc, .slice wb wn wc, .slice cb cn cc, .slice rb' rn' rc', .slice wb' wn' wc', .slice cb' cn' cc'] 50)) (some ⟨w.heap.size, 0, none⟩) 2 2 [d, d'] := by
  have hb := grew w (.cells #[.slice rb rn rc, .slice wb wn wc, .slice cb cn cc, .slice rb' rn' rc', .slice wb' wn' wc', .slice cb' cn' cc'] 50)
  refine ⟨rfl, ⟨Nat.le_refl _, by unfold maxLen; omega, fun h => by cases h⟩, .inr ⟨_, _, rfl, fun i hi => ?_⟩⟩
  have : i = 0 ∨ i = 1 := by omega
  rcases this with rfl | rfl
  · exact ⟨rb, rn, rc, wb, wn, wc, cb, cn, cc, box_cell w _ _ 0 _ rfl, box_cell w _ _ 1 _ rfl, box_cell w _ _ 2 _ rfl, h.below hb, s.1, s.2⟩
  · exact ⟨rb', rn', rc', wb', wn', wc', cb', cn', cc', box_cell w _ _ 3 _ rfl, box_cell w _ _ 4 _ rfl, box_cell w _ _ 5 _ rfl, h'.below hb, s'.1, s'.2⟩

end Go.Proofs.YtmfieleonhgeoacGreatDoor

namespace Go.Proofs.YtmfieleonhgeoacGreatDoor
open Go.RowKit

def oneB : ByteArray := ⟨#[98]⟩
def sixI : List Ins := [(2, 0, 0, 1, oneE), (6, 0, 0, 0, oneA)]
def sixD : Deed3 := ([], [oneA], sixI)
def six2I : List Ins := [(1, 0, 0, 0, oneA)]
def six2D : Deed3 := ([oneA, oneB], [oneB], six2I)
/-- reads; writes a; const r0 1; store r0 a -/
def sixT : T := [114, 101, 97, 100, 115, 59, 32, 119, 114, 105, 116, 101, 115, 32, 97, 59, 32, 99, 111, 110, 115, 116, 32, 114, 48, 32, 49, 59, 32, 115, 116, 111, 114, 101, 32, 114, 48, 32, 97]
/-- reads a b; writes b; load r0 a -/
def six2T : T := [114, 101, 97, 100, 115, 32, 97, 32, 98, 59, 32, 119, 114, 105, 116, 101, 115, 32, 98, 59, 32, 108, 111, 97, 100, 32, 114, 48, 32, 97]
theorem six_right : wDeed [] [oneA] sixI = 0 := by decide
theorem six2_right : wDeed [oneA, oneB] [oneB] six2I = 0 := by decide
theorem six_text : printT [] [oneA] sixI = sixT := by
  unfold printT partsOf sixI
  have h2 : insWords (2, 0, 0, 1, oneE) = [word 2, [114, 48], [49]] := by
    show [word 2, reg 0, Lib.itoa 1] = _
    unfold reg; rw [one_itoa0, one_itoa1]
  have h4 : insWords (6, 0, 0, 0, oneA) = [word 6, [114, 48], [97]] := by
    show [word 6, reg 0, keyT oneA] = _
    unfold reg; rw [one_itoa0]; rfl
  simp only [List.map_cons, List.map_nil]
  rw [h2, h4]
  rfl
theorem six2_text : printT [oneA, oneB] [oneB] six2I = six2T := by
  unfold printT partsOf six2I
  have h1 : insWords (1, 0, 0, 0, oneA) = [word 1, [114, 48], [97]] := by
    show [word 1, reg 0, keyT oneA] = _
    unfold reg; rw [one_itoa0]; rfl
  simp only [List.map_cons, List.map_nil]
  rw [h1]
  rfl
theorem six_read : readT sixT = (0, [], [oneA], sixI) := by rw [← six_text]; exact read_print six_right
theorem six2_read : readT six2T = (0, [oneA, oneB], [oneB], six2I) := by rw [← six2_text]; exact read_print six2_right
theorem six_small : SmallT sixD.1 ∧ SmallT sixD.2.1 := ⟨(fun x hx => by cases hx), one_small⟩
theorem six2_small : SmallT six2D.1 ∧ SmallT six2D.2.1 := by
  refine ⟨fun x hx => ?_, fun x hx => ?_⟩
  · simp [six2D] at hx; rcases hx with rfl | rfl <;> decide
  · simp [six2D] at hx; subst hx; decide
theorem sixRight : RightDD sixD := right_deed six_right
theorem six2Right : RightDD six2D := right_deed six2_right
theorem six_rights : RightDs [sixD, six2D] := fun d hd => by
  simp at hd
  rcases hd with rfl | rfl
  · exact sixRight
  · exact six2Right
def sixR : List Row := [(oneA, 1)]
theorem sixR_right : Right sixR := right_of rfl
def sixE : Eng := addAll (newE sixR) [sixD, six2D]
theorem six_wDs : wDs [sixD, six2D] = 0 := wDs_of six_rights
theorem sixE_deeds : sixE.deeds.length = 2 := rfl
theorem sixE_state : sixE.state.length = 2 := rfl
theorem sixE_chains : sixE.chains.length = 2 := by decide +kernel
theorem six_keys : (keysD six2D).length = 2 := by decide
theorem six_needs0 : needsE sixE 0 = [] := rfl
theorem six_needs1 : needsE sixE 1 = [0] := by decide +kernel
theorem six_good : Good sixR [sixD, six2D] 0 (fun _ => false) (fun _ => -1) sixE := (Good.new sixR_right).addAll six_rights
end Go.Proofs.YtmfieleonhgeoacGreatDoor

namespace Go.Proofs.YtmfieleonhgeoacGreatDoor
open Go.Shelf
def lays110_ren : Go.Shelf.Ren := ⟨fun | 110 => 33 | 109 => 57 | n => n, fun | 31 => 47 | 9 => 9 | 4 => 4 | 3 => 3 | 0 => 0 | n => n, fun | n => n⟩
theorem lays110 : Go.Proofs.Lays.n110 Tryz.prog lays110_ren := {
  mixed := by kernel_rfl
  f109 := Tryz.func57.trans (congrArg some (by kernel_rfl))
  f110 := Tryz.func33.trans (congrArg some (by kernel_rfl))
  t0 := Tryz.underlying0
  a0 := Tryz.isAgg0
  z0 := Tryz.sizeOf0
  v0 := Tryz.zeroValue0
  t3 := Tryz.underlying3
  a3 := Tryz.isAgg3
  z3 := Tryz.sizeOf3
  v3 := Tryz.zeroValue3
  t4 := Tryz.underlying4
  a4 := Tryz.isAgg4
  z4 := Tryz.sizeOf4
  v4 := Tryz.zeroValue4
  t9 := Tryz.underlying9
  a9 := Tryz.isAgg9
  z9 := Tryz.sizeOf9
  v9 := Tryz.zeroValue9
  t31 := Tryz.underlying47
  a31 := Tryz.isAgg47
  z31 := Tryz.sizeOf47
  v31 := Tryz.zeroValue47 }
def lays189_ren : Go.Shelf.Ren := ⟨fun | 189 => 29 | 125 => 51 | 257 => 50 | 128 => 80 | 129 => 81 | 294 => 71 | 295 => 72 | 296 => 73 | 297 => 74 | 298 => 75 | 299 => 76 | 216 => 77 | 300 => 78 | 301 => 79 | 328 => 87 | 329 => 88 | 330 => 89 | 331 => 90 | 332 => 91 | 215 => 92 | 343 => 98 | n => n, fun | 28 => 25 | 3 => 3 | 46 => 92 | 0 => 0 | 51 => 121 | 53 => 123 | 4 => 4 | 183 => 114 | 182 => 113 | 131 => 83 | 5 => 5 | 9 => 9 | 218 => 130 | 222 => 134 | 228 => 139 | 229 => 140 | n => n, fun | n => n⟩
theorem lays189 : Go.Proofs.Lays.n189 Tryz.prog lays189_ren := {
  mixed := by kernel_rfl
  f125 := Tryz.func51.trans (congrArg some (by kernel_rfl))
  f128 := Tryz.func80.trans (congrArg some (by kernel_rfl))
  f129 := Tryz.func81.trans (congrArg some (by kernel_rfl))
  f189 := Tryz.func29.trans (congrArg some (by kernel_rfl))
  f215 := Tryz.func92.trans (congrArg some (by kernel_rfl))
  f216 := Tryz.func77.trans (congrArg some (by kernel_rfl))
  f257 := Tryz.func50.trans (congrArg some (by kernel_rfl))
  f294 := Tryz.func71.trans (congrArg some (by kernel_rfl))
  f295 := Tryz.func72.trans (congrArg some (by kernel_rfl))
  f296 := Tryz.func73.trans (congrArg some (by kernel_rfl))
  f297 := Tryz.func74.trans (congrArg some (by kernel_rfl))
  f298 := Tryz.func75.trans (congrArg some (by kernel_rfl))
  f299 := Tryz.func76.trans (congrArg some (by kernel_rfl))
  f300 := Tryz.func78.trans (congrArg some (by kernel_rfl))
  f301 := Tryz.func79.trans (congrArg some (by kernel_rfl))
  f328 := Tryz.func87.trans (congrArg some (by kernel_rfl))
  f329 := Tryz.func88.trans (congrArg some (by kernel_rfl))
  f330 := Tryz.func89.trans (congrArg some (by kernel_rfl))
  f331 := Tryz.func90.trans (congrArg some (by kernel_rfl))
  f332 := Tryz.func91.trans (congrArg some (by kernel_rfl))
  f343 := Tryz.func98.trans (congrArg some (by kernel_rfl))
  t0 := Tryz.underlying0
  a0 := Tryz.isAgg0
  z0 := Tryz.sizeOf0
  v0 := Tryz.zeroValue0
  t3 := Tryz.underlying3
  a3 := Tryz.isAgg3
  z3 := Tryz.sizeOf3
  v3 := Tryz.zeroValue3
  t4 := Tryz.underlying4
  a4 := Tryz.isAgg4
  z4 := Tryz.sizeOf4
  v4 := Tryz.zeroValue4
  t5 := Tryz.underlying5
  a5 := Tryz.isAgg5
  z5 := Tryz.sizeOf5
  v5 := Tryz.zeroValue5
  t9 := Tryz.underlying9
  a9 := Tryz.isAgg9
  z9 := Tryz.sizeOf9
  v9 := Tryz.zeroValue9
  t28 := Tryz.underlying25
  a28 := Tryz.isAgg25
  z28 := Tryz.sizeOf25
  v28 := Tryz.zeroValue25
  t46 := Tryz.underlying92
  a46 := Tryz.isAgg92
  z46 := Tryz.sizeOf92
  v46 := Tryz.zeroValue92
  t51 := Tryz.underlying121
  a51 := Tryz.isAgg121
  z51 := Tryz.sizeOf121
  v51 := Tryz.zeroValue121
  t53 := Tryz.underlying123
  a53 := Tryz.isAgg123
  z53 := Tryz.sizeOf123
  v53 := Tryz.zeroValue123
  t131 := Tryz.underlying83
  a131 := Tryz.isAgg83
  z131 := Tryz.sizeOf83
  v131 := Tryz.zeroValue83
  t182 := Tryz.underlying113
  a182 := Tryz.isAgg113
  z182 := Tryz.sizeOf113
  v182 := Tryz.zeroValue113
  t183 := Tryz.underlying114
  a183 := Tryz.isAgg114
  z183 := Tryz.sizeOf114
  v183 := Tryz.zeroValue114
  t218 := Tryz.underlying130
  a218 := Tryz.isAgg130
  z218 := Tryz.sizeOf130
  v218 := Tryz.zeroValue130
  t222 := Tryz.underlying134
  a222 := Tryz.isAgg134
  z222 := Tryz.sizeOf134
  v222 := Tryz.zeroValue134
  t228 := Tryz.underlying139
  a228 := Tryz.isAgg139
  z228 := Tryz.sizeOf139
  v228 := Tryz.zeroValue139
  t229 := Tryz.underlying140
  a229 := Tryz.isAgg140
  z229 := Tryz.sizeOf140
  v229 := Tryz.zeroValue140 }
def laysB20_ren : Go.Shelf.Ren := ⟨fun | 20 => 30 | n => n, fun | 22 => 25 | 3 => 3 | 4 => 4 | 0 => 0 | n => n, fun | n => n⟩
theorem laysB20 : Go.Proofs.Lays2.n20 Tryz.prog laysB20_ren := {
  mixed := by kernel_rfl
  f20 := Tryz.func30.trans (congrArg some (by kernel_rfl))
  t0 := Tryz.underlying0
  a0 := Tryz.isAgg0
  z0 := Tryz.sizeOf0
  v0 := Tryz.zeroValue0
  t3 := Tryz.underlying3
  a3 := Tryz.isAgg3
  z3 := Tryz.sizeOf3
  v3 := Tryz.zeroValue3
  t4 := Tryz.underlying4
  a4 := Tryz.isAgg4
  z4 := Tryz.sizeOf4
  v4 := Tryz.zeroValue4
  t22 := Tryz.underlying25
  a22 := Tryz.isAgg25
  z22 := Tryz.sizeOf25
  v22 := Tryz.zeroValue25
  i3 := by kernel_rfl }
end Go.Proofs.YtmfieleonhgeoacGreatDoor

namespace Go.Proofs.YtmfieleonhgeoacGreatDoor
open Go.RowKit Go.Shelf

theorem sort_calls (zs : List Int) (B g n c : Nat) (w : World) (h : w.ownsRow B 3 1 (.slice (some ⟨g, 0, none⟩) n c) n (intsC zs)) (hn : n ≤ 4000000) :
    Calls Tryz.prog 29 #[.slice (some ⟨g, 0, none⟩) n c] w fun e w' => e = .returned (.tuple #[]) ∧ w'.ownsRow B 3 1 (.slice (some ⟨g, 0, none⟩) n c) n (intsC (zs.mergeSort fun x y => decide (x ≤ y))) ∧ w.grownBy w' (some g) := by
  obtain ⟨g', cap, hv, hB, hlt, hnc, hcm, hlen, hH⟩ := Lib.holds_of_ownsRow (enc := Value.int .i64) (zs := zs) h (by simp)
  simp only [Value.slice.injEq, Option.some.injEq, Addr.mk.injEq, and_true, true_and] at hv
  obtain ⟨rfl, rfl⟩ := hv
  subst hlen
  refine (Any.slices_Sort_int lays189 g 0 c zs w hH hlt (by omega)).mono ?_
  rintro e w' ⟨rfl, k, os, rfl⟩
  refine ⟨rfl, ?_, grownBy_sortedI _⟩
  rcases h.2 with ⟨h0, _⟩ | ⟨g', cap', cur, hv, hbase, hb, h1, h2, h3, h4⟩
  · cases h0
  · cases hv
    exact ownsRow_sortedI (n := k) (os := os) (ts := zs.mergeSort fun x y => decide (x ≤ y)) (List.length_mergeSort zs) hbase hb h1 h2 h3
theorem compact_calls (zs : List Int) (B g n c : Nat) (w : World) (h : w.ownsRow B 3 1 (.slice (some ⟨g, 0, none⟩) n c) n (intsC zs)) (hn : n ≤ 4000000) :
    Calls Tryz.prog 30 #[.slice (some ⟨g, 0, none⟩) n c] w fun e w' => e = .returned (.slice (some ⟨g, 0, none⟩) (Lib.compact zs).length c) ∧ w'.ownsRow B 3 1 (.slice (some ⟨g, 0, none⟩) (Lib.compact zs).length c) (Lib.compact zs).length (intsC (Lib.compact zs)) ∧ ∀ w0, Below B w0 w → Below B w0 w' := by
  obtain ⟨g', cap, hv, hB, hlt, hnc, hcm, hlen, hH⟩ := Lib.holds_of_ownsRow (enc := Value.int .i64) (zs := zs) h (by simp)
  simp only [Value.slice.injEq, Option.some.injEq, Addr.mk.injEq, and_true, true_and] at hv
  obtain ⟨rfl, rfl⟩ := hv
  subst hlen
  have hle := Lib.compact_length_le zs
  refine (Any.slices_Compact_int laysB20 g 0 c zs w hH (by omega) hnc).mono ?_
  rintro e w' ⟨rfl, q, rfl⟩
  refine ⟨rfl, ?_, fun w0 hb => Lib.below_putRow hb hB⟩
  have := Lib.ownsRow_putRow (q := q) (k := (Lib.compact zs).length) (ys := Lib.compact zs ++ List.replicate (zs.length - (Lib.compact zs).length) 0) h (by simp; omega) hle
  rw [List.take_left] at this
  exact this
end Go.Proofs.YtmfieleonhgeoacGreatDoor

namespace Go.Proofs.YtmfieleonhgeoacGreatDoor
open Go.RowKit

theorem planNew_results (tmps : Array Value) (b : Nat) (w : World) {a0 a1 a2 a3 : Option Addr} {n0 n1 n2 n3 c0 c1 c2 c3 : Nat} {z : Int} (h : tmps.getD 2 undef = .pointer (some ⟨b, 0, none⟩)) (hb : Box w b #[.slice a0 n0 c0, .slice a1 n1 c1, .slice a2 n2 c2, .slice a3 n3 c3, .int .i64 z] 33) :
    (results Tryz.f13 tmps).run Tryz.prog w = .ok (.agg #[.slice a0 n0 c0, .slice a1 n1 c1, .slice a2 n2 c2, .slice a3 n3 c3, .int .i64 z]) w := by
  have h' : tmps[2]?.getD undef = .pointer (some ⟨b, 0, none⟩) := by simpa using h
  obtain ⟨k0, k1, k2, k3, k4⟩ := hb.cells5
  simp [results, Tryz.results13, go_sem, h', k0, k1, k2, k3, k4]

set_option maxHeartbeats 4000000 in
set_option maxRecDepth 100000 in
theorem planNew_calls (l : List Row) (base : Option Addr) (n c : Nat) (w : World) (hr : Right l) (hsm : Small l) (ha : Holds w base n c l) :
    Calls Tryz.prog 13 #[.slice base n c] w fun x w' => EngTold w w' (newE l) x := by
  have HBX := hid (Box.new w #[.slice none 0 0, .slice none 0 0, .slice none 0 0, .slice none 0 0, .int .i64 0] 33)
  have HB0 := hid (grew w (.cells #[.slice none 0 0, .slice none 0 0, .slice none 0 0, .slice none 0 0, .int .i64 0] 33))
  have PO := hid (ofC_calls l base n c _ hr hsm (ha.below HB0.out))
  clear ha hr hsm
  go_enter Tryz.func13, Tryz.ntmps13
  go_wp2_with fail
  refine PO.out.mono ?_
  rintro x w1 ⟨b1, n1, c1, rfl, h1, hb1⟩
  have HX1 := hid (HBX.out.below hb1)
  obtain ⟨x0, x1, x2, x3, x4⟩ := HX1.out.cells5
  obtain ⟨f0, f1, f2, f3, f4⟩ := HX1.out.free5
  have hxl : w.heap.size < w1.heap.size := HX1.out.lt
  have HLI : Hid (EngLies w1 b1 n1 c1 none 0 0 none 0 0 none 0 0 (newE l)) :=
    ⟨h1, ⟨rfl, ⟨Nat.le_refl _, Nat.zero_le _, fun _ => rfl⟩, .inl rfl⟩, Lies.none _ _, Lies.none _ _, Kind.none _ _, Kind.none _ _, Kind.none _ _⟩
  have HLF := hid (HLI.out.put HX1.out (put5_off w1 w.heap.size (.slice b1 n1 c1) (.slice none 0 0) (.slice none 0 0) (.slice none 0 0) (.int .i64 0)))
  have HBF := hid (put5_box HX1.out (.slice b1 n1 c1) (.slice none 0 0) (.slice none 0 0) (.slice none 0 0) (.int .i64 0))
  have HBE := hid (put5_below (below_deep HB0.out hb1) (Nat.le_refl _) (.slice b1 n1 c1) (.slice none 0 0) (.slice none 0 0) (.slice none 0 0) (.int .i64 0))
  unfold put5 at HLF HBF HBE
  clear h1 hb1 PO
  go_wp2
  (try simp only [Exit.inBlock, Exit.then])
  refine bodyPost_ret (planNew_results _ w.heap.size _ rfl HBF.out) rfl ?_
  exact ⟨_, rfl, ⟨_, _, _, _, _, _, _, _, _, _, _, _, rfl, HLF.out⟩, HBE.out⟩

theorem filter_snoc (l : List ByteArray) (f : ByteArray → Bool) {j : Nat} (h : j < l.length) : (l.take (j + 1)).filter f = (l.take j).filter f ++ if f (l.getD j default) = true then [l.getD j default] else [] := by
  rw [take_snoc_getD h, List.filter_append]
  congr 1
  by_cases hf : f (l.getD j default) = true
  · rw [if_pos hf, List.filter_cons, if_pos hf]; rfl
  · rw [if_neg hf, List.filter_cons, if_neg hf]; rfl

set_option maxHeartbeats 4000000 in
set_option maxRecDepth 100000 in
theorem planKeys_calls (d : Deed3) (rb : Option Addr) (rn rc : Nat) (wb : Option Addr) (wn wc : Nat) (cb : Option Addr) (cn cc : Nat) (w : World) (hd : DeedIn w rb rn rc wb wn wc cb cn cc d.1 d.2.1 d.2.2) (hR : RightDD d) :
    Calls Tryz.prog 15 #[.agg #[.slice rb rn rc, .slice wb wn wc, .slice cb cn cc]] w fun e w' => ∃ b n c, e = .returned (.slice b n c) ∧ Texts w' b n c (keysD d) ∧ Below w.heap.size w w' := by
  have hrn := Texts.count hd.tr
  have hwn := Texts.count hd.tw
  have hr5 : rn ≤ 5 := by rw [hrn]; exact wKeys_len hR.r
  have hw5 : wn ≤ 5 := by rw [hwn]; exact wKeys_len hR.w
  have HFIN := hid (keysP_is (wKeys_nodup hR.r) (wKeys_nodup hR.w))
  have HKP : Hid (keysP d = d.1 ++ d.2.1.filter (fun k => !has d.1 k)) := rfl
  have HBX := hid (Box.new w #[.slice rb rn rc, .slice wb wn wc, .slice cb cn cc] 50)
  have HBA := hid (grew w (.cells #[.slice rb rn rc, .slice wb wn wc, .slice cb cn cc] 50))
  have HD := hid (hd.below HBA.out)
  have HRN := hid hrn
  have HWN := hid hwn
  have N1 : Hid ((0 + rn) * 16 ≤ 140737488355328) := by show _ ≤ _; omega
  have O1 := hid (strs_one d.1)
  clear hd hrn hwn hR
  go_enter Tryz.func15, Tryz.ntmps15
  go_upto_region 1 with fail
  generalize w.alloc (.cells #[.slice rb rn rc, .slice wb wn wc, .slice cb cn cc] 50) = A at *
  have x0 := HBX.out.cell 0 _ rfl
  have hxl : w.heap.size < A.heap.size := HBX.out.lt
  go_wp2_with (at_builtin; refine wpList_onto _ rfl _ _ 47 9 1 16 _ Tryz.underlying47 strInfo rfl (by decide) (by decide) rfl A.heap.size _ 0 [] rfl (World.ownsRow_nil _ _ _ _) rb rn rc (strs d.1) rfl HD.out.tr O1.out N1.out (Nat.le_refl _) ?_)
  intro v1 w1 hown1 hg1
  have HB1 : Hid (Below A.heap.size A w1) := (Below.refl _ _).grown hg1 (Nat.le_refl _) (fun k hk => by cases hk)
  have HO1 : Hid (w1.ownsRow A.heap.size 9 1 v1 rn (strs d.1)) := by
    show World.ownsRow _ _ _ _ _ _ _
    simpa using hown1
  have x1 := (HBX.out.below HB1.out).cell 1 _ rfl
  have hx1 : w.heap.size < w1.heap.size := (HBX.out.below HB1.out).lt
  clear hown1 hg1 x0 N1 O1
  go_wp2
  go_loopw [3, 12] (fun v i wr => ∃ j r : Nat, j ≤ wn ∧ r ≤ rn + j ∧ i = .int .i64 j ∧ Hid ((d.1 ++ (d.2.1.take j).filter (fun k => !has d.1 k)).length = r) ∧ Hid (wr.ownsRow A.heap.size 9 1 v r (strs (d.1 ++ (d.2.1.take j).filter (fun k => !has d.1 k)))) ∧ Hid (Below A.heap.size A wr)) (fun _ i _ => wn - (intOf i).toNat)
  case atStart => exact ⟨0, rn, Nat.zero_le _, by omega, rfl, (by show _ = _; simp [HRN.out]), (by show World.ownsRow _ _ _ _ _ _ _; simpa using HO1.out), HB1⟩
  case round =>
    obtain ⟨j, r, hj, hr, rfl, HR, HO, HBR⟩ := hrel
    by_cases hlt : j < wn
    · have hjl : j < d.2.1.length := by rw [← HWN.out]; exact hlt
      have hi : (j : Int) < (wn : Int) := by omega
      obtain ⟨b2, o2, rfl, hr2⟩ : ∃ b2 o2, wb = some ⟨b2, o2, none⟩ ∧ Run wr b2 o2 (strs d.2.1) := by
        rcases (HD.out.tw.below (by decide) HBR.out).run with h | h
        · omega
        · exact h
      have c2 := hr2 j _ (strs_at hjl)
      have hb2 : b2 < wr.heap.size := by simpa using World.block_lt_of_cell? _ _ c2
      have x0 := (HBX.out.below HBR.out).cell 0 _ rfl
      have hxr : w.heap.size < wr.heap.size := (HBX.out.below HBR.out).lt
      have HFS := hid (filter_snoc d.2.1 (fun k => !has d.1 k) hjl)
      have PC := hid (contains_calls d.1 rb rn rc (d.2.1.getD j default) wr (HD.out.tr.below (by decide) HBR.out))
      clear hr2
      generalize (d.2.1.take j).filter (fun k => !has d.1 k) = F at *
      generalize d.2.1.getD j default = k at *
      go_wp2_with fail
      refine PC.out.mono ?_
      rintro x w2 ⟨rfl, rfl⟩
      cases hh : has d.1 k with
      | true =>
        have HF : Hid ((d.2.1.take (j + 1)).filter (fun k => !has d.1 k) = F) := by show _ = _; rw [HFS.out, hh]; simp
        clear hh PC
        go_wp2
        go_roundw
        case rel => exact ⟨j + 1, r, by omega, by omega, by go_num, (by show _ = _; rw [HF.out]; exact HR.out), (by rw [HF.out]; exact HO), HBR⟩
        case measure => simp [intOf]; omega
      | false =>
        have HF : Hid ((d.2.1.take (j + 1)).filter (fun k => !has d.1 k) = F ++ [k]) := by show _ = _; rw [HFS.out, hh]; simp
        clear hh PC
        have HC1 := hid (lies_one wr #[.string k] 9 1 rfl)
        have HOA := hid (HO.out.alloc (.cells #[.string k] 9))
        have HBY : Hid ((r + 1) * 16 ≤ 140737488355328) := by show _ ≤ _; omega
        have HSZ := hid (step_box HBR.out (.cells #[.string k] 9))
        go_wp2_with (at_builtin; refine wpList_onto _ rfl _ _ 47 9 1 16 _ Tryz.underlying47 strInfo rfl (by decide) (by decide) rfl A.heap.size _ r _ rfl HOA.out _ 1 _ _ rfl HC1.out (strs_one [k]) HBY.out HSZ.out.size ?_)
        intro v3 w3 hown3 hg3
        have HB3 := hid (step_row HSZ.out HOA.out hg3)
        have HO3 : Hid (w3.ownsRow A.heap.size 9 1 v3 (r + 1) (strs (d.1 ++ (F ++ [k])))) := by
          show World.ownsRow _ _ _ _ _ _ _
          rw [← List.append_assoc, strs_append (d.1 ++ F)]; exact hown3
        clear hown3 hg3
        go_wp2
        go_roundw
        case rel => exact ⟨j + 1, r + 1, by omega, by omega, by go_num, (by show _ = _; rw [HF.out, ← List.append_assoc, List.length_append, HR.out]; rfl), (by rw [HF.out]; exact HO3), HB3⟩
        case measure => simp [intOf]; omega
    · obtain rfl : j = wn := by omega
      rw [List.take_of_length_le (by rw [← HWN.out]; exact Nat.le_refl _), ← HKP.out, HFIN.out] at HO
      obtain ⟨ob, oc, rfl, hol⟩ := Lies.owned HO.out
      have HOL : Hid (Texts wr ob r oc (keysD d)) := hol
      clear hol
      go_wp2
      go_ret
      exact ⟨_, _, _, rfl, HOL.out, below_deep HBA.out HBR.out⟩

set_option maxHeartbeats 1000000 in
set_option maxRecDepth 100000 in
theorem number_calls6 (cb : Option Addr) (cn cc : Nat) (db : Option Addr) (dn dc : Nat) (sb : Option Addr) (sn sc : Nat) (eb : Option Addr) (en ec : Nat) (bs at_ : Int) (w : World) (h0 : 0 ≤ bs) (h1 : bs ≤ 4000000) (h2 : 0 ≤ at_) (h3 : at_ ≤ 4000000) :
    Calls Tryz.prog 28 #[.agg #[.slice cb cn cc, .slice db dn dc, .slice sb sn sc, .slice eb en ec, .int .i64 bs], .int .i64 at_] w fun x w' => x = .returned (.int .i64 (bs + at_)) ∧ Below w.heap.size w w' := by
  have HB := hid (grew w (.cells #[.slice cb cn cc, .slice db dn dc, .slice sb sn sc, .slice eb en ec, .int .i64 bs] 33))
  have hs : IntKind.i64.wrap (bs + at_) = bs + at_ := by rw [IntKind.wrap_i64]; omega
  go_enter Tryz.func28, Tryz.ntmps28
  go_wp2
  go_ret
  exact ⟨rfl, HB.out⟩
end Go.Proofs.YtmfieleonhgeoacGreatDoor
