/-
  Plain mathematics of the two deeds that chapter 7 asks of first: their texts, and what is done of them.
  Plain mathematics of a deed that is done: what each key that it writes has then, as the program takes it from what Run made, or from what the key had.
  The library's functions that the program calls are those whose contracts are known.
  The functions of package slices that plan calls: Contains over texts, Sort and Compact over a row of numbers that the call owns.
  New, Keys and Needs of the program's plans, walked.
-/
import Derived.Test.YtllhdmhfjahgladGreatDoorRunMath
import Derived.Test.YtllhdmhfjahgladGreatDoorDeedTurn
import Derived.Test.YtllhdmhfjahgladGreatDoorPlanMath
import Derived.Shelf.Slices.Turned
import Derived.Shelf.Slices.CompactI
import Derived.Shelf.Sort.Plain
import Derived.Shelf.Slices.In.SortNone
import Derived.Test.YtllhdmhfjahgladGreatDoorProg
import Derived.Test.YtllhdmhfjahgladGreatDoorSearch
import Derived.Lib.OwnBridge
import Derived.Sort.OwnSortedInts
import Derived.Test.YtllhdmhfjahgladGreatDoorRefNeeds
import Derived.Test.YtllhdmhfjahgladGreatDoorRefNew
import Derived.Test.YtllhdmhfjahgladGreatDoorRefBefore
import Derived.Deep.DeepCutAuto
import Derived.Deep.RegionWith
namespace Go.Proofs.YtllhdmhfjahgladGreatDoor
open Go.RowKit

def sevI : List Ins := [(2, 0, 0, 4, oneE), (6, 0, 0, 0, oneA)]
def sevD : Deed3 := ([], [oneA], sevI)
def sev2I : List Ins := [(1, 1, 0, 0, oneA)]
def sev2D : Deed3 := ([oneA], [], sev2I)
/-- reads; writes a; const r0 4; store r0 a -/
def sevT : T := [114, 101, 97, 100, 115, 59, 32, 119, 114, 105, 116, 101, 115, 32, 97, 59, 32, 99, 111, 110, 115, 116, 32, 114, 48, 32, 52, 59, 32, 115, 116, 111, 114, 101, 32, 114, 48, 32, 97]
/-- reads a; writes; load r1 a -/
def sev2T : T := [114, 101, 97, 100, 115, 32, 97, 59, 32, 119, 114, 105, 116, 101, 115, 59, 32, 108, 111, 97, 100, 32, 114, 49, 32, 97]
theorem sev_right : wDeed [] [oneA] sevI = 0 := by decide
theorem sev2_right : wDeed [oneA] [] sev2I = 0 := by decide
theorem one_itoa4 : Lib.itoa 4 = [52] := by
  have := Lib.itoa_nonneg 4
  rw [one_digits (by decide)] at this
  exact this
theorem sev_text : printT [] [oneA] sevI = sevT := by
  unfold printT partsOf sevI
  have h2 : insWords (2, 0, 0, 4, oneE) = [word 2, [114, 48], [52]] := by
    show [word 2, reg 0, Lib.itoa 4] = _
    unfold reg; rw [one_itoa0, one_itoa4]
  have h4 : insWords (6, 0, 0, 0, oneA) = [word 6, [114, 48], [97]] := by
    show [word 6, reg 0, keyT oneA] = _
    unfold reg; rw [one_itoa0]; rfl
  simp only [List.map_cons, List.map_nil]
  rw [h2, h4]
  rfl
theorem sev2_text : printT [oneA] [] sev2I = sev2T := by
  unfold printT partsOf sev2I
  have h1 : insWords (1, 1, 0, 0, oneA) = [word 1, [114, 49], [97]] := by
    show [word 1, reg 1, keyT oneA] = _
    unfold reg; rw [one_itoa1]; rfl
  simp only [List.map_cons, List.map_nil]
  rw [h1]
  rfl
theorem sev_read : readT sevT = (0, [], [oneA], sevI) := by rw [← sev_text]; exact read_print sev_right
theorem sev2_read : readT sev2T = (0, [oneA], [], sev2I) := by rw [← sev2_text]; exact read_print sev2_right
theorem sev_small : SmallT sevD.1 ∧ SmallT sevD.2.1 := ⟨(fun x hx => by cases hx), one_small⟩
theorem sev2_small : SmallT sev2D.1 ∧ SmallT sev2D.2.1 := ⟨one_small, (fun x hx => by cases hx)⟩
theorem sevRight : RightDD sevD := right_deed sev_right
theorem sev2Right : RightDD sev2D := right_deed sev2_right
theorem sev_rights : RightDs [sevD, sev2D] := fun d hd => by
  simp at hd
  rcases hd with rfl | rfl
  · exact sevRight
  · exact sev2Right
theorem nil_right : Right [] := right_of rfl
def sevE : Eng := addAll (newE []) [sevD, sev2D]
theorem sev_wDs : wDs [sevD, sev2D] = 0 := wDs_of sev_rights
theorem sevE_deeds : sevE.deeds.length = 2 := rfl
theorem sevE_state : sevE.state = [0, 0] := rfl
theorem sev_needs0 : needsE sevE 0 = [] := rfl
theorem sev_needs1 : needsE sevE 1 = [0] := by decide +kernel
theorem sev_ready : readyE sevE = [0] := by decide +kernel
theorem sev_good : Good [] [sevD, sev2D] 0 (fun _ => false) (fun _ => -1) sevE := (Good.new nil_right).addAll sev_rights
theorem sev_goodX : Good [] [sevD, sev2D] 0 (doneNow (fun _ => false) (0 + 0)) (fun _ => -1) (goE sevE 0) := sev_good.go (p := 0) (by decide) sev_needs0
theorem sev_readyX : readyE (goE sevE 0) = [1] := by decide +kernel
theorem sev_end : (endD (allD [] [sevD]) sev2D).2 1 = 4 := by decide +kernel
/-- When both are done the second one has seen what the first one made, and none is ready. -/
theorem sev_done {dn : Nat → Bool} {b : ByteArray → Int} {y : Eng} (G : Good [] [sevD, sev2D] 0 dn b y) (h : ∀ i, i < 2 → dn i = true) : (y.ends.getD 1 noE).2 1 = 4 ∧ readyE y = [] ∧ y.ends.length = 2 := by
  have ha := G.all (fun i hi => h i hi)
  refine ⟨?_, ?_, ?_⟩
  · rw [ha.ends]; exact sev_end
  · cases hr : readyE y with
    | nil => rfl
    | cons p l =>
      obtain ⟨h1, h2, _⟩ := (ready_mem G (p := p)).1 (by rw [hr]; simp)
      rw [h _ h1] at h2; cases h2
  · rw [ha.ends]; rfl
end Go.Proofs.YtllhdmhfjahgladGreatDoor

namespace Go.Proofs.YtllhdmhfjahgladGreatDoor
open Go.RowKit

/-- What a key has that a deed names which needs nobody: it is made, and is what the deed sees. -/
theorem sees_bef {r0 : List Row} {D : List Deed3} {m : Nat} {dn : Nat → Bool} {b : ByteArray → Int} {e : Eng} (G : Good r0 D m dn b e) {p : Nat} (hp : m + p < D.length) (hn : needsE e p = []) {k : ByteArray} (hk : k ∈ keysD (e.deeds.getD p default)) :
    (before e.chains k (e.base + p)).made = true ∧ (before e.chains k (e.base + p)).has_ = isAt k (seesE e p) ∧ (before e.chains k (e.base + p)).n = num k (seesE e p) := by
  rw [G.deed] at hk
  have hm := (needs_nil G hp).1 hn k hk
  obtain ⟨e1, e2⟩ := (sees_is G hp hn).2 k hk
  obtain ⟨h1, h2⟩ := (G.seen (n := p) (by omega) k).yes hm
  rw [G.at_]
  exact ⟨hm, h1.trans e1.symm, h2.trans e2.symm⟩
/-- What Run made, by the keys of it, in the order of Writes. -/
def madeL (f : Bool) (m : Made) (W : List ByteArray) : List (ByteArray × Option Int) := if f = true then [] else vers m W
theorem keysOf_length (l : List (ByteArray × Option Int)) : (keysOf l).length = l.length := by simp [keysOf]
theorem keysOf_getD {l : List (ByteArray × Option Int)} {j : Nat} (h : j < l.length) : (keysOf l).getD j default = (l.getD j default).1 := by simp [keysOf, List.getD, h]
theorem made_some {R : List Row} {d : Deed3} {r : Nat → Int} {m : Made} {f : Bool} (hs : Srt R) (hd : RightDD d) (hx : exD R d = (r, m, f)) {j : Nat} (hj : j < (madeL f m d.2.1).length) {k : ByteArray} {o : Option Int} (hk : (madeL f m d.2.1).getD j default = (k, o)) : isAt k (doD R d) = o.isSome ∧ num k (doD R d) = o.getD 0 := by
  cases f with
  | true => exact absurd hj (Nat.not_lt_zero _)
  | false =>
    have hmem : (k, o) ∈ vers m d.2.1 := by
      rw [← hk]
      show _ ∈ vers m d.2.1
      have hj' : j < (vers m d.2.1).length := hj
      have e : (madeL false m d.2.1).getD j default = (vers m d.2.1)[j] := by simp [madeL, List.getD, hj']
      rw [e]
      exact List.getElem_mem hj'
    have hm : m k = some o := (vers_mem hmem).2
    rw [doD_at hs hd, doD_num hs hd, hx]
    simp only [Bool.false_eq_true, if_false]
    unfold isThere look
    rw [hm]
    cases o <;> exact ⟨rfl, rfl⟩
theorem made_none {R : List Row} {d : Deed3} {r : Nat → Int} {m : Made} {f : Bool} (hs : Srt R) (hd : RightDD d) (hx : exD R d = (r, m, f)) {k : ByteArray} (hw : k ∈ d.2.1) (hk : has (keysOf (madeL f m d.2.1)) k = false) : isAt k (doD R d) = isAt k R ∧ num k (doD R d) = num k R := by
  rw [doD_at hs hd, doD_num hs hd, hx]
  cases f with
  | true => exact ⟨rfl, rfl⟩
  | false =>
    simp only [Bool.false_eq_true, if_false]
    have hm : m k = none := by
      cases hm : m k with
      | none => rfl
      | some o =>
        have : k ∈ keysOf (madeL false m d.2.1) := by
          refine List.mem_map.2 ⟨(k, o), ?_, rfl⟩
          show (k, o) ∈ vers m d.2.1
          unfold vers
          rw [List.mem_filterMap]
          exact ⟨k, hw, by rw [hm]; rfl⟩
        rw [has_iff.2 this] at hk; cases hk
    unfold isThere look
    rw [hm]
    exact ⟨rfl, rfl⟩
theorem verCell_is (o : Option Int) : verCell o = [.int .i64 0, .bool true, .bool o.isSome, .int .i64 (o.getD 0)] := by cases o <;> rfl

/-! ### How a deed is hindered -/
def hindE (e : Eng) (at_ : Int) : Int :=
  if at_ < 0 ∨ (e.deeds.length : Int) ≤ at_ then 6
  else if e.state.getD at_.toNat 0 = 1 then 11
  else if needsE e at_.toNat ≠ [] then 10
  else 0
theorem Good.state_is {r0 : List Row} {D : List Deed3} {m : Nat} {dn : Nat → Bool} {b : ByteArray → Int} {e : Eng} (G : Good r0 D m dn b e) {p : Nat} (hp : m + p < D.length) : e.state.getD p 0 = if dn (m + p) = true then 1 else 0 := by
  rw [G.state]
  have h : p < D.length - m := by omega
  simp [List.getD, h]
theorem hind_ready {r0 : List Row} {D : List Deed3} {m : Nat} {dn : Nat → Bool} {b : ByteArray → Int} {e : Eng} (G : Good r0 D m dn b e) {p : Nat} (hp : p < e.deeds.length) : (decide (hindE e p = 0)) = (decide (e.state.getD p 0 = 0) && (needsE e p).isEmpty) := by
  have hpD : m + p < D.length := by rw [G.len] at hp; omega
  unfold hindE
  rw [if_neg (by omega), Int.toNat_natCast, G.state_is hpD]
  cases dn (m + p) <;> cases needsE e p <;> simp
theorem ready_lt {e : Eng} {p : Nat} (h : p ∈ readyE e) : p < e.deeds.length := List.mem_range.1 (List.mem_filter.1 h).1
theorem ready_needs {e : Eng} {p : Nat} (h : p ∈ readyE e) : needsE e p = [] := by
  have := (List.mem_filter.1 h).2
  simp at this
  exact this.2
theorem ready_of_hind {r0 : List Row} {D : List Deed3} {m : Nat} {dn : Nat → Bool} {b : ByteArray → Int} {e : Eng} (G : Good r0 D m dn b e) {p : Nat} (hp : p < e.deeds.length) (h : hindE e p = 0) : p ∈ readyE e := by
  unfold readyE
  refine List.mem_filter.2 ⟨List.mem_range.2 hp, ?_⟩
  rw [← hind_ready G hp, h]; rfl
/-- The places of deeds that are ready, up to one. -/
def readyTo (e : Eng) (j : Nat) : List Nat := (List.range j).filter (fun p => decide (hindE e p = 0))
theorem readyTo_succ (e : Eng) (j : Nat) : readyTo e (j + 1) = readyTo e j ++ if hindE e j = 0 then [j] else [] := by
  unfold readyTo
  rw [List.range_succ, List.filter_append]
  congr 1
  simp only [List.filter_cons, List.filter_nil, decide_eq_true_eq]
theorem readyTo_len (e : Eng) (j : Nat) : (readyTo e j).length ≤ j := by
  have := List.length_filter_le (fun p : Nat => decide (hindE e p = 0)) (List.range j)
  rw [List.length_range] at this
  exact this
theorem ready_to {r0 : List Row} {D : List Deed3} {m : Nat} {dn : Nat → Bool} {b : ByteArray → Int} {e : Eng} (G : Good r0 D m dn b e) : readyTo e e.deeds.length = readyE e := by
  unfold readyTo readyE
  refine List.filter_congr fun p hp => ?_
  exact hind_ready G (List.mem_range.1 hp)
theorem ready_at {r0 : List Row} {D : List Deed3} {m : Nat} {dn : Nat → Bool} {b : ByteArray → Int} {e : Eng} (G : Good r0 D m dn b e) {p : Nat} (h : p ∈ readyE e) : m + p < D.length ∧ dn (m + p) = false := by
  have h1 := ready_lt h
  have hpD : m + p < D.length := by rw [G.len] at h1; omega
  refine ⟨hpD, ?_⟩
  have h2 := (List.mem_filter.1 h).2
  simp only [Bool.and_eq_true, decide_eq_true_eq] at h2
  have h3 := h2.1
  rw [G.state_is hpD] at h3
  cases hd : dn (m + p) with
  | false => rfl
  | true => rw [hd] at h3; cases h3
end Go.Proofs.YtllhdmhfjahgladGreatDoor

namespace Go.Proofs.YtllhdmhfjahgladGreatDoor
open Go.Shelf
def lays110_ren : Go.Shelf.Ren := ⟨fun | 110 => 83 | 109 => 42 | n => n, fun | 31 => 60 | 9 => 9 | 4 => 4 | 3 => 3 | 0 => 0 | n => n, fun | n => n⟩
theorem lays110 : Go.Proofs.Lays.n110 Tryz.prog lays110_ren := {
  mixed := by kernel_rfl
  f109 := Tryz.func42.trans (congrArg some (by kernel_rfl))
  f110 := Tryz.func83.trans (congrArg some (by kernel_rfl))
  t0 := Tryz.underlying0
  a0 := Tryz.isAgg0
  z0 := Tryz.sizeOf0
  v0 := Tryz.zeroValue0
  t3 := Tryz.underlying3
  a3 := Tryz.isAgg3
  z3 := Tryz.sizeOf3
  v3 := Tryz.zeroValue3
  t4 := Tryz.underlying4
  a4 := Tryz.isAgg4
  z4 := Tryz.sizeOf4
  v4 := Tryz.zeroValue4
  t9 := Tryz.underlying9
  a9 := Tryz.isAgg9
  z9 := Tryz.sizeOf9
  v9 := Tryz.zeroValue9
  t31 := Tryz.underlying60
  a31 := Tryz.isAgg60
  z31 := Tryz.sizeOf60
  v31 := Tryz.zeroValue60 }
def lays189_ren : Go.Shelf.Ren := ⟨fun | 189 => 72 | 125 => 85 | 257 => 84 | 128 => 104 | 129 => 105 | 294 => 95 | 295 => 96 | 296 => 97 | 297 => 98 | 298 => 99 | 299 => 100 | 216 => 101 | 300 => 102 | 301 => 103 | 328 => 114 | 329 => 115 | 330 => 116 | 331 => 117 | 332 => 118 | 215 => 119 | 343 => 128 | n => n, fun | 28 => 25 | 3 => 3 | 46 => 131 | 0 => 0 | 51 => 147 | 53 => 149 | 4 => 4 | 183 => 140 | 182 => 139 | 131 => 93 | 5 => 5 | 9 => 9 | 218 => 159 | 222 => 163 | 228 => 176 | 229 => 177 | n => n, fun | n => n⟩
theorem lays189 : Go.Proofs.Lays.n189 Tryz.prog lays189_ren := {
  mixed := by kernel_rfl
  f125 := Tryz.func85.trans (congrArg some (by kernel_rfl))
  f128 := Tryz.func104.trans (congrArg some (by kernel_rfl))
  f129 := Tryz.func105.trans (congrArg some (by kernel_rfl))
  f189 := Tryz.func72.trans (congrArg some (by kernel_rfl))
  f215 := Tryz.func119.trans (congrArg some (by kernel_rfl))
  f216 := Tryz.func101.trans (congrArg some (by kernel_rfl))
  f257 := Tryz.func84.trans (congrArg some (by kernel_rfl))
  f294 := Tryz.func95.trans (congrArg some (by kernel_rfl))
  f295 := Tryz.func96.trans (congrArg some (by kernel_rfl))
  f296 := Tryz.func97.trans (congrArg some (by kernel_rfl))
  f297 := Tryz.func98.trans (congrArg some (by kernel_rfl))
  f298 := Tryz.func99.trans (congrArg some (by kernel_rfl))
  f299 := Tryz.func100.trans (congrArg some (by kernel_rfl))
  f300 := Tryz.func102.trans (congrArg some (by kernel_rfl))
  f301 := Tryz.func103.trans (congrArg some (by kernel_rfl))
  f328 := Tryz.func114.trans (congrArg some (by kernel_rfl))
  f329 := Tryz.func115.trans (congrArg some (by kernel_rfl))
  f330 := Tryz.func116.trans (congrArg some (by kernel_rfl))
  f331 := Tryz.func117.trans (congrArg some (by kernel_rfl))
  f332 := Tryz.func118.trans (congrArg some (by kernel_rfl))
  f343 := Tryz.func128.trans (congrArg some (by kernel_rfl))
  t0 := Tryz.underlying0
  a0 := Tryz.isAgg0
  z0 := Tryz.sizeOf0
  v0 := Tryz.zeroValue0
  t3 := Tryz.underlying3
  a3 := Tryz.isAgg3
  z3 := Tryz.sizeOf3
  v3 := Tryz.zeroValue3
  t4 := Tryz.underlying4
  a4 := Tryz.isAgg4
  z4 := Tryz.sizeOf4
  v4 := Tryz.zeroValue4
  t5 := Tryz.underlying5
  a5 := Tryz.isAgg5
  z5 := Tryz.sizeOf5
  v5 := Tryz.zeroValue5
  t9 := Tryz.underlying9
  a9 := Tryz.isAgg9
  z9 := Tryz.sizeOf9
  v9 := Tryz.zeroValue9
  t28 := Tryz.underlying25
  a28 := Tryz.isAgg25
  z28 := Tryz.sizeOf25
  v28 := Tryz.zeroValue25
  t46 := Tryz.underlying131
  a46 := Tryz.isAgg131
  z46 := Tryz.sizeOf131
  v46 := Tryz.zeroValue131
  t51 := Tryz.underlying147
  a51 := Tryz.isAgg147
  z51 := Tryz.sizeOf147
  v51 := Tryz.zeroValue147
  t53 := Tryz.underlying149
  a53 := Tryz.isAgg149
  z53 := Tryz.sizeOf149
  v53 := Tryz.zeroValue149
  t131 := Tryz.underlying93
  a131 := Tryz.isAgg93
  z131 := Tryz.sizeOf93
  v131 := Tryz.zeroValue93
  t182 := Tryz.underlying139
  a182 := Tryz.isAgg139
  z182 := Tryz.sizeOf139
  v182 := Tryz.zeroValue139
  t183 := Tryz.underlying140
  a183 := Tryz.isAgg140
  z183 := Tryz.sizeOf140
  v183 := Tryz.zeroValue140
  t218 := Tryz.underlying159
  a218 := Tryz.isAgg159
  z218 := Tryz.sizeOf159
  v218 := Tryz.zeroValue159
  t222 := Tryz.underlying163
  a222 := Tryz.isAgg163
  z222 := Tryz.sizeOf163
  v222 := Tryz.zeroValue163
  t228 := Tryz.underlying176
  a228 := Tryz.isAgg176
  z228 := Tryz.sizeOf176
  v228 := Tryz.zeroValue176
  t229 := Tryz.underlying177
  a229 := Tryz.isAgg177
  z229 := Tryz.sizeOf177
  v229 := Tryz.zeroValue177 }
def laysB20_ren : Go.Shelf.Ren := ⟨fun | 20 => 73 | n => n, fun | 22 => 25 | 3 => 3 | 4 => 4 | 0 => 0 | n => n, fun | n => n⟩
theorem laysB20 : Go.Proofs.Lays2.n20 Tryz.prog laysB20_ren := {
  mixed := by kernel_rfl
  f20 := Tryz.func73.trans (congrArg some (by kernel_rfl))
  t0 := Tryz.underlying0
  a0 := Tryz.isAgg0
  z0 := Tryz.sizeOf0
  v0 := Tryz.zeroValue0
  t3 := Tryz.underlying3
  a3 := Tryz.isAgg3
  z3 := Tryz.sizeOf3
  v3 := Tryz.zeroValue3
  t4 := Tryz.underlying4
  a4 := Tryz.isAgg4
  z4 := Tryz.sizeOf4
  v4 := Tryz.zeroValue4
  t22 := Tryz.underlying25
  a22 := Tryz.isAgg25
  z22 := Tryz.sizeOf25
  v22 := Tryz.zeroValue25
  i3 := by kernel_rfl }
end Go.Proofs.YtllhdmhfjahgladGreatDoor

namespace Go.Proofs.YtllhdmhfjahgladGreatDoor
open Go.RowKit Go.Shelf

theorem sort_calls (zs : List Int) (B g n c : Nat) (w : World) (h : w.ownsRow B 3 1 (.slice (some ⟨g, 0, none⟩) n c) n (intsC zs)) (hn : n ≤ 4000000) :
    Calls Tryz.prog 72 #[.slice (some ⟨g, 0, none⟩) n c] w fun e w' => e = .returned (.tuple #[]) ∧ w'.ownsRow B 3 1 (.slice (some ⟨g, 0, none⟩) n c) n (intsC (zs.mergeSort fun x y => decide (x ≤ y))) ∧ w.grownBy w' (some g) := by
  obtain ⟨g', cap, hv, hB, hlt, hnc, hcm, hlen, hH⟩ := Lib.holds_of_ownsRow (enc := Value.int .i64) (zs := zs) h (by simp)
  simp only [Value.slice.injEq, Option.some.injEq, Addr.mk.injEq, and_true, true_and] at hv
  obtain ⟨rfl, rfl⟩ := hv
  subst hlen
  refine (Any.slices_Sort_int lays189 g 0 c zs w hH hlt (by omega)).mono ?_
  rintro e w' ⟨rfl, k, os, rfl⟩
  refine ⟨rfl, ?_, grownBy_sortedI _⟩
  rcases h.2 with ⟨h0, _⟩ | ⟨g', cap', cur, hv, hbase, hb, h1, h2, h3, h4⟩
  · cases h0
  · cases hv
    exact ownsRow_sortedI (n := k) (os := os) (ts := zs.mergeSort fun x y => decide (x ≤ y)) (List.length_mergeSort zs) hbase hb h1 h2 h3
theorem compact_calls (zs : List Int) (B g n c : Nat) (w : World) (h : w.ownsRow B 3 1 (.slice (some ⟨g, 0, none⟩) n c) n (intsC zs)) (hn : n ≤ 4000000) :
    Calls Tryz.prog 73 #[.slice (some ⟨g, 0, none⟩) n c] w fun e w' => e = .returned (.slice (some ⟨g, 0, none⟩) (Lib.compact zs).length c) ∧ w'.ownsRow B 3 1 (.slice (some ⟨g, 0, none⟩) (Lib.compact zs).length c) (Lib.compact zs).length (intsC (Lib.compact zs)) ∧ ∀ w0, Below B w0 w → Below B w0 w' := by
  obtain ⟨g', cap, hv, hB, hlt, hnc, hcm, hlen, hH⟩ := Lib.holds_of_ownsRow (enc := Value.int .i64) (zs := zs) h (by simp)
  simp only [Value.slice.injEq, Option.some.injEq, Addr.mk.injEq, and_true, true_and] at hv
  obtain ⟨rfl, rfl⟩ := hv
  subst hlen
  have hle := Lib.compact_length_le zs
  refine (Any.slices_Compact_int laysB20 g 0 c zs w hH (by omega) hnc).mono ?_
  rintro e w' ⟨rfl, q, rfl⟩
  refine ⟨rfl, ?_, fun w0 hb => Lib.below_putRow hb hB⟩
  have := Lib.ownsRow_putRow (q := q) (k := (Lib.compact zs).length) (ys := Lib.compact zs ++ List.replicate (zs.length - (Lib.compact zs).length) 0) h (by simp; omega) hle
  rw [List.take_left] at this
  exact this
end Go.Proofs.YtllhdmhfjahgladGreatDoor

namespace Go.Proofs.YtllhdmhfjahgladGreatDoor
open Go.RowKit

theorem filter_snoc (l : List ByteArray) (f : ByteArray → Bool) {j : Nat} (h : j < l.length) : (l.take (j + 1)).filter f = (l.take j).filter f ++ if f (l.getD j default) = true then [l.getD j default] else [] := by
  rw [take_snoc_getD h, List.filter_append]
  congr 1
  by_cases hf : f (l.getD j default) = true
  · rw [if_pos hf, List.filter_cons, if_pos hf]; rfl
  · rw [if_neg hf, List.filter_cons, if_neg hf]; rfl

set_option maxHeartbeats 4000000 in
set_option maxRecDepth 100000 in
theorem planKeys_calls (d : Deed3) (rb : Option Addr) (rn rc : Nat) (wb : Option Addr) (wn wc : Nat) (cb : Option Addr) (cn cc : Nat) (w : World) (hd : DeedIn w rb rn rc wb wn wc cb cn cc d.1 d.2.1 d.2.2) (hR : RightDD d) :
    Calls Tryz.prog 70 #[.agg #[.slice rb rn rc, .slice wb wn wc, .slice cb cn cc]] w fun e w' => ∃ b n c, e = .returned (.slice b n c) ∧ Texts w' b n c (keysD d) ∧ Below w.heap.size w w' := by
  have hrn := Texts.count hd.tr
  have hwn := Texts.count hd.tw
  have hr5 : rn ≤ 5 := by rw [hrn]; exact wKeys_len hR.r
  have hw5 : wn ≤ 5 := by rw [hwn]; exact wKeys_len hR.w
  have HFIN := hid (keysP_is (wKeys_nodup hR.r) (wKeys_nodup hR.w))
  have HKP : Hid (keysP d = d.1 ++ d.2.1.filter (fun k => !has d.1 k)) := rfl
  have HBX := hid (Box.new w #[.slice rb rn rc, .slice wb wn wc, .slice cb cn cc] 63)
  have HBA := hid (grew w (.cells #[.slice rb rn rc, .slice wb wn wc, .slice cb cn cc] 63))
  have HD := hid (hd.below HBA.out)
  have HRN := hid hrn
  have HWN := hid hwn
  have N1 : Hid ((0 + rn) * 16 ≤ 140737488355328) := by show _ ≤ _; omega
  have O1 := hid (strs_one d.1)
  clear hd hrn hwn hR
  go_enter Tryz.func70, Tryz.ntmps70
  go_upto_region 1 with fail
  generalize w.alloc (.cells #[.slice rb rn rc, .slice wb wn wc, .slice cb cn cc] 63) = A at *
  have x0 := HBX.out.cell 0 _ rfl
  have hxl : w.heap.size < A.heap.size := HBX.out.lt
  go_wp2_with (at_builtin; refine wpList_onto _ rfl _ _ 60 9 1 16 _ Tryz.underlying60 strInfo rfl (by decide) (by decide) rfl A.heap.size _ 0 [] rfl (World.ownsRow_nil _ _ _ _) rb rn rc (strs d.1) rfl HD.out.tr O1.out N1.out (Nat.le_refl _) ?_)
  intro v1 w1 hown1 hg1
  have HB1 : Hid (Below A.heap.size A w1) := (Below.refl _ _).grown hg1 (Nat.le_refl _) (fun k hk => by cases hk)
  have HO1 : Hid (w1.ownsRow A.heap.size 9 1 v1 rn (strs d.1)) := by
    show World.ownsRow _ _ _ _ _ _ _
    simpa using hown1
  have x1 := (HBX.out.below HB1.out).cell 1 _ rfl
  have hx1 : w.heap.size < w1.heap.size := (HBX.out.below HB1.out).lt
  clear hown1 hg1 x0 N1 O1
  go_wp2
  go_loopw [3, 12] (fun v i wr => ∃ j r : Nat, j ≤ wn ∧ r ≤ rn + j ∧ i = .int .i64 j ∧ Hid ((d.1 ++ (d.2.1.take j).filter (fun k => !has d.1 k)).length = r) ∧ Hid (wr.ownsRow A.heap.size 9 1 v r (strs (d.1 ++ (d.2.1.take j).filter (fun k => !has d.1 k)))) ∧ Hid (Below A.heap.size A wr)) (fun _ i _ => wn - (intOf i).toNat)
  case atStart => exact ⟨0, rn, Nat.zero_le _, by omega, rfl, (by show _ = _; simp [HRN.out]), (by show World.ownsRow _ _ _ _ _ _ _; simpa using HO1.out), HB1⟩
  case round =>
    obtain ⟨j, r, hj, hr, rfl, HR, HO, HBR⟩ := hrel
    by_cases hlt : j < wn
    · have hjl : j < d.2.1.length := by rw [← HWN.out]; exact hlt
      have hi : (j : Int) < (wn : Int) := by omega
      obtain ⟨b2, o2, rfl, hr2⟩ : ∃ b2 o2, wb = some ⟨b2, o2, none⟩ ∧ Run wr b2 o2 (strs d.2.1) := by
        rcases (HD.out.tw.below (by decide) HBR.out).run with h | h
        · omega
        · exact h
      have c2 := hr2 j _ (strs_at hjl)
      have hb2 : b2 < wr.heap.size := by simpa using World.block_lt_of_cell? _ _ c2
      have x0 := (HBX.out.below HBR.out).cell 0 _ rfl
      have hxr : w.heap.size < wr.heap.size := (HBX.out.below HBR.out).lt
      have HFS := hid (filter_snoc d.2.1 (fun k => !has d.1 k) hjl)
      have PC := hid (contains_calls d.1 rb rn rc (d.2.1.getD j default) wr (HD.out.tr.below (by decide) HBR.out))
      clear hr2
      generalize (d.2.1.take j).filter (fun k => !has d.1 k) = F at *
      generalize d.2.1.getD j default = k at *
      go_wp2_with fail
      refine PC.out.mono ?_
      rintro x w2 ⟨rfl, rfl⟩
      cases hh : has d.1 k with
      | true =>
        have HF : Hid ((d.2.1.take (j + 1)).filter (fun k => !has d.1 k) = F) := by show _ = _; rw [HFS.out, hh]; simp
        clear hh PC
        go_wp2
        go_roundw
        case rel => exact ⟨j + 1, r, by omega, by omega, by go_num, (by show _ = _; rw [HF.out]; exact HR.out), (by rw [HF.out]; exact HO), HBR⟩
        case measure => simp [intOf]; omega
      | false =>
        have HF : Hid ((d.2.1.take (j + 1)).filter (fun k => !has d.1 k) = F ++ [k]) := by show _ = _; rw [HFS.out, hh]; simp
        clear hh PC
        have HC1 := hid (lies_one wr #[.string k] 9 1 rfl)
        have HOA := hid (HO.out.alloc (.cells #[.string k] 9))
        have HBY : Hid ((r + 1) * 16 ≤ 140737488355328) := by show _ ≤ _; omega
        have HSZ := hid (step_box HBR.out (.cells #[.string k] 9))
        go_wp2_with (at_builtin; refine wpList_onto _ rfl _ _ 60 9 1 16 _ Tryz.underlying60 strInfo rfl (by decide) (by decide) rfl A.heap.size _ r _ rfl HOA.out _ 1 _ _ rfl HC1.out (strs_one [k]) HBY.out HSZ.out.size ?_)
        intro v3 w3 hown3 hg3
        have HB3 := hid (step_row HSZ.out HOA.out hg3)
        have HO3 : Hid (w3.ownsRow A.heap.size 9 1 v3 (r + 1) (strs (d.1 ++ (F ++ [k])))) := by
          show World.ownsRow _ _ _ _ _ _ _
          rw [← List.append_assoc, strs_append (d.1 ++ F)]; exact hown3
        clear hown3 hg3
        go_wp2
        go_roundw
        case rel => exact ⟨j + 1, r + 1, by omega, by omega, by go_num, (by show _ = _; rw [HF.out, ← List.append_assoc, List.length_append, HR.out]; rfl), (by rw [HF.out]; exact HO3), HB3⟩
        case measure => simp [intOf]; omega
    · obtain rfl : j = wn := by omega
      rw [List.take_of_length_le (by rw [← HWN.out]; exact Nat.le_refl _), ← HKP.out, HFIN.out] at HO
      obtain ⟨ob, oc, rfl, hol⟩ := Lies.owned HO.out
      have HOL : Hid (Texts wr ob r oc (keysD d)) := hol
      clear hol
      go_wp2
      go_ret
      exact ⟨_, _, _, rfl, HOL.out, below_deep HBA.out HBR.out⟩

set_option maxHeartbeats 1000000 in
set_option maxRecDepth 100000 in
theorem number_calls6 (cb : Option Addr) (cn cc : Nat) (db : Option Addr) (dn dc : Nat) (sb : Option Addr) (sn sc : Nat) (eb : Option Addr) (en ec : Nat) (bs at_ : Int) (w : World) (h0 : 0 ≤ bs) (h1 : bs ≤ 1954687338211) (h2 : 0 ≤ at_) (h3 : at_ ≤ 1954687338211) :
    Calls Tryz.prog 71 #[.agg #[.slice cb cn cc, .slice db dn dc, .slice sb sn sc, .slice eb en ec, .int .i64 bs], .int .i64 at_] w fun x w' => x = .returned (.int .i64 (bs + at_)) ∧ Below w.heap.size w w' := by
  have HB := hid (grew w (.cells #[.slice cb cn cc, .slice db dn dc, .slice sb sn sc, .slice eb en ec, .int .i64 bs] 33))
  have hs : IntKind.i64.wrap (bs + at_) = bs + at_ := by rw [IntKind.wrap_i64]; omega
  go_enter Tryz.func71, Tryz.ntmps71
  go_wp2
  go_ret
  exact ⟨rfl, HB.out⟩
end Go.Proofs.YtllhdmhfjahgladGreatDoor
