/-
  Plain mathematics of a deed that is done: what each key that it writes has then, as the program takes it from what Run made, or from what the key had.
  The library's functions that the program calls are those whose contracts are known.
  The functions of package slices that plan calls: Contains over texts, Sort and Compact over a row of numbers that the call owns.
  New, Keys and Needs of the program's plans, walked.
-/
import Derived.Test.YtllhdmhfjahglacRunMath
import Derived.Test.YtllhdmhfjahglacDeedTurn
import Derived.Test.YtllhdmhfjahglacPlanMath
import Derived.Shelf.Slices.Turned
import Derived.Shelf.Slices.CompactI
import Derived.Shelf.Sort.Plain
import Derived.Shelf.Slices.In.SortNone
import Derived.Test.YtllhdmhfjahglacProg
import Derived.Test.YtllhdmhfjahglacSearch
import Derived.Lib.OwnBridge
import Derived.Sort.OwnSortedInts
import Derived.Test.YtllhdmhfjahglacRefNeeds
import Derived.Test.YtllhdmhfjahglacRefNew
import Derived.Test.YtllhdmhfjahglacChainRows
import Derived.Deep.DeepCutAuto
import Derived.Deep.RegionWith
namespace Go.Proofs.Ytllhdmhfjahglac
open Go.RowKit

/-- What a key has that a deed names which needs nobody: it is made, and is what the deed sees. -/
theorem sees_bef {r0 : List Row} {D : List Deed3} {m : Nat} {dn : Nat → Bool} {b : ByteArray → Int} {e : Eng} (G : Good r0 D m dn b e) {p : Nat} (hp : m + p < D.length) (hn : needsE e p = []) {k : ByteArray} (hk : k ∈ keysD (e.deeds.getD p default)) :
    (before e.chains k (e.base + p)).made = true ∧ (before e.chains k (e.base + p)).has_ = isAt k (seesE e p) ∧ (before e.chains k (e.base + p)).n = num k (seesE e p) := by
  rw [G.deed] at hk
  have hm := (needs_nil G hp).1 hn k hk
  obtain ⟨e1, e2⟩ := (sees_is G hp hn).2 k hk
  obtain ⟨h1, h2⟩ := (G.seen (n := p) (by omega) k).yes hm
  rw [G.at_]
  exact ⟨hm, h1.trans e1.symm, h2.trans e2.symm⟩
/-- What Run made, by the keys of it, in the order of Writes. -/
def madeL (f : Bool) (m : Made) (W : List ByteArray) : List (ByteArray × Option Int) := if f = true then [] else vers m W
theorem keysOf_length (l : List (ByteArray × Option Int)) : (keysOf l).length = l.length := by simp [keysOf]
theorem keysOf_getD {l : List (ByteArray × Option Int)} {j : Nat} (h : j < l.length) : (keysOf l).getD j default = (l.getD j default).1 := by simp [keysOf, List.getD, h]
theorem made_some {R : List Row} {d : Deed3} {r : Nat → Int} {m : Made} {f : Bool} (hs : Srt R) (hd : RightDD d) (hx : exD R d = (r, m, f)) {j : Nat} (hj : j < (madeL f m d.2.1).length) {k : ByteArray} {o : Option Int} (hk : (madeL f m d.2.1).getD j default = (k, o)) : isAt k (doD R d) = o.isSome ∧ num k (doD R d) = o.getD 0 := by
  cases f with
  | true => exact absurd hj (Nat.not_lt_zero _)
  | false =>
    have hmem : (k, o) ∈ vers m d.2.1 := by
      rw [← hk]
      show _ ∈ vers m d.2.1
      have hj' : j < (vers m d.2.1).length := hj
      have e : (madeL false m d.2.1).getD j default = (vers m d.2.1)[j] := by simp [madeL, List.getD, hj']
      rw [e]
      exact List.getElem_mem hj'
    have hm : m k = some o := (vers_mem hmem).2
    rw [doD_at hs hd, doD_num hs hd, hx]
    simp only [Bool.false_eq_true, if_false]
    unfold isThere look
    rw [hm]
    cases o <;> exact ⟨rfl, rfl⟩
theorem made_none {R : List Row} {d : Deed3} {r : Nat → Int} {m : Made} {f : Bool} (hs : Srt R) (hd : RightDD d) (hx : exD R d = (r, m, f)) {k : ByteArray} (hw : k ∈ d.2.1) (hk : has (keysOf (madeL f m d.2.1)) k = false) : isAt k (doD R d) = isAt k R ∧ num k (doD R d) = num k R := by
  rw [doD_at hs hd, doD_num hs hd, hx]
  cases f with
  | true => exact ⟨rfl, rfl⟩
  | false =>
    simp only [Bool.false_eq_true, if_false]
    have hm : m k = none := by
      cases hm : m k with
      | none => rfl
      | some o =>
        have : k ∈ keysOf (madeL false m d.2.1) := by
          refine List.mem_map.2 ⟨(k, o), ?_, rfl⟩
          show (k, o) ∈ vers m d.2.1
          unfold vers
          rw [List.mem_filterMap]
          exact ⟨k, hw, by rw [hm]; rfl⟩
        rw [has_iff.2 this] at hk; cases hk
    unfold isThere look
    rw [hm]
    exact ⟨rfl, rfl⟩
theorem verCell_is (o : Option Int) : verCell o = [.int .i64 0, .bool true, .bool o.isSome, .int .i64 (o.getD 0)] := by cases o <;> rfl

/-! ### How a deed is hindered -/
def hindE (e : Eng) (at_ : Int) : Int :=
  if at_ < 0 ∨ (e.deeds.length : Int) ≤ at_ then 6
  else if e.state.getD at_.toNat 0 = 1 then 11
  else if needsE e at_.toNat ≠ [] then 10
  else 0
theorem Good.state_is {r0 : List Row} {D : List Deed3} {m : Nat} {dn : Nat → Bool} {b : ByteArray → Int} {e : Eng} (G : Good r0 D m dn b e) {p : Nat} (hp : m + p < D.length) : e.state.getD p 0 = if dn (m + p) = true then 1 else 0 := by
  rw [G.state]
  have h : p < D.length - m := by omega
  simp [List.getD, h]
theorem hind_ready {r0 : List Row} {D : List Deed3} {m : Nat} {dn : Nat → Bool} {b : ByteArray → Int} {e : Eng} (G : Good r0 D m dn b e) {p : Nat} (hp : p < e.deeds.length) : (decide (hindE e p = 0)) = (decide (e.state.getD p 0 = 0) && (needsE e p).isEmpty) := by
  have hpD : m + p < D.length := by rw [G.len] at hp; omega
  unfold hindE
  rw [if_neg (by omega), Int.toNat_natCast, G.state_is hpD]
  cases dn (m + p) <;> cases needsE e p <;> simp
theorem ready_lt {e : Eng} {p : Nat} (h : p ∈ readyE e) : p < e.deeds.length := List.mem_range.1 (List.mem_filter.1 h).1
theorem ready_needs {e : Eng} {p : Nat} (h : p ∈ readyE e) : needsE e p = [] := by
  have := (List.mem_filter.1 h).2
  simp at this
  exact this.2
theorem ready_of_hind {r0 : List Row} {D : List Deed3} {m : Nat} {dn : Nat → Bool} {b : ByteArray → Int} {e : Eng} (G : Good r0 D m dn b e) {p : Nat} (hp : p < e.deeds.length) (h : hindE e p = 0) : p ∈ readyE e := by
  unfold readyE
  refine List.mem_filter.2 ⟨List.mem_range.2 hp, ?_⟩
  rw [← hind_ready G hp, h]; rfl
/-- The places of deeds that are ready, up to one. -/
def readyTo (e : Eng) (j : Nat) : List Nat := (List.range j).filter (fun p => decide (hindE e p = 0))
theorem readyTo_succ (e : Eng) (j : Nat) : readyTo e (j + 1) = readyTo e j ++ if hindE e j = 0 then [j] else [] := by
  unfold readyTo
  rw [List.range_succ, List.filter_append]
  congr 1
  simp only [List.filter_cons, List.filter_nil, decide_eq_true_eq]
theorem readyTo_len (e : Eng) (j : Nat) : (readyTo e j).length ≤ j := by
  have := List.length_filter_le (fun p : Nat => decide (hindE e p = 0)) (List.range j)
  rw [List.length_range] at this
  exact this
theorem ready_to {r0 : List Row} {D : List Deed3} {m : Nat} {dn : Nat → Bool} {b : ByteArray → Int} {e : Eng} (G : Good r0 D m dn b e) : readyTo e e.deeds.length = readyE e := by
  unfold readyTo readyE
  refine List.filter_congr fun p hp => ?_
  exact hind_ready G (List.mem_range.1 hp)
theorem ready_at {r0 : List Row} {D : List Deed3} {m : Nat} {dn : Nat → Bool} {b : ByteArray → Int} {e : Eng} (G : Good r0 D m dn b e) {p : Nat} (h : p ∈ readyE e) : m + p < D.length ∧ dn (m + p) = false := by
  have h1 := ready_lt h
  have hpD : m + p < D.length := by rw [G.len] at h1; omega
  refine ⟨hpD, ?_⟩
  have h2 := (List.mem_filter.1 h).2
  simp only [Bool.and_eq_true, decide_eq_true_eq] at h2
  have h3 := h2.1
  rw [G.state_is hpD] at h3
  cases hd : dn (m + p) with
  | false => rfl
  | true => rw [hd] at h3; cases h3
end Go.Proofs.Ytllhdmhfjahglac

namespace Go.Proofs.Ytllhdmhfjahglac
open Go.Shelf
def lays110_ren : Go.Shelf.Ren := ⟨fun | 110 => 52 | 109 => 74 | n => n, fun | 31 => 48 | 9 => 9 | 4 => 4 | 3 => 3 | 0 => 0 | n => n, fun | n => n⟩
theorem lays110 : Go.Proofs.Lays.n110 Try.prog lays110_ren := {
  mixed := by kernel_rfl
  f109 := Try.func74.trans (congrArg some (by kernel_rfl))
  f110 := Try.func52.trans (congrArg some (by kernel_rfl))
  t0 := Try.underlying0
  a0 := Try.isAgg0
  z0 := Try.sizeOf0
  v0 := Try.zeroValue0
  t3 := Try.underlying3
  a3 := Try.isAgg3
  z3 := Try.sizeOf3
  v3 := Try.zeroValue3
  t4 := Try.underlying4
  a4 := Try.isAgg4
  z4 := Try.sizeOf4
  v4 := Try.zeroValue4
  t9 := Try.underlying9
  a9 := Try.isAgg9
  z9 := Try.sizeOf9
  v9 := Try.zeroValue9
  t31 := Try.underlying48
  a31 := Try.isAgg48
  z31 := Try.sizeOf48
  v31 := Try.zeroValue48 }
def lays189_ren : Go.Shelf.Ren := ⟨fun | 189 => 49 | 125 => 73 | 257 => 72 | 128 => 95 | 129 => 96 | 294 => 86 | 295 => 87 | 296 => 88 | 297 => 89 | 298 => 90 | 299 => 91 | 216 => 92 | 300 => 93 | 301 => 94 | 328 => 104 | 329 => 105 | 330 => 106 | 331 => 107 | 332 => 108 | 215 => 109 | 343 => 112 | n => n, fun | 28 => 35 | 3 => 3 | 46 => 109 | 0 => 0 | 51 => 130 | 53 => 132 | 4 => 4 | 183 => 123 | 182 => 122 | 131 => 73 | 5 => 5 | 9 => 9 | 218 => 142 | 222 => 146 | 228 => 148 | 229 => 149 | n => n, fun | n => n⟩
theorem lays189 : Go.Proofs.Lays.n189 Try.prog lays189_ren := {
  mixed := by kernel_rfl
  f125 := Try.func73.trans (congrArg some (by kernel_rfl))
  f128 := Try.func95.trans (congrArg some (by kernel_rfl))
  f129 := Try.func96.trans (congrArg some (by kernel_rfl))
  f189 := Try.func49.trans (congrArg some (by kernel_rfl))
  f215 := Try.func109.trans (congrArg some (by kernel_rfl))
  f216 := Try.func92.trans (congrArg some (by kernel_rfl))
  f257 := Try.func72.trans (congrArg some (by kernel_rfl))
  f294 := Try.func86.trans (congrArg some (by kernel_rfl))
  f295 := Try.func87.trans (congrArg some (by kernel_rfl))
  f296 := Try.func88.trans (congrArg some (by kernel_rfl))
  f297 := Try.func89.trans (congrArg some (by kernel_rfl))
  f298 := Try.func90.trans (congrArg some (by kernel_rfl))
  f299 := Try.func91.trans (congrArg some (by kernel_rfl))
  f300 := Try.func93.trans (congrArg some (by kernel_rfl))
  f301 := Try.func94.trans (congrArg some (by kernel_rfl))
  f328 := Try.func104.trans (congrArg some (by kernel_rfl))
  f329 := Try.func105.trans (congrArg some (by kernel_rfl))
  f330 := Try.func106.trans (congrArg some (by kernel_rfl))
  f331 := Try.func107.trans (congrArg some (by kernel_rfl))
  f332 := Try.func108.trans (congrArg some (by kernel_rfl))
  f343 := Try.func112.trans (congrArg some (by kernel_rfl))
  t0 := Try.underlying0
  a0 := Try.isAgg0
  z0 := Try.sizeOf0
  v0 := Try.zeroValue0
  t3 := Try.underlying3
  a3 := Try.isAgg3
  z3 := Try.sizeOf3
  v3 := Try.zeroValue3
  t4 := Try.underlying4
  a4 := Try.isAgg4
  z4 := Try.sizeOf4
  v4 := Try.zeroValue4
  t5 := Try.underlying5
  a5 := Try.isAgg5
  z5 := Try.sizeOf5
  v5 := Try.zeroValue5
  t9 := Try.underlying9
  a9 := Try.isAgg9
  z9 := Try.sizeOf9
  v9 := Try.zeroValue9
  t28 := Try.underlying35
  a28 := Try.isAgg35
  z28 := Try.sizeOf35
  v28 := Try.zeroValue35
  t46 := Try.underlying109
  a46 := Try.isAgg109
  z46 := Try.sizeOf109
  v46 := Try.zeroValue109
  t51 := Try.underlying130
  a51 := Try.isAgg130
  z51 := Try.sizeOf130
  v51 := Try.zeroValue130
  t53 := Try.underlying132
  a53 := Try.isAgg132
  z53 := Try.sizeOf132
  v53 := Try.zeroValue132
  t131 := Try.underlying73
  a131 := Try.isAgg73
  z131 := Try.sizeOf73
  v131 := Try.zeroValue73
  t182 := Try.underlying122
  a182 := Try.isAgg122
  z182 := Try.sizeOf122
  v182 := Try.zeroValue122
  t183 := Try.underlying123
  a183 := Try.isAgg123
  z183 := Try.sizeOf123
  v183 := Try.zeroValue123
  t218 := Try.underlying142
  a218 := Try.isAgg142
  z218 := Try.sizeOf142
  v218 := Try.zeroValue142
  t222 := Try.underlying146
  a222 := Try.isAgg146
  z222 := Try.sizeOf146
  v222 := Try.zeroValue146
  t228 := Try.underlying148
  a228 := Try.isAgg148
  z228 := Try.sizeOf148
  v228 := Try.zeroValue148
  t229 := Try.underlying149
  a229 := Try.isAgg149
  z229 := Try.sizeOf149
  v229 := Try.zeroValue149 }
def laysB20_ren : Go.Shelf.Ren := ⟨fun | 20 => 50 | n => n, fun | 22 => 35 | 3 => 3 | 4 => 4 | 0 => 0 | n => n, fun | n => n⟩
theorem laysB20 : Go.Proofs.Lays2.n20 Try.prog laysB20_ren := {
  mixed := by kernel_rfl
  f20 := Try.func50.trans (congrArg some (by kernel_rfl))
  t0 := Try.underlying0
  a0 := Try.isAgg0
  z0 := Try.sizeOf0
  v0 := Try.zeroValue0
  t3 := Try.underlying3
  a3 := Try.isAgg3
  z3 := Try.sizeOf3
  v3 := Try.zeroValue3
  t4 := Try.underlying4
  a4 := Try.isAgg4
  z4 := Try.sizeOf4
  v4 := Try.zeroValue4
  t22 := Try.underlying35
  a22 := Try.isAgg35
  z22 := Try.sizeOf35
  v22 := Try.zeroValue35
  i3 := by kernel_rfl }
end Go.Proofs.Ytllhdmhfjahglac

namespace Go.Proofs.Ytllhdmhfjahglac
open Go.RowKit Go.Shelf

theorem sort_calls (zs : List Int) (B g n c : Nat) (w : World) (h : w.ownsRow B 3 1 (.slice (some ⟨g, 0, none⟩) n c) n (intsC zs)) (hn : n ≤ 4000000) :
    Calls Try.prog 49 #[.slice (some ⟨g, 0, none⟩) n c] w fun e w' => e = .returned (.tuple #[]) ∧ w'.ownsRow B 3 1 (.slice (some ⟨g, 0, none⟩) n c) n (intsC (zs.mergeSort fun x y => decide (x ≤ y))) ∧ w.grownBy w' (some g) := by
  obtain ⟨g', cap, hv, hB, hlt, hnc, hcm, hlen, hH⟩ := Lib.holds_of_ownsRow (enc := Value.int .i64) (zs := zs) h (by simp)
  simp only [Value.slice.injEq, Option.some.injEq, Addr.mk.injEq, and_true, true_and] at hv
  obtain ⟨rfl, rfl⟩ := hv
  subst hlen
  refine (Any.slices_Sort_int lays189 g 0 c zs w hH hlt (by omega)).mono ?_
  rintro e w' ⟨rfl, k, os, rfl⟩
  refine ⟨rfl, ?_, grownBy_sortedI _⟩
  rcases h.2 with ⟨h0, _⟩ | ⟨g', cap', cur, hv, hbase, hb, h1, h2, h3, h4⟩
  · cases h0
  · cases hv
    exact ownsRow_sortedI (n := k) (os := os) (ts := zs.mergeSort fun x y => decide (x ≤ y)) (List.length_mergeSort zs) hbase hb h1 h2 h3
theorem compact_calls (zs : List Int) (B g n c : Nat) (w : World) (h : w.ownsRow B 3 1 (.slice (some ⟨g, 0, none⟩) n c) n (intsC zs)) (hn : n ≤ 4000000) :
    Calls Try.prog 50 #[.slice (some ⟨g, 0, none⟩) n c] w fun e w' => e = .returned (.slice (some ⟨g, 0, none⟩) (Lib.compact zs).length c) ∧ w'.ownsRow B 3 1 (.slice (some ⟨g, 0, none⟩) (Lib.compact zs).length c) (Lib.compact zs).length (intsC (Lib.compact zs)) ∧ ∀ w0, Below B w0 w → Below B w0 w' := by
  obtain ⟨g', cap, hv, hB, hlt, hnc, hcm, hlen, hH⟩ := Lib.holds_of_ownsRow (enc := Value.int .i64) (zs := zs) h (by simp)
  simp only [Value.slice.injEq, Option.some.injEq, Addr.mk.injEq, and_true, true_and] at hv
  obtain ⟨rfl, rfl⟩ := hv
  subst hlen
  have hle := Lib.compact_length_le zs
  refine (Any.slices_Compact_int laysB20 g 0 c zs w hH (by omega) hnc).mono ?_
  rintro e w' ⟨rfl, q, rfl⟩
  refine ⟨rfl, ?_, fun w0 hb => Lib.below_putRow hb hB⟩
  have := Lib.ownsRow_putRow (q := q) (k := (Lib.compact zs).length) (ys := Lib.compact zs ++ List.replicate (zs.length - (Lib.compact zs).length) 0) h (by simp; omega) hle
  rw [List.take_left] at this
  exact this
end Go.Proofs.Ytllhdmhfjahglac

namespace Go.Proofs.Ytllhdmhfjahglac
open Go.RowKit

theorem planNew_results (tmps : Array Value) (b : Nat) (w : World) {a0 a1 a2 a3 : Option Addr} {n0 n1 n2 n3 c0 c1 c2 c3 : Nat} {z : Int} (h : tmps.getD 2 undef = .pointer (some ⟨b, 0, none⟩)) (hb : Box w b #[.slice a0 n0 c0, .slice a1 n1 c1, .slice a2 n2 c2, .slice a3 n3 c3, .int .i64 z] 42) :
    (results Try.f14 tmps).run Try.prog w = .ok (.agg #[.slice a0 n0 c0, .slice a1 n1 c1, .slice a2 n2 c2, .slice a3 n3 c3, .int .i64 z]) w := by
  have h' : tmps[2]?.getD undef = .pointer (some ⟨b, 0, none⟩) := by simpa using h
  obtain ⟨k0, k1, k2, k3, k4⟩ := hb.cells5
  simp [results, Try.results14, go_sem, h', k0, k1, k2, k3, k4]

set_option maxHeartbeats 4000000 in
set_option maxRecDepth 100000 in
theorem planNew_calls (l : List Row) (base : Option Addr) (n c : Nat) (w : World) (hr : Right l) (hsm : Small l) (ha : Holds w base n c l) :
    Calls Try.prog 14 #[.slice base n c] w fun x w' => EngTold w w' (newE l) x := by
  have HBX := hid (Box.new w #[.slice none 0 0, .slice none 0 0, .slice none 0 0, .slice none 0 0, .int .i64 0] 42)
  have HB0 := hid (grew w (.cells #[.slice none 0 0, .slice none 0 0, .slice none 0 0, .slice none 0 0, .int .i64 0] 42))
  have PO := hid (ofC_calls l base n c _ hr hsm (ha.below HB0.out))
  clear ha hr hsm
  go_enter Try.func14, Try.ntmps14
  go_wp2_with fail
  refine PO.out.mono ?_
  rintro x w1 ⟨b1, n1, c1, rfl, h1, hb1⟩
  have HX1 := hid (HBX.out.below hb1)
  obtain ⟨x0, x1, x2, x3, x4⟩ := HX1.out.cells5
  obtain ⟨f0, f1, f2, f3, f4⟩ := HX1.out.free5
  have hxl : w.heap.size < w1.heap.size := HX1.out.lt
  have HLI : Hid (EngLies w1 b1 n1 c1 none 0 0 none 0 0 none 0 0 (newE l)) :=
    ⟨h1, ⟨rfl, ⟨Nat.le_refl _, Nat.zero_le _, fun _ => rfl⟩, .inl rfl⟩, Lies.none _ _, Lies.none _ _, Kind.none _ _, Kind.none _ _, Kind.none _ _⟩
  have HLF := hid (HLI.out.put HX1.out (put5_off w1 w.heap.size (.slice b1 n1 c1) (.slice none 0 0) (.slice none 0 0) (.slice none 0 0) (.int .i64 0)))
  have HBF := hid (put5_box HX1.out (.slice b1 n1 c1) (.slice none 0 0) (.slice none 0 0) (.slice none 0 0) (.int .i64 0))
  have HBE := hid (put5_below (below_deep HB0.out hb1) (Nat.le_refl _) (.slice b1 n1 c1) (.slice none 0 0) (.slice none 0 0) (.slice none 0 0) (.int .i64 0))
  unfold put5 at HLF HBF HBE
  clear h1 hb1 PO
  go_wp2
  (try simp only [Exit.inBlock, Exit.then])
  refine bodyPost_ret (planNew_results _ w.heap.size _ rfl HBF.out) rfl ?_
  exact ⟨_, rfl, ⟨_, _, _, _, _, _, _, _, _, _, _, _, rfl, HLF.out⟩, HBE.out⟩

theorem filter_snoc (l : List ByteArray) (f : ByteArray → Bool) {j : Nat} (h : j < l.length) : (l.take (j + 1)).filter f = (l.take j).filter f ++ if f (l.getD j default) = true then [l.getD j default] else [] := by
  rw [take_snoc_getD h, List.filter_append]
  congr 1
  by_cases hf : f (l.getD j default) = true
  · rw [if_pos hf, List.filter_cons, if_pos hf]; rfl
  · rw [if_neg hf, List.filter_cons, if_neg hf]; rfl

set_option maxHeartbeats 4000000 in
set_option maxRecDepth 100000 in
theorem planKeys_calls (d : Deed3) (rb : Option Addr) (rn rc : Nat) (wb : Option Addr) (wn wc : Nat) (cb : Option Addr) (cn cc : Nat) (w : World) (hd : DeedIn w rb rn rc wb wn wc cb cn cc d.1 d.2.1 d.2.2) (hR : RightDD d) :
    Calls Try.prog 24 #[.agg #[.slice rb rn rc, .slice wb wn wc, .slice cb cn cc]] w fun e w' => ∃ b n c, e = .returned (.slice b n c) ∧ Texts w' b n c (keysD d) ∧ Below w.heap.size w w' := by
  have hrn := Texts.count hd.tr
  have hwn := Texts.count hd.tw
  have hr5 : rn ≤ 5 := by rw [hrn]; exact wKeys_len hR.r
  have hw5 : wn ≤ 5 := by rw [hwn]; exact wKeys_len hR.w
  have HFIN := hid (keysP_is (wKeys_nodup hR.r) (wKeys_nodup hR.w))
  have HKP : Hid (keysP d = d.1 ++ d.2.1.filter (fun k => !has d.1 k)) := rfl
  have HBX := hid (Box.new w #[.slice rb rn rc, .slice wb wn wc, .slice cb cn cc] 51)
  have HBA := hid (grew w (.cells #[.slice rb rn rc, .slice wb wn wc, .slice cb cn cc] 51))
  have HD := hid (hd.below HBA.out)
  have HRN := hid hrn
  have HWN := hid hwn
  have N1 : Hid ((0 + rn) * 16 ≤ 140737488355328) := by show _ ≤ _; omega
  have O1 := hid (strs_one d.1)
  clear hd hrn hwn hR
  go_enter Try.func24, Try.ntmps24
  go_upto_region 1 with fail
  generalize w.alloc (.cells #[.slice rb rn rc, .slice wb wn wc, .slice cb cn cc] 51) = A at *
  have x0 := HBX.out.cell 0 _ rfl
  have hxl : w.heap.size < A.heap.size := HBX.out.lt
  go_wp2_with (at_builtin; refine wpList_onto _ rfl _ _ 48 9 1 16 _ Try.underlying48 strInfo rfl (by decide) (by decide) rfl A.heap.size _ 0 [] rfl (World.ownsRow_nil _ _ _ _) rb rn rc (strs d.1) rfl HD.out.tr O1.out N1.out (Nat.le_refl _) ?_)
  intro v1 w1 hown1 hg1
  have HB1 : Hid (Below A.heap.size A w1) := (Below.refl _ _).grown hg1 (Nat.le_refl _) (fun k hk => by cases hk)
  have HO1 : Hid (w1.ownsRow A.heap.size 9 1 v1 rn (strs d.1)) := by
    show World.ownsRow _ _ _ _ _ _ _
    simpa using hown1
  have x1 := (HBX.out.below HB1.out).cell 1 _ rfl
  have hx1 : w.heap.size < w1.heap.size := (HBX.out.below HB1.out).lt
  clear hown1 hg1 x0 N1 O1
  go_wp2
  go_loopw [3, 12] (fun v i wr => ∃ j r : Nat, j ≤ wn ∧ r ≤ rn + j ∧ i = .int .i64 j ∧ Hid ((d.1 ++ (d.2.1.take j).filter (fun k => !has d.1 k)).length = r) ∧ Hid (wr.ownsRow A.heap.size 9 1 v r (strs (d.1 ++ (d.2.1.take j).filter (fun k => !has d.1 k)))) ∧ Hid (Below A.heap.size A wr)) (fun _ i _ => wn - (intOf i).toNat)
  case atStart => exact ⟨0, rn, Nat.zero_le _, by omega, rfl, (by show _ = _; simp [HRN.out]), (by show World.ownsRow _ _ _ _ _ _ _; simpa using HO1.out), HB1⟩
  case round =>
    obtain ⟨j, r, hj, hr, rfl, HR, HO, HBR⟩ := hrel
    by_cases hlt : j < wn
    · have hjl : j < d.2.1.length := by rw [← HWN.out]; exact hlt
      have hi : (j : Int) < (wn : Int) := by omega
      obtain ⟨b2, o2, rfl, hr2⟩ : ∃ b2 o2, wb = some ⟨b2, o2, none⟩ ∧ Run wr b2 o2 (strs d.2.1) := by
        rcases (HD.out.tw.below (by decide) HBR.out).run with h | h
        · omega
        · exact h
      have c2 := hr2 j _ (strs_at hjl)
      have hb2 : b2 < wr.heap.size := by simpa using World.block_lt_of_cell? _ _ c2
      have x0 := (HBX.out.below HBR.out).cell 0 _ rfl
      have hxr : w.heap.size < wr.heap.size := (HBX.out.below HBR.out).lt
      have HFS := hid (filter_snoc d.2.1 (fun k => !has d.1 k) hjl)
      have PC := hid (contains_calls d.1 rb rn rc (d.2.1.getD j default) wr (HD.out.tr.below (by decide) HBR.out))
      clear hr2
      generalize (d.2.1.take j).filter (fun k => !has d.1 k) = F at *
      generalize d.2.1.getD j default = k at *
      go_wp2_with fail
      refine PC.out.mono ?_
      rintro x w2 ⟨rfl, rfl⟩
      cases hh : has d.1 k with
      | true =>
        have HF : Hid ((d.2.1.take (j + 1)).filter (fun k => !has d.1 k) = F) := by show _ = _; rw [HFS.out, hh]; simp
        clear hh PC
        go_wp2
        go_roundw
        case rel => exact ⟨j + 1, r, by omega, by omega, by go_num, (by show _ = _; rw [HF.out]; exact HR.out), (by rw [HF.out]; exact HO), HBR⟩
        case measure => simp [intOf]; omega
      | false =>
        have HF : Hid ((d.2.1.take (j + 1)).filter (fun k => !has d.1 k) = F ++ [k]) := by show _ = _; rw [HFS.out, hh]; simp
        clear hh PC
        have HC1 := hid (lies_one wr #[.string k] 9 1 rfl)
        have HOA := hid (HO.out.alloc (.cells #[.string k] 9))
        have HBY : Hid ((r + 1) * 16 ≤ 140737488355328) := by show _ ≤ _; omega
        have HSZ := hid (step_box HBR.out (.cells #[.string k] 9))
        go_wp2_with (at_builtin; refine wpList_onto _ rfl _ _ 48 9 1 16 _ Try.underlying48 strInfo rfl (by decide) (by decide) rfl A.heap.size _ r _ rfl HOA.out _ 1 _ _ rfl HC1.out (strs_one [k]) HBY.out HSZ.out.size ?_)
        intro v3 w3 hown3 hg3
        have HB3 := hid (step_row HSZ.out HOA.out hg3)
        have HO3 : Hid (w3.ownsRow A.heap.size 9 1 v3 (r + 1) (strs (d.1 ++ (F ++ [k])))) := by
          show World.ownsRow _ _ _ _ _ _ _
          rw [← List.append_assoc, strs_append (d.1 ++ F)]; exact hown3
        clear hown3 hg3
        go_wp2
        go_roundw
        case rel => exact ⟨j + 1, r + 1, by omega, by omega, by go_num, (by show _ = _; rw [HF.out, ← List.append_assoc, List.length_append, HR.out]; rfl), (by rw [HF.out]; exact HO3), HB3⟩
        case measure => simp [intOf]; omega
    · obtain rfl : j = wn := by omega
      rw [List.take_of_length_le (by rw [← HWN.out]; exact Nat.le_refl _), ← HKP.out, HFIN.out] at HO
      obtain ⟨ob, oc, rfl, hol⟩ := Lies.owned HO.out
      have HOL : Hid (Texts wr ob r oc (keysD d)) := hol
      clear hol
      go_wp2
      go_ret
      exact ⟨_, _, _, rfl, HOL.out, below_deep HBA.out HBR.out⟩

set_option maxHeartbeats 1000000 in
set_option maxRecDepth 100000 in
theorem number_calls6 (cb : Option Addr) (cn cc : Nat) (db : Option Addr) (dn dc : Nat) (sb : Option Addr) (sn sc : Nat) (eb : Option Addr) (en ec : Nat) (bs at_ : Int) (w : World) (h0 : 0 ≤ bs) (h1 : bs ≤ 1954687338211) (h2 : 0 ≤ at_) (h3 : at_ ≤ 1954687338211) :
    Calls Try.prog 48 #[.agg #[.slice cb cn cc, .slice db dn dc, .slice sb sn sc, .slice eb en ec, .int .i64 bs], .int .i64 at_] w fun x w' => x = .returned (.int .i64 (bs + at_)) ∧ Below w.heap.size w w' := by
  have HB := hid (grew w (.cells #[.slice cb cn cc, .slice db dn dc, .slice sb sn sc, .slice eb en ec, .int .i64 bs] 42))
  have hs : IntKind.i64.wrap (bs + at_) = bs + at_ := by rw [IntKind.wrap_i64]; omega
  go_enter Try.func48, Try.ntmps48
  go_wp2
  go_ret
  exact ⟨rfl, HB.out⟩
end Go.Proofs.Ytllhdmhfjahglac
