/-
  How arguments that are batches of deeds, or numbers, are read, and how many deeds there are at the most where all that is read is of a bounded bulk.
  There is an input that fits, for a row with a condition and listed variables, at a world whose shape is known.
  The library's functions that the program calls are those whose contracts are known.
  The three ways of cutting a text at a text, told of both cuts at once.
  The library's Split and Join are the cuts and the joins of a deed's text.
-/
import Derived.Test.YtdnafpenljdinadDoorRows
import Derived.Test.YtdnafpenljdinadDoorOpenDeeds
import Derived.Test.YtdnafpenljdinadDoorRefBuild
import Derived.ChangeSlices
import Derived.Deep.DeepHandedRow
import Derived.LaidLaws
import Derived.Shelf.Small.Wraps
import Derived.Shelf.Strings.Split
import Derived.Shelf.LaysM
import Derived.Shelf.LaysC
import Derived.Shelf.Strconv.Itoa3
import Derived.Shelf.Strconv.AtoiAll
import Derived.Shelf.Strconv.ErrVarAll
import Derived.Shelf.Strings.OnBuilder
import Derived.Test.YtdnafpenljdinadDoorProg
import Derived.Test.YtdnafpenljdinadDoorTextMath
import Derived.Lib.SplitLaws
import Derived.Lib.Join
namespace Go.Proofs.YtdnafpenljdinadDoor
open Go.ChangeShapes Go.WideShapes Go.ChangeAt Go.RowKit Go.Deep Go.Joins

theorem bulk_one {H : Type} (d : DataW H) : 1 ≤ Rows.uptoBulk d := by
  cases d with
  | lit l => cases l <;> simp [Rows.uptoBulk]
  | nil => simp [Rows.uptoBulk]
  | ptr d => simp [Rows.uptoBulk]
  | slice elems spare => simp [Rows.uptoBulk]
  | agg parts => simp [Rows.uptoBulk]
  | iface t d => simp [Rows.uptoBulk]
  | map entries => simp [Rows.uptoBulk]
  | held h => simp [Rows.uptoBulk]
theorem bulk_append {H : Type} (l r : List (DataW H)) : Rows.uptoBulkAll (l ++ r) = Rows.uptoBulkAll l + Rows.uptoBulkAll r := by
  induction l with
  | nil => simp [Rows.uptoBulkAll]
  | cons x l ih => simp only [List.cons_append, Rows.uptoBulkAll, ih]; omega
theorem bulk_length {H : Type} (l : List (DataW H)) : l.length ≤ Rows.uptoBulkAll l := by
  induction l with
  | nil => simp [Rows.uptoBulkAll]
  | cons x r ih => have := bulk_one x; simp only [Rows.uptoBulkAll, List.length_cons]; omega
theorem room_bulk {H : Type} {d : DataW H} {cap : Nat} (h : Room d cap) : cap ≤ Rows.uptoBulk d := by
  rcases h with ⟨_, rfl⟩ | ⟨elems, spare, rfl, hc⟩
  · exact Nat.zero_le _
  · have h1 := bulk_length elems
    have h2 := bulk_length spare
    simp only [Rows.uptoBulk]
    omega
theorem bulk_sum {H : Type} (f : Nat → Nat) (D : Nat → DataW H) : ∀ n, (∀ i, i < n → f i ≤ Rows.uptoBulk (D i)) → ((List.range n).map f).sum ≤ Rows.uptoBulkAll ((List.range n).map D)
  | 0, _ => Nat.zero_le _
  | n + 1, h => by
    have h1 := bulk_sum f D n (fun i hi => h i (by omega))
    have h2 := h n (by omega)
    rw [List.range_succ, List.map_append, List.map_append, List.sum_append, bulk_append]
    simp only [List.map_cons, List.map_nil, List.sum_cons, List.sum_nil, Rows.uptoBulkAll]
    omega

theorem cellsDeeds1 : Tryd.prog.cellsOf 30 = 1 := by kernel_rfl
theorem cellsInts1 : Tryd.prog.cellsOf 3 = 1 := by kernel_rfl
set_option maxRecDepth 100000 in
theorem open_batches {H : Type} {enc : TypeId × Value → H} {W : World} {v : Value} {fuel : Nat} {y : DataW H × List MemPlace}
    (h : DataW.trod enc Tryd.prog W 0 (fun _ => true) true fuel 24 [v] = some y) :
    ∃ a len cap BS, v = .slice a len cap ∧ BatchesIn W a len cap BS ∧ manyB BS ≤ Rows.uptoBulk y.1 := by
  rcases open_slice Tryd.underlying24 h with ⟨hcs, hx⟩ | ⟨x, len, cap, m, n, D, Pl, hcs, _, hl, hm, hmm, hx, hcell⟩
  · simp at hcs
    subst hcs
    exact ⟨none, 0, 0, [], rfl, ⟨rfl, ⟨Nat.le_refl _, Nat.zero_le _, fun _ => rfl⟩, .inl rfl⟩, Nat.zero_le _⟩
  · simp at hcs
    subst hcs
    simp only [if_true] at hmm
    subst hmm
    have each : ∀ i, i < len → ∃ b : List Deed3, (∃ db dn dc, W.cell? (x.add i) = some (.slice db dn dc) ∧ DeedsIn W db dn dc b) ∧ b.length ≤ Rows.uptoBulk (D i) := by
      intro i hi
      obtain ⟨cs', h1, h2⟩ := hcell i (by omega)
      rw [cellsDeeds1] at h1
      obtain ⟨_, hlen, hc⟩ := World.cells?_some h1
      match cs', hlen with
      | [v0], _ =>
        obtain ⟨a, ln, cp, b, rfl, hb, hr⟩ := open_deeds h2
        have e0 := hc 0 (by omega)
        rw [add_add] at e0
        refine ⟨b, ⟨a, ln, cp, by simpa using e0, hb⟩, ?_⟩
        have h3 := room_bulk hr
        have h4 := hb.hdr.le
        have h5 := hb.len
        simp only at h3
        omega
    obtain ⟨q, hq⟩ := choose_lt each
    have hget : ∀ i, i < len → ((List.range len).map q).getD i default = q i := fun i hi => by simp [List.getD, hi]
    refine ⟨some x, len, m, (List.range len).map q, rfl, ⟨by simp, ⟨hl, hm, fun h => by cases h⟩, ?_⟩, ?_⟩
    · by_cases h0 : len = 0
      · exact .inl h0
      right
      obtain ⟨b, off, spot⟩ := x
      have hsp : spot = none := by
        obtain ⟨⟨_, _, _, h0, _⟩, _⟩ := hq 0 (by omega)
        simpa [Addr.add] using World.cell?_spot h0
      subst hsp
      refine ⟨b, off, rfl, fun i hi => ?_⟩
      rw [hget i hi]
      obtain ⟨⟨db, dn, dc, h0, h1⟩, _⟩ := hq i hi
      rw [Addr.add_lit] at h0
      exact ⟨db, dn, dc, h0, h1⟩
    · rw [hx]
      have h1 := bulk_sum (fun i => (q i).length) D len (fun i hi => (hq i hi).2)
      have h2 : manyB ((List.range len).map q) = ((List.range len).map fun i => (q i).length).sum := by unfold manyB; rw [List.map_map]; rfl
      rw [h2]
      simp only [Rows.uptoBulk]
      omega
theorem open_picks {H : Type} {enc : TypeId × Value → H} {W : World} {v : Value} {fuel : Nat} {y : DataW H × List MemPlace}
    (h : DataW.trod enc Tryd.prog W 0 (fun _ => true) true fuel 25 [v] = some y) :
    ∃ a len cap l, v = .slice a len cap ∧ Ints W a len cap l := by
  rcases open_ints Tryd.underlying25 Tryd.underlying3 cellsInts1 h with ⟨hcs, hx⟩ | ⟨x, len, cap, zs, hcs, _, hl, hm, hz, hx, hcell, _⟩
  · simp at hcs
    subst hcs
    exact ⟨none, 0, 0, [], rfl, ⟨rfl, ⟨Nat.le_refl _, Nat.zero_le _, fun _ => rfl⟩, .inl rfl⟩⟩
  · simp at hcs
    subst hcs
    simp only [if_true] at hz
    have hlen : (zs.take len).length = len := by rw [List.length_take]; omega
    refine ⟨some x, len, cap, zs.take len, rfl, ⟨by rw [intsC_length, hlen, Nat.mul_one], ⟨hl, hm, fun h => by cases h⟩, ?_⟩⟩
    by_cases h0 : len = 0
    · exact .inl h0
    right
    obtain ⟨b, off, spot⟩ := x
    have hsp : spot = none := by
      have := hcell 0 (by omega)
      simpa [Addr.add] using World.cell?_spot this
    subst hsp
    refine ⟨b, off, rfl, fun i u hu => ?_⟩
    have hi : i < len := by
      have := (List.getElem?_eq_some_iff.1 hu).1
      rw [intsC_length, hlen] at this
      exact this
    rw [intsC_at (by omega)] at hu
    have h1 := hcell i (by omega)
    rw [Addr.add_lit] at h1
    rw [h1, ← hu]
    congr 2
    simp [List.getD, hi]
end Go.Proofs.YtdnafpenljdinadDoor

namespace Go.Proofs.YtdnafpenljdinadDoor

theorem witness_row_zip {H : Type} {enc : TypeId × Value → H} {C : Checked} {os : Os} {f : FuncId} {fn : Func} {s : OpenSpec} {conds : List PathCond} {apart : Bool} {laid : List (String × DataW Unit)} (modest : Bool) (w0 : World) (args : Array Value) (hos : w0.os = os)
    (hsh : (w0.forCall (fun _ _ => 0) ⟨#[], args, []⟩).Shaped C.prog)
    (hok : Input.okWideB C.prog (w0.forCall (fun _ _ => 0) ⟨#[], args, []⟩) f ⟨#[], args, []⟩ = true)
    (hrow : s.preRow enc C.prog fn conds apart laid (w0.forCall (fun _ _ => 0) ⟨#[], args, []⟩).memory args) :
    ∃ (w : World) (tape : Tape) (i : Input), w.os = os ∧ (w.forCall tape i).Shaped C.prog ∧ i.vars = [] ∧ Input.okWide C.prog (w.forCall tape i) .any w.heap.size f i ∧
      s.preRow enc C.prog fn conds apart laid (w.forCall tape i).memory i.args ∧ ({ modest := modest } : Assume).holds C.prog (lone (Frame.enter C.prog f i.args .normal) [] (w.forCall tape i)) :=
  ⟨w0, fun _ _ => 0, ⟨#[], args, []⟩, hos, hsh, (Input.okWide_of_okWideB (base := 0) hok).1, (Input.okWide_of_okWideB hok).2, hrow, by
    simp only [Assume.holds]
    exact ⟨by simp, by simp, fun _ => Modest.zero, by simp, by simp⟩⟩
end Go.Proofs.YtdnafpenljdinadDoor

namespace Go.Proofs.YtdnafpenljdinadDoor
open Go.Shelf
def laysM171_ren : Go.Shelf.Ren := ⟨fun | 171 => 54 | 243 => 59 | 246 => 65 | 283 => 69 | 284 => 70 | 285 => 71 | 286 => 72 | 129 => 76 | 317 => 75 | 318 => 77 | 319 => 78 | 320 => 79 | 337 => 80 | 338 => 81 | n => n, fun | 3 => 3 | 9 => 9 | 2 => 2 | 4 => 4 | 171 => 119 | 0 => 0 | 53 => 112 | 37 => 105 | 5 => 5 | 173 => 122 | 212 => 130 | 51 => 131 | 20 => 20 | 213 => 132 | 46 => 103 | 232 => 135 | 233 => 136 | n => n, fun | 17 => 2 | 18 => 3 | 19 => 4 | n => n⟩
theorem laysM171 : Go.Proofs.LaysM.n171 Tryd.prog laysM171_ren := {
  mixed := by kernel_rfl
  f129 := Tryd.func76.trans (congrArg some (by kernel_rfl))
  f171 := Tryd.func54.trans (congrArg some (by kernel_rfl))
  f243 := Tryd.func59.trans (congrArg some (by kernel_rfl))
  f246 := Tryd.func65.trans (congrArg some (by kernel_rfl))
  f283 := Tryd.func69.trans (congrArg some (by kernel_rfl))
  f284 := Tryd.func70.trans (congrArg some (by kernel_rfl))
  f285 := Tryd.func71.trans (congrArg some (by kernel_rfl))
  f286 := Tryd.func72.trans (congrArg some (by kernel_rfl))
  f317 := Tryd.func75.trans (congrArg some (by kernel_rfl))
  f318 := Tryd.func77.trans (congrArg some (by kernel_rfl))
  f319 := Tryd.func78.trans (congrArg some (by kernel_rfl))
  f320 := Tryd.func79.trans (congrArg some (by kernel_rfl))
  f337 := Tryd.func80.trans (congrArg some (by kernel_rfl))
  f338 := Tryd.func81.trans (congrArg some (by kernel_rfl))
  t0 := Tryd.underlying0
  a0 := Tryd.isAgg0
  z0 := Tryd.sizeOf0
  v0 := Tryd.zeroValue0
  t2 := Tryd.underlying2
  a2 := Tryd.isAgg2
  z2 := Tryd.sizeOf2
  v2 := Tryd.zeroValue2
  t3 := Tryd.underlying3
  a3 := Tryd.isAgg3
  z3 := Tryd.sizeOf3
  v3 := Tryd.zeroValue3
  t4 := Tryd.underlying4
  a4 := Tryd.isAgg4
  z4 := Tryd.sizeOf4
  v4 := Tryd.zeroValue4
  t5 := Tryd.underlying5
  a5 := Tryd.isAgg5
  z5 := Tryd.sizeOf5
  v5 := Tryd.zeroValue5
  t9 := Tryd.underlying9
  a9 := Tryd.isAgg9
  z9 := Tryd.sizeOf9
  v9 := Tryd.zeroValue9
  t20 := Tryd.underlying20
  a20 := Tryd.isAgg20
  z20 := Tryd.sizeOf20
  v20 := Tryd.zeroValue20
  t37 := Tryd.underlying105
  a37 := Tryd.isAgg105
  z37 := Tryd.sizeOf105
  v37 := Tryd.zeroValue105
  t46 := Tryd.underlying103
  a46 := Tryd.isAgg103
  z46 := Tryd.sizeOf103
  v46 := Tryd.zeroValue103
  t51 := Tryd.underlying131
  a51 := Tryd.isAgg131
  z51 := Tryd.sizeOf131
  v51 := Tryd.zeroValue131
  t53 := Tryd.underlying112
  a53 := Tryd.isAgg112
  z53 := Tryd.sizeOf112
  v53 := Tryd.zeroValue112
  t171 := Tryd.underlying119
  a171 := Tryd.isAgg119
  z171 := Tryd.sizeOf119
  v171 := Tryd.zeroValue119
  t173 := Tryd.underlying122
  a173 := Tryd.isAgg122
  z173 := Tryd.sizeOf122
  v173 := Tryd.zeroValue122
  t212 := Tryd.underlying130
  a212 := Tryd.isAgg130
  z212 := Tryd.sizeOf130
  v212 := Tryd.zeroValue130
  t213 := Tryd.underlying132
  a213 := Tryd.isAgg132
  z213 := Tryd.sizeOf132
  t232 := Tryd.underlying135
  a232 := Tryd.isAgg135
  z232 := Tryd.sizeOf135
  v232 := Tryd.zeroValue135
  t233 := Tryd.underlying136
  a233 := Tryd.isAgg136
  z233 := Tryd.sizeOf136
  v233 := Tryd.zeroValue136
  g17 := by kernel_rfl
  g18 := by kernel_rfl
  g19 := by kernel_rfl
  i0 := by kernel_rfl
  i2 := by kernel_rfl
  i3 := by kernel_rfl
  i4 := by kernel_rfl
  i5 := by kernel_rfl
  i9 := by kernel_rfl
  i20 := by kernel_rfl
  i37 := by kernel_rfl
  i46 := by kernel_rfl
  i51 := by kernel_rfl
  i53 := by kernel_rfl
  i171 := by kernel_rfl
  i173 := by kernel_rfl
  i212 := by kernel_rfl
  i232 := by kernel_rfl
  i233 := by kernel_rfl
  m17 := by kernel_rfl
  m18 := by kernel_rfl
  m19 := by kernel_rfl }
def laysC172_ren : Go.Shelf.Ren := ⟨fun | 172 => 53 | 244 => 57 | 245 => 58 | 247 => 60 | 279 => 61 | 280 => 62 | 281 => 63 | 282 => 64 | 287 => 66 | 316 => 67 | 171 => 54 | 205 => 68 | 321 => 73 | 322 => 74 | 243 => 59 | 246 => 65 | 283 => 69 | 284 => 70 | 285 => 71 | 286 => 72 | 129 => 76 | 317 => 75 | 318 => 77 | 319 => 78 | 320 => 79 | 337 => 80 | 338 => 81 | n => n, fun | 9 => 9 | 3 => 3 | 75 => 97 | 76 => 98 | 4 => 4 | 5 => 5 | 167 => 104 | 37 => 105 | 0 => 0 | 85 => 106 | 2 => 2 | 168 => 108 | 53 => 112 | 175 => 113 | 46 => 103 | 210 => 117 | 127 => 125 | 145 => 128 | 143 => 126 | 21 => 21 | 171 => 119 | 173 => 122 | 212 => 130 | 51 => 131 | 20 => 20 | 213 => 132 | 232 => 135 | 233 => 136 | 80 => 137 | n => n, fun | 15 => 0 | 16 => 1 | 17 => 2 | 18 => 3 | 19 => 4 | n => n⟩
theorem laysC172 : Go.Proofs.LaysC.n172 Tryd.prog laysC172_ren := {
  mixed := by kernel_rfl
  f129 := Tryd.func76.trans (congrArg some (by kernel_rfl))
  f171 := Tryd.func54.trans (congrArg some (by kernel_rfl))
  f172 := Tryd.func53.trans (congrArg some (by kernel_rfl))
  f205 := Tryd.func68.trans (congrArg some (by kernel_rfl))
  f243 := Tryd.func59.trans (congrArg some (by kernel_rfl))
  f244 := Tryd.func57.trans (congrArg some (by kernel_rfl))
  f245 := Tryd.func58.trans (congrArg some (by kernel_rfl))
  f246 := Tryd.func65.trans (congrArg some (by kernel_rfl))
  f247 := Tryd.func60.trans (congrArg some (by kernel_rfl))
  f279 := Tryd.func61.trans (congrArg some (by kernel_rfl))
  f280 := Tryd.func62.trans (congrArg some (by kernel_rfl))
  f281 := Tryd.func63.trans (congrArg some (by kernel_rfl))
  f282 := Tryd.func64.trans (congrArg some (by kernel_rfl))
  f283 := Tryd.func69.trans (congrArg some (by kernel_rfl))
  f284 := Tryd.func70.trans (congrArg some (by kernel_rfl))
  f285 := Tryd.func71.trans (congrArg some (by kernel_rfl))
  f286 := Tryd.func72.trans (congrArg some (by kernel_rfl))
  f287 := Tryd.func66.trans (congrArg some (by kernel_rfl))
  f316 := Tryd.func67.trans (congrArg some (by kernel_rfl))
  f317 := Tryd.func75.trans (congrArg some (by kernel_rfl))
  f318 := Tryd.func77.trans (congrArg some (by kernel_rfl))
  f319 := Tryd.func78.trans (congrArg some (by kernel_rfl))
  f320 := Tryd.func79.trans (congrArg some (by kernel_rfl))
  f321 := Tryd.func73.trans (congrArg some (by kernel_rfl))
  f322 := Tryd.func74.trans (congrArg some (by kernel_rfl))
  f337 := Tryd.func80.trans (congrArg some (by kernel_rfl))
  f338 := Tryd.func81.trans (congrArg some (by kernel_rfl))
  t0 := Tryd.underlying0
  a0 := Tryd.isAgg0
  z0 := Tryd.sizeOf0
  v0 := Tryd.zeroValue0
  t2 := Tryd.underlying2
  a2 := Tryd.isAgg2
  z2 := Tryd.sizeOf2
  v2 := Tryd.zeroValue2
  t3 := Tryd.underlying3
  a3 := Tryd.isAgg3
  z3 := Tryd.sizeOf3
  v3 := Tryd.zeroValue3
  t4 := Tryd.underlying4
  a4 := Tryd.isAgg4
  z4 := Tryd.sizeOf4
  v4 := Tryd.zeroValue4
  t5 := Tryd.underlying5
  a5 := Tryd.isAgg5
  z5 := Tryd.sizeOf5
  v5 := Tryd.zeroValue5
  t9 := Tryd.underlying9
  a9 := Tryd.isAgg9
  z9 := Tryd.sizeOf9
  v9 := Tryd.zeroValue9
  t20 := Tryd.underlying20
  a20 := Tryd.isAgg20
  z20 := Tryd.sizeOf20
  v20 := Tryd.zeroValue20
  t21 := Tryd.underlying21
  a21 := Tryd.isAgg21
  z21 := Tryd.sizeOf21
  v21 := Tryd.zeroValue21
  t37 := Tryd.underlying105
  a37 := Tryd.isAgg105
  z37 := Tryd.sizeOf105
  v37 := Tryd.zeroValue105
  t46 := Tryd.underlying103
  a46 := Tryd.isAgg103
  z46 := Tryd.sizeOf103
  v46 := Tryd.zeroValue103
  t51 := Tryd.underlying131
  a51 := Tryd.isAgg131
  z51 := Tryd.sizeOf131
  v51 := Tryd.zeroValue131
  t53 := Tryd.underlying112
  a53 := Tryd.isAgg112
  z53 := Tryd.sizeOf112
  v53 := Tryd.zeroValue112
  t75 := Tryd.underlying97
  a75 := Tryd.isAgg97
  z75 := Tryd.sizeOf97
  v75 := Tryd.zeroValue97
  t76 := Tryd.underlying98
  a76 := Tryd.isAgg98
  z76 := Tryd.sizeOf98
  v76 := Tryd.zeroValue98
  t85 := Tryd.underlying106
  a85 := Tryd.isAgg106
  z85 := Tryd.sizeOf106
  v85 := Tryd.zeroValue106
  t127 := Tryd.underlying125
  a127 := Tryd.isAgg125
  z127 := Tryd.sizeOf125
  v127 := Tryd.zeroValue125
  t143 := Tryd.underlying126
  a143 := Tryd.isAgg126
  z143 := Tryd.sizeOf126
  v143 := Tryd.zeroValue126
  t145 := Tryd.underlying128
  a145 := Tryd.isAgg128
  z145 := Tryd.sizeOf128
  v145 := Tryd.zeroValue128
  t167 := Tryd.underlying104
  a167 := Tryd.isAgg104
  z167 := Tryd.sizeOf104
  v167 := Tryd.zeroValue104
  t168 := Tryd.underlying108
  a168 := Tryd.isAgg108
  z168 := Tryd.sizeOf108
  v168 := Tryd.zeroValue108
  t171 := Tryd.underlying119
  a171 := Tryd.isAgg119
  z171 := Tryd.sizeOf119
  v171 := Tryd.zeroValue119
  t173 := Tryd.underlying122
  a173 := Tryd.isAgg122
  z173 := Tryd.sizeOf122
  v173 := Tryd.zeroValue122
  t175 := Tryd.underlying113
  a175 := Tryd.isAgg113
  z175 := Tryd.sizeOf113
  v175 := Tryd.zeroValue113
  t210 := Tryd.underlying117
  a210 := Tryd.isAgg117
  z210 := Tryd.sizeOf117
  v210 := Tryd.zeroValue117
  t212 := Tryd.underlying130
  a212 := Tryd.isAgg130
  z212 := Tryd.sizeOf130
  v212 := Tryd.zeroValue130
  t213 := Tryd.underlying132
  a213 := Tryd.isAgg132
  z213 := Tryd.sizeOf132
  t232 := Tryd.underlying135
  a232 := Tryd.isAgg135
  z232 := Tryd.sizeOf135
  v232 := Tryd.zeroValue135
  t233 := Tryd.underlying136
  a233 := Tryd.isAgg136
  z233 := Tryd.sizeOf136
  v233 := Tryd.zeroValue136
  g15 := by kernel_rfl
  g16 := by kernel_rfl
  g17 := by kernel_rfl
  g18 := by kernel_rfl
  g19 := by kernel_rfl
  t80 := Tryd.underlying137
  a80 := Tryd.isAgg137
  z80 := Tryd.sizeOf137
  v80 := Tryd.zeroValue137
  i0 := by kernel_rfl
  i2 := by kernel_rfl
  i3 := by kernel_rfl
  i4 := by kernel_rfl
  i5 := by kernel_rfl
  i9 := by kernel_rfl
  i20 := by kernel_rfl
  i21 := by kernel_rfl
  i37 := by kernel_rfl
  i46 := by kernel_rfl
  i51 := by kernel_rfl
  i53 := by kernel_rfl
  i75 := by kernel_rfl
  i76 := by kernel_rfl
  i80 := by kernel_rfl
  i85 := by kernel_rfl
  i127 := by kernel_rfl
  i143 := by kernel_rfl
  i145 := by kernel_rfl
  i167 := by kernel_rfl
  i168 := by kernel_rfl
  i171 := by kernel_rfl
  i173 := by kernel_rfl
  i175 := by kernel_rfl
  i210 := by kernel_rfl
  i212 := by kernel_rfl
  i232 := by kernel_rfl
  i233 := by kernel_rfl
  m15 := by kernel_rfl
  m16 := by kernel_rfl
  m17 := by kernel_rfl
  m18 := by kernel_rfl
  m19 := by kernel_rfl
  c0 := by kernel_rfl
  c2 := by kernel_rfl
  c3 := by kernel_rfl
  c4 := by kernel_rfl
  c5 := by kernel_rfl
  c9 := by kernel_rfl
  c20 := by kernel_rfl
  c21 := by kernel_rfl
  c37 := by kernel_rfl
  c46 := by kernel_rfl
  c51 := by kernel_rfl
  c53 := by kernel_rfl
  c75 := by kernel_rfl
  c76 := by kernel_rfl
  c80 := by kernel_rfl
  c85 := by kernel_rfl
  c127 := by kernel_rfl
  c143 := by kernel_rfl
  c145 := by kernel_rfl
  c167 := by kernel_rfl
  c168 := by kernel_rfl
  c171 := by kernel_rfl
  c173 := by kernel_rfl
  c175 := by kernel_rfl
  c210 := by kernel_rfl
  c212 := by kernel_rfl
  c213 := by kernel_rfl
  c232 := by kernel_rfl
  c233 := by kernel_rfl }
end Go.Proofs.YtdnafpenljdinadDoor

namespace Go.Proofs.YtdnafpenljdinadDoor

/-- What cuts a text at a text does, step by step: sep is the text at which it is cut, spl what comes of it behind the signs cur. -/
structure Cuts (sep : T) (spl : T → T → List T) : Prop where
  pos : 0 < sep.length
  hit : ∀ cur rest, spl cur (sep ++ rest) = cur :: spl [] rest
  miss : ∀ cur c rest, sep.length ≤ rest.length + 1 → (c :: rest).take sep.length ≠ sep → spl cur (c :: rest) = spl (cur ++ [c]) rest
  fin : ∀ cur rest, rest.length < sep.length → spl cur rest = [cur ++ rest]
theorem cuts1 : Cuts [32] spl1 := by
  refine ⟨by decide, fun cur rest => ?_, fun cur c rest _ h => ?_, fun cur rest h => ?_⟩
  · show spl1 cur (32 :: rest) = _
    rw [spl1, if_pos rfl]
  · rw [spl1, if_neg (fun e => h (by rw [e]; rfl))]
  · have : rest = [] := List.eq_nil_of_length_eq_zero (by simpa using h)
    rw [this]; simp [spl1]
theorem cuts2 : Cuts [59, 32] spl2 := by
  refine ⟨by decide, fun cur rest => ?_, fun cur c rest hl h => ?_, fun cur rest h => ?_⟩
  · show spl2 cur (59 :: 32 :: rest) = _
    rw [spl2, if_pos ⟨rfl, rfl⟩]
  · cases rest with
    | nil => simp at hl
    | cons d rest => rw [spl2, if_neg (fun e => h (by rw [e.1, e.2]; rfl))]
  · cases rest with
    | nil => simp [spl2]
    | cons c rest =>
      have : rest = [] := List.eq_nil_of_length_eq_zero (by simp at h; omega)
      rw [this]; simp [spl2]
/-- At place i, with the signs from the place k on still to be told. -/
theorem Cuts.at_hit {sep : T} {spl : T → T → List T} (h : Cuts sep spl) {s : T} {k i : Nat} (hm : (s.drop i).take sep.length = sep) : spl ((s.take i).drop k) (s.drop i) = (s.take i).drop k :: spl [] (s.drop (i + sep.length)) := by
  have e : s.drop i = sep ++ s.drop (i + sep.length) := by
    have := List.take_append_drop sep.length (s.drop i)
    rw [hm, List.drop_drop] at this
    exact this.symm
  rw [e, h.hit]
theorem Cuts.at_miss {sep : T} {spl : T → T → List T} (h : Cuts sep spl) {s : T} {k i : Nat} (hk : k ≤ i) (hl : i + sep.length ≤ s.length) (hm : (s.drop i).take sep.length ≠ sep) : spl ((s.take i).drop k) (s.drop i) = spl ((s.take (i + 1)).drop k) (s.drop (i + 1)) := by
  have hp := h.pos
  have hi : i < s.length := by omega
  have e : s.drop i = s[i] :: s.drop (i + 1) := List.drop_eq_getElem_cons hi
  have e2 : (s.take (i + 1)).drop k = (s.take i).drop k ++ [s[i]] := by
    rw [List.take_succ_eq_append_getElem hi, List.drop_append_of_le_length (by simp; omega)]
  rw [e] at hm ⊢
  rw [e2, h.miss _ _ _ (by simp; omega) hm]
theorem Cuts.at_end {sep : T} {spl : T → T → List T} (h : Cuts sep spl) {s : T} {k i : Nat} (hk : k ≤ i) (hi : i ≤ s.length) (hl : s.length < i + sep.length) : spl ((s.take i).drop k) (s.drop i) = [s.drop k] := by
  rw [h.fin _ _ (by simp; omega)]
  congr 1
  have : s.drop k = (s.take i ++ s.drop i).drop k := by rw [List.take_append_drop]
  rw [this, List.drop_append_of_le_length (by simp; omega)]
end Go.Proofs.YtdnafpenljdinadDoor

namespace Go.Proofs.YtdnafpenljdinadDoor
open Go.Lib

theorem Cuts.walk {sep : T} {spl : T → T → List T} (h : Cuts sep spl) {s : T} : ∀ i : Nat, (∀ j, j < i → (s.drop j).take sep.length ≠ sep) → (i = 0 ∨ i + sep.length ≤ s.length + 1) → spl [] s = spl ((s.take i).drop 0) (s.drop i)
  | 0, _, _ => by simp
  | i + 1, hj, hl => by
    have hp := h.pos
    rw [Cuts.walk h i (fun j hj' => hj j (by omega)) (by omega)]
    exact h.at_miss (k := 0) (by omega) (by omega) (hj i (by omega))
theorem occ_take {s sep : T} {j : Nat} (hl : j + sep.length ≤ s.length) (h : occAt s sep j = false) : (s.drop j).take sep.length ≠ sep := by
  rw [occAt_iff_take s sep j hl] at h
  intro e; rw [e] at h; simp at h
/-- The library's cuts. -/
theorem split_cuts {sep : T} {spl : T → T → List T} (h : Cuts sep spl) : ∀ (k : Nat) (s : T), s.length ≤ k → splitK sep 0 (count s sep) s = spl [] s := by
  have hp := h.pos
  have hne : sep ≠ [] := fun e => by rw [e] at hp; simp at hp
  intro k
  induction k with
  | zero =>
    intro s hk
    have : s = [] := List.eq_nil_of_length_eq_zero (by omega)
    subst this
    have hi : index [] sep = -1 := by
      unfold index; rw [if_neg]; simpa using hne
    rw [count_miss hi, h.fin [] [] (by simpa using hp)]; rfl
  | succ k ih =>
    intro s hk
    rcases index_spec s sep with ⟨hi, hno⟩ | ⟨i, hi, hle, hocc, hno⟩
    · rw [count_miss hi]
      show [s] = _
      by_cases hl : sep.length ≤ s.length
      · rw [h.walk (s := s) (s.length + 1 - sep.length) (fun j hj => occ_take (by omega) (hno j (by omega))) (by omega), h.at_end (k := 0) (by omega) (by omega) (by omega)]
        simp
      · rw [h.fin [] s (by omega)]; simp
    · have hroom : i + sep.length ≤ s.length := by
        rcases occAt_room hocc with h1 | h1
        · exact h1
        · exact absurd h1 hne
      have hlt := drop_shorter (s := s) hne (by rw [hi]; simp)
      rw [count_hit hne hi, Nat.add_comm 1, splitK, if_neg (by rw [hi]; simp), hi]
      simp only [Int.toNat_natCast, Nat.add_zero]
      rw [hi, Int.toNat_natCast] at hlt
      rw [ih _ (by omega), h.walk (s := s) i (fun j hj => occ_take (by omega) (hno j hj)) (by omega)]
      have ht : (s.drop i).take sep.length = sep := by
        have := occAt_iff_take s sep i hroom
        rw [hocc] at this
        simpa using this.symm
      rw [h.at_hit (k := 0) ht]
      simp
theorem splitB_cuts {sep : T} {spl : T → T → List T} (h : Cuts sep spl) (s : ByteArray) : splitB (ofT sep) 0 (countB s (ofT sep)) s = (spl [] (keyT s)).map ofT := by
  have e := splitB_data (ofT sep) 0 (countB s (ofT sep)) s
  have e1 : (ofT sep).data.toList = sep := keyT_ofT sep
  rw [e1] at e
  have e2 : countB s (ofT sep) = count (keyT s) sep := by
    show count s.data.toList (ofT sep).data.toList = _
    rw [e1]; rfl
  rw [e2] at e ⊢
  have e3 := split_cuts h _ (keyT s) (Nat.le_refl _)
  have e4 : (splitB (ofT sep) 0 (count (keyT s) sep) s).map keyT = spl [] (keyT s) := e.trans e3
  rw [← e4, List.map_map]
  have : (ofT ∘ keyT) = id := by funext x; exact ofT_keyT x
  rw [this, List.map_id]
theorem join_join1 : ∀ l : List T, Lib.join l [32] = join1 l
  | [] => rfl
  | [x] => by rw [join_one]; rfl
  | x :: y :: l => by
    have ih := join_join1 (y :: l)
    rw [join1_cons x (by simp), ← ih]
    simp [Lib.join, List.intercalate, List.intersperse]
theorem join_join2 : ∀ l : List T, Lib.join l [59, 32] = join2 l
  | [] => rfl
  | [x] => by rw [join_one]; rfl
  | x :: y :: l => by
    have ih := join_join2 (y :: l)
    rw [join2_cons x (by simp), ← ih]
    simp [Lib.join, List.intercalate, List.intersperse]
end Go.Proofs.YtdnafpenljdinadDoor
