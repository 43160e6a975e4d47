/-
  How arguments that are batches of deeds, or numbers, are read, and how many deeds there are at the most where all that is read is of a bounded bulk.
  There is an input that fits, for a row with a condition and listed variables, at a world whose shape is known.
  The library's functions that the program calls are those whose contracts are known.
  The three ways of cutting a text at a text, told of both cuts at once.
  The library's Split and Join are the cuts and the joins of a deed's text.
-/
import Derived.Test.YtllhdmhfjahgladGreatDoorRows
import Derived.Test.YtllhdmhfjahgladGreatDoorKeyNum
import Derived.Test.YtllhdmhfjahgladGreatDoorRefBuild
import Derived.ChangeSlices
import Derived.Deep.DeepHandedRow
import Derived.LaidLaws
import Derived.Shelf.Small.Wraps
import Derived.Shelf.Strings.Split
import Derived.Shelf.LaysM
import Derived.Shelf.LaysC
import Derived.Shelf.Strconv.Itoa3
import Derived.Shelf.Strconv.AtoiAll
import Derived.Shelf.Strconv.ErrVarAll
import Derived.Shelf.Strings.OnBuilder
import Derived.Test.YtllhdmhfjahgladGreatDoorProg
import Derived.Test.YtllhdmhfjahgladGreatDoorTextMath
import Derived.Lib.SplitLaws
import Derived.Lib.Join
namespace Go.Proofs.YtllhdmhfjahgladGreatDoor
open Go.ChangeShapes Go.WideShapes Go.ChangeAt Go.RowKit Go.Deep Go.Joins

theorem bulk_one {H : Type} (d : DataW H) : 1 ≤ Rows.uptoBulk d := by
  cases d with
  | lit l => cases l <;> simp [Rows.uptoBulk]
  | nil => simp [Rows.uptoBulk]
  | ptr d => simp [Rows.uptoBulk]
  | slice elems spare => simp [Rows.uptoBulk]
  | agg parts => simp [Rows.uptoBulk]
  | iface t d => simp [Rows.uptoBulk]
  | map entries => simp [Rows.uptoBulk]
  | held h => simp [Rows.uptoBulk]
theorem bulk_append {H : Type} (l r : List (DataW H)) : Rows.uptoBulkAll (l ++ r) = Rows.uptoBulkAll l + Rows.uptoBulkAll r := by
  induction l with
  | nil => simp [Rows.uptoBulkAll]
  | cons x l ih => simp only [List.cons_append, Rows.uptoBulkAll, ih]; omega
theorem bulk_length {H : Type} (l : List (DataW H)) : l.length ≤ Rows.uptoBulkAll l := by
  induction l with
  | nil => simp [Rows.uptoBulkAll]
  | cons x r ih => have := bulk_one x; simp only [Rows.uptoBulkAll, List.length_cons]; omega
theorem room_bulk {H : Type} {d : DataW H} {cap : Nat} (h : Room d cap) : cap ≤ Rows.uptoBulk d := by
  rcases h with ⟨_, rfl⟩ | ⟨elems, spare, rfl, hc⟩
  · exact Nat.zero_le _
  · have h1 := bulk_length elems
    have h2 := bulk_length spare
    simp only [Rows.uptoBulk]
    omega
theorem bulk_sum {H : Type} (f : Nat → Nat) (D : Nat → DataW H) : ∀ n, (∀ i, i < n → f i ≤ Rows.uptoBulk (D i)) → ((List.range n).map f).sum ≤ Rows.uptoBulkAll ((List.range n).map D)
  | 0, _ => Nat.zero_le _
  | n + 1, h => by
    have h1 := bulk_sum f D n (fun i hi => h i (by omega))
    have h2 := h n (by omega)
    rw [List.range_succ, List.map_append, List.map_append, List.sum_append, bulk_append]
    simp only [List.map_cons, List.map_nil, List.sum_cons, List.sum_nil, Rows.uptoBulkAll]
    omega

theorem cellsDeeds1 : Tryz.prog.cellsOf 24 = 1 := by kernel_rfl
theorem cellsInts1 : Tryz.prog.cellsOf 3 = 1 := by kernel_rfl
set_option maxRecDepth 100000 in
theorem open_batches {H : Type} {enc : TypeId × Value → H} {W : World} {v : Value} {fuel : Nat} {y : DataW H × List MemPlace}
    (h : DataW.trod enc Tryz.prog W 0 (fun _ => true) true fuel 44 [v] = some y) :
    ∃ a len cap BS, v = .slice a len cap ∧ BatchesIn W a len cap BS ∧ manyB BS ≤ Rows.uptoBulk y.1 := by
  rcases open_slice Tryz.underlying44 h with ⟨hcs, hx⟩ | ⟨x, len, cap, m, n, D, Pl, hcs, _, hl, hm, hmm, hx, hcell⟩
  · simp at hcs
    subst hcs
    exact ⟨none, 0, 0, [], rfl, ⟨rfl, ⟨Nat.le_refl _, Nat.zero_le _, fun _ => rfl⟩, .inl rfl⟩, Nat.zero_le _⟩
  · simp at hcs
    subst hcs
    simp only [if_true] at hmm
    subst hmm
    have each : ∀ i, i < len → ∃ b : List Deed3, (∃ db dn dc, W.cell? (x.add i) = some (.slice db dn dc) ∧ DeedsIn W db dn dc b) ∧ b.length ≤ Rows.uptoBulk (D i) := by
      intro i hi
      obtain ⟨cs', h1, h2⟩ := hcell i (by omega)
      rw [cellsDeeds1] at h1
      obtain ⟨_, hlen, hc⟩ := World.cells?_some h1
      match cs', hlen with
      | [v0], _ =>
        obtain ⟨a, ln, cp, b, rfl, hb, hr⟩ := open_deeds h2
        have e0 := hc 0 (by omega)
        rw [add_add] at e0
        refine ⟨b, ⟨a, ln, cp, by simpa using e0, hb⟩, ?_⟩
        have h3 := room_bulk hr
        have h4 := hb.hdr.le
        have h5 := hb.len
        simp only at h3
        omega
    obtain ⟨q, hq⟩ := choose_lt each
    have hget : ∀ i, i < len → ((List.range len).map q).getD i default = q i := fun i hi => by simp [List.getD, hi]
    refine ⟨some x, len, m, (List.range len).map q, rfl, ⟨by simp, ⟨hl, hm, fun h => by cases h⟩, ?_⟩, ?_⟩
    · by_cases h0 : len = 0
      · exact .inl h0
      right
      obtain ⟨b, off, spot⟩ := x
      have hsp : spot = none := by
        obtain ⟨⟨_, _, _, h0, _⟩, _⟩ := hq 0 (by omega)
        simpa [Addr.add] using World.cell?_spot h0
      subst hsp
      refine ⟨b, off, rfl, fun i hi => ?_⟩
      rw [hget i hi]
      obtain ⟨⟨db, dn, dc, h0, h1⟩, _⟩ := hq i hi
      rw [Addr.add_lit] at h0
      exact ⟨db, dn, dc, h0, h1⟩
    · rw [hx]
      have h1 := bulk_sum (fun i => (q i).length) D len (fun i hi => (hq i hi).2)
      have h2 : manyB ((List.range len).map q) = ((List.range len).map fun i => (q i).length).sum := by unfold manyB; rw [List.map_map]; rfl
      rw [h2]
      simp only [Rows.uptoBulk]
      omega
theorem open_picks {H : Type} {enc : TypeId × Value → H} {W : World} {v : Value} {fuel : Nat} {y : DataW H × List MemPlace}
    (h : DataW.trod enc Tryz.prog W 0 (fun _ => true) true fuel 25 [v] = some y) :
    ∃ a len cap l, v = .slice a len cap ∧ Ints W a len cap l := by
  rcases open_ints Tryz.underlying25 Tryz.underlying3 cellsInts1 h with ⟨hcs, hx⟩ | ⟨x, len, cap, zs, hcs, _, hl, hm, hz, hx, hcell, _⟩
  · simp at hcs
    subst hcs
    exact ⟨none, 0, 0, [], rfl, ⟨rfl, ⟨Nat.le_refl _, Nat.zero_le _, fun _ => rfl⟩, .inl rfl⟩⟩
  · simp at hcs
    subst hcs
    simp only [if_true] at hz
    have hlen : (zs.take len).length = len := by rw [List.length_take]; omega
    refine ⟨some x, len, cap, zs.take len, rfl, ⟨by rw [intsC_length, hlen, Nat.mul_one], ⟨hl, hm, fun h => by cases h⟩, ?_⟩⟩
    by_cases h0 : len = 0
    · exact .inl h0
    right
    obtain ⟨b, off, spot⟩ := x
    have hsp : spot = none := by
      have := hcell 0 (by omega)
      simpa [Addr.add] using World.cell?_spot this
    subst hsp
    refine ⟨b, off, rfl, fun i u hu => ?_⟩
    have hi : i < len := by
      have := (List.getElem?_eq_some_iff.1 hu).1
      rw [intsC_length, hlen] at this
      exact this
    rw [intsC_at (by omega)] at hu
    have h1 := hcell i (by omega)
    rw [Addr.add_lit] at h1
    rw [h1, ← hu]
    congr 2
    simp [List.getD, hi]
end Go.Proofs.YtllhdmhfjahgladGreatDoor

namespace Go.Proofs.YtllhdmhfjahgladGreatDoor

theorem witness_row_zip {H : Type} {enc : TypeId × Value → H} {C : Checked} {os : Os} {f : FuncId} {fn : Func} {s : OpenSpec} {conds : List PathCond} {apart : Bool} {laid : List (String × DataW Unit)} (modest : Bool) (w0 : World) (args : Array Value) (hos : w0.os = os)
    (hsh : (w0.forCall (fun _ _ => 0) ⟨#[], args, []⟩).Shaped C.prog)
    (hok : Input.okWideB C.prog (w0.forCall (fun _ _ => 0) ⟨#[], args, []⟩) f ⟨#[], args, []⟩ = true)
    (hrow : s.preRow enc C.prog fn conds apart laid (w0.forCall (fun _ _ => 0) ⟨#[], args, []⟩).memory args) :
    ∃ (w : World) (tape : Tape) (i : Input), w.os = os ∧ (w.forCall tape i).Shaped C.prog ∧ i.vars = [] ∧ Input.okWide C.prog (w.forCall tape i) .any w.heap.size f i ∧
      s.preRow enc C.prog fn conds apart laid (w.forCall tape i).memory i.args ∧ ({ modest := modest } : Assume).holds C.prog (lone (Frame.enter C.prog f i.args .normal) [] (w.forCall tape i)) :=
  ⟨w0, fun _ _ => 0, ⟨#[], args, []⟩, hos, hsh, (Input.okWide_of_okWideB (base := 0) hok).1, (Input.okWide_of_okWideB hok).2, hrow, by
    simp only [Assume.holds]
    exact ⟨by simp, by simp, fun _ => Modest.zero, by simp, by simp⟩⟩
end Go.Proofs.YtllhdmhfjahgladGreatDoor

namespace Go.Proofs.YtllhdmhfjahgladGreatDoor
open Go.Shelf
def laysM171_ren : Go.Shelf.Ren := ⟨fun | 171 => 75 | 243 => 88 | 246 => 111 | 283 => 123 | 284 => 124 | 285 => 125 | 286 => 126 | 129 => 105 | 317 => 131 | 318 => 132 | 319 => 133 | 320 => 134 | 337 => 135 | 338 => 136 | n => n, fun | 3 => 3 | 9 => 9 | 2 => 2 | 4 => 4 | 171 => 171 | 0 => 0 | 53 => 149 | 37 => 151 | 5 => 5 | 173 => 173 | 212 => 185 | 51 => 147 | 20 => 20 | 213 => 186 | 46 => 131 | 232 => 187 | 233 => 188 | n => n, fun | 17 => 2 | 18 => 3 | 19 => 4 | n => n⟩
theorem laysM171 : Go.Proofs.LaysM.n171 Tryz.prog laysM171_ren := {
  mixed := by kernel_rfl
  f129 := Tryz.func105.trans (congrArg some (by kernel_rfl))
  f171 := Tryz.func75.trans (congrArg some (by kernel_rfl))
  f243 := Tryz.func88.trans (congrArg some (by kernel_rfl))
  f246 := Tryz.func111.trans (congrArg some (by kernel_rfl))
  f283 := Tryz.func123.trans (congrArg some (by kernel_rfl))
  f284 := Tryz.func124.trans (congrArg some (by kernel_rfl))
  f285 := Tryz.func125.trans (congrArg some (by kernel_rfl))
  f286 := Tryz.func126.trans (congrArg some (by kernel_rfl))
  f317 := Tryz.func131.trans (congrArg some (by kernel_rfl))
  f318 := Tryz.func132.trans (congrArg some (by kernel_rfl))
  f319 := Tryz.func133.trans (congrArg some (by kernel_rfl))
  f320 := Tryz.func134.trans (congrArg some (by kernel_rfl))
  f337 := Tryz.func135.trans (congrArg some (by kernel_rfl))
  f338 := Tryz.func136.trans (congrArg some (by kernel_rfl))
  t0 := Tryz.underlying0
  a0 := Tryz.isAgg0
  z0 := Tryz.sizeOf0
  v0 := Tryz.zeroValue0
  t2 := Tryz.underlying2
  a2 := Tryz.isAgg2
  z2 := Tryz.sizeOf2
  v2 := Tryz.zeroValue2
  t3 := Tryz.underlying3
  a3 := Tryz.isAgg3
  z3 := Tryz.sizeOf3
  v3 := Tryz.zeroValue3
  t4 := Tryz.underlying4
  a4 := Tryz.isAgg4
  z4 := Tryz.sizeOf4
  v4 := Tryz.zeroValue4
  t5 := Tryz.underlying5
  a5 := Tryz.isAgg5
  z5 := Tryz.sizeOf5
  v5 := Tryz.zeroValue5
  t9 := Tryz.underlying9
  a9 := Tryz.isAgg9
  z9 := Tryz.sizeOf9
  v9 := Tryz.zeroValue9
  t20 := Tryz.underlying20
  a20 := Tryz.isAgg20
  z20 := Tryz.sizeOf20
  v20 := Tryz.zeroValue20
  t37 := Tryz.underlying151
  a37 := Tryz.isAgg151
  z37 := Tryz.sizeOf151
  v37 := Tryz.zeroValue151
  t46 := Tryz.underlying131
  a46 := Tryz.isAgg131
  z46 := Tryz.sizeOf131
  v46 := Tryz.zeroValue131
  t51 := Tryz.underlying147
  a51 := Tryz.isAgg147
  z51 := Tryz.sizeOf147
  v51 := Tryz.zeroValue147
  t53 := Tryz.underlying149
  a53 := Tryz.isAgg149
  z53 := Tryz.sizeOf149
  v53 := Tryz.zeroValue149
  t171 := Tryz.underlying171
  a171 := Tryz.isAgg171
  z171 := Tryz.sizeOf171
  v171 := Tryz.zeroValue171
  t173 := Tryz.underlying173
  a173 := Tryz.isAgg173
  z173 := Tryz.sizeOf173
  v173 := Tryz.zeroValue173
  t212 := Tryz.underlying185
  a212 := Tryz.isAgg185
  z212 := Tryz.sizeOf185
  v212 := Tryz.zeroValue185
  t213 := Tryz.underlying186
  a213 := Tryz.isAgg186
  z213 := Tryz.sizeOf186
  t232 := Tryz.underlying187
  a232 := Tryz.isAgg187
  z232 := Tryz.sizeOf187
  v232 := Tryz.zeroValue187
  t233 := Tryz.underlying188
  a233 := Tryz.isAgg188
  z233 := Tryz.sizeOf188
  v233 := Tryz.zeroValue188
  g17 := by kernel_rfl
  g18 := by kernel_rfl
  g19 := by kernel_rfl
  i0 := by kernel_rfl
  i2 := by kernel_rfl
  i3 := by kernel_rfl
  i4 := by kernel_rfl
  i5 := by kernel_rfl
  i9 := by kernel_rfl
  i20 := by kernel_rfl
  i37 := by kernel_rfl
  i46 := by kernel_rfl
  i51 := by kernel_rfl
  i53 := by kernel_rfl
  i171 := by kernel_rfl
  i173 := by kernel_rfl
  i212 := by kernel_rfl
  i232 := by kernel_rfl
  i233 := by kernel_rfl
  m17 := by kernel_rfl
  m18 := by kernel_rfl
  m19 := by kernel_rfl }
def laysC172_ren : Go.Shelf.Ren := ⟨fun | 172 => 74 | 244 => 86 | 245 => 87 | 247 => 106 | 279 => 107 | 280 => 108 | 281 => 109 | 282 => 110 | 287 => 120 | 316 => 121 | 171 => 75 | 205 => 122 | 321 => 129 | 322 => 130 | 243 => 88 | 246 => 111 | 283 => 123 | 284 => 124 | 285 => 125 | 286 => 126 | 129 => 105 | 317 => 131 | 318 => 132 | 319 => 133 | 320 => 134 | 337 => 135 | 338 => 136 | n => n, fun | 9 => 9 | 3 => 3 | 75 => 121 | 76 => 122 | 4 => 4 | 5 => 5 | 167 => 150 | 37 => 151 | 0 => 0 | 85 => 152 | 2 => 2 | 168 => 154 | 53 => 149 | 175 => 165 | 46 => 131 | 210 => 169 | 127 => 180 | 145 => 183 | 143 => 181 | 21 => 21 | 171 => 171 | 173 => 173 | 212 => 185 | 51 => 147 | 20 => 20 | 213 => 186 | 232 => 187 | 233 => 188 | 80 => 189 | n => n, fun | 15 => 0 | 16 => 1 | 17 => 2 | 18 => 3 | 19 => 4 | n => n⟩
theorem laysC172 : Go.Proofs.LaysC.n172 Tryz.prog laysC172_ren := {
  mixed := by kernel_rfl
  f129 := Tryz.func105.trans (congrArg some (by kernel_rfl))
  f171 := Tryz.func75.trans (congrArg some (by kernel_rfl))
  f172 := Tryz.func74.trans (congrArg some (by kernel_rfl))
  f205 := Tryz.func122.trans (congrArg some (by kernel_rfl))
  f243 := Tryz.func88.trans (congrArg some (by kernel_rfl))
  f244 := Tryz.func86.trans (congrArg some (by kernel_rfl))
  f245 := Tryz.func87.trans (congrArg some (by kernel_rfl))
  f246 := Tryz.func111.trans (congrArg some (by kernel_rfl))
  f247 := Tryz.func106.trans (congrArg some (by kernel_rfl))
  f279 := Tryz.func107.trans (congrArg some (by kernel_rfl))
  f280 := Tryz.func108.trans (congrArg some (by kernel_rfl))
  f281 := Tryz.func109.trans (congrArg some (by kernel_rfl))
  f282 := Tryz.func110.trans (congrArg some (by kernel_rfl))
  f283 := Tryz.func123.trans (congrArg some (by kernel_rfl))
  f284 := Tryz.func124.trans (congrArg some (by kernel_rfl))
  f285 := Tryz.func125.trans (congrArg some (by kernel_rfl))
  f286 := Tryz.func126.trans (congrArg some (by kernel_rfl))
  f287 := Tryz.func120.trans (congrArg some (by kernel_rfl))
  f316 := Tryz.func121.trans (congrArg some (by kernel_rfl))
  f317 := Tryz.func131.trans (congrArg some (by kernel_rfl))
  f318 := Tryz.func132.trans (congrArg some (by kernel_rfl))
  f319 := Tryz.func133.trans (congrArg some (by kernel_rfl))
  f320 := Tryz.func134.trans (congrArg some (by kernel_rfl))
  f321 := Tryz.func129.trans (congrArg some (by kernel_rfl))
  f322 := Tryz.func130.trans (congrArg some (by kernel_rfl))
  f337 := Tryz.func135.trans (congrArg some (by kernel_rfl))
  f338 := Tryz.func136.trans (congrArg some (by kernel_rfl))
  t0 := Tryz.underlying0
  a0 := Tryz.isAgg0
  z0 := Tryz.sizeOf0
  v0 := Tryz.zeroValue0
  t2 := Tryz.underlying2
  a2 := Tryz.isAgg2
  z2 := Tryz.sizeOf2
  v2 := Tryz.zeroValue2
  t3 := Tryz.underlying3
  a3 := Tryz.isAgg3
  z3 := Tryz.sizeOf3
  v3 := Tryz.zeroValue3
  t4 := Tryz.underlying4
  a4 := Tryz.isAgg4
  z4 := Tryz.sizeOf4
  v4 := Tryz.zeroValue4
  t5 := Tryz.underlying5
  a5 := Tryz.isAgg5
  z5 := Tryz.sizeOf5
  v5 := Tryz.zeroValue5
  t9 := Tryz.underlying9
  a9 := Tryz.isAgg9
  z9 := Tryz.sizeOf9
  v9 := Tryz.zeroValue9
  t20 := Tryz.underlying20
  a20 := Tryz.isAgg20
  z20 := Tryz.sizeOf20
  v20 := Tryz.zeroValue20
  t21 := Tryz.underlying21
  a21 := Tryz.isAgg21
  z21 := Tryz.sizeOf21
  v21 := Tryz.zeroValue21
  t37 := Tryz.underlying151
  a37 := Tryz.isAgg151
  z37 := Tryz.sizeOf151
  v37 := Tryz.zeroValue151
  t46 := Tryz.underlying131
  a46 := Tryz.isAgg131
  z46 := Tryz.sizeOf131
  v46 := Tryz.zeroValue131
  t51 := Tryz.underlying147
  a51 := Tryz.isAgg147
  z51 := Tryz.sizeOf147
  v51 := Tryz.zeroValue147
  t53 := Tryz.underlying149
  a53 := Tryz.isAgg149
  z53 := Tryz.sizeOf149
  v53 := Tryz.zeroValue149
  t75 := Tryz.underlying121
  a75 := Tryz.isAgg121
  z75 := Tryz.sizeOf121
  v75 := Tryz.zeroValue121
  t76 := Tryz.underlying122
  a76 := Tryz.isAgg122
  z76 := Tryz.sizeOf122
  v76 := Tryz.zeroValue122
  t85 := Tryz.underlying152
  a85 := Tryz.isAgg152
  z85 := Tryz.sizeOf152
  v85 := Tryz.zeroValue152
  t127 := Tryz.underlying180
  a127 := Tryz.isAgg180
  z127 := Tryz.sizeOf180
  v127 := Tryz.zeroValue180
  t143 := Tryz.underlying181
  a143 := Tryz.isAgg181
  z143 := Tryz.sizeOf181
  v143 := Tryz.zeroValue181
  t145 := Tryz.underlying183
  a145 := Tryz.isAgg183
  z145 := Tryz.sizeOf183
  v145 := Tryz.zeroValue183
  t167 := Tryz.underlying150
  a167 := Tryz.isAgg150
  z167 := Tryz.sizeOf150
  v167 := Tryz.zeroValue150
  t168 := Tryz.underlying154
  a168 := Tryz.isAgg154
  z168 := Tryz.sizeOf154
  v168 := Tryz.zeroValue154
  t171 := Tryz.underlying171
  a171 := Tryz.isAgg171
  z171 := Tryz.sizeOf171
  v171 := Tryz.zeroValue171
  t173 := Tryz.underlying173
  a173 := Tryz.isAgg173
  z173 := Tryz.sizeOf173
  v173 := Tryz.zeroValue173
  t175 := Tryz.underlying165
  a175 := Tryz.isAgg165
  z175 := Tryz.sizeOf165
  v175 := Tryz.zeroValue165
  t210 := Tryz.underlying169
  a210 := Tryz.isAgg169
  z210 := Tryz.sizeOf169
  v210 := Tryz.zeroValue169
  t212 := Tryz.underlying185
  a212 := Tryz.isAgg185
  z212 := Tryz.sizeOf185
  v212 := Tryz.zeroValue185
  t213 := Tryz.underlying186
  a213 := Tryz.isAgg186
  z213 := Tryz.sizeOf186
  t232 := Tryz.underlying187
  a232 := Tryz.isAgg187
  z232 := Tryz.sizeOf187
  v232 := Tryz.zeroValue187
  t233 := Tryz.underlying188
  a233 := Tryz.isAgg188
  z233 := Tryz.sizeOf188
  v233 := Tryz.zeroValue188
  g15 := by kernel_rfl
  g16 := by kernel_rfl
  g17 := by kernel_rfl
  g18 := by kernel_rfl
  g19 := by kernel_rfl
  t80 := Tryz.underlying189
  a80 := Tryz.isAgg189
  z80 := Tryz.sizeOf189
  v80 := Tryz.zeroValue189
  i0 := by kernel_rfl
  i2 := by kernel_rfl
  i3 := by kernel_rfl
  i4 := by kernel_rfl
  i5 := by kernel_rfl
  i9 := by kernel_rfl
  i20 := by kernel_rfl
  i21 := by kernel_rfl
  i37 := by kernel_rfl
  i46 := by kernel_rfl
  i51 := by kernel_rfl
  i53 := by kernel_rfl
  i75 := by kernel_rfl
  i76 := by kernel_rfl
  i80 := by kernel_rfl
  i85 := by kernel_rfl
  i127 := by kernel_rfl
  i143 := by kernel_rfl
  i145 := by kernel_rfl
  i167 := by kernel_rfl
  i168 := by kernel_rfl
  i171 := by kernel_rfl
  i173 := by kernel_rfl
  i175 := by kernel_rfl
  i210 := by kernel_rfl
  i212 := by kernel_rfl
  i232 := by kernel_rfl
  i233 := by kernel_rfl
  m15 := by kernel_rfl
  m16 := by kernel_rfl
  m17 := by kernel_rfl
  m18 := by kernel_rfl
  m19 := by kernel_rfl
  c0 := by kernel_rfl
  c2 := by kernel_rfl
  c3 := by kernel_rfl
  c4 := by kernel_rfl
  c5 := by kernel_rfl
  c9 := by kernel_rfl
  c20 := by kernel_rfl
  c21 := by kernel_rfl
  c37 := by kernel_rfl
  c46 := by kernel_rfl
  c51 := by kernel_rfl
  c53 := by kernel_rfl
  c75 := by kernel_rfl
  c76 := by kernel_rfl
  c80 := by kernel_rfl
  c85 := by kernel_rfl
  c127 := by kernel_rfl
  c143 := by kernel_rfl
  c145 := by kernel_rfl
  c167 := by kernel_rfl
  c168 := by kernel_rfl
  c171 := by kernel_rfl
  c173 := by kernel_rfl
  c175 := by kernel_rfl
  c210 := by kernel_rfl
  c212 := by kernel_rfl
  c213 := by kernel_rfl
  c232 := by kernel_rfl
  c233 := by kernel_rfl }
end Go.Proofs.YtllhdmhfjahgladGreatDoor

namespace Go.Proofs.YtllhdmhfjahgladGreatDoor

/-- What cuts a text at a text does, step by step: sep is the text at which it is cut, spl what comes of it behind the signs cur. -/
structure Cuts (sep : T) (spl : T → T → List T) : Prop where
  pos : 0 < sep.length
  hit : ∀ cur rest, spl cur (sep ++ rest) = cur :: spl [] rest
  miss : ∀ cur c rest, sep.length ≤ rest.length + 1 → (c :: rest).take sep.length ≠ sep → spl cur (c :: rest) = spl (cur ++ [c]) rest
  fin : ∀ cur rest, rest.length < sep.length → spl cur rest = [cur ++ rest]
theorem cuts1 : Cuts [32] spl1 := by
  refine ⟨by decide, fun cur rest => ?_, fun cur c rest _ h => ?_, fun cur rest h => ?_⟩
  · show spl1 cur (32 :: rest) = _
    rw [spl1, if_pos rfl]
  · rw [spl1, if_neg (fun e => h (by rw [e]; rfl))]
  · have : rest = [] := List.eq_nil_of_length_eq_zero (by simpa using h)
    rw [this]; simp [spl1]
theorem cuts2 : Cuts [59, 32] spl2 := by
  refine ⟨by decide, fun cur rest => ?_, fun cur c rest hl h => ?_, fun cur rest h => ?_⟩
  · show spl2 cur (59 :: 32 :: rest) = _
    rw [spl2, if_pos ⟨rfl, rfl⟩]
  · cases rest with
    | nil => simp at hl
    | cons d rest => rw [spl2, if_neg (fun e => h (by rw [e.1, e.2]; rfl))]
  · cases rest with
    | nil => simp [spl2]
    | cons c rest =>
      have : rest = [] := List.eq_nil_of_length_eq_zero (by simp at h; omega)
      rw [this]; simp [spl2]
/-- At place i, with the signs from the place k on still to be told. -/
theorem Cuts.at_hit {sep : T} {spl : T → T → List T} (h : Cuts sep spl) {s : T} {k i : Nat} (hm : (s.drop i).take sep.length = sep) : spl ((s.take i).drop k) (s.drop i) = (s.take i).drop k :: spl [] (s.drop (i + sep.length)) := by
  have e : s.drop i = sep ++ s.drop (i + sep.length) := by
    have := List.take_append_drop sep.length (s.drop i)
    rw [hm, List.drop_drop] at this
    exact this.symm
  rw [e, h.hit]
theorem Cuts.at_miss {sep : T} {spl : T → T → List T} (h : Cuts sep spl) {s : T} {k i : Nat} (hk : k ≤ i) (hl : i + sep.length ≤ s.length) (hm : (s.drop i).take sep.length ≠ sep) : spl ((s.take i).drop k) (s.drop i) = spl ((s.take (i + 1)).drop k) (s.drop (i + 1)) := by
  have hp := h.pos
  have hi : i < s.length := by omega
  have e : s.drop i = s[i] :: s.drop (i + 1) := List.drop_eq_getElem_cons hi
  have e2 : (s.take (i + 1)).drop k = (s.take i).drop k ++ [s[i]] := by
    rw [List.take_succ_eq_append_getElem hi, List.drop_append_of_le_length (by simp; omega)]
  rw [e] at hm ⊢
  rw [e2, h.miss _ _ _ (by simp; omega) hm]
theorem Cuts.at_end {sep : T} {spl : T → T → List T} (h : Cuts sep spl) {s : T} {k i : Nat} (hk : k ≤ i) (hi : i ≤ s.length) (hl : s.length < i + sep.length) : spl ((s.take i).drop k) (s.drop i) = [s.drop k] := by
  rw [h.fin _ _ (by simp; omega)]
  congr 1
  have : s.drop k = (s.take i ++ s.drop i).drop k := by rw [List.take_append_drop]
  rw [this, List.drop_append_of_le_length (by simp; omega)]
end Go.Proofs.YtllhdmhfjahgladGreatDoor

namespace Go.Proofs.YtllhdmhfjahgladGreatDoor
open Go.Lib

theorem Cuts.walk {sep : T} {spl : T → T → List T} (h : Cuts sep spl) {s : T} : ∀ i : Nat, (∀ j, j < i → (s.drop j).take sep.length ≠ sep) → (i = 0 ∨ i + sep.length ≤ s.length + 1) → spl [] s = spl ((s.take i).drop 0) (s.drop i)
  | 0, _, _ => by simp
  | i + 1, hj, hl => by
    have hp := h.pos
    rw [Cuts.walk h i (fun j hj' => hj j (by omega)) (by omega)]
    exact h.at_miss (k := 0) (by omega) (by omega) (hj i (by omega))
theorem occ_take {s sep : T} {j : Nat} (hl : j + sep.length ≤ s.length) (h : occAt s sep j = false) : (s.drop j).take sep.length ≠ sep := by
  rw [occAt_iff_take s sep j hl] at h
  intro e; rw [e] at h; simp at h
/-- The library's cuts. -/
theorem split_cuts {sep : T} {spl : T → T → List T} (h : Cuts sep spl) : ∀ (k : Nat) (s : T), s.length ≤ k → splitK sep 0 (count s sep) s = spl [] s := by
  have hp := h.pos
  have hne : sep ≠ [] := fun e => by rw [e] at hp; simp at hp
  intro k
  induction k with
  | zero =>
    intro s hk
    have : s = [] := List.eq_nil_of_length_eq_zero (by omega)
    subst this
    have hi : index [] sep = -1 := by
      unfold index; rw [if_neg]; simpa using hne
    rw [count_miss hi, h.fin [] [] (by simpa using hp)]; rfl
  | succ k ih =>
    intro s hk
    rcases index_spec s sep with ⟨hi, hno⟩ | ⟨i, hi, hle, hocc, hno⟩
    · rw [count_miss hi]
      show [s] = _
      by_cases hl : sep.length ≤ s.length
      · rw [h.walk (s := s) (s.length + 1 - sep.length) (fun j hj => occ_take (by omega) (hno j (by omega))) (by omega), h.at_end (k := 0) (by omega) (by omega) (by omega)]
        simp
      · rw [h.fin [] s (by omega)]; simp
    · have hroom : i + sep.length ≤ s.length := by
        rcases occAt_room hocc with h1 | h1
        · exact h1
        · exact absurd h1 hne
      have hlt := drop_shorter (s := s) hne (by rw [hi]; simp)
      rw [count_hit hne hi, Nat.add_comm 1, splitK, if_neg (by rw [hi]; simp), hi]
      simp only [Int.toNat_natCast, Nat.add_zero]
      rw [hi, Int.toNat_natCast] at hlt
      rw [ih _ (by omega), h.walk (s := s) i (fun j hj => occ_take (by omega) (hno j hj)) (by omega)]
      have ht : (s.drop i).take sep.length = sep := by
        have := occAt_iff_take s sep i hroom
        rw [hocc] at this
        simpa using this.symm
      rw [h.at_hit (k := 0) ht]
      simp
theorem splitB_cuts {sep : T} {spl : T → T → List T} (h : Cuts sep spl) (s : ByteArray) : splitB (ofT sep) 0 (countB s (ofT sep)) s = (spl [] (keyT s)).map ofT := by
  have e := splitB_data (ofT sep) 0 (countB s (ofT sep)) s
  have e1 : (ofT sep).data.toList = sep := keyT_ofT sep
  rw [e1] at e
  have e2 : countB s (ofT sep) = count (keyT s) sep := by
    show count s.data.toList (ofT sep).data.toList = _
    rw [e1]; rfl
  rw [e2] at e ⊢
  have e3 := split_cuts h _ (keyT s) (Nat.le_refl _)
  have e4 : (splitB (ofT sep) 0 (count (keyT s) sep) s).map keyT = spl [] (keyT s) := e.trans e3
  rw [← e4, List.map_map]
  have : (ofT ∘ keyT) = id := by funext x; exact ofT_keyT x
  rw [this, List.map_id]
theorem join_join1 : ∀ l : List T, Lib.join l [32] = join1 l
  | [] => rfl
  | [x] => by rw [join_one]; rfl
  | x :: y :: l => by
    have ih := join_join1 (y :: l)
    rw [join1_cons x (by simp), ← ih]
    simp [Lib.join, List.intercalate, List.intersperse]
theorem join_join2 : ∀ l : List T, Lib.join l [59, 32] = join2 l
  | [] => rfl
  | [x] => by rw [join_one]; rfl
  | x :: y :: l => by
    have ih := join_join2 (y :: l)
    rw [join2_cons x (by simp), ← ih]
    simp [Lib.join, List.intercalate, List.intersperse]
end Go.Proofs.YtllhdmhfjahgladGreatDoor
