/-
  Key of the program and of the document's answer tell the same keys; Round tells what is left.
  What it means that a slice in memory holds rows, and that this stands while other memory grows.
  find of the program: the place of a key in rows that rise, and whether it is there; so around and Get.
  around and Get of the program, of rows that rise.
  How an argument that is rows is read: some list of rows lies there, within the reach of the form.
  slices.Concat over rows: the rows one behind the other, in new memory.
-/
import Derived.Test.YtdnafpenljdinadChecked
import Derived.Test.YtdnafpenljdinadMath
import Derived.WalkKit
import Derived.WalkSpells
import Derived.WalkLawsBesides
import Derived.Below
import Derived.LoopTactic
import Derived.Outline
import Derived.BigQuiet
import Derived.Deep.QuietTactic
import Derived.Test.YtdnafpenljdinadRows
import Derived.Deep.SlicePairs
import Derived.ProofKit
import Derived.SizedLaws
import Derived.Carry
import Derived.OwnWalk
import Derived.Lib.AppendZerosOnto
import Derived.Laws.AppendOwn
namespace Go.Proofs.Ytdnafpenljdinad
open Go.RowKit

theorem take_snoc (s : ByteArray) (k : Nat) (h : k < s.size) : s.data.toList.take (k + 1) = s.data.toList.take k ++ [s[k]] := by
  rw [List.take_succ_eq_append_getElem (by simpa using h)]; rfl
theorem all_snoc (l : List UInt8) (c : UInt8) : (l ++ [c]).all okc = (l.all okc && okc c) := by simp
theorem ret_bool {a b : Bool} (h : a = b) : Ending.returned (.bool a) = .returned (.bool b) := by rw [h]
theorem all_take {l : List UInt8} {k : Nat} (h : (l.take k).all okc = false) : l.all okc = false := by
  rw [← List.take_append_drop k l, List.all_append, h]; rfl

theorem key_bad (s : ByteArray) (k : Nat) (hlt : k < s.size) (HK : Hid (keyB s = s.data.toList.all okc)) (HS : Hid ((s.data.toList.take (k + 1)).all okc = okc s[k]))
    (h : (s[k].toNat : Int) < 97 ∨ 122 < (s[k].toNat : Int)) : keyB s = false := by
  have ho : okc s[k] = false := by simp [okc]; omega
  rw [HK.out]; exact all_take (k := k + 1) (by rw [HS.out, ho])
theorem key_good (s : ByteArray) (k : Nat) (hlt : k < s.size) (HS : Hid ((s.data.toList.take (k + 1)).all okc = okc s[k]))
    (h1 : 97 ≤ (s[k].toNat : Int)) (h2 : (s[k].toNat : Int) ≤ 122) : Hid ((s.data.toList.take (k + 1)).all okc = true) := by
  show _ = _
  rw [HS.out]; simp [okc]; omega

theorem keyB_off (s : ByteArray) (h : s.data.toList.all okc = false) : keyB s = false := by simp [keyB, h]

set_option maxHeartbeats 400000 in
theorem refKey_calls (s : ByteArray) (w : World) (hs : s.size ≤ maxLen) :
    Calls Try.prog 15 #[.string s] w fun e w' => e = .returned (.bool (keyB s)) ∧ w = w' := by
  unfold maxLen at hs
  go_enter Try.func15, Try.ntmps15
  go_wp2
  go_loop [6] (fun i => ∃ k : Nat, k ≤ s.size ∧ i = .int .i64 k ∧ Hid ((s.data.toList.take k).all okc = true)) (fun i => s.size - (intOf i).toNat)
  case atStart => exact ⟨0, Nat.zero_le _, rfl, rfl⟩
  case round =>
    obtain ⟨k, hk, rfl, HA⟩ := hrel
    by_cases hlt : k < s.size
    · have HS : Hid ((s.data.toList.take (k + 1)).all okc = okc s[k]) := by
        show _ = _
        rw [take_snoc s k hlt, all_snoc, HA.out]; rfl
      go_wp2
      · go_ret
        exact ⟨ret_bool (keyB_off s (all_take (k := k + 1) (by rw [HS.out]; simp [okc]; omega))).symm, rfl⟩
      · go_round
        case rel => exact ⟨k + 1, by omega, by go_num, key_good s k hlt HS (by omega) (by omega)⟩
        case measure => simp [intOf]; omega
      · go_ret
        exact ⟨ret_bool (keyB_off s (all_take (k := k + 1) (by rw [HS.out]; simp [okc]; omega))).symm, rfl⟩
    · have HF : Hid (s.data.toList.all okc = true) := by
        show _ = _
        rw [← HA.out, List.take_of_length_le (by simp; omega)]
      go_wp2
      all_goals
        go_ret
        exact ⟨ret_bool (by rw [keyB, HF.out, Bool.eq_iff_iff]; simp; omega), rfl⟩

theorem ret_int {k : IntKind} {a b : Int} (h : a = b) : Ending.returned (.int k a) = .returned (.int k b) := by rw [h]
theorem tmod_big (n : Int) : -1073741825 < n.tmod 1073741825 ∧ n.tmod 1073741825 < 1073741825 := by
  by_cases h : 0 ≤ n
  · rw [Int.tmod_eq_emod_of_nonneg h]; omega
  · have e : n.tmod 1073741825 = -((-n).tmod 1073741825) := by rw [Int.neg_tmod]; omega
    rw [e, Int.tmod_eq_emod_of_nonneg (by omega)]; omega
theorem round_num (n : Int) : wrap64 (n - wrap64 (wrap64 (n.tdiv 1073741825) * 1073741825)) = n.tmod 1073741825 := by
  have h := Int.mul_tdiv_add_tmod n 1073741825
  have hb := tmod_big n
  generalize n.tdiv 1073741825 = q at *
  generalize n.tmod 1073741825 = r at *
  unfold wrap64
  omega
theorem refRound_calls (n : Int) (w : World) :
    Calls Try.prog 46 #[.int .i64 n] w fun e w' => e = .returned (.int .i64 (n.tmod 1073741825)) ∧ w = w' := by
  go_enter Try.func46, Try.ntmps46
  go_wp2
  go_ret
  exact ⟨ret_int (round_num n), rfl⟩
end Go.Proofs.Ytdnafpenljdinad

namespace Go.Proofs.Ytdnafpenljdinad
open Go.RowKit

theorem hid {p : Prop} (h : p) : Hid p := h

/-- The two cells of row i, at block b from off on, hold the list's row i. -/
def Cells (w : World) (b off : Nat) (l : List Row) : Prop :=
  ∀ i, i < l.length → w.cell? ⟨b, off + i * 2, none⟩ = some (.string (l.getD i default).1) ∧ w.cell? ⟨b, off + i * 2 + 1, none⟩ = some (.int .i64 (l.getD i default).2)

/-- A slice with this address holds the rows l (of no rows nothing is asked). -/
def Seg (w : World) (base : Option Addr) (l : List Row) : Prop :=
  l = [] ∨ ∃ b off, base = some ⟨b, off, none⟩ ∧ Cells w b off l

/-- Keys' lengths fit. -/
def Small (l : List Row) : Prop := ∀ x ∈ l, x.1.size ≤ maxLen

theorem Cells.lt {w : World} {b off : Nat} {l : List Row} (h : Cells w b off l) (hl : 0 < l.length) : b < w.heap.size := by
  have := (h 0 hl).1
  simpa using World.block_lt_of_cell? _ _ this

theorem Cells.below {w w' : World} {b off B : Nat} {l : List Row} (h : Cells w b off l) (hb : Below B w w') (hB : b < B) : Cells w' b off l := fun i hi => by
  rw [hb.cell (p := ⟨b, off + i * 2, none⟩) hB, hb.cell (p := ⟨b, off + i * 2 + 1, none⟩) hB]
  exact h i hi

theorem Seg.below {w w' : World} {base : Option Addr} {l : List Row} (h : Seg w base l) (hb : Below w.heap.size w w') : Seg w' base l := by
  rcases h with h | ⟨b, off, e, hc⟩
  · exact .inl h
  · by_cases hl : 0 < l.length
    · exact .inr ⟨b, off, e, hc.below hb (hc.lt hl)⟩
    · exact .inl (List.eq_nil_of_length_eq_zero (by omega))

theorem small_getD {l : List Row} (h : Small l) {i : Nat} (hi : i < l.length) : (l.getD i default).1.size ≤ maxLen := h _ (mem_getD hi)

theorem small_ins {k : ByteArray} {n : Int} {l : List Row} (h : Small l) (hk : k.size ≤ maxLen) : Small (ins k n l) := fun x hx => by
  rcases mem_ins hx with rfl | hx
  · exact hk
  · exact h x hx
theorem small_del {k : ByteArray} {l : List Row} (h : Small l) : Small (del k l) := fun x hx => h x (mem_del hx)
end Go.Proofs.Ytdnafpenljdinad

namespace Go.Proofs.Ytdnafpenljdinad
open Go.RowKit

theorem cell_box (w : World) (v : Value) (t : TypeId) : (w.alloc (.cells #[v] t)).cell? ⟨w.heap.size, 0, none⟩ = some v := by
  rw [World.cell?_alloc_at _ _ _ _ (by simp)]; rfl
theorem cell_past {w : World} {b x : Nat} {v : Value} (o : Obj) (h : w.cell? ⟨b, x, none⟩ = some v) : (w.alloc o).cell? ⟨b, x, none⟩ = some v := by
  have hb := World.block_lt_of_cell? _ _ h
  rw [World.cell?_alloc_past _ _ _ hb]; exact h
theorem cell_drewN {w : World} {a : Addr} {v : Value} (q : Nat) (h : w.cell? a = some v) : (w.drewN q).cell? a = some v := h

end Go.Proofs.Ytdnafpenljdinad

namespace Go.Proofs.Ytdnafpenljdinad
open Go.RowKit

/-- A slice's head: its length within its capacity; nil has none. -/
structure Hdr (base : Option Addr) (n c : Nat) : Prop where
  le : n ≤ c
  max : c ≤ maxLen
  nil : base = none → c = 0

/-- A slice holds the rows l. -/
structure Holds (w : World) (base : Option Addr) (n c : Nat) (l : List Row) : Prop where
  len : n = l.length
  seg : Seg w base l
  hdr : Hdr base n c

theorem Holds.below {w w' : World} {base : Option Addr} {n c : Nat} {l : List Row} (h : Holds w base n c l) (hb : Below w.heap.size w w') : Holds w' base n c l := ⟨h.len, h.seg.below hb, h.hdr⟩
theorem Holds.empty (w : World) {base : Option Addr} {n c : Nat} {l : List Row} (hl : n = l.length) (h : n = 0) (hh : Hdr base n c) : Holds w base n c l := ⟨hl, .inl (List.eq_nil_of_length_eq_zero (by omega)), hh⟩
theorem Holds.cells {w : World} {b o n c : Nat} {l : List Row} (hl : n = l.length) (h : Cells w b o l) (h1 : n ≤ c) (h2 : c ≤ maxLen) : Holds w (some ⟨b, o, none⟩) n c l := ⟨hl, .inr ⟨b, o, rfl, h⟩, ⟨h1, h2, fun h => by cases h⟩⟩

theorem getD_drop (l : List Row) (p i : Nat) : (l.drop p).getD i default = l.getD (p + i) default := by simp [List.getD]
theorem getD_take (l : List Row) (p i : Nat) (h : i < p) : (l.take p).getD i default = l.getD i default := by simp [List.getD, h]

theorem Cells.take {w : World} {b o : Nat} {l : List Row} (h : Cells w b o l) (p : Nat) : Cells w b o (l.take p) := fun i hi => by
  have hi' : i < p ∧ i < l.length := by simpa [Nat.lt_min] using hi
  rw [getD_take l p i hi'.1]
  exact h i hi'.2
theorem Cells.drop {w : World} {b o : Nat} {l : List Row} (h : Cells w b o l) (p : Nat) : Cells w b (o + p * 2) (l.drop p) := fun i hi => by
  have hi' : p + i < l.length := by simp at hi; omega
  rw [getD_drop]
  have := h (p + i) hi'
  rw [show o + p * 2 + i * 2 = o + (p + i) * 2 from by omega]
  exact this

end Go.Proofs.Ytdnafpenljdinad

namespace Go.Proofs.Ytdnafpenljdinad
open Go.ChangeShapes Go.WideShapes Go.ChangeAt Go.RowKit Go.Deep

theorem own : ownKnob Try.prog.godebug = none := by kernel_rfl
theorem laidOut : laidOutB Try.prog = true := by kernel_rfl
theorem cellsPair : Try.prog.cellsOf 45 = 2 := by kernel_rfl
theorem bytesPair : Try.prog.bytesOf 45 = 24 := by kernel_rfl
theorem cellsStr : Try.prog.cellsOf 9 = 1 := by kernel_rfl
theorem cellsInt : Try.prog.cellsOf 3 = 1 := by kernel_rfl

theorem open_rows {H : Type} {enc : TypeId × Value → H} {W : World} {a : Option Addr} {len cap : Nat} {d : DataW H} {p : List MemPlace}
    (h : DataW.Trod enc Try.prog W 0 (fun _ => true) true 23 (.slice a len cap) d p) :
    ∃ l, Holds W a len cap l ∧ Small l ∧ (∀ x ∈ l, (Lit.int .i64 x.2).wf = true) ∧ ((d = .nil ∧ cap = 0) ∨ ∃ elems spare : List (DataW H), d = .slice elems spare ∧ elems.length + spare.length = cap) := by
  obtain ⟨fuel, hf⟩ := h
  rcases open_slice_pairs Try.underlying23 Try.underlying45 cellsPair rfl rfl cellsStr cellsInt hf with ⟨hcs, hx⟩ | ⟨x, l', c', m, n, V0, V1, D0, D1, P0, P1, hcs, _, hl, hm, hmm, hx, hcell⟩
  · simp [Value.cells] at hcs
    obtain ⟨rfl, rfl, rfl⟩ := hcs
    simp only [Prod.mk.injEq] at hx
    exact ⟨[], Holds.empty W rfl rfl ⟨Nat.le_refl _, Nat.zero_le _, fun _ => rfl⟩, fun _ h => by simp at h, fun _ h => by simp at h, .inl ⟨hx.1, rfl⟩⟩
  · simp [Value.cells] at hcs
    obtain ⟨rfl, rfl, rfl⟩ := hcs
    simp only [if_true] at hmm
    subst hmm
    simp only [Prod.mk.injEq] at hx
    have hd : (d = .nil ∧ m = 0) ∨ ∃ elems spare : List (DataW H), d = .slice elems spare ∧ elems.length + spare.length = m := .inr ⟨_, _, hx.1, by simp; omega⟩
    have each : ∀ i, i < len → ∃ q : Row, W.cell? (x.add (i * 2)) = some (.string q.1) ∧ W.cell? (x.add (i * 2 + 1)) = some (.int .i64 q.2) ∧ q.1.size ≤ maxLen ∧ (Lit.int .i64 q.2).wf = true := by
      intro i hi
      obtain ⟨h1, h2, h3, h4⟩ := hcell i (by omega)
      obtain ⟨s, hs, _, hz⟩ := DataW.trod_string Try.underlying9 h3
      obtain ⟨v, hv, _, hw⟩ := DataW.trod_int Try.underlying3 h4
      simp at hs hv
      exact ⟨(s, v), by rw [h1, hs], by rw [h2, hv], hz, hw⟩
    obtain ⟨q, hq⟩ := choose_lt each
    have hln : ((List.range len).map q).length = len := by simp
    have hget : ∀ i, i < len → ((List.range len).map q).getD i default = q i := fun i hi => by simp [List.getD, hi]
    refine ⟨(List.range len).map q, ?_, ?_, ?_, hd⟩
    · by_cases h0 : len = 0
      · exact Holds.empty W hln.symm h0 ⟨hl, hm, fun h => by cases h⟩
      · obtain ⟨b, off, spot⟩ := x
        have hsp : spot = none := by simpa [Addr.add] using World.cell?_spot (hq 0 (by omega)).1
        subst hsp
        refine Holds.cells hln.symm (fun i hi => ?_) hl hm
        rw [hln] at hi
        rw [hget i hi]
        have h1 := (hq i hi).1
        have h2 := (hq i hi).2.1
        rw [Addr.add_lit] at h1 h2
        exact ⟨h1, by rw [Nat.add_assoc]; exact h2⟩
    · intro y hy
      obtain ⟨i, hi, rfl⟩ := List.mem_map.1 hy
      exact (hq i (by simpa using hi)).2.2.1
    · intro y hy
      obtain ⟨i, hi, rfl⟩ := List.mem_map.1 hy
      exact (hq i (by simpa using hi)).2.2.2

/-- The reach of the form bounds the rows that are read. -/
theorem rows_reach {H : Type} {ts : List TypeId} {ds : List (DataW H)} {d : DataW H} {cap len : Nat} (hsz : (DataW.weightsEach Try.prog ts ds).all (· ≤ reachBytes) = true) {j : Nat} (ht : ts[j]? = some 23) (hdj : ds[j]? = some d)
    (hd : (d = .nil ∧ cap = 0) ∨ ∃ elems spare : List (DataW H), d = .slice elems spare ∧ elems.length + spare.length = cap) (hl : len ≤ cap) : (len + 2) * 24 ≤ 140737488355328 := by
  rcases hd with ⟨_, rfl⟩ | ⟨elems, spare, rfl, hc⟩
  · omega
  · have := sized_slice hsz ht hdj Try.underlying23
    rw [bytesPair, hc] at this
    simp only [reachBytes] at this
    omega
end Go.Proofs.Ytdnafpenljdinad

namespace Go.Proofs.Ytdnafpenljdinad
open Go.RowKit

/-- The cells of rows. -/
def rowCells : List Row → List Value
  | [] => []
  | x :: l => .string x.1 :: .int .i64 x.2 :: rowCells l

theorem rowCells_append : ∀ l m, rowCells (l ++ m) = rowCells l ++ rowCells m
  | [], _ => rfl
  | x :: l, m => by simp [rowCells, rowCells_append l m]
theorem rowCells_length : ∀ l, (rowCells l).length = l.length * 2
  | [] => rfl
  | x :: l => by simp [rowCells, rowCells_length l]; omega
theorem rowCells_one : ∀ l, ∀ u ∈ rowCells l, u.oneCell' = true
  | [], _, h => by cases h
  | x :: l, u, h => by
    simp only [rowCells, List.mem_cons] at h
    rcases h with rfl | rfl | h
    · rfl
    · rfl
    · exact rowCells_one l u h
theorem rowCells_at : ∀ (l : List Row) (i : Nat), i < l.length → (rowCells l)[i * 2]? = some (.string (l.getD i default).1) ∧ (rowCells l)[i * 2 + 1]? = some (.int .i64 (l.getD i default).2)
  | [], i, h => absurd h (Nat.not_lt_zero _)
  | x :: l, 0, _ => by simp [rowCells]
  | x :: l, i + 1, h => by
    have := rowCells_at l i (by simpa using h)
    rw [show (i + 1) * 2 = i * 2 + 1 + 1 from by omega]
    simpa [rowCells] using this

theorem cells_of_rowCells {w : World} {b o : Nat} {l : List Row} (h : ∀ j u, (rowCells l)[j]? = some u → w.cell? ((⟨b, o, none⟩ : Addr).add j) = some u) : Cells w b o l := fun i hi => by
  have h1 := h _ _ (rowCells_at l i hi).1
  have h2 := h _ _ (rowCells_at l i hi).2
  rw [Addr.add_lit] at h1 h2
  exact ⟨h1, by rw [Nat.add_assoc]; exact h2⟩
theorem rowCells_of_cells {w : World} {b o : Nat} {l : List Row} (h : Cells w b o l) : ∀ j u, (rowCells l)[j]? = some u → w.cell? ((⟨b, o, none⟩ : Addr).add j) = some u := fun j u hu => by
  have hj : j < l.length * 2 := by rw [← rowCells_length]; exact (List.getElem?_eq_some_iff.1 hu).1
  rw [Addr.add_lit]
  by_cases e : j % 2 = 0
  · have := rowCells_at l (j / 2) (by omega)
    rw [show j / 2 * 2 = j from by omega] at this
    rw [this.1] at hu
    have h3 := (h (j / 2) (by omega)).1
    rw [show j / 2 * 2 = j from by omega] at h3
    rw [h3]; exact hu
  · have := rowCells_at l (j / 2) (by omega)
    rw [show j / 2 * 2 + 1 = j from by omega] at this
    rw [this.2] at hu
    have h3 := (h (j / 2) (by omega)).2
    rw [show o + j / 2 * 2 + 1 = o + j from by omega] at h3
    rw [h3]; exact hu

theorem pairInfo : (Try.prog.info? 45).map (fun i => (i.zero, i.size, i.bytes)) = some (some (.agg #[.string ByteArray.empty, .int .i64 0]), 2, 24) := by kernel_rfl

/-- What a row that the call owns holds. -/
theorem holds_of_owned {w : World} {B n : Nat} {v : Value} {l : List Row} (h : w.ownsRow B 45 2 v n (rowCells l)) : ∃ base c, v = .slice base n c ∧ Holds w base n c l := by
  have hl : n = l.length := by have := h.1; rw [rowCells_length] at this; omega
  rcases h.2 with ⟨rfl, rfl⟩ | ⟨g, cap, cur, rfl, _, _, hnc, hcm, _, _⟩
  · exact ⟨none, 0, rfl, Holds.empty w hl rfl ⟨Nat.le_refl _, Nat.zero_le _, fun _ => rfl⟩⟩
  · exact ⟨some ⟨g, 0, none⟩, cap, rfl, Holds.cells hl (cells_of_rowCells (h.cells rfl)) hnc hcm⟩

/-- The memory of a slice is of elements of the type t. -/
def Kind (w : World) (t : TypeId) (base : Option Addr) : Prop := ∀ a, base = some a → ∃ cur z, w.heap[a.block]? = some (.cells cur t z)
theorem Kind.none (w : World) (t : TypeId) : Kind w t none := fun _ h => by cases h
theorem Kind.below {w w' : World} {t : TypeId} {base : Option Addr} (h : Kind w t base) (hb : Below w.heap.size w w') : Kind w' t base := fun a e => by
  obtain ⟨cur, z, hc⟩ := h a e
  exact ⟨cur, z, by rw [hb.block a.block (Array.getElem?_eq_some_iff.1 hc).1]; exact hc⟩
theorem Kind.set {w : World} {t : TypeId} {base : Option Addr} (h : Kind w t base) (p : Addr) (u : Value) : Kind (w.setCell p u) t base := fun a e => by
  obtain ⟨cur, z, hc⟩ := h a e
  by_cases hp : a.block = p.block
  · simp only [World.setCell, Array.getElem?_modify]
    rw [if_pos hp.symm, hc]
    simp only [Option.map_some]
    split
    · exact ⟨_, _, rfl⟩
    · exact ⟨_, _, rfl⟩
  · exact ⟨cur, z, by rw [Below.heap_setCell _ _ _ _ hp]; exact hc⟩
theorem Kind.owned {w : World} {B t s n : Nat} {base : Option Addr} {c : Nat} {xs : List Value} (h : w.ownsRow B t s (.slice base n c) n xs) : Kind w t base := fun a e => by
  rcases h.2 with ⟨h', _⟩ | ⟨g, cap, cur, h', _, hg, _⟩
  · simp at h'; rw [h'.1] at e; cases e
  · simp at h'; rw [h'.1] at e; cases e; exact ⟨cur, _, hg⟩

/-- An append of rows that lie anywhere onto a row that the call owns. -/
theorem wpList_app (w : World) {ops : Array Oper} {rest : List Oper} {o : Oper} {a : Act} {Q : Exit → Act → World → Prop} (hgd : o.guard = none) (s x : Operand)
    (ho : o.op = .call { callee := .builtin .append, args := #[s, x], argTypes := #[23, 23] })
    (B : Nat) (v : Value) (n : Nat) (l : List Row) (hs : a.eval s = v) (hown : w.ownsRow B 45 2 v n (rowCells l)) (base : Option Addr) (m c : Nat) (l2 : List Row) (hx : a.eval x = .slice base m c) (hh : Holds w base m c l2)
    (hbytes : (n + m) * 24 ≤ 140737488355328) (hB : B ≤ w.heap.size)
    (h : ∀ v' w', w'.ownsRow B 45 2 v' (n + m) (rowCells (l ++ l2)) → w.grownBy w' v.ownBlock → wpList Try.prog ops Q rest (a.put o.dst v') w') : wpList Try.prog ops Q (o :: rest) a w := by
  obtain ⟨i0, hi, hz0, hz1, hz2⟩ := info_parts pairInfo
  have hlen : (rowCells l2).length = m * 2 := by rw [rowCells_length, hh.len]
  have h63 : n + m ≤ maxLen := by unfold maxLen; omega
  have key : ∀ ad, base = some ad → (∀ j u, (rowCells l2)[j]? = some u → w.cell? (ad.add j) = some u) → wpList Try.prog ops Q (o :: rest) a w := fun ad had hnews =>
    wpList_append_own w hgd s x 23 ho B 45 i0 _ 2 24 Try.underlying23 hi hz0 hz1 hz2 rfl (by decide) v n (rowCells l) hs hown ad m c (rowCells l2) (by rw [hx, had]) hlen hnews (rowCells_one l2) h63 hbytes hB
      (fun v' w' h1 h2 _ => h v' w' (by rw [rowCells_append]; exact h1) h2)
  cases base with
  | some ad =>
    rcases hh.seg with he | ⟨b, o', he, hc⟩
    · exact key ad rfl (fun j u hu => by rw [he] at hu; simp [rowCells] at hu)
    · cases he
      exact key _ rfl (rowCells_of_cells hc)
  | none =>
    obtain rfl := hh.hdr.nil rfl
    obtain rfl : m = 0 := by have := hh.hdr.le; omega
    have hl2 : l2 = [] := List.eq_nil_of_length_eq_zero (by have := hh.len; omega)
    refine wpList_plain hgd fun K hK' => ?_
    have hrun := run_append_owned_none (P := Try.prog) w B 23 o.type 45 i0 2 Try.underlying23 hi v n (rowCells l) hown
    unfold Oper.wp
    simp [execOp, ho, resolve, invoke, builtin, hs, hx, hrun, Result.andThen]
    exact hK' _ _ (h v w (by rw [hl2]; simpa using hown) (World.grownBy.refl _ _))

/-- The first k lists, one behind the other. -/
def cat (ls : Nat → List Row) : Nat → List Row
  | 0 => []
  | k + 1 => cat ls k ++ ls k
theorem cat_le (ls : Nat → List Row) {k m : Nat} (h : k ≤ m) : (cat ls k).length ≤ (cat ls m).length := by
  induction m with
  | zero => obtain rfl : k = 0 := by omega
            exact Nat.le_refl _
  | succ m ih =>
    by_cases e : k = m + 1
    · rw [e]; exact Nat.le_refl _
    · have := ih (by omega)
      simp only [cat, List.length_append]; omega
theorem cat_succ_len (ls : Nat → List Row) (k : Nat) : (cat ls (k + 1)).length = (cat ls k).length + (ls k).length := by simp [cat]

end Go.Proofs.Ytdnafpenljdinad
