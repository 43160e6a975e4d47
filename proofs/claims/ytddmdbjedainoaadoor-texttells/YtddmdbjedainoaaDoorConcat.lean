/-
  What it means that a slice in memory holds rows, and that this stands while other memory grows.
  find of the program: the place of a key in rows that rise, and whether it is there; so around and Get.
  around and Get of the program, of rows that rise.
  slices.Concat over rows: the rows one behind the other, in new memory.
-/
import Derived.Test.YtddmdbjedainoaaDoorMath
import Derived.WalkKit
import Derived.Below
import Derived.Test.YtddmdbjedainoaaDoorKey
import Derived.BigQuiet
import Derived.Deep.QuietTactic
import Derived.OwnWalk
import Derived.Lib.AppendZerosOnto
import Derived.Laws.AppendOwn
namespace Go.Proofs.YtddmdbjedainoaaDoor
open Go.RowKit

theorem hid {p : Prop} (h : p) : Hid p := h

/-- The two cells of row i, at block b from off on, hold the list's row i. -/
def Cells (w : World) (b off : Nat) (l : List Row) : Prop :=
  ∀ i, i < l.length → w.cell? ⟨b, off + i * 2, none⟩ = some (.string (l.getD i default).1) ∧ w.cell? ⟨b, off + i * 2 + 1, none⟩ = some (.int .i64 (l.getD i default).2)

/-- A slice with this address holds the rows l (of no rows nothing is asked). -/
def Seg (w : World) (base : Option Addr) (l : List Row) : Prop :=
  l = [] ∨ ∃ b off, base = some ⟨b, off, none⟩ ∧ Cells w b off l

/-- Keys' lengths fit. -/
def Small (l : List Row) : Prop := ∀ x ∈ l, x.1.size ≤ maxLen

theorem Cells.lt {w : World} {b off : Nat} {l : List Row} (h : Cells w b off l) (hl : 0 < l.length) : b < w.heap.size := by
  have := (h 0 hl).1
  simpa using World.block_lt_of_cell? _ _ this

theorem Cells.below {w w' : World} {b off B : Nat} {l : List Row} (h : Cells w b off l) (hb : Below B w w') (hB : b < B) : Cells w' b off l := fun i hi => by
  rw [hb.cell (p := ⟨b, off + i * 2, none⟩) hB, hb.cell (p := ⟨b, off + i * 2 + 1, none⟩) hB]
  exact h i hi

theorem Seg.below {w w' : World} {base : Option Addr} {l : List Row} (h : Seg w base l) (hb : Below w.heap.size w w') : Seg w' base l := by
  rcases h with h | ⟨b, off, e, hc⟩
  · exact .inl h
  · by_cases hl : 0 < l.length
    · exact .inr ⟨b, off, e, hc.below hb (hc.lt hl)⟩
    · exact .inl (List.eq_nil_of_length_eq_zero (by omega))

theorem small_getD {l : List Row} (h : Small l) {i : Nat} (hi : i < l.length) : (l.getD i default).1.size ≤ maxLen := h _ (mem_getD hi)

theorem small_ins {k : ByteArray} {n : Int} {l : List Row} (h : Small l) (hk : k.size ≤ maxLen) : Small (ins k n l) := fun x hx => by
  rcases mem_ins hx with rfl | hx
  · exact hk
  · exact h x hx
theorem small_del {k : ByteArray} {l : List Row} (h : Small l) : Small (del k l) := fun x hx => h x (mem_del hx)
end Go.Proofs.YtddmdbjedainoaaDoor

namespace Go.Proofs.YtddmdbjedainoaaDoor
open Go.RowKit

theorem cell_box (w : World) (v : Value) (t : TypeId) : (w.alloc (.cells #[v] t)).cell? ⟨w.heap.size, 0, none⟩ = some v := by
  rw [World.cell?_alloc_at _ _ _ _ (by simp)]; rfl
theorem cell_past {w : World} {b x : Nat} {v : Value} (o : Obj) (h : w.cell? ⟨b, x, none⟩ = some v) : (w.alloc o).cell? ⟨b, x, none⟩ = some v := by
  have hb := World.block_lt_of_cell? _ _ h
  rw [World.cell?_alloc_past _ _ _ hb]; exact h
theorem cell_drewN {w : World} {a : Addr} {v : Value} (q : Nat) (h : w.cell? a = some v) : (w.drewN q).cell? a = some v := h

end Go.Proofs.YtddmdbjedainoaaDoor

namespace Go.Proofs.YtddmdbjedainoaaDoor
open Go.RowKit

/-- A slice's head: its length within its capacity; nil has none. -/
structure Hdr (base : Option Addr) (n c : Nat) : Prop where
  le : n ≤ c
  max : c ≤ maxLen
  nil : base = none → c = 0

/-- A slice holds the rows l. -/
structure Holds (w : World) (base : Option Addr) (n c : Nat) (l : List Row) : Prop where
  len : n = l.length
  seg : Seg w base l
  hdr : Hdr base n c

theorem Holds.below {w w' : World} {base : Option Addr} {n c : Nat} {l : List Row} (h : Holds w base n c l) (hb : Below w.heap.size w w') : Holds w' base n c l := ⟨h.len, h.seg.below hb, h.hdr⟩
theorem Holds.empty (w : World) {base : Option Addr} {n c : Nat} {l : List Row} (hl : n = l.length) (h : n = 0) (hh : Hdr base n c) : Holds w base n c l := ⟨hl, .inl (List.eq_nil_of_length_eq_zero (by omega)), hh⟩
theorem Holds.cells {w : World} {b o n c : Nat} {l : List Row} (hl : n = l.length) (h : Cells w b o l) (h1 : n ≤ c) (h2 : c ≤ maxLen) : Holds w (some ⟨b, o, none⟩) n c l := ⟨hl, .inr ⟨b, o, rfl, h⟩, ⟨h1, h2, fun h => by cases h⟩⟩

theorem getD_drop (l : List Row) (p i : Nat) : (l.drop p).getD i default = l.getD (p + i) default := by simp [List.getD]
theorem getD_take (l : List Row) (p i : Nat) (h : i < p) : (l.take p).getD i default = l.getD i default := by simp [List.getD, h]

theorem Cells.take {w : World} {b o : Nat} {l : List Row} (h : Cells w b o l) (p : Nat) : Cells w b o (l.take p) := fun i hi => by
  have hi' : i < p ∧ i < l.length := by simpa [Nat.lt_min] using hi
  rw [getD_take l p i hi'.1]
  exact h i hi'.2
theorem Cells.drop {w : World} {b o : Nat} {l : List Row} (h : Cells w b o l) (p : Nat) : Cells w b (o + p * 2) (l.drop p) := fun i hi => by
  have hi' : p + i < l.length := by simp at hi; omega
  rw [getD_drop]
  have := h (p + i) hi'
  rw [show o + p * 2 + i * 2 = o + (p + i) * 2 from by omega]
  exact this

end Go.Proofs.YtddmdbjedainoaaDoor

namespace Go.Proofs.YtddmdbjedainoaaDoor
open Go.RowKit

/-- The cells of rows. -/
def rowCells : List Row → List Value
  | [] => []
  | x :: l => .string x.1 :: .int .i64 x.2 :: rowCells l

theorem rowCells_append : ∀ l m, rowCells (l ++ m) = rowCells l ++ rowCells m
  | [], _ => rfl
  | x :: l, m => by simp [rowCells, rowCells_append l m]
theorem rowCells_length : ∀ l, (rowCells l).length = l.length * 2
  | [] => rfl
  | x :: l => by simp [rowCells, rowCells_length l]; omega
theorem rowCells_one : ∀ l, ∀ u ∈ rowCells l, u.oneCell' = true
  | [], _, h => by cases h
  | x :: l, u, h => by
    simp only [rowCells, List.mem_cons] at h
    rcases h with rfl | rfl | h
    · rfl
    · rfl
    · exact rowCells_one l u h
theorem rowCells_at : ∀ (l : List Row) (i : Nat), i < l.length → (rowCells l)[i * 2]? = some (.string (l.getD i default).1) ∧ (rowCells l)[i * 2 + 1]? = some (.int .i64 (l.getD i default).2)
  | [], i, h => absurd h (Nat.not_lt_zero _)
  | x :: l, 0, _ => by simp [rowCells]
  | x :: l, i + 1, h => by
    have := rowCells_at l i (by simpa using h)
    rw [show (i + 1) * 2 = i * 2 + 1 + 1 from by omega]
    simpa [rowCells] using this

theorem cells_of_rowCells {w : World} {b o : Nat} {l : List Row} (h : ∀ j u, (rowCells l)[j]? = some u → w.cell? ((⟨b, o, none⟩ : Addr).add j) = some u) : Cells w b o l := fun i hi => by
  have h1 := h _ _ (rowCells_at l i hi).1
  have h2 := h _ _ (rowCells_at l i hi).2
  rw [Addr.add_lit] at h1 h2
  exact ⟨h1, by rw [Nat.add_assoc]; exact h2⟩
theorem rowCells_of_cells {w : World} {b o : Nat} {l : List Row} (h : Cells w b o l) : ∀ j u, (rowCells l)[j]? = some u → w.cell? ((⟨b, o, none⟩ : Addr).add j) = some u := fun j u hu => by
  have hj : j < l.length * 2 := by rw [← rowCells_length]; exact (List.getElem?_eq_some_iff.1 hu).1
  rw [Addr.add_lit]
  by_cases e : j % 2 = 0
  · have := rowCells_at l (j / 2) (by omega)
    rw [show j / 2 * 2 = j from by omega] at this
    rw [this.1] at hu
    have h3 := (h (j / 2) (by omega)).1
    rw [show j / 2 * 2 = j from by omega] at h3
    rw [h3]; exact hu
  · have := rowCells_at l (j / 2) (by omega)
    rw [show j / 2 * 2 + 1 = j from by omega] at this
    rw [this.2] at hu
    have h3 := (h (j / 2) (by omega)).2
    rw [show o + j / 2 * 2 + 1 = o + j from by omega] at h3
    rw [h3]; exact hu

/-- The first k lists, one behind the other. -/
def cat (ls : Nat → List Row) : Nat → List Row
  | 0 => []
  | k + 1 => cat ls k ++ ls k
theorem cat_le (ls : Nat → List Row) {k m : Nat} (h : k ≤ m) : (cat ls k).length ≤ (cat ls m).length := by
  induction m with
  | zero => obtain rfl : k = 0 := by omega
            exact Nat.le_refl _
  | succ m ih =>
    by_cases e : k = m + 1
    · rw [e]; exact Nat.le_refl _
    · have := ih (by omega)
      simp only [cat, List.length_append]; omega
theorem cat_succ_len (ls : Nat → List Row) (k : Nat) : (cat ls (k + 1)).length = (cat ls k).length + (ls k).length := by simp [cat]

end Go.Proofs.YtddmdbjedainoaaDoor
