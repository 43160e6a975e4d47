/-
  What it means that a slice in memory holds rows, and that this stands while other memory grows.
-/
import Derived.Test.YtfchjhdgnibnnabMath
import Derived.WalkKit
import Derived.Below
namespace Go.Proofs.Ytfchjhdgnibnnab
open Go.RowKit

theorem hid {p : Prop} (h : p) : Hid p := h

/-- The two cells of row i, at block b from off on, hold the list's row i. -/
def Cells (w : World) (b off : Nat) (l : List Row) : Prop :=
  ∀ i, i < l.length → w.cell? ⟨b, off + i * 2, none⟩ = some (.string (l.getD i default).1) ∧ w.cell? ⟨b, off + i * 2 + 1, none⟩ = some (.int .i64 (l.getD i default).2)

/-- A slice with this address holds the rows l (of no rows nothing is asked). -/
def Seg (w : World) (base : Option Addr) (l : List Row) : Prop :=
  l = [] ∨ ∃ b off, base = some ⟨b, off, none⟩ ∧ Cells w b off l

/-- Keys' lengths fit. -/
def Small (l : List Row) : Prop := ∀ x ∈ l, x.1.size ≤ maxLen

theorem Cells.lt {w : World} {b off : Nat} {l : List Row} (h : Cells w b off l) (hl : 0 < l.length) : b < w.heap.size := by
  have := (h 0 hl).1
  simpa using World.block_lt_of_cell? _ _ this

theorem Cells.below {w w' : World} {b off B : Nat} {l : List Row} (h : Cells w b off l) (hb : Below B w w') (hB : b < B) : Cells w' b off l := fun i hi => by
  rw [hb.cell (p := ⟨b, off + i * 2, none⟩) hB, hb.cell (p := ⟨b, off + i * 2 + 1, none⟩) hB]
  exact h i hi

theorem Seg.below {w w' : World} {base : Option Addr} {l : List Row} (h : Seg w base l) (hb : Below w.heap.size w w') : Seg w' base l := by
  rcases h with h | ⟨b, off, e, hc⟩
  · exact .inl h
  · by_cases hl : 0 < l.length
    · exact .inr ⟨b, off, e, hc.below hb (hc.lt hl)⟩
    · exact .inl (List.eq_nil_of_length_eq_zero (by omega))

theorem small_getD {l : List Row} (h : Small l) {i : Nat} (hi : i < l.length) : (l.getD i default).1.size ≤ maxLen := h _ (mem_getD hi)

theorem small_ins {k : ByteArray} {n : Int} {l : List Row} (h : Small l) (hk : k.size ≤ maxLen) : Small (ins k n l) := fun x hx => by
  rcases mem_ins hx with rfl | hx
  · exact hk
  · exact h x hx
theorem small_del {k : ByteArray} {l : List Row} (h : Small l) : Small (del k l) := fun x hx => h x (mem_del hx)
end Go.Proofs.Ytfchjhdgnibnnab
