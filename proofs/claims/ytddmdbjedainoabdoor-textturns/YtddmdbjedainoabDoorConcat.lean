/-
  slices.Concat over rows: the rows one behind the other, in new memory.
-/
import Derived.Test.YtddmdbjedainoabDoorAround
import Derived.OwnWalk
import Derived.Lib.AppendZerosOnto
import Derived.Laws.AppendOwn
namespace Go.Proofs.YtddmdbjedainoabDoor
open Go.RowKit

/-- The cells of rows. -/
def rowCells : List Row → List Value
  | [] => []
  | x :: l => .string x.1 :: .int .i64 x.2 :: rowCells l

theorem rowCells_append : ∀ l m, rowCells (l ++ m) = rowCells l ++ rowCells m
  | [], _ => rfl
  | x :: l, m => by simp [rowCells, rowCells_append l m]
theorem rowCells_length : ∀ l, (rowCells l).length = l.length * 2
  | [] => rfl
  | x :: l => by simp [rowCells, rowCells_length l]; omega
theorem rowCells_one : ∀ l, ∀ u ∈ rowCells l, u.oneCell' = true
  | [], _, h => by cases h
  | x :: l, u, h => by
    simp only [rowCells, List.mem_cons] at h
    rcases h with rfl | rfl | h
    · rfl
    · rfl
    · exact rowCells_one l u h
theorem rowCells_at : ∀ (l : List Row) (i : Nat), i < l.length → (rowCells l)[i * 2]? = some (.string (l.getD i default).1) ∧ (rowCells l)[i * 2 + 1]? = some (.int .i64 (l.getD i default).2)
  | [], i, h => absurd h (Nat.not_lt_zero _)
  | x :: l, 0, _ => by simp [rowCells]
  | x :: l, i + 1, h => by
    have := rowCells_at l i (by simpa using h)
    rw [show (i + 1) * 2 = i * 2 + 1 + 1 from by omega]
    simpa [rowCells] using this

theorem cells_of_rowCells {w : World} {b o : Nat} {l : List Row} (h : ∀ j u, (rowCells l)[j]? = some u → w.cell? ((⟨b, o, none⟩ : Addr).add j) = some u) : Cells w b o l := fun i hi => by
  have h1 := h _ _ (rowCells_at l i hi).1
  have h2 := h _ _ (rowCells_at l i hi).2
  rw [Addr.add_lit] at h1 h2
  exact ⟨h1, by rw [Nat.add_assoc]; exact h2⟩
theorem rowCells_of_cells {w : World} {b o : Nat} {l : List Row} (h : Cells w b o l) : ∀ j u, (rowCells l)[j]? = some u → w.cell? ((⟨b, o, none⟩ : Addr).add j) = some u := fun j u hu => by
  have hj : j < l.length * 2 := by rw [← rowCells_length]; exact (List.getElem?_eq_some_iff.1 hu).1
  rw [Addr.add_lit]
  by_cases e : j % 2 = 0
  · have := rowCells_at l (j / 2) (by omega)
    rw [show j / 2 * 2 = j from by omega] at this
    rw [this.1] at hu
    have h3 := (h (j / 2) (by omega)).1
    rw [show j / 2 * 2 = j from by omega] at h3
    rw [h3]; exact hu
  · have := rowCells_at l (j / 2) (by omega)
    rw [show j / 2 * 2 + 1 = j from by omega] at this
    rw [this.2] at hu
    have h3 := (h (j / 2) (by omega)).2
    rw [show o + j / 2 * 2 + 1 = o + j from by omega] at h3
    rw [h3]; exact hu

/-- The first k lists, one behind the other. -/
def cat (ls : Nat → List Row) : Nat → List Row
  | 0 => []
  | k + 1 => cat ls k ++ ls k
theorem cat_le (ls : Nat → List Row) {k m : Nat} (h : k ≤ m) : (cat ls k).length ≤ (cat ls m).length := by
  induction m with
  | zero => obtain rfl : k = 0 := by omega
            exact Nat.le_refl _
  | succ m ih =>
    by_cases e : k = m + 1
    · rw [e]; exact Nat.le_refl _
    · have := ih (by omega)
      simp only [cat, List.length_append]; omega
theorem cat_succ_len (ls : Nat → List Row) (k : Nat) : (cat ls (k + 1)).length = (cat ls k).length + (ls k).length := by simp [cat]

end Go.Proofs.YtddmdbjedainoabDoor
