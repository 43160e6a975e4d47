/-
  slices.Concat over rows: the rows one behind the other, in new memory.
-/
import Derived.Test.YtfchjhdgnibnnacAround
import Derived.OwnWalk
import Derived.Lib.AppendZerosOnto
import Derived.Laws.AppendOwn
namespace Go.Proofs.Ytfchjhdgnibnnac
open Go.RowKit

/-- The cells of rows. -/
def rowCells : List Row → List Value
  | [] => []
  | x :: l => .string x.1 :: .int .i64 x.2 :: rowCells l

theorem rowCells_append : ∀ l m, rowCells (l ++ m) = rowCells l ++ rowCells m
  | [], _ => rfl
  | x :: l, m => by simp [rowCells, rowCells_append l m]
theorem rowCells_length : ∀ l, (rowCells l).length = l.length * 2
  | [] => rfl
  | x :: l => by simp [rowCells, rowCells_length l]; omega
theorem rowCells_one : ∀ l, ∀ u ∈ rowCells l, u.oneCell' = true
  | [], _, h => by cases h
  | x :: l, u, h => by
    simp only [rowCells, List.mem_cons] at h
    rcases h with rfl | rfl | h
    · rfl
    · rfl
    · exact rowCells_one l u h
theorem rowCells_at : ∀ (l : List Row) (i : Nat), i < l.length → (rowCells l)[i * 2]? = some (.string (l.getD i default).1) ∧ (rowCells l)[i * 2 + 1]? = some (.int .i64 (l.getD i default).2)
  | [], i, h => absurd h (Nat.not_lt_zero _)
  | x :: l, 0, _ => by simp [rowCells]
  | x :: l, i + 1, h => by
    have := rowCells_at l i (by simpa using h)
    rw [show (i + 1) * 2 = i * 2 + 1 + 1 from by omega]
    simpa [rowCells] using this

theorem cells_of_rowCells {w : World} {b o : Nat} {l : List Row} (h : ∀ j u, (rowCells l)[j]? = some u → w.cell? ((⟨b, o, none⟩ : Addr).add j) = some u) : Cells w b o l := fun i hi => by
  have h1 := h _ _ (rowCells_at l i hi).1
  have h2 := h _ _ (rowCells_at l i hi).2
  rw [Addr.add_lit] at h1 h2
  exact ⟨h1, by rw [Nat.add_assoc]; exact h2⟩
theorem rowCells_of_cells {w : World} {b o : Nat} {l : List Row} (h : Cells w b o l) : ∀ j u, (rowCells l)[j]? = some u → w.cell? ((⟨b, o, none⟩ : Addr).add j) = some u := fun j u hu => by
  have hj : j < l.length * 2 := by rw [← rowCells_length]; exact (List.getElem?_eq_some_iff.1 hu).1
  rw [Addr.add_lit]
  by_cases e : j % 2 = 0
  · have := rowCells_at l (j / 2) (by omega)
    rw [show j / 2 * 2 = j from by omega] at this
    rw [this.1] at hu
    have h3 := (h (j / 2) (by omega)).1
    rw [show j / 2 * 2 = j from by omega] at h3
    rw [h3]; exact hu
  · have := rowCells_at l (j / 2) (by omega)
    rw [show j / 2 * 2 + 1 = j from by omega] at this
    rw [this.2] at hu
    have h3 := (h (j / 2) (by omega)).2
    rw [show o + j / 2 * 2 + 1 = o + j from by omega] at h3
    rw [h3]; exact hu

theorem pairInfo : (Try.prog.info? 35).map (fun i => (i.zero, i.size, i.bytes)) = some (some (.agg #[.string ByteArray.empty, .int .i64 0]), 2, 24) := by kernel_rfl

/-- What a row that the call owns holds. -/
theorem holds_of_owned {w : World} {B n : Nat} {v : Value} {l : List Row} (h : w.ownsRow B 35 2 v n (rowCells l)) : ∃ base c, v = .slice base n c ∧ Holds w base n c l := by
  have hl : n = l.length := by have := h.1; rw [rowCells_length] at this; omega
  rcases h.2 with ⟨rfl, rfl⟩ | ⟨g, cap, cur, rfl, _, _, hnc, hcm, _, _⟩
  · exact ⟨none, 0, rfl, Holds.empty w hl rfl ⟨Nat.le_refl _, Nat.zero_le _, fun _ => rfl⟩⟩
  · exact ⟨some ⟨g, 0, none⟩, cap, rfl, Holds.cells hl (cells_of_rowCells (h.cells rfl)) hnc hcm⟩

/-- The memory of a slice is of elements of the type t. -/
def Kind (w : World) (t : TypeId) (base : Option Addr) : Prop := ∀ a, base = some a → ∃ cur z, w.heap[a.block]? = some (.cells cur t z)
theorem Kind.none (w : World) (t : TypeId) : Kind w t none := fun _ h => by cases h
theorem Kind.below {w w' : World} {t : TypeId} {base : Option Addr} (h : Kind w t base) (hb : Below w.heap.size w w') : Kind w' t base := fun a e => by
  obtain ⟨cur, z, hc⟩ := h a e
  exact ⟨cur, z, by rw [hb.block a.block (Array.getElem?_eq_some_iff.1 hc).1]; exact hc⟩
theorem Kind.set {w : World} {t : TypeId} {base : Option Addr} (h : Kind w t base) (p : Addr) (u : Value) : Kind (w.setCell p u) t base := fun a e => by
  obtain ⟨cur, z, hc⟩ := h a e
  by_cases hp : a.block = p.block
  · simp only [World.setCell, Array.getElem?_modify]
    rw [if_pos hp.symm, hc]
    simp only [Option.map_some]
    split
    · exact ⟨_, _, rfl⟩
    · exact ⟨_, _, rfl⟩
  · exact ⟨cur, z, by rw [Below.heap_setCell _ _ _ _ hp]; exact hc⟩
theorem Kind.owned {w : World} {B t s n : Nat} {base : Option Addr} {c : Nat} {xs : List Value} (h : w.ownsRow B t s (.slice base n c) n xs) : Kind w t base := fun a e => by
  rcases h.2 with ⟨h', _⟩ | ⟨g, cap, cur, h', _, hg, _⟩
  · simp at h'; rw [h'.1] at e; cases e
  · simp at h'; rw [h'.1] at e; cases e; exact ⟨cur, _, hg⟩

/-- An append of rows that lie anywhere onto a row that the call owns. -/
theorem wpList_app (w : World) {ops : Array Oper} {rest : List Oper} {o : Oper} {a : Act} {Q : Exit → Act → World → Prop} (hgd : o.guard = none) (s x : Operand)
    (ho : o.op = .call { callee := .builtin .append, args := #[s, x], argTypes := #[37, 37] })
    (B : Nat) (v : Value) (n : Nat) (l : List Row) (hs : a.eval s = v) (hown : w.ownsRow B 35 2 v n (rowCells l)) (base : Option Addr) (m c : Nat) (l2 : List Row) (hx : a.eval x = .slice base m c) (hh : Holds w base m c l2)
    (hbytes : (n + m) * 24 ≤ 140737488355328) (hB : B ≤ w.heap.size)
    (h : ∀ v' w', w'.ownsRow B 35 2 v' (n + m) (rowCells (l ++ l2)) → w.grownBy w' v.ownBlock → wpList Try.prog ops Q rest (a.put o.dst v') w') : wpList Try.prog ops Q (o :: rest) a w := by
  obtain ⟨i0, hi, hz0, hz1, hz2⟩ := info_parts pairInfo
  have hlen : (rowCells l2).length = m * 2 := by rw [rowCells_length, hh.len]
  have h63 : n + m ≤ maxLen := by unfold maxLen; omega
  have key : ∀ ad, base = some ad → (∀ j u, (rowCells l2)[j]? = some u → w.cell? (ad.add j) = some u) → wpList Try.prog ops Q (o :: rest) a w := fun ad had hnews =>
    wpList_append_own w hgd s x 37 ho B 35 i0 _ 2 24 Try.underlying37 hi hz0 hz1 hz2 rfl (by decide) v n (rowCells l) hs hown ad m c (rowCells l2) (by rw [hx, had]) hlen hnews (rowCells_one l2) h63 hbytes hB
      (fun v' w' h1 h2 _ => h v' w' (by rw [rowCells_append]; exact h1) h2)
  cases base with
  | some ad =>
    rcases hh.seg with he | ⟨b, o', he, hc⟩
    · exact key ad rfl (fun j u hu => by rw [he] at hu; simp [rowCells] at hu)
    · cases he
      exact key _ rfl (rowCells_of_cells hc)
  | none =>
    obtain rfl := hh.hdr.nil rfl
    obtain rfl : m = 0 := by have := hh.hdr.le; omega
    have hl2 : l2 = [] := List.eq_nil_of_length_eq_zero (by have := hh.len; omega)
    refine wpList_plain hgd fun K hK' => ?_
    have hrun := run_append_owned_none (P := Try.prog) w B 37 o.type 35 i0 2 Try.underlying37 hi v n (rowCells l) hown
    unfold Oper.wp
    simp [execOp, ho, resolve, invoke, builtin, hs, hx, hrun, Result.andThen]
    exact hK' _ _ (h v w (by rw [hl2]; simpa using hown) (World.grownBy.refl _ _))

/-- The first k lists, one behind the other. -/
def cat (ls : Nat → List Row) : Nat → List Row
  | 0 => []
  | k + 1 => cat ls k ++ ls k
theorem cat_le (ls : Nat → List Row) {k m : Nat} (h : k ≤ m) : (cat ls k).length ≤ (cat ls m).length := by
  induction m with
  | zero => obtain rfl : k = 0 := by omega
            exact Nat.le_refl _
  | succ m ih =>
    by_cases e : k = m + 1
    · rw [e]; exact Nat.le_refl _
    · have := ih (by omega)
      simp only [cat, List.length_append]; omega
theorem cat_succ_len (ls : Nat → List Row) (k : Nat) : (cat ls (k + 1)).length = (cat ls k).length + (ls k).length := by simp [cat]

end Go.Proofs.Ytfchjhdgnibnnac
