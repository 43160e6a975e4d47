/-
  What it means that a slice in memory holds deeds, and ends of deeds.
-/
import Derived.Test.YtfdliblikkpjiabPlainMath
import Derived.Test.YtfdliblikkpjiabDeedAll
namespace Go.Proofs.Ytfdliblikkpjiab
open Go.RowKit

/-- From block b, place o on lie the three slices of a deed. -/
def DeedHere (w : World) (b o : Nat) (d : Deed3) : Prop := ∃ rb rn rc wb wn wc cb cn cc, w.cell? ⟨b, o, none⟩ = some (.slice rb rn rc) ∧ w.cell? ⟨b, o + 1, none⟩ = some (.slice wb wn wc) ∧ w.cell? ⟨b, o + 2, none⟩ = some (.slice cb cn cc) ∧
  DeedIn w rb rn rc wb wn wc cb cn cc d.1 d.2.1 d.2.2 ∧ SmallT d.1 ∧ SmallT d.2.1
theorem DeedHere.lt {w : World} {b o : Nat} {d : Deed3} (h : DeedHere w b o d) : b < w.heap.size := by
  obtain ⟨rb, rn, rc, wb, wn, wc, cb, cn, cc, h0, _⟩ := h
  simpa using World.block_lt_of_cell? _ _ h0
theorem DeedHere.below {w w' : World} {b o : Nat} {d : Deed3} (h : DeedHere w b o d) (hb : Below w.heap.size w w') : DeedHere w' b o d := by
  obtain ⟨rb, rn, rc, wb, wn, wc, cb, cn, cc, h0, h1, h2, h3, h4⟩ := h
  exact ⟨rb, rn, rc, wb, wn, wc, cb, cn, cc, kept_cell hb h0, kept_cell hb h1, kept_cell hb h2, h3.below hb, h4⟩
/-- A slice holds deeds. -/
structure DeedsIn (w : World) (base : Option Addr) (n c : Nat) (D : List Deed3) : Prop where
  len : n = D.length
  hdr : Hdr base n c
  run : n = 0 ∨ ∃ b o, base = some ⟨b, o, none⟩ ∧ ∀ i, i < n → DeedHere w b (o + i * 3) (D.getD i default)
theorem DeedsIn.below {w w' : World} {base : Option Addr} {n c : Nat} {D : List Deed3} (h : DeedsIn w base n c D) (hb : Below w.heap.size w w') : DeedsIn w' base n c D := by
  refine ⟨h.len, h.hdr, ?_⟩
  rcases h.run with h0 | ⟨b, o, e, hr⟩
  · exact .inl h0
  · exact .inr ⟨b, o, e, fun i hi => (hr i hi).below hb⟩
def RightDs (D : List Deed3) : Prop := ∀ d ∈ D, RightDD d
theorem right_wDeed {R W : List ByteArray} {C : List Ins} (h : RightD R W C) : wDeed R W C = 0 := by
  unfold wDeed
  rw [if_neg (by rw [h.r]; simp), if_neg (by rw [h.w]; simp), if_neg (by have := h.c; omega)]
  have : ∀ k, k ≤ C.length → wCode R W C k = 0 := by
    intro k
    induction k with
    | zero => intro _; rfl
    | succ k ih => intro hk; exact wCode_step (ih (by omega)) (h.i k (by omega))
  exact this _ (Nat.le_refl _)

/-! ### Ends -/
def endCell (e : End3) : List Value := [.bool e.1, .int .i64 (e.2 0), .int .i64 (e.2 1), .int .i64 (e.2 2), .int .i64 (e.2 3)]
def endCells : List End3 → List Value
  | [] => []
  | e :: l => endCell e ++ endCells l
theorem endCells_length : ∀ l, (endCells l).length = l.length * 5
  | [] => rfl
  | e :: l => by simp [endCells, endCell, endCells_length l]; omega
theorem endCells_append : ∀ l m, endCells (l ++ m) = endCells l ++ endCells m
  | [], _ => rfl
  | e :: l, m => by simp [endCells, endCells_append l m]
theorem endCell_one (e : End3) : ∀ u ∈ endCell e, u.oneCell' = true := fun u hu => by
  simp [endCell] at hu; rcases hu with rfl | rfl | rfl | rfl | rfl <;> rfl
theorem endCells_one : ∀ l, ∀ u ∈ endCells l, u.oneCell' = true
  | [], _, h => by cases h
  | e :: l, u, h => by
    simp only [endCells, List.mem_append] at h
    rcases h with h | h
    · exact endCell_one e u h
    · exact endCells_one l u h
theorem endCells_at : ∀ (l : List End3) (k : Nat), k < l.length → ∀ j u, (endCell (l.getD k default))[j]? = some u → (endCells l)[k * 5 + j]? = some u
  | [], k, h => absurd h (Nat.not_lt_zero _)
  | e :: l, 0, _ => fun j u hu => by
    rw [endCells, List.getElem?_append_left]
    · simpa using hu
    · simpa using (List.getElem?_eq_some_iff.1 hu).1
  | e :: l, k + 1, h => fun j u hu => by
    have := endCells_at l k (by simpa using h) j u (by simpa using hu)
    rw [endCells, List.getElem?_append_right (by simp [endCell]; omega)]
    rw [show (k + 1) * 5 + j - (endCell e).length = k * 5 + j from by simp [endCell]; omega]
    exact this
/-- A slice holds ends. -/
abbrev Ends (w : World) (base : Option Addr) (n c : Nat) (E : List End3) : Prop := Lies w 5 base n c (endCells E)
theorem Ends.count {w : World} {base : Option Addr} {n c : Nat} {E : List End3} (h : Ends w base n c E) : n = E.length := by have := h.len; rw [endCells_length] at this; omega
theorem Ends.cells {w : World} {b o : Nat} {E : List End3} (h : Run w b o (endCells E)) {k : Nat} (hk : k < E.length) :
    w.cell? ⟨b, o + k * 5, none⟩ = some (.bool (E.getD k default).1) ∧ w.cell? ⟨b, o + k * 5 + 1, none⟩ = some (.int .i64 ((E.getD k default).2 0)) ∧ w.cell? ⟨b, o + k * 5 + 2, none⟩ = some (.int .i64 ((E.getD k default).2 1)) ∧
      w.cell? ⟨b, o + k * 5 + 3, none⟩ = some (.int .i64 ((E.getD k default).2 2)) ∧ w.cell? ⟨b, o + k * 5 + 4, none⟩ = some (.int .i64 ((E.getD k default).2 3)) := by
  have key : ∀ j u, (endCell (E.getD k default))[j]? = some u → w.cell? ⟨b, o + k * 5 + j, none⟩ = some u := fun j u hu => by
    rw [Nat.add_assoc]; exact h _ u (endCells_at E k hk j u hu)
  exact ⟨key 0 _ rfl, key 1 _ rfl, key 2 _ rfl, key 3 _ rfl, key 4 _ rfl⟩
theorem endsD_length : ∀ (l : List Row) (D : List Deed3), (endsD l D).length = D.length
  | _, [] => rfl
  | l, d :: D => by simp [endsD, endsD_length (doD l d) D]
theorem allD_snoc : ∀ (D : List Deed3) (l : List Row) (d : Deed3), allD l (D ++ [d]) = doD (allD l D) d
  | [], _, _ => rfl
  | x :: D, l, d => allD_snoc D (doD l x) d
theorem endsD_snoc : ∀ (D : List Deed3) (l : List Row) (d : Deed3), endsD l (D ++ [d]) = endsD l D ++ [endD (allD l D) d]
  | [], _, _ => rfl
  | x :: D, l, d => by simp only [List.cons_append, endsD]; rw [endsD_snoc D (doD l x) d]; rfl
theorem allD_right : ∀ (D : List Deed3) {l : List Row}, Right l → RightDs D → Right (allD l D)
  | [], _, h, _ => h
  | d :: D, l, h, hD => allD_right D (doD_right h (hD d (by simp))) (fun e he => hD e (by simp [he]))
theorem rights_take {D : List Deed3} (h : RightDs D) (k : Nat) : RightDs (D.take k) := fun d hd => h d (List.mem_of_mem_take hd)
theorem rights_at {D : List Deed3} (h : RightDs D) {k : Nat} (hk : k < D.length) : RightDD (D.getD k default) := h _ (by simp [List.getD, hk])
end Go.Proofs.Ytfdliblikkpjiab
