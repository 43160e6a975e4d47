/-
  What a deed made, told in the order of the keys that it writes.
-/
import Derived.Test.YtfchjhdgnibnnacDeedAsk
namespace Go.Proofs.Ytfchjhdgnibnnac
open Go.RowKit

/-- Versions' cells. -/
def verCell (o : Option Int) : List Value := match o with
  | some n => [.int .i64 0, .bool true, .bool true, .int .i64 n]
  | none => [.int .i64 0, .bool true, .bool false, .int .i64 0]
def verCells : List (ByteArray × Option Int) → List Value
  | [] => []
  | x :: l => verCell x.2 ++ verCells l
theorem verCell_length (o : Option Int) : (verCell o).length = 4 := by cases o <;> rfl
theorem verCell_one (o : Option Int) : ∀ u ∈ verCell o, u.oneCell' = true := by
  intro u hu; cases o <;> simp [verCell] at hu <;> rcases hu with rfl | rfl | rfl | rfl <;> rfl
theorem verCells_append : ∀ l m, verCells (l ++ m) = verCells l ++ verCells m
  | [], _ => rfl
  | x :: l, m => by simp [verCells, verCells_append l m]
theorem verCells_length : ∀ l, (verCells l).length = l.length * 4
  | [] => rfl
  | x :: l => by simp [verCells, verCell_length, verCells_length l]; omega
theorem verCells_at : ∀ (l : List (ByteArray × Option Int)) (k : Nat), k < l.length → ∀ j u, (verCell (l.getD k default).2)[j]? = some u → (verCells l)[k * 4 + j]? = some u
  | [], k, h => absurd h (Nat.not_lt_zero _)
  | x :: l, 0, _ => fun j u hu => by
    rw [verCells, List.getElem?_append_left]
    · simpa using hu
    · simpa using (List.getElem?_eq_some_iff.1 hu).1
  | x :: l, k + 1, h => fun j u hu => by
    have := verCells_at l k (by simpa using h) j u (by simpa using hu)
    rw [verCells, List.getElem?_append_right (by rw [verCell_length]; omega), verCell_length]
    rw [show (k + 1) * 4 + j - 4 = k * 4 + j from by omega]
    exact this
def keysOf (l : List (ByteArray × Option Int)) : List ByteArray := l.map (·.1)

/-- A slice of one element that was just laid. -/
theorem lies_one (w : World) (vs : Array Value) (t sz : Nat) (h : vs.size = sz) : Lies (w.alloc (.cells vs t)) sz (some ⟨w.heap.size, 0, none⟩) 1 1 vs.toList := by
  refine ⟨by simp [h], ⟨Nat.le_refl _, by unfold maxLen; omega, fun h => by cases h⟩, .inr ⟨_, _, rfl, fun j u hu => ?_⟩⟩
  rw [Nat.zero_add]
  exact box_cell _ _ _ _ _ (by simpa using hu)
/-- Rows of two types lie apart. -/
theorem rows_apart {w : World} {B B' e e' s s' n n' : Nat} {v v' : Value} {xs xs' : List Value} (h : w.ownsRow B e s v n xs) (h' : w.ownsRow B' e' s' v' n' xs') (hne : e ≠ e') : v.ownBlock = none ∨ v.ownBlock ≠ v'.ownBlock := by
  rcases h.2 with ⟨rfl, _⟩ | ⟨g, cap, cur, rfl, _, hg, _⟩
  · exact .inl rfl
  · refine .inr fun e1 => ?_
    rcases h'.2 with ⟨rfl, _⟩ | ⟨g', cap', cur', rfl, _, hg', _⟩
    · simp [Value.ownBlock] at e1
    · simp [Value.ownBlock] at e1
      subst e1
      rw [hg] at hg'
      simp at hg'
      exact hne hg'.2
theorem le_box {B : Nat} {w : World} {o : Obj} (h : B ≤ w.heap.size) : B ≤ (w.alloc o).heap.size := by rw [World.size_alloc]; omega
/-- A slice's memory is from block B on. -/
def Fresh (B : Nat) (base : Option Addr) : Prop := ∀ a, base = some a → B ≤ a.block
theorem fresh_none (B : Nat) : Fresh B none := fun _ h => by cases h
theorem Lies.set {w : World} {sz : Nat} {base : Option Addr} {n c : Nat} {vs : List Value} (h : Lies w sz base n c vs) {B : Nat} (hf : Fresh B base) {p : Addr} (hp : p.block < B) (u : Value) : Lies (w.setCell p u) sz base n c vs := by
  refine ⟨h.len, h.hdr, ?_⟩
  rcases h.run with h0 | ⟨b, o, e, hr⟩
  · exact .inl h0
  · refine .inr ⟨b, o, e, fun j x hx => ?_⟩
    have hb : B ≤ b := hf _ e
    rw [World.cell?_setCell_other _ _ _ _ (fun e => by have := congrArg Addr.block e; simp at this; omega)]
    exact hr j x hx
theorem verInfo : (Try.prog.info? 28).map (fun i => (i.zero, i.size, i.bytes)) = some (some (.agg #[.int .i64 0, .bool false, .bool false, .int .i64 0]), 4, 24) := by kernel_rfl
theorem MapIs.deep {w w' : World} {b n : Nat} {f : ByteArray → Option Value} (h : MapIs w b n f) (hb : Below w.heap.size w w') : MapIs w' b n f := h.below hb h.lt

end Go.Proofs.Ytfchjhdgnibnnac
