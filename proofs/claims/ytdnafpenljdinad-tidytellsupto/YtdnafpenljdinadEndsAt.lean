/-
  A row of ends that a call owns: how it is laid, and how one end in it is written.
-/
import Derived.Test.YtdnafpenljdinadRefDo
import Derived.Test.YtdnafpenljdinadOpenDeeds
import Derived.Test.YtdnafpenljdinadChainsIn
namespace Go.Proofs.Ytdnafpenljdinad
open Go.RowKit

def zeroE : End3 := (false, zeroR)
theorem doneInfo : (Try.prog.info? 69).map (fun i => (i.zero, i.size, i.bytes)) = some (some (.agg #[.bool false, .int .i64 0, .int .i64 0, .int .i64 0, .int .i64 0]), 5, 40) := by kernel_rfl
theorem made_ends (n : Nat) : (madeCells #[.bool false, .int .i64 0, .int .i64 0, .int .i64 0, .int .i64 0] (n * 5)).toList = endCells (List.replicate n zeroE) := by
  apply List.ext_getElem?
  intro j
  by_cases hj : j < n * 5
  · have hk : j / 5 < (List.replicate n zeroE).length := by simp; omega
    have hat := endCells_at (List.replicate n zeroE) (j / 5) hk (j % 5)
    have he : (List.replicate n zeroE).getD (j / 5) default = zeroE := by simp at hk; simp [List.getD, hk]
    rw [he, show j / 5 * 5 + j % 5 = j from by omega] at hat
    rw [hat ((#[Value.bool false, .int .i64 0, .int .i64 0, .int .i64 0, .int .i64 0])[j % 5]!) (by
      have : j % 5 = 0 ∨ j % 5 = 1 ∨ j % 5 = 2 ∨ j % 5 = 3 ∨ j % 5 = 4 := by omega
      rcases this with e | e | e | e | e <;> rw [e] <;> rfl)]
    simp [madeCells, hj]
  · rw [List.getElem?_eq_none (by simp [madeCells]; omega), List.getElem?_eq_none (by rw [endCells_length]; simp; omega)]
/-- A row of ends is made. -/
theorem make_ends (n : Nat) (h : n * 40 ≤ 140737488355328) : ∃ CS : Array Value, CS.size = n * 5 ∧ CS.toList = endCells (List.replicate n zeroE) ∧ ∀ w : World, (Instr.makeSlice 30 (.int .i64 (n : Int)) (.int .i64 (n : Int))).run Try.prog w = .ok (.slice (some ⟨w.heap.size, 0, none⟩) n n) (w.alloc (.cells CS 69)) := by
  obtain ⟨i0, hi, hz0, hz1, hz2⟩ := info_parts doneInfo
  refine ⟨madeCells #[.bool false, .int .i64 0, .int .i64 0, .int .i64 0, .int .i64 0] (n * 5), size_madeCells _ _, made_ends n, fun w => ?_⟩
  have hr := run_make (P := Try.prog) w 30 69 i0 _ Try.underlying30 hi hz0 .i64 .i64 n n (by omega) (Int.le_refl _) (by rw [hz2]; omega) (by omega)
  simp only [Int.toNat_natCast, hz1, Value.cells] at hr
  exact hr
theorem endCells_set : ∀ (E : List End3) (j : Nat) (e : End3), j < E.length →
    (((((endCells E).set (j * 5) (.bool e.1)).set (j * 5 + 1) (.int .i64 (e.2 0))).set (j * 5 + 2) (.int .i64 (e.2 1))).set (j * 5 + 3) (.int .i64 (e.2 2))).set (j * 5 + 4) (.int .i64 (e.2 3)) = endCells (E.set j e)
  | [], j, _, h => absurd h (Nat.not_lt_zero _)
  | x :: E, 0, e, _ => by simp [endCells, endCell]
  | x :: E, j + 1, e, h => by
    have ih := endCells_set E j e (by simpa using h)
    rw [List.set_cons_succ, endCells, endCells, ← ih]
    rw [show (j + 1) * 5 = j * 5 + 1 + 1 + 1 + 1 + 1 from by omega]
    simp [endCell, Nat.add_right_comm _ 5]
theorem endCells_text : ∀ (E : List End3) (s : ByteArray), Value.string s ∉ endCells E
  | [], _, h => by cases h
  | e :: E, s, h => by
    simp only [endCells, List.mem_append] at h
    rcases h with h | h
    · simp [endCell] at h
    · exact endCells_text E s h
/-- An end is written at o. -/
def fiveAt (w : World) (g o : Nat) (f : Bool) (x0 x1 x2 x3 : Int) : World :=
  ((((w.setCell ⟨g, o, none⟩ (.bool f)).setCell ⟨g, o + 1, none⟩ (.int .i64 x0)).setCell ⟨g, o + 2, none⟩ (.int .i64 x1)).setCell ⟨g, o + 3, none⟩ (.int .i64 x2)).setCell ⟨g, o + 4, none⟩ (.int .i64 x3)
theorem fiveAt_below {w w0 : World} {g B : Nat} (o : Nat) (f : Bool) (x0 x1 x2 x3 : Int) (hB : B ≤ g) (h : Below B w0 w) : Below B w0 (fiveAt w g o f x0 x1 x2 x3) :=
  ((((h.setCell (p := ⟨g, o, none⟩) hB _).setCell (p := ⟨g, o + 1, none⟩) hB _).setCell (p := ⟨g, o + 2, none⟩) hB _).setCell (p := ⟨g, o + 3, none⟩) hB _).setCell (p := ⟨g, o + 4, none⟩) hB _
abbrev OwnsEnds (w : World) (B g n : Nat) (E : List End3) : Prop := w.ownsRow B 69 5 (.slice (some ⟨g, 0, none⟩) n n) n (endCells E)
theorem fiveAt_owns {w : World} {B g n : Nat} {E : List End3} (h : OwnsEnds w B g n E) {j : Nat} (hj : j < E.length) (e : End3) : OwnsEnds (fiveAt w g (j * 5) e.1 (e.2 0) (e.2 1) (e.2 2) (e.2 3)) B g n (E.set j e) := by
  have h5 := (((((World.ownsRow.stored h (j * 5) (.bool e.1)).1.stored (j * 5 + 1) (.int .i64 (e.2 0))).1.stored (j * 5 + 2) (.int .i64 (e.2 1))).1.stored (j * 5 + 3) (.int .i64 (e.2 2))).1.stored (j * 5 + 4) (.int .i64 (e.2 3))).1
  rw [endCells_set E j e hj] at h5
  exact h5
theorem own_noText {w : World} {B g n : Nat} {E : List End3} (h : OwnsEnds w B g n E) : NoText w g := fun o s e => by
  by_cases ho : o < n * 5
  · rw [World.ownsRow.cellAt h o ho] at e
    exact endCells_text E s (List.mem_of_getElem? e)
  · rcases h.2 with ⟨h', _⟩ | ⟨g', cap', cur, h', _, hg, _, _, hsz, _⟩
    · simp at h'
    · simp only [Value.slice.injEq, Option.some.injEq, Addr.mk.injEq, and_true, true_and] at h'
      obtain ⟨rfl, rfl⟩ := h'
      rw [cell_of_row w g o cur _ (0, 0) hg, Array.getElem?_eq_none (by omega)] at e
      cases e
theorem fiveAt_holds {w : World} {g : Nat} {nb : Option Addr} {nn nc : Nat} {L : List Row} (o : Nat) (f : Bool) (x0 x1 x2 x3 : Int) (h : Holds w nb nn nc L) (hn : NoText w g) : Holds (fiveAt w g o f x0 x1 x2 x3) nb nn nc L := by
  refine ⟨h.len, ?_, h.hdr⟩
  rcases h.seg with h0 | ⟨bl, p, e, hc⟩
  · exact .inl h0
  · by_cases hL : L = []
    · exact .inl hL
    · have hpos : 0 < L.length := List.length_pos_iff.2 hL
      have hne : g ≠ bl := fun e2 => by
        subst e2
        exact hn _ _ (hc 0 hpos).1
      refine .inr ⟨bl, p, e, fun i hi => ?_⟩
      have far : ∀ (q : Nat), (fiveAt w g o f x0 x1 x2 x3).cell? ⟨bl, q, none⟩ = w.cell? ⟨bl, q, none⟩ := fun q => by
        unfold fiveAt
        rw [World.cell?_setCell_far _ _ _ _ hne, World.cell?_setCell_far _ _ _ _ hne, World.cell?_setCell_far _ _ _ _ hne, World.cell?_setCell_far _ _ _ _ hne, World.cell?_setCell_far _ _ _ _ hne]
      rw [far, far]
      exact hc i hi
theorem owns_deep {w w' : World} {B g n : Nat} {E : List End3} (h : OwnsEnds w B g n E) (hb : Below w.heap.size w w') : OwnsEnds w' B g n E :=
  World.ownsRow.kept (row := none) h ⟨hb.os, hb.tape, hb.output, hb.size, fun k hk _ => hb.block k hk⟩ (.inr (by simp [Value.ownBlock]))
theorem owns_cells {w : World} {B g n : Nat} {E : List End3} (h : OwnsEnds w B g n E) {o : Nat} (ho : o < n * 5) : ∃ u, w.cell? ⟨g, o, none⟩ = some u := by
  have := World.ownsRow.cellAt h o ho
  rw [this]
  have hl := h.1
  exact ⟨_, List.getElem?_eq_getElem (by omega)⟩
end Go.Proofs.Ytdnafpenljdinad
