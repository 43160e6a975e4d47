/-
  What a row that grows does not touch: slices that lie elsewhere, by where they are or by what they are of; and values of one kind laid one behind the other.
  A row of ends that a call owns: how it is laid, and how one end in it is written.
-/
import Derived.Test.YtfdliblikkpjiabDoorLies
import Derived.Test.YtfdliblikkpjiabDoorRefDo
import Derived.Test.YtfdliblikkpjiabDoorPlainWith
namespace Go.Proofs.YtfdliblikkpjiabDoor
open Go.RowKit

/-- Where a slice lies: ahead of B, or in memory of its own elements' type. -/
def Spot (w : World) (B : Nat) (t : TypeId) (base : Option Addr) (n : Nat) : Prop := n = 0 ∨ (∀ a, base = some a → a.block < B) ∨ Kind w t base
theorem Spot.below {w w' : World} {B : Nat} {t : TypeId} {base : Option Addr} {n : Nat} (h : Spot w B t base n) (hb : Below w.heap.size w w') : Spot w' B t base n := h.imp id (fun h => h.imp id (fun k => k.below hb))
theorem own_apart {w : World} {B e t sz n b : Nat} {v : Value} {xs : List Value} (ho : w.ownsRow B e sz v n xs) (hb : b < B ∨ ∃ cur z, w.heap[b]? = some (.cells cur t z)) (hne : t ≠ e) : some b ≠ v.ownBlock := fun he => by
  rcases ho.2 with ⟨rfl, _⟩ | ⟨g, cap, cur, rfl, hB, hg, _⟩
  · simp [Value.ownBlock] at he
  · simp [Value.ownBlock] at he
    subst he
    rcases hb with hb | ⟨cur', z', hc⟩
    · omega
    · rw [hg] at hc
      simp at hc
      exact hne hc.2.1.symm
/-- Rows that are no part of a row that grows. -/
theorem Holds.grown {w w' : World} {B e sz n : Nat} {v : Value} {xs : List Value} {nb : Option Addr} {nn nc : Nat} {L : List Row} (h : Holds w nb nn nc L) (hs : Spot w B 65 nb nn) (ho : w.ownsRow B e sz v n xs) (hne : 65 ≠ e) (hg : w.grownBy w' v.ownBlock) : Holds w' nb nn nc L ∧ Spot w' B 65 nb nn := by
  by_cases h0 : nn = 0
  · exact ⟨Holds.empty w' h.len h0 h.hdr, .inl h0⟩
  rcases hs with hs | hs
  · exact absurd hs h0
  rcases h.seg with h1 | ⟨bl, o, rfl, hc⟩
  · have := h.len; rw [h1] at this; exact absurd this h0
  have hL : 0 < L.length := by have := h.len; omega
  have hlt := hc.lt hL
  have hap : some bl ≠ v.ownBlock := own_apart (t := 65) ho (hs.imp (fun h => h _ rfl) (fun k => k _ rfl)) hne
  have hbl := hg.block bl hlt hap
  refine ⟨⟨h.len, .inr ⟨bl, o, rfl, fun i hi => ?_⟩, h.hdr⟩, .inr (hs.imp id (fun k a e => ?_))⟩
  · rw [World.cell?_of_block (w := w) (a := ⟨bl, o + i * 2, none⟩) hbl, World.cell?_of_block (w := w) (a := ⟨bl, o + i * 2 + 1, none⟩) hbl]
    exact hc i hi
  · obtain ⟨cur, z, hk⟩ := k a e
    have : a.block = bl := by cases e; rfl
    exact ⟨cur, z, by rw [this, hbl, ← this]; exact hk⟩
/-- Slices, of whatever elements, that are no part of a row that grows. -/
theorem Lies.grown {w w' : World} {B e sz n t s : Nat} {v : Value} {xs vs : List Value} {nb : Option Addr} {nn nc : Nat} (hs0 : 0 < s) (h : Lies w s nb nn nc vs) (hs : Spot w B t nb nn) (ho : w.ownsRow B e sz v n xs) (hne : t ≠ e) (hg : w.grownBy w' v.ownBlock) : Lies w' s nb nn nc vs ∧ Spot w' B t nb nn := by
  by_cases h0 : nn = 0
  · exact ⟨⟨h.len, h.hdr, .inl h0⟩, .inl h0⟩
  rcases hs with hs | hs
  · exact absurd hs h0
  rcases h.run with h1 | ⟨bl, o, rfl, hc⟩
  · exact absurd h1 h0
  have hlt := hc.lt (by rw [h.len]; exact Nat.mul_pos (by omega) hs0)
  have hap : some bl ≠ v.ownBlock := own_apart (t := t) ho (hs.imp (fun h => h _ rfl) (fun k => k _ rfl)) hne
  have hbl := hg.block bl hlt hap
  refine ⟨⟨h.len, h.hdr, .inr ⟨bl, o, rfl, fun j u hu => ?_⟩⟩, .inr (hs.imp id (fun k a e => ?_))⟩
  · rw [World.cell?_of_block (w := w) (a := ⟨bl, o + j, Option.none⟩) hbl]
    exact hc j u hu
  · obtain ⟨cur, z, hk⟩ := k a e
    have : a.block = bl := by cases e; rfl
    exact ⟨cur, z, by rw [this, hbl, ← this]; exact hk⟩
/-- What lies there lies in old memory. -/
theorem Lies.spot {w : World} {s t : Nat} {nb : Option Addr} {nn nc : Nat} {vs : List Value} (hs0 : 0 < s) (h : Lies w s nb nn nc vs) : Spot w w.heap.size t nb nn := by
  rcases h.run with h1 | ⟨bl, o, rfl, hc⟩
  · exact .inl h1
  · by_cases h0 : nn = 0
    · exact .inl h0
    · exact .inr (.inl fun a e => by cases e; exact hc.lt (by rw [h.len]; exact Nat.mul_pos (by omega) hs0))
theorem Lies.kind {w : World} {B e sz n : Nat} {base : Option Addr} {c : Nat} {vs : List Value} (h : w.ownsRow B e sz (.slice base n c) n vs) (B' : Nat) : Spot w B' e base n := .inr (.inr (Kind.owned h))

/-! ### Values of one kind, one behind the other -/
def flat {α : Type} (f : α → List Value) (l : List α) : List Value := l.flatMap f
theorem flat_nil {α : Type} (f : α → List Value) : flat f [] = [] := rfl
theorem flat_cons {α : Type} (f : α → List Value) (x : α) (l : List α) : flat f (x :: l) = f x ++ flat f l := by simp [flat]
theorem flat_append {α : Type} (f : α → List Value) (l m : List α) : flat f (l ++ m) = flat f l ++ flat f m := by simp [flat]
theorem flat_snoc {α : Type} (f : α → List Value) (l : List α) (x : α) : flat f (l ++ [x]) = flat f l ++ f x := by simp [flat]
theorem flat_length {α : Type} {f : α → List Value} {k : Nat} (hk : ∀ x, (f x).length = k) : ∀ l : List α, (flat f l).length = l.length * k
  | [] => by simp [flat]
  | x :: l => by rw [flat_cons, List.length_append, hk, flat_length hk l, List.length_cons, Nat.add_mul, Nat.one_mul, Nat.add_comm]
theorem flat_one {α : Type} {f : α → List Value} (h : ∀ x, ∀ u ∈ f x, u.oneCell' = true) (l : List α) : ∀ u ∈ flat f l, u.oneCell' = true := fun u hu => by
  obtain ⟨x, _, hx⟩ := List.mem_flatMap.1 hu
  exact h x u hx
theorem flat_at {α : Type} [Inhabited α] {f : α → List Value} {k : Nat} (hk : ∀ x, (f x).length = k) : ∀ (l : List α) (i : Nat), i < l.length → ∀ j u, (f (l.getD i default))[j]? = some u → (flat f l)[i * k + j]? = some u
  | [], i, h => absurd h (Nat.not_lt_zero _)
  | x :: l, 0, _ => fun j u hu => by
    rw [flat_cons, Nat.zero_mul, Nat.zero_add, List.getElem?_append_left]
    · simpa using hu
    · simpa using (List.getElem?_eq_some_iff.1 hu).1
  | x :: l, i + 1, h => fun j u hu => by
    have := flat_at hk l i (by simpa using h) j u (by simpa using hu)
    have e : (i + 1) * k + j = k + (i * k + j) := by rw [Nat.add_mul, Nat.one_mul]; omega
    rw [flat_cons, e, List.getElem?_append_right (by rw [hk]; omega), hk, Nat.add_sub_cancel_left]
    exact this
theorem Lies.count {α : Type} {f : α → List Value} {k : Nat} (hk : ∀ x, (f x).length = k) (h0 : 0 < k) {w : World} {base : Option Addr} {n c : Nat} {l : List α} (h : Lies w k base n c (flat f l)) : n = l.length := by
  have := h.len
  rw [flat_length hk] at this
  exact (Nat.eq_of_mul_eq_mul_right h0 this).symm
theorem Run.at_ {α : Type} [Inhabited α] {f : α → List Value} {k : Nat} (hk : ∀ x, (f x).length = k) {w : World} {b o : Nat} {l : List α} (h : Run w b o (flat f l)) {i : Nat} (hi : i < l.length) {j : Nat} {u : Value} (hu : (f (l.getD i default))[j]? = some u) : w.cell? ⟨b, o + i * k + j, none⟩ = some u := by
  rw [Nat.add_assoc]; exact h _ u (flat_at hk l i hi j u hu)
end Go.Proofs.YtfdliblikkpjiabDoor

namespace Go.Proofs.YtfdliblikkpjiabDoor
open Go.RowKit

def zeroE : End3 := (false, zeroR)
theorem doneInfo : (Tryd.prog.info? 39).map (fun i => (i.zero, i.size, i.bytes)) = some (some (.agg #[.bool false, .int .i64 0, .int .i64 0, .int .i64 0, .int .i64 0]), 5, 40) := by kernel_rfl
theorem made_ends (n : Nat) : (madeCells #[.bool false, .int .i64 0, .int .i64 0, .int .i64 0, .int .i64 0] (n * 5)).toList = endCells (List.replicate n zeroE) := by
  apply List.ext_getElem?
  intro j
  by_cases hj : j < n * 5
  · have hk : j / 5 < (List.replicate n zeroE).length := by simp; omega
    have hat := endCells_at (List.replicate n zeroE) (j / 5) hk (j % 5)
    have he : (List.replicate n zeroE).getD (j / 5) default = zeroE := by simp at hk; simp [List.getD, hk]
    rw [he, show j / 5 * 5 + j % 5 = j from by omega] at hat
    rw [hat ((#[Value.bool false, .int .i64 0, .int .i64 0, .int .i64 0, .int .i64 0])[j % 5]!) (by
      have : j % 5 = 0 ∨ j % 5 = 1 ∨ j % 5 = 2 ∨ j % 5 = 3 ∨ j % 5 = 4 := by omega
      rcases this with e | e | e | e | e <;> rw [e] <;> rfl)]
    simp [madeCells, hj]
  · rw [List.getElem?_eq_none (by simp [madeCells]; omega), List.getElem?_eq_none (by rw [endCells_length]; simp; omega)]
/-- A row of ends is made. -/
theorem make_ends (n : Nat) (h : n * 40 ≤ 140737488355328) : ∃ CS : Array Value, CS.size = n * 5 ∧ CS.toList = endCells (List.replicate n zeroE) ∧ ∀ w : World, (Instr.makeSlice 47 (.int .i64 (n : Int)) (.int .i64 (n : Int))).run Tryd.prog w = .ok (.slice (some ⟨w.heap.size, 0, none⟩) n n) (w.alloc (.cells CS 39)) := by
  obtain ⟨i0, hi, hz0, hz1, hz2⟩ := info_parts doneInfo
  refine ⟨madeCells #[.bool false, .int .i64 0, .int .i64 0, .int .i64 0, .int .i64 0] (n * 5), size_madeCells _ _, made_ends n, fun w => ?_⟩
  have hr := run_make (P := Tryd.prog) w 47 39 i0 _ Tryd.underlying47 hi hz0 .i64 .i64 n n (by omega) (Int.le_refl _) (by rw [hz2]; omega) (by omega)
  simp only [Int.toNat_natCast, hz1, Value.cells] at hr
  exact hr
theorem endCells_set : ∀ (E : List End3) (j : Nat) (e : End3), j < E.length →
    (((((endCells E).set (j * 5) (.bool e.1)).set (j * 5 + 1) (.int .i64 (e.2 0))).set (j * 5 + 2) (.int .i64 (e.2 1))).set (j * 5 + 3) (.int .i64 (e.2 2))).set (j * 5 + 4) (.int .i64 (e.2 3)) = endCells (E.set j e)
  | [], j, _, h => absurd h (Nat.not_lt_zero _)
  | x :: E, 0, e, _ => by simp [endCells, endCell]
  | x :: E, j + 1, e, h => by
    have ih := endCells_set E j e (by simpa using h)
    rw [List.set_cons_succ, endCells, endCells, ← ih]
    rw [show (j + 1) * 5 = j * 5 + 1 + 1 + 1 + 1 + 1 from by omega]
    simp [endCell, Nat.add_right_comm _ 5]
theorem endCells_text : ∀ (E : List End3) (s : ByteArray), Value.string s ∉ endCells E
  | [], _, h => by cases h
  | e :: E, s, h => by
    simp only [endCells, List.mem_append] at h
    rcases h with h | h
    · simp [endCell] at h
    · exact endCells_text E s h
/-- An end is written at o. -/
def fiveAt (w : World) (g o : Nat) (f : Bool) (x0 x1 x2 x3 : Int) : World :=
  ((((w.setCell ⟨g, o, none⟩ (.bool f)).setCell ⟨g, o + 1, none⟩ (.int .i64 x0)).setCell ⟨g, o + 2, none⟩ (.int .i64 x1)).setCell ⟨g, o + 3, none⟩ (.int .i64 x2)).setCell ⟨g, o + 4, none⟩ (.int .i64 x3)
theorem fiveAt_below {w w0 : World} {g B : Nat} (o : Nat) (f : Bool) (x0 x1 x2 x3 : Int) (hB : B ≤ g) (h : Below B w0 w) : Below B w0 (fiveAt w g o f x0 x1 x2 x3) :=
  ((((h.setCell (p := ⟨g, o, none⟩) hB _).setCell (p := ⟨g, o + 1, none⟩) hB _).setCell (p := ⟨g, o + 2, none⟩) hB _).setCell (p := ⟨g, o + 3, none⟩) hB _).setCell (p := ⟨g, o + 4, none⟩) hB _
abbrev OwnsEnds (w : World) (B g n : Nat) (E : List End3) : Prop := w.ownsRow B 39 5 (.slice (some ⟨g, 0, none⟩) n n) n (endCells E)
theorem fiveAt_owns {w : World} {B g n : Nat} {E : List End3} (h : OwnsEnds w B g n E) {j : Nat} (hj : j < E.length) (e : End3) : OwnsEnds (fiveAt w g (j * 5) e.1 (e.2 0) (e.2 1) (e.2 2) (e.2 3)) B g n (E.set j e) := by
  have h5 := (((((World.ownsRow.stored h (j * 5) (.bool e.1)).1.stored (j * 5 + 1) (.int .i64 (e.2 0))).1.stored (j * 5 + 2) (.int .i64 (e.2 1))).1.stored (j * 5 + 3) (.int .i64 (e.2 2))).1.stored (j * 5 + 4) (.int .i64 (e.2 3))).1
  rw [endCells_set E j e hj] at h5
  exact h5
theorem own_noText {w : World} {B g n : Nat} {E : List End3} (h : OwnsEnds w B g n E) : NoText w g := fun o s e => by
  by_cases ho : o < n * 5
  · rw [World.ownsRow.cellAt h o ho] at e
    exact endCells_text E s (List.mem_of_getElem? e)
  · rcases h.2 with ⟨h', _⟩ | ⟨g', cap', cur, h', _, hg, _, _, hsz, _⟩
    · simp at h'
    · simp only [Value.slice.injEq, Option.some.injEq, Addr.mk.injEq, and_true, true_and] at h'
      obtain ⟨rfl, rfl⟩ := h'
      rw [cell_of_row w g o cur _ (0, 0) hg, Array.getElem?_eq_none (by omega)] at e
      cases e
theorem fiveAt_holds {w : World} {g : Nat} {nb : Option Addr} {nn nc : Nat} {L : List Row} (o : Nat) (f : Bool) (x0 x1 x2 x3 : Int) (h : Holds w nb nn nc L) (hn : NoText w g) : Holds (fiveAt w g o f x0 x1 x2 x3) nb nn nc L := by
  refine ⟨h.len, ?_, h.hdr⟩
  rcases h.seg with h0 | ⟨bl, p, e, hc⟩
  · exact .inl h0
  · by_cases hL : L = []
    · exact .inl hL
    · have hpos : 0 < L.length := List.length_pos_iff.2 hL
      have hne : g ≠ bl := fun e2 => by
        subst e2
        exact hn _ _ (hc 0 hpos).1
      refine .inr ⟨bl, p, e, fun i hi => ?_⟩
      have far : ∀ (q : Nat), (fiveAt w g o f x0 x1 x2 x3).cell? ⟨bl, q, none⟩ = w.cell? ⟨bl, q, none⟩ := fun q => by
        unfold fiveAt
        rw [World.cell?_setCell_far _ _ _ _ hne, World.cell?_setCell_far _ _ _ _ hne, World.cell?_setCell_far _ _ _ _ hne, World.cell?_setCell_far _ _ _ _ hne, World.cell?_setCell_far _ _ _ _ hne]
      rw [far, far]
      exact hc i hi
theorem owns_deep {w w' : World} {B g n : Nat} {E : List End3} (h : OwnsEnds w B g n E) (hb : Below w.heap.size w w') : OwnsEnds w' B g n E :=
  World.ownsRow.kept (row := none) h ⟨hb.os, hb.tape, hb.output, hb.size, fun k hk _ => hb.block k hk⟩ (.inr (by simp [Value.ownBlock]))
theorem owns_cells {w : World} {B g n : Nat} {E : List End3} (h : OwnsEnds w B g n E) {o : Nat} (ho : o < n * 5) : ∃ u, w.cell? ⟨g, o, none⟩ = some u := by
  have := World.ownsRow.cellAt h o ho
  rw [this]
  have hl := h.1
  exact ⟨_, List.getElem?_eq_getElem (by omega)⟩
end Go.Proofs.YtfdliblikkpjiabDoor
