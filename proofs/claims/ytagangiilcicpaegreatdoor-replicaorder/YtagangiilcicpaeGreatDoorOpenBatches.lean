/-
  The document's own Add of an engine, walked.
  The document's own Set and Clear, walked.
  own and with of the program: a copy of rows, and rows in which keys have what was made.
  Do of the program: a right deed, done on right rows; and the document's own, told the same way.
  All of the program: right deeds, one by one, on right rows.
  The document's own Right, All and SameEnds, walked.
  Writes in two blocks may be done either way about; rows under a write elsewhere.
  The document's own Go of an engine, walked.
  The document's own Clear, walked.
  Plain mathematics of engines: how far one is, and what keys have ahead of the first deed that waits.
  The document's own Mark and Clear of an engine, walked.
  The document's own Build of an engine, walked.
  How arguments that are batches of deeds, or numbers, are read, and how many deeds there are at the most where all that is read is of a bounded bulk.
-/
import Derived.Test.YtagangiilcicpaeGreatDoorRefNew
import Derived.Test.YtagangiilcicpaeGreatDoorEngGood
import Derived.Test.YtagangiilcicpaeGreatDoorRefWrong
import Derived.Deep.DeepCutAuto
import Derived.Test.YtagangiilcicpaeGreatDoorChainOld
import Derived.Test.YtagangiilcicpaeGreatDoorChainsIn
import Derived.Test.YtagangiilcicpaeGreatDoorDeedTurn
import Derived.Test.YtagangiilcicpaeGreatDoorEndsAt
import Derived.Test.YtagangiilcicpaeGreatDoorChainFind
import Derived.Test.YtagangiilcicpaeGreatDoorOpenDeeds
import Derived.Test.YtagangiilcicpaeGreatDoorDeedRun
import Derived.Test.YtagangiilcicpaeGreatDoorPlanMath
import Derived.Deep.RegionWith
import Derived.Test.YtagangiilcicpaeGreatDoorRows
import Derived.ChangeSlices
namespace Go.Proofs.YtagangiilcicpaeGreatDoor
open Go.RowKit

/-- How Add ends: what is wrong with the first wrong deed; else the engine with all of them. -/
def addTo (e : Eng) (l : List Deed3) : Eng := if wDs l = 0 then addAll e l else zeroEng
def AddTold (w w' : World) (e : Eng) (l : List Deed3) (x : Ending) : Prop := ∃ v, x = .returned (.tuple #[v, .int .i64 (wDs l)]) ∧ EngIn w' v (addTo e l) ∧ Below w.heap.size w w'
theorem zero_lies (w : World) : EngLies w none 0 0 none 0 0 none 0 0 none 0 0 zeroEng :=
  ⟨ChainsIn.none _, ⟨rfl, ⟨Nat.le_refl _, Nat.zero_le _, fun _ => rfl⟩, .inl rfl⟩, Lies.none _ _, Lies.none _ _, Kind.none _ _, Kind.none _ _, Kind.none _ _⟩
end Go.Proofs.YtagangiilcicpaeGreatDoor

namespace Go.Proofs.YtagangiilcicpaeGreatDoor
open Go.RowKit

/-! ### What Clear leaves, one by one -/
end Go.Proofs.YtagangiilcicpaeGreatDoor

namespace Go.Proofs.YtagangiilcicpaeGreatDoor
open Go.RowKit

end Go.Proofs.YtagangiilcicpaeGreatDoor

namespace Go.Proofs.YtagangiilcicpaeGreatDoor
open Go.RowKit

end Go.Proofs.YtagangiilcicpaeGreatDoor

namespace Go.Proofs.YtagangiilcicpaeGreatDoor
open Go.RowKit

end Go.Proofs.YtagangiilcicpaeGreatDoor

namespace Go.Proofs.YtagangiilcicpaeGreatDoor
open Go.RowKit

set_option maxHeartbeats 2000000 in
theorem sameEnds_calls (E : List End3) (ab : Option Addr) (an ac : Nat) (bb : Option Addr) (bn bc : Nat) (w : World) (ha : Ends w ab an ac E) (hb : Ends w bb bn bc E) :
    Calls Tryz.prog 75 #[.slice ab an ac, .slice bb bn bc] w fun e w' => e = .returned (.bool true) ∧ Below w.heap.size w w' := by
  have h1 := Ends.count ha
  have h2 := Ends.count hb
  obtain rfl : an = bn := by omega
  have hm := Nat.le_trans ha.hdr.le ha.hdr.max
  unfold maxLen at hm
  have HN := hid h1
  have HA := hid ha
  have HB := hid hb
  clear h1 h2 ha hb
  have harr := regsEq
  go_enter Tryz.func75, Tryz.ntmps75
  go_wp2
  go_loopw [13] (fun i wr => ∃ k : Nat, k ≤ an ∧ i = .int .i64 k ∧ ∃ q, wr = w.drewN q) (fun i _ => an - (intOf i).toNat)
  case atStart => exact ⟨0, Nat.zero_le _, rfl, 0, rfl⟩
  case round =>
    obtain ⟨k, hk, rfl, q, rfl⟩ := hrel
    by_cases hlt : k < an
    · rcases HA.out.run with h | ⟨b1, o1, rfl, r1⟩
      · omega
      rcases HB.out.run with h | ⟨b2, o2, rfl, r2⟩
      · omega
      obtain ⟨a0, a1, a2, a3, a4⟩ := Ends.cells r1 (k := k) (by rw [← HN.out]; exact hlt)
      obtain ⟨c0, c1, c2, c3, c4⟩ := Ends.cells r2 (k := k) (by rw [← HN.out]; exact hlt)
      clear r1 r2
      generalize (E.getD k default).1 = f at *
      generalize (E.getD k default).2 = r at *
      have hi : (k : Int) < (an : Int) := by omega
      go_wp2
      go_quiet (fail)
      go_wp2
      go_roundw
      case rel => exact ⟨k + 1, by omega, by go_num, _, rfl⟩
      case measure => simp [intOf]; omega
    · go_wp2
      go_ret
      exact ⟨rfl, below_drewN (Below.refl _ _) q⟩
end Go.Proofs.YtagangiilcicpaeGreatDoor

namespace Go.Proofs.YtagangiilcicpaeGreatDoor
open Go.RowKit

end Go.Proofs.YtagangiilcicpaeGreatDoor

namespace Go.Proofs.YtagangiilcicpaeGreatDoor
open Go.RowKit

/-- How Go ends. -/
def goTo (e : Eng) (at_ : Int) : Eng × Int :=
  if at_ < 0 ∨ (e.deeds.length : Int) ≤ at_ then (e, 6)
  else if e.state.getD at_.toNat 0 = 1 then (e, 11)
  else if needsE e at_.toNat ≠ [] then (e, 10)
  else (goE e at_.toNat, 0)
def GoTold (w w' : World) (e : Eng) (at_ : Int) (x : Ending) : Prop := ∃ v, x = .returned (.tuple #[v, .int .i64 (goTo e at_).2]) ∧ EngIn w' v (goTo e at_).1 ∧ Below w.heap.size w w'
/-- In a row of numbers that a call owns, one is written. -/
theorem ints_stored {w : World} {B g n c : Nat} {S : List Int} (h : w.ownsRow B 3 1 (.slice (some ⟨g, 0, none⟩) n c) n (intsC S)) (p : Nat) (x : Int) : (w.setCell ⟨g, p, none⟩ (.int .i64 x)).ownsRow B 3 1 (.slice (some ⟨g, 0, none⟩) n c) n (intsC (S.set p x)) := by
  have := (World.ownsRow.stored h p (.int .i64 x)).1
  have e : (intsC S).set p (.int .i64 x) = intsC (S.set p x) := by simp [intsC, List.map_set]
  rw [e] at this
  exact this
theorem ends_stored {w : World} {B g n c : Nat} {E : List End3} (h : w.ownsRow B 121 5 (.slice (some ⟨g, 0, none⟩) n c) n (endCells E)) {p : Nat} (hp : p < E.length) (e : End3) : (fiveAt w g (p * 5) e.1 (e.2 0) (e.2 1) (e.2 2) (e.2 3)).ownsRow B 121 5 (.slice (some ⟨g, 0, none⟩) n c) n (endCells (E.set p e)) := by
  have h5 := (((((World.ownsRow.stored h (p * 5) (.bool e.1)).1.stored (p * 5 + 1) (.int .i64 (e.2 0))).1.stored (p * 5 + 2) (.int .i64 (e.2 1))).1.stored (p * 5 + 3) (.int .i64 (e.2 2))).1.stored (p * 5 + 4) (.int .i64 (e.2 3))).1
  rw [endCells_set E p e hp] at h5
  exact h5

end Go.Proofs.YtagangiilcicpaeGreatDoor

namespace Go.Proofs.YtagangiilcicpaeGreatDoor
open Go.RowKit

end Go.Proofs.YtagangiilcicpaeGreatDoor

namespace Go.Proofs.YtagangiilcicpaeGreatDoor
open Go.RowKit

/-! ### How far an engine is -/
def markS : List Int → Nat
  | [] => 0
  | s :: l => if s = 1 then markS l + 1 else 0
def markE (e : Eng) : Nat := markS e.state
theorem markS_le : ∀ l, markS l ≤ l.length
  | [] => Nat.le_refl _
  | s :: l => by
    have := markS_le l
    rw [markS]; split <;> simp <;> omega
theorem markS_one : ∀ {l : List Int} {k : Nat}, k < markS l → l.getD k 0 = 1
  | [], _, h => absurd h (Nat.not_lt_zero _)
  | s :: l, 0, h => by
    rw [markS] at h
    by_cases hs : s = 1
    · simp [hs]
    · rw [if_neg hs] at h; cases h
  | s :: l, k + 1, h => by
    rw [markS] at h
    by_cases hs : s = 1
    · rw [if_pos hs] at h
      have := markS_one (l := l) (k := k) (by omega)
      simpa using this
    · rw [if_neg hs] at h; cases h
theorem markS_end : ∀ {l : List Int}, markS l < l.length → l.getD (markS l) 0 ≠ 1
  | [], h => absurd h (Nat.not_lt_zero _)
  | s :: l, h => by
    rw [markS] at h ⊢
    by_cases hs : s = 1
    · rw [if_pos hs] at h ⊢
      have := markS_end (l := l) (by simpa using h)
      simpa using this
    · rw [if_neg hs]; simpa using hs
end Go.Proofs.YtagangiilcicpaeGreatDoor

namespace Go.Proofs.YtagangiilcicpaeGreatDoor
open Go.RowKit

/-! ### A slice without its first ones -/
def cutB (base : Option Addr) (c n sz : Nat) : Option Addr := if c = n then base else base.map (·.add (n * sz))
theorem slice_run {t e sz : Nat} (hu : Tryz.prog.underlying t = some (.slice e)) (hz : ∀ w, (sizeOf e).run Tryz.prog w = .ok sz w) (base : Option Addr) (n c k : Nat) (hk : k ≤ n) (w : World) :
    (Instr.slice t (.slice base n c) (some (.int .i64 (k : Int))) none none).run Tryz.prog w = .ok (.slice (cutB base c k sz) (n - k) (c - k)) w := by
  have h1 : (0 : Int) ≤ (k : Int) ∧ (k : Int) ≤ (n : Int) := by omega
  have h2 : ((k : Int)).toNat = k := Int.toNat_natCast k
  have hur : ∀ w, (underlying t).run Tryz.prog w = .ok (.slice e) w := fun w => by simp [underlying, go_sem, hu]
  simp [Instr.slice, Instr.sliceBounds, Instr.sliceBound, go_sem, hur, hz, hk, cutB]
theorem lies_cut {w : World} {sz : Nat} {base : Option Addr} {n c k : Nat} {vs : List Value} (h : Lies w sz base n c vs) (hk : k ≤ n) : Lies w sz (cutB base c k sz) (n - k) (c - k) (vs.drop (k * sz)) := by
  have hle := h.hdr.le
  refine ⟨by rw [List.length_drop, h.len, Nat.sub_mul], ⟨by omega, Nat.le_trans (Nat.sub_le _ _) h.hdr.max, fun e => ?_⟩, ?_⟩
  · unfold cutB at e
    by_cases hc : c = k
    · omega
    · rw [if_neg hc] at e
      cases base with
      | none => rw [h.hdr.nil rfl]; omega
      | some a => simp at e
  · by_cases h0 : n = k
    · exact .inl (by omega)
    · rcases h.run with h1 | ⟨b, o, e, hr⟩
      · exact .inl (by omega)
      · refine .inr ⟨b, o + k * sz, ?_, fun j u hu => ?_⟩
        · unfold cutB
          rw [if_neg (by omega), e, Option.map_some, Addr.add_lit]
        · rw [List.getElem?_drop] at hu
          rw [Nat.add_assoc]
          exact hr _ u hu
theorem kind_cut {w : World} {t : TypeId} {base : Option Addr} {c k sz : Nat} (h : Kind w t base) : Kind w t (cutB base c k sz) := fun a e => by
  unfold cutB at e
  by_cases hc : c = k
  · rw [if_pos hc] at e; exact h a e
  · rw [if_neg hc] at e
    cases base with
    | none => cases e
    | some a0 =>
      simp only [Option.map_some, Option.some.injEq] at e
      have := h a0 rfl
      have hb : (a0.add (k * sz)).block = a0.block := by unfold Addr.add; split <;> rfl
      rw [← e, hb]
      exact this
theorem ints_cut {w : World} {base : Option Addr} {n c k : Nat} {l : List Int} (h : Ints w base n c l) (hk : k ≤ n) : Ints w (cutB base c k 1) (n - k) (c - k) (l.drop k) := by
  have := lies_cut h hk
  rw [Nat.mul_one] at this
  unfold Ints
  rw [show intsC (l.drop k) = (intsC l).drop k from by simp [intsC, List.map_drop]]
  exact this
theorem endCells_drop : ∀ (E : List End3) (k : Nat), endCells (E.drop k) = (endCells E).drop (k * 5)
  | E, 0 => by simp
  | [], k + 1 => by simp [endCells]
  | e :: E, k + 1 => by
    rw [List.drop_succ_cons, endCells_drop E k, endCells, show (k + 1) * 5 = 5 + k * 5 from by omega, ← List.drop_drop]
    congr 1
theorem ends_cut {w : World} {base : Option Addr} {n c k : Nat} {E : List End3} (h : Ends w base n c E) (hk : k ≤ n) : Ends w (cutB base c k 5) (n - k) (c - k) (E.drop k) := by
  have := lies_cut h hk
  unfold Ends
  rw [endCells_drop]
  exact this
theorem deeds_cut {w : World} {base : Option Addr} {n c k : Nat} {D : List Deed3} (h : DeedsIn w base n c D) (hk : k ≤ n) : DeedsIn w (cutB base c k 3) (n - k) (c - k) (D.drop k) := by
  obtain ⟨T, hT, hTA⟩ := h.slots
  have h1 := lies_cut hT hk
  have e : (flat dslotC T).drop (k * 3) = flat dslotC (T.drop k) := (flat_drop dslotC_length T k).symm
  rw [e] at h1
  refine deeds_of_slots h1 ⟨by rw [List.length_drop, List.length_drop, hTA.1], fun i hi => ?_⟩
  have := hTA.2 (k + i) (by rw [List.length_drop] at hi; omega)
  simpa [List.getD, List.getElem?_drop] using this

end Go.Proofs.YtagangiilcicpaeGreatDoor

namespace Go.Proofs.YtagangiilcicpaeGreatDoor
open Go.RowKit

end Go.Proofs.YtagangiilcicpaeGreatDoor

namespace Go.Proofs.YtagangiilcicpaeGreatDoor
open Go.ChangeShapes Go.WideShapes Go.ChangeAt Go.RowKit Go.Deep Go.Joins

theorem bulk_one {H : Type} (d : DataW H) : 1 ≤ Rows.uptoBulk d := by
  cases d with
  | lit l => cases l <;> simp [Rows.uptoBulk]
  | nil => simp [Rows.uptoBulk]
  | ptr d => simp [Rows.uptoBulk]
  | slice elems spare => simp [Rows.uptoBulk]
  | agg parts => simp [Rows.uptoBulk]
  | iface t d => simp [Rows.uptoBulk]
  | map entries => simp [Rows.uptoBulk]
  | held h => simp [Rows.uptoBulk]
theorem bulk_append {H : Type} (l r : List (DataW H)) : Rows.uptoBulkAll (l ++ r) = Rows.uptoBulkAll l + Rows.uptoBulkAll r := by
  induction l with
  | nil => simp [Rows.uptoBulkAll]
  | cons x l ih => simp only [List.cons_append, Rows.uptoBulkAll, ih]; omega
theorem bulk_length {H : Type} (l : List (DataW H)) : l.length ≤ Rows.uptoBulkAll l := by
  induction l with
  | nil => simp [Rows.uptoBulkAll]
  | cons x r ih => have := bulk_one x; simp only [Rows.uptoBulkAll, List.length_cons]; omega
theorem room_bulk {H : Type} {d : DataW H} {cap : Nat} (h : Room d cap) : cap ≤ Rows.uptoBulk d := by
  rcases h with ⟨_, rfl⟩ | ⟨elems, spare, rfl, hc⟩
  · exact Nat.zero_le _
  · have h1 := bulk_length elems
    have h2 := bulk_length spare
    simp only [Rows.uptoBulk]
    omega
theorem cellsDeeds1 : Tryz.prog.cellsOf 22 = 1 := by kernel_rfl
theorem cellsInts1 : Tryz.prog.cellsOf 3 = 1 := by kernel_rfl
theorem open_picks {H : Type} {enc : TypeId × Value → H} {W : World} {v : Value} {fuel : Nat} {y : DataW H × List MemPlace}
    (h : DataW.trod enc Tryz.prog W 0 (fun _ => true) true fuel 36 [v] = some y) :
    ∃ a len cap l, v = .slice a len cap ∧ Ints W a len cap l := by
  rcases open_ints Tryz.underlying36 Tryz.underlying3 cellsInts1 h with ⟨hcs, hx⟩ | ⟨x, len, cap, zs, hcs, _, hl, hm, hz, hx, hcell, _⟩
  · simp at hcs
    subst hcs
    exact ⟨none, 0, 0, [], rfl, ⟨rfl, ⟨Nat.le_refl _, Nat.zero_le _, fun _ => rfl⟩, .inl rfl⟩⟩
  · simp at hcs
    subst hcs
    simp only [if_true] at hz
    have hlen : (zs.take len).length = len := by rw [List.length_take]; omega
    refine ⟨some x, len, cap, zs.take len, rfl, ⟨by rw [intsC_length, hlen, Nat.mul_one], ⟨hl, hm, fun h => by cases h⟩, ?_⟩⟩
    by_cases h0 : len = 0
    · exact .inl h0
    right
    obtain ⟨b, off, spot⟩ := x
    have hsp : spot = none := by
      have := hcell 0 (by omega)
      simpa [Addr.add] using World.cell?_spot this
    subst hsp
    refine ⟨b, off, rfl, fun i u hu => ?_⟩
    have hi : i < len := by
      have := (List.getElem?_eq_some_iff.1 hu).1
      rw [intsC_length, hlen] at this
      exact this
    rw [intsC_at (by omega)] at hu
    have h1 := hcell i (by omega)
    rw [Addr.add_lit] at h1
    rw [h1, ← hu]
    congr 2
    simp [List.getD, hi]
end Go.Proofs.YtagangiilcicpaeGreatDoor
